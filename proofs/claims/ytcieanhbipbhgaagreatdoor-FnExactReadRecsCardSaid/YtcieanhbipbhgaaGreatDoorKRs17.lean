/- Blocks of a sort turn, others stay; a record of bytes, or none. A list of records in memory, each with rows of its own. -/
import Derived.Test.YtcieanhbipbhgaaGreatDoorKRp14
import Derived.Test.YtcieanhbipbhgaaGreatDoorKRy14
namespace Go.Proofs.YtcieanhbipbhgaaGreatDoor
open Go.RowKit Vt

theorem own_trn {P : Nat → Prop} {w w' : World} {B e s n : Nat} {v : Value} {xs : List Value} (h : w.ownsRow B e s v n xs) (hg : Trn P w w') (hne : ∀ g, v.ownBlock = some g → ¬ P g) : w'.ownsRow B e s v n xs := by
  refine ⟨h.1, ?_⟩
  rcases h.2 with h3 | ⟨g, cap, cur, hv, hg1, hcur, hrest⟩
  · exact .inl h3
  · refine .inr ⟨g, cap, cur, hv, hg1, ?_, hrest⟩
    rw [hg.block g (h.lt g (by rw [hv]; rfl)).2 (hne g (by rw [hv]; rfl))]
    exact hcur
theorem BxQ.trn {P : Nat → Prop} {w w' : World} {b : Nat} {t : TypeId} {vs : Array Value} (h : BxQ w b t vs) (hg : Trn P w w') (hne : ¬ P b) : BxQ w' b t vs := by
  unfold BxQ
  rw [hg.block b h.lt hne]
  exact h
theorem trn_below {w u : World} (h : Below w.heap.size w u) : Trn (fun _ => False) w u := ⟨h.os, h.tape, h.output, h.size, fun k hk _ => h.block k hk⟩
theorem trn_imp {P R : Nat → Prop} {u v : World} (h : Trn P u v) (hR : ∀ i, P i → R i) : Trn R u v := ⟨h.os, h.tape, h.output, h.size, fun i hi ho => h.block i hi (fun hp => ho (hR i hp))⟩
theorem good_trn {P : Nat → Prop} {W u v : World} (h : Good W u) (k : Trn P u v) (hP : ∀ i, P i → W.heap.size ≤ i) : Good W v :=
  Below.trans h ⟨k.os, k.tape, k.output, k.size, fun i hi => k.block i (Nat.lt_of_lt_of_le hi h.size) (fun hp => by have := hP i hp; omega)⟩
theorem isR_cases (n : Int) (T : List UInt8) : ∃ r, IsR n T r := by
  by_cases h : ∃ r, RecB n r ∧ rText r = T
  · obtain ⟨r, hr⟩ := h
    exact ⟨some r, hr⟩
  · exact ⟨none, fun r hr e => h ⟨r, hr, e⟩⟩
end Go.Proofs.YtcieanhbipbhgaaGreatDoor
namespace Go.Proofs.YtcieanhbipbhgaaGreatDoor
open Go.RowKit Vt

/-- a record as it stands in a list: what it holds, its three rows, and between which blocks they lie -/
structure RQ where
  r : RecV
  a1 : Option Addr
  k1 : Nat
  c1 : Nat
  a2 : Option Addr
  k2 : Nat
  c2 : Nat
  a3 : Option Addr
  k3 : Nat
  c3 : Nat
  lo : Nat
  hi : Nat
def rqC (q : RQ) : List Value := [.int .i64 q.r.kind, .int .i64 q.r.id, .int .i64 q.r.op, .int .i64 q.r.a, .int .i64 q.r.b, .int .i64 q.r.sh, .int .i64 q.r.an.num, .bool q.r.an.ok, .slice q.a1 q.k1 q.c1, .slice q.a2 q.k2 q.c2, .int .i64 q.r.o.num, .int .i64 q.r.o.op, .slice q.a3 q.k3 q.c3, .int .i64 q.r.o.v]
theorem rqC_len (q : RQ) : (rqC q).length = 14 := rfl
structure RQ.ok (q : RQ) (u : World) : Prop where
  r1 : u.ownsRow q.lo 79 2 (.slice q.a1 q.k1 q.c1) q.k1 (ecells q.r.an.es)
  r2 : u.ownsRow q.lo 3 1 (.slice q.a2 q.k2 q.c2) q.k2 (ic q.r.an.ls)
  r3 : u.ownsRow q.lo 79 2 (.slice q.a3 q.k3 q.c3) q.k3 (ecells q.r.o.es)
  t1 : ∀ g, (Value.slice q.a1 q.k1 q.c1).ownBlock = some g → g < q.hi
  t2 : ∀ g, (Value.slice q.a2 q.k2 q.c2).ownBlock = some g → g < q.hi
  t3 : ∀ g, (Value.slice q.a3 q.k3 q.c3).ownBlock = some g → g < q.hi
  th : q.hi ≤ u.heap.size
  bd : q.k1 ≤ 100 ∧ q.k2 ≤ 100 ∧ q.k3 ≤ 100
  ap : q.k1 = 0 ∧ q.a1 = none ∨ q.k3 = 0 ∧ q.a3 = none
theorem RQ.ok.trn {q : RQ} {u v : World} {P : Nat → Prop} (h : q.ok u) (ht : Trn P u v) (hP : ∀ k, P k → k < q.lo ∨ q.hi ≤ k) : q.ok v :=
  ⟨own_trn h.r1 ht (fun g hg e => by have := hP _ e; have := (h.r1.lt g hg).1; have := h.t1 g hg; omega),
    own_trn h.r2 ht (fun g hg e => by have := hP _ e; have := (h.r2.lt g hg).1; have := h.t2 g hg; omega),
    own_trn h.r3 ht (fun g hg e => by have := hP _ e; have := (h.r3.lt g hg).1; have := h.t3 g hg; omega), h.t1, h.t2, h.t3, Nat.le_trans h.th ht.size, h.bd, h.ap⟩
def qcells (qs : List RQ) : List Value := qs.flatMap rqC
theorem qcells_nil : qcells [] = [] := rfl
theorem qcells_cons (q : RQ) (qs : List RQ) : qcells (q :: qs) = rqC q ++ qcells qs := by simp [qcells]
theorem qcells_app (ps qs : List RQ) : qcells (ps ++ qs) = qcells ps ++ qcells qs := by simp [qcells]
theorem qcells_len (qs : List RQ) : (qcells qs).length = qs.length * 14 := by
  induction qs with
  | nil => rfl
  | cons q qs ih => rw [qcells_cons, List.length_append, ih, rqC_len, List.length_cons]; omega
theorem qcells_at (qs : List RQ) (j : Nat) (q : RQ) (h : qs[j]? = some q) (o : Nat) (ho : o < 14) : (qcells qs)[j * 14 + o]? = (rqC q)[o]? := by
  induction qs generalizing j with
  | nil => simp at h
  | cons p qs ih =>
    rw [qcells_cons]
    cases j with
    | zero =>
      simp at h
      subst h
      rw [List.getElem?_append_left (by rw [rqC_len]; omega), Nat.zero_mul, Nat.zero_add]
    | succ j =>
      rw [List.getElem?_append_right (by rw [rqC_len]; omega), rqC_len, show (j + 1) * 14 + o - 14 = j * 14 + o by omega]
      exact ih j (by simpa using h)
/-- the list stands in memory that is ours: no two of its rows lie together -/
structure RS (u : World) (B : Nat) (a : Option Addr) (m c : Nat) (qs : List RQ) : Prop where
  row : u.ownsRow B 40 14 (.slice a m c) m (qcells qs)
  each : ∀ q ∈ qs, q.ok u ∧ B ≤ q.lo
  apart : qs.Pairwise (fun p q => p.hi ≤ q.lo)
  out : ∀ q ∈ qs, ∀ g, (Value.slice a m c).ownBlock = some g → g < q.lo ∨ q.hi ≤ g
section
variable {u v : World} {B : Nat} {a : Option Addr} {m c : Nat} {qs : List RQ}
theorem RS.len (h : RS u B a m c qs) : qs.length = m := by have := h.row.1; rw [qcells_len] at this; omega
theorem RS.trn {P : Nat → Prop} {C : Nat} (h : RS u B a m c qs) (ht : Trn P u v) (hP : ∀ k, P k → C ≤ k) (hg : ∀ g, (Value.slice a m c).ownBlock = some g → g < C) (hq : ∀ q ∈ qs, q.hi ≤ C) : RS v B a m c qs :=
  ⟨own_trn h.row ht (fun g h1 e => by have := hP _ e; have := hg g h1; omega),
    fun q hm => ⟨(h.each q hm).1.trn ht (fun k hk => by have := hP _ hk; have := hq q hm; omega), (h.each q hm).2⟩, h.apart, h.out⟩
theorem RS.up (h : RS u B a m c qs) (hb : Below u.heap.size u v) : RS v B a m c qs :=
  ⟨own_up10 h.row hb, fun q hm => ⟨(h.each q hm).1.trn (trn_below hb) (fun _ e => e.elim), (h.each q hm).2⟩, h.apart, h.out⟩
theorem RS.lows (h : RS u B a m c qs) : (∀ g, (Value.slice a m c).ownBlock = some g → g < u.heap.size) ∧ ∀ q ∈ qs, q.hi ≤ u.heap.size :=
  ⟨fun g hg => (h.row.lt g hg).2, fun q hm => (h.each q hm).1.th⟩
theorem RS.mono {B' : Nat} (h : RS u B a m c qs) (hB : B' ≤ B) : RS u B' a m c qs :=
  ⟨own_mono h.row hB, fun q hm => ⟨(h.each q hm).1, by have := (h.each q hm).2; omega⟩, h.apart, h.out⟩
/-- one more record behind the others -/
theorem RS.snoc {q : RQ} {g' c' : Nat} (h : RS u B a m c qs) (hq : q.ok u) (hB : B ≤ q.lo) (hlo : ∀ p ∈ qs, p.hi ≤ q.lo) (hg : ∀ g, (Value.slice a m c).ownBlock = some g → g < q.lo)
    (hgr : u.grownBy v (Value.slice a m c).ownBlock) (ho : v.ownsRow B 40 14 (.slice (some ⟨g', 0, none⟩) (m + 1) c') (m + 1) (qcells qs ++ rqC q)) (hl : (Value.slice a m c).ownBlock = some g' ∨ u.heap.size ≤ g') :
    RS v B (some ⟨g', 0, none⟩) (m + 1) c' (qs ++ [q]) := by
  have ht := Trn.of_grown hgr
  refine ⟨?_, ?_, ?_, ?_⟩
  · rw [qcells_app, qcells_cons, qcells_nil, List.append_nil]; exact ho
  · intro p hp
    rcases List.mem_append.1 hp with hp | hp
    · exact ⟨(h.each p hp).1.trn ht (fun k hk => h.out p hp k hk), (h.each p hp).2⟩
    · simp at hp
      subst hp
      exact ⟨hq.trn ht (fun k hk => .inl (hg k hk)), hB⟩
  · rw [List.pairwise_append]
    refine ⟨h.apart, by simp, fun p hp x hx => ?_⟩
    simp at hx
    subst hx
    exact hlo p hp
  · intro p hp g hgp
    have hgp' : some g' = some g := hgp
    simp only [Option.some.injEq] at hgp'
    subst hgp'
    rcases List.mem_append.1 hp with hp | hp
    · rcases hl with hl | hl
      · exact h.out p hp g' hl
      · exact .inr (Nat.le_trans (h.each p hp).1.th hl)
    · simp at hp
      subst hp
      rcases hl with hl | hl
      · exact .inl (hg g' hl)
      · exact .inr (Nat.le_trans hq.th hl)
/-- the cells of the record at a place -/
theorem RS.cell {g : Nat} (h : RS u B (some ⟨g, 0, none⟩) m c qs) {j : Nat} {q : RQ} (hj : qs[j]? = some q) (o : Nat) (ho : o < 14) : u.cell? ⟨g, j * 14 + o, none⟩ = (rqC q)[o]? := by
  have hl := h.len
  have hjl := (List.getElem?_eq_some_iff.1 hj).1
  rw [h.row.cellAt (j * 14 + o) (by omega), qcells_at qs j q hj o ho]
theorem RS.some_of (h : RS u B a m c qs) (hm : 0 < m) : ∃ g, a = some ⟨g, 0, none⟩ := by
  rcases h.row.2 with ⟨_, h0⟩ | ⟨g, cap, cur, hv, _⟩
  · omega
  · simp only [Value.slice.injEq] at hv
    exact ⟨g, hv.1⟩
end
theorem RS.nil (u : World) (B : Nat) : RS u B none 0 0 [] := ⟨World.ownsRow_nil _ _ _ _, by simp, List.Pairwise.nil, by simp⟩
theorem RS.made (u : World) (B : Nat) (hB : B ≤ u.heap.size) : RS (u.alloc (.cells #[] 40)) B (some ⟨u.heap.size, 0, none⟩) 0 0 [] :=
  ⟨World.ownsRow_made _ _ _ hB (by unfold maxLen; omega) rfl, by simp, List.Pairwise.nil, by simp⟩
/-- what a reader of a record answers is a record of such a list -/
theorem ok_of {w u : World} {r : RecV} {a1 : Option Addr} {k1 c1 : Nat} {a2 : Option Addr} {k2 c2 : Nat} {a3 : Option Addr} {k3 c3 : Nat} (h : RcR u w.heap.size r a1 k1 c1 a2 k2 c2 a3 k3 c3) : RQ.ok ⟨r, a1, k1, c1, a2, k2, c2, a3, k3, c3, w.heap.size, u.heap.size⟩ u :=
  ⟨h.1.1, h.1.2.1, h.1.2.2, fun g hg => (h.1.1.lt g hg).2, fun g hg => (h.1.2.1.lt g hg).2, fun g hg => (h.1.2.2.lt g hg).2, Nat.le_refl _, h.2.1, h.2.2⟩
end Go.Proofs.YtcieanhbipbhgaaGreatDoor
