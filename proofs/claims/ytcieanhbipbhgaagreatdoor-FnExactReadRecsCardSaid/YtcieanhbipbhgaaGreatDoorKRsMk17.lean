/- What the law's marks make of a list of records. -/
import Derived.Test.YtcieanhbipbhgaaGreatDoorKRs17
namespace Go.Proofs.YtcieanhbipbhgaaGreatDoor
open Go.RowKit Vt

theorem markE_own {u : World} {lo : Nat} (a : Option Addr) (m c : Nat) (gs : List EdgeV) (k0 : Nat) (h : u.ownsRow lo 79 2 (.slice a m c) m (ecells gs)) (hm : m ≤ 1048576) (h1 : k0 ≤ 10000000) :
    Calls Tryz.prog 15 #[.slice a m c, .int .i64 (k0 : Int)] u fun e v => e = .returned (.int .i64 ((k0 : Int) + (m : Int) * 2)) ∧ v.ownsRow lo 79 2 (.slice a m c) m (ecells (marks k0 m)) ∧ Trn (fun k => (Value.slice a m c).ownBlock = some k) u v := by
  by_cases h0 : m = 0
  · subst h0
    refine (markEdgeS_zero a c k0 u).mono ?_
    rintro e v ⟨rfl, hw⟩
    subst hw
    refine ⟨by simp, ?_, rfl, rfl, rfl, Nat.le_refl _, fun k _ _ => rfl⟩
    have hl := h.1
    rw [ecells_length] at hl
    have : gs = [] := List.length_eq_zero_iff.1 (by omega)
    subst this
    exact h
  · rcases h.2 with ⟨_, h3⟩ | ⟨g, cap, cur, hv, hg, _⟩
    · omega
    · simp at hv
      obtain ⟨rfl, rfl⟩ := hv
      refine (markEdgeS_any lo g c m k0 gs hm h1 u h).mono ?_
      rintro e v ⟨rfl, ho, hgr⟩
      exact ⟨rfl, ho, Trn.of_grown hgr⟩
theorem markI_own {u : World} {lo : Nat} (a : Option Addr) (m c : Nat) (xs : List Int) (k0 : Nat) (h : u.ownsRow lo 3 1 (.slice a m c) m (ic xs)) (hm : m ≤ 1048576) (h1 : k0 ≤ 10000000) :
    Calls Tryz.prog 16 #[.slice a m c, .int .i64 (k0 : Int)] u fun e v => e = .returned (.int .i64 ((k0 : Int) + (m : Int))) ∧ v.ownsRow lo 3 1 (.slice a m c) m (ic (imarks k0 m)) ∧ Trn (fun k => (Value.slice a m c).ownBlock = some k) u v := by
  by_cases h0 : m = 0
  · subst h0
    refine (markIntS_zero a c k0 u).mono ?_
    rintro e v ⟨rfl, hw⟩
    subst hw
    refine ⟨by simp, ?_, rfl, rfl, rfl, Nat.le_refl _, fun k _ _ => rfl⟩
    have hl := h.1
    rw [ic_len] at hl
    have : xs = [] := List.length_eq_zero_iff.1 (by omega)
    subst this
    exact h
  · rcases h.2 with ⟨_, h3⟩ | ⟨g, cap, cur, hv, hg, _⟩
    · omega
    · simp at hv
      obtain ⟨rfl, rfl⟩ := hv
      refine (markIntS_any lo g c m k0 (ic xs) hm h1 u h).mono ?_
      rintro e v ⟨rfl, ho, hgr⟩
      exact ⟨rfl, ho, Trn.of_grown hgr⟩
/-- a record marked from k on -/
def mq (k : Nat) (q : RQ) : RQ := { q with r := ⟨(k : Int), (k : Int) + 1, (k : Int) + 1 + 1, (k : Int) + 1 + 1 + 1, (k : Int) + 1 + 1 + 1 + 1, (k : Int) + 1 + 1 + 1 + 1 + 1,
  ⟨(k : Int) + 1 + 1 + 1 + 1 + 1 + 1, decide (((k : Int) + 1 + 1 + 1 + 1 + 1 + 1 + 1) % 3 = 0), marks (k + 8) q.k1, imarks (k + 8 + q.k1 * 2) q.k2⟩,
  ⟨((k + 8 + q.k1 * 2 + q.k2 : Nat) : Int), ((k + 8 + q.k1 * 2 + q.k2 : Nat) : Int) + 1, marks (k + 8 + q.k1 * 2 + q.k2 + 2) q.k3, ((k + 8 + q.k1 * 2 + q.k2 + 2 + q.k3 * 2 : Nat) : Int)⟩⟩ }
/-- the next mark behind it -/
def kq (k : Nat) (q : RQ) : Nat := k + 8 + q.k1 * 2 + q.k2 + 2 + q.k3 * 2 + 1
def mqs : Nat → List RQ → List RQ
  | _, [] => []
  | k, q :: qs => mq k q :: mqs (kq k q) qs
def kqs : Nat → List RQ → Nat
  | k, [] => k
  | k, q :: qs => kqs (kq k q) qs
theorem mqs_len (qs : List RQ) : ∀ k, (mqs k qs).length = qs.length := by
  induction qs with
  | nil => intro k; rfl
  | cons q qs ih => intro k; simp [mqs, ih]
theorem mqs_snoc (qs : List RQ) (q : RQ) : ∀ k, mqs k (qs ++ [q]) = mqs k qs ++ [mq (kqs k qs) q] ∧ kqs k (qs ++ [q]) = kq (kqs k qs) q := by
  induction qs with
  | nil => intro k; exact ⟨rfl, rfl⟩
  | cons p qs ih =>
    intro k
    have := ih (kq k p)
    exact ⟨by rw [List.cons_append]; show mq k p :: mqs (kq k p) (qs ++ [q]) = _; rw [this.1]; rfl, this.2⟩
theorem mqs_at (qs : List RQ) : ∀ (k j : Nat) (q : RQ), qs[j]? = some q → (mqs k qs)[j]? = some (mq (kqs k (qs.take j)) q) := by
  induction qs with
  | nil => intro k j q h; simp at h
  | cons p qs ih =>
    intro k j q h
    cases j with
    | zero => simp at h; subst h; rfl
    | succ j => simp only [mqs, List.getElem?_cons_succ, List.take_succ_cons, kqs]; exact ih _ j q (by simpa using h)
theorem kqs_le (qs : List RQ) : ∀ k, (∀ q ∈ qs, q.k1 ≤ 100 ∧ q.k2 ≤ 100 ∧ q.k3 ≤ 100) → k ≤ kqs k qs ∧ kqs k qs ≤ k + qs.length * 511 := by
  induction qs with
  | nil => intro k _; simp [kqs]
  | cons p qs ih =>
    intro k h
    have h1 := h p (List.mem_cons_self ..)
    have h2 := ih (kq k p) (fun q hq => h q (List.mem_cons_of_mem _ hq))
    have h3 : k ≤ kq k p ∧ kq k p ≤ k + 511 := by unfold kq; omega
    simp only [kqs, List.length_cons]
    omega
/-- a store into the row -/
theorem set_mid (pre L post : List Value) (p o : Nat) (v : Value) (hp : pre.length = p) (ho : o < L.length) : (pre ++ (L ++ post)).set (p + o) v = pre ++ (L.set o v ++ post) := by
  subst hp
  rw [List.set_append_right _ _ (by omega), List.set_append_left _ _ (by omega)]
  congr 3
  omega
theorem Trn.cell {P : Nat → Prop} {u v : World} {k : Addr} (h : Trn P u v) (hk : k.block < u.heap.size) (hn : ¬ P k.block) : v.cell? k = u.cell? k := World.cell?_of_block (w := u) (h.block k.block hk hn)
theorem own_msR {u : World} {lo e s n g m c B : Nat} {x : Value} {xs cs : List Value} (h : u.ownsRow lo e s x n xs) (hr : u.ownsRow B 40 14 (.slice (some ⟨g, 0, none⟩) m c) m cs) (he : e ≠ 40) : x.ownBlock ≠ some g := by
  intro hx
  rcases h.2 with ⟨rfl, _⟩ | ⟨q, cap, cur, rfl, _, hc, _⟩
  · simp [Value.ownBlock] at hx
  · simp [Value.ownBlock] at hx
    subst hx
    rcases hr.2 with ⟨h0, _⟩ | ⟨q2, cap2, cur2, hv2, _, hc2, _⟩
    · simp at h0
    · simp only [Value.slice.injEq, Option.some.injEq] at hv2
      obtain ⟨hq2, _⟩ := hv2
      cases hq2
      rw [hc] at hc2
      simp at hc2
      exact he hc2.2
/-- where the marking of a record stands -/
structure MS (P : Nat → Prop) (w0 u : World) (B g m c p : Nat) (pre L post : List Value) : Prop where
  row : u.ownsRow B 40 14 (.slice (some ⟨g, 0, none⟩) m c) m (pre ++ (L ++ post))
  len : pre.length = p
  l14 : L.length = 14
  tr : Trn P w0 u
  g : P g
section
variable {P : Nat → Prop} {w0 u v : World} {B g m c p : Nat} {pre L post : List Value}
theorem MS.set (h : MS P w0 u B g m c p pre L post) (o : Nat) (x : Value) (ho : o < 14) : MS P w0 (u.setCell ⟨g, p + o, none⟩ x) B g m c p pre (L.set o x) post :=
  ⟨by rw [← set_mid pre L post p o x h.len (by rw [h.l14]; exact ho)]; exact (h.row.stored (p + o) x).1, h.len, by rw [List.length_set]; exact h.l14,
    trn_imp (h.tr.trans (Trn.of_grown (h.row.stored (p + o) x).2)) (fun k hk => by
      rcases hk with hk | hk
      · exact hk
      · simp only [Option.some.injEq] at hk; rw [← hk]; exact h.g), h.g⟩
theorem MS.cell (h : MS P w0 u B g m c p pre L post) (o : Nat) (ho : o < 14) : u.cell? ⟨g, p + o, none⟩ = L[o]? := by
  have h1 := h.l14
  have h2 := h.len
  have h3 := h.row.1
  rw [List.length_append, List.length_append] at h3
  rw [h.row.cellAt (p + o) (by omega), ← h2, List.getElem?_append_right (by omega), List.getElem?_append_left (by omega)]
  congr 1
  omega
theorem MS.frozen (h : MS P w0 u B g m c p pre L post) (o : Nat) : u.frozen? ⟨g, p + o, none⟩ = false := h.row.frozenAt (p + o)
theorem MS.trn {R : Nat → Prop} (h : MS P w0 u B g m c p pre L post) (ht : Trn R u v) (hR : ∀ k, R k → P k) (hg : ¬ R g) : MS P w0 v B g m c p pre L post :=
  ⟨own_trn h.row ht (fun k hk e => by have hk' : some g = some k := hk; simp at hk'; subst hk'; exact hg e), h.len, h.l14, trn_imp (h.tr.trans ht) (fun k hk => hk.elim id (hR k)), h.g⟩
/-- a row that is not of the turned blocks -/
theorem own_out {R : Nat → Prop} {e s n lo : Nat} {x : Value} {xs : List Value} (hx : u.ownsRow lo e s x n xs) (ht : Trn R u v) (hR : ∀ k, x.ownBlock = some k → ¬ R k) : v.ownsRow lo e s x n xs := own_trn hx ht hR
theorem MS.own {e s n : Nat} {x : Value} {xs : List Value} {lo : Nat} (h : MS P w0 u B g m c p pre L post) (hx : u.ownsRow lo e s x n xs) (he : e ≠ 40) (o : Nat) (y : Value) : (u.setCell ⟨g, p + o, none⟩ y).ownsRow lo e s x n xs :=
  hx.kept (h.row.stored (p + o) y).2 (.inr (own_msR hx h.row he))
end
/-- .. with its three rows -/
structure MR (P : Nat → Prop) (w0 u : World) (B g m c p : Nat) (pre L post : List Value) (q : RQ) (es : List EdgeV) (ls : List Int) (es3 : List EdgeV) : Prop where
  ms : MS P w0 u B g m c p pre L post
  o1 : u.ownsRow q.lo 79 2 (.slice q.a1 q.k1 q.c1) q.k1 (ecells es)
  o2 : u.ownsRow q.lo 3 1 (.slice q.a2 q.k2 q.c2) q.k2 (ic ls)
  o3 : u.ownsRow q.lo 79 2 (.slice q.a3 q.k3 q.c3) q.k3 (ecells es3)
theorem MR.set {P : Nat → Prop} {w0 u : World} {B g m c p : Nat} {pre L post : List Value} {q : RQ} {es : List EdgeV} {ls : List Int} {es3 : List EdgeV} (h : MR P w0 u B g m c p pre L post q es ls es3) (o : Nat) (x : Value) (ho : o < 14) :
    MR P w0 (u.setCell ⟨g, p + o, none⟩ x) B g m c p pre (L.set o x) post q es ls es3 :=
  ⟨h.ms.set o x ho, h.ms.own h.o1 (by decide) o x, h.ms.own h.o2 (by decide) o x, h.ms.own h.o3 (by decide) o x⟩
/-- one record of the list has been turned -/
theorem RS.turn {u v : World} {B g m c : Nat} {ps rs : List RQ} {q q' : RQ} (h : RS u B (some ⟨g, 0, none⟩) m c (ps ++ q :: rs)) (hr : v.ownsRow B 40 14 (.slice (some ⟨g, 0, none⟩) m c) m (qcells ps ++ (rqC q' ++ qcells rs)))
    (hq : q'.ok v) (h1 : q'.lo = q.lo) (h2 : q'.hi = q.hi) (ht : Trn (fun k => k = g ∨ (q.lo ≤ k ∧ k < q.hi)) u v) : RS v B (some ⟨g, 0, none⟩) m c (ps ++ q' :: rs) := by
  have hap := List.pairwise_append.1 h.apart
  have hap2 := List.pairwise_cons.1 hap.2.1
  refine ⟨by rw [qcells_app, qcells_cons]; exact hr, ?_, ?_, ?_⟩
  · intro x hx
    rcases List.mem_append.1 hx with hx | hx
    · have hx2 := h.each x (List.mem_append_left _ hx)
      have ho := h.out x (List.mem_append_left _ hx) g rfl
      have ha := hap.2.2 x hx q (List.mem_cons_self ..)
      exact ⟨hx2.1.trn ht (fun k hk => by rcases hk with rfl | hk <;> omega), hx2.2⟩
    · rcases List.mem_cons.1 hx with rfl | hx
      · exact ⟨hq, by rw [h1]; exact (h.each q (by simp)).2⟩
      · have hx2 := h.each x (by simp [hx])
        have ho := h.out x (by simp [hx]) g rfl
        have ha := hap2.1 x hx
        exact ⟨hx2.1.trn ht (fun k hk => by rcases hk with rfl | hk <;> omega), hx2.2⟩
  · refine List.pairwise_append.2 ⟨hap.1, List.pairwise_cons.2 ⟨fun x hx => by rw [h2]; exact hap2.1 x hx, hap2.2⟩, fun x hx y hy => ?_⟩
    rcases List.mem_cons.1 hy with rfl | hy
    · rw [h1]; exact hap.2.2 x hx q (List.mem_cons_self ..)
    · exact hap.2.2 x hx y (List.mem_cons_of_mem _ hy)
  · intro x hx k hk
    rcases List.mem_append.1 hx with hx | hx
    · exact h.out x (List.mem_append_left _ hx) k hk
    · rcases List.mem_cons.1 hx with rfl | hx
      · rw [h1, h2]; exact h.out q (by simp) k hk
      · exact h.out x (by simp [hx]) k hk
set_option maxRecDepth 100000 in
set_option maxHeartbeats 16000000 in
theorem markRecS_any (qs : List RQ) (B g m c : Nat) (hm : m ≤ 4000) (u : World) (h : RS u B (some ⟨g, 0, none⟩) m c qs) :
    Calls Tryz.prog 7 #[.slice (some ⟨g, 0, none⟩) m c, .int .i64 1] u fun e v => e = .returned (.int .i64 ((kqs 1 qs : Nat) : Int)) ∧ RS v B (some ⟨g, 0, none⟩) m c (mqs 1 qs) ∧ Trn (fun k => B ≤ k) u v := by
  have hlen := h.len
  have hbd : ∀ q ∈ qs, q.k1 ≤ 100 ∧ q.k2 ≤ 100 ∧ q.k3 ≤ 100 := fun q hq => (h.each q hq).1.bd
  have HB := hideIt hbd
  have HQ := hideIt h
  clear h hbd
  go_enter Tryz.func7, Tryz.ntmps7
  go_wp2
  go_loopw [1, 5] (fun kk i wr => ∃ (j k : Nat), j ≤ m ∧ i = .int .i64 (j : Int) ∧ kk = .int .i64 (k : Int) ∧ Hid (k = kqs 1 (qs.take j)) ∧ k ≤ 1 + j * 511 ∧ Hid (RS wr B (some ⟨g, 0, none⟩) m c (mqs 1 (qs.take j) ++ qs.drop j)) ∧ Hid (Trn (fun k => B ≤ k) u wr)) (fun _ i _ => m - (intOf i).toNat)
  case atStart => exact ⟨0, 1, by omega, rfl, rfl, rfl, by omega, by show RS _ _ _ _ _ _; simpa [mqs] using HQ.out, ⟨rfl, rfl, rfl, Nat.le_refl _, fun _ _ _ => rfl⟩⟩
  case round =>
    obtain ⟨j, k, hj, rfl, rfl, hk, hkb, hS, hT⟩ := hrel
    clear HQ
    by_cases hlt : j < m
    · obtain ⟨q, hq⟩ : ∃ f, qs[j]? = some f := ⟨qs[j]'(by omega), List.getElem?_eq_getElem (by omega)⟩
      have hqd : qs.drop j = q :: qs.drop (j + 1) := by
        obtain ⟨hk', rfl⟩ := List.getElem?_eq_some_iff.1 hq
        exact List.drop_eq_getElem_cons hk'
      have hqt : qs.take (j + 1) = qs.take j ++ [q] := by
        obtain ⟨hk', rfl⟩ := List.getElem?_eq_some_iff.1 hq
        rw [List.take_succ_eq_append_getElem hk']
      have hS' := hS.out
      rw [hqd] at hS'
      have hpl : (mqs 1 (qs.take j)).length = j := by rw [mqs_len, List.length_take]; omega
      have hms := mqs_snoc (qs.take j) q 1
      rw [← hqt, ← hk.out] at hms
      generalize hgp : mqs 1 (qs.take j) = ps at *
      generalize hgr : qs.drop (j + 1) = rs at *
      have hqo := (hS'.each q (by simp)).1
      have hqb := (hS'.each q (by simp)).2
      have hbq := hqo.bd
      have M0 : MS (fun i => i = g ∨ (q.lo ≤ i ∧ i < q.hi)) wr wr B g m c (j * 14) (qcells ps) (rqC q) (qcells rs) := ⟨by have := hS'.row; rw [qcells_app, qcells_cons] at this; exact this, by rw [qcells_len, hpl], rfl, ⟨rfl, rfl, rfl, Nat.le_refl _, fun _ _ _ => rfl⟩, .inl rfl⟩
      obtain ⟨b, hb⟩ : ∃ b, decide (((k : Int) + 1 + 1 + 1 + 1 + 1 + 1 + 1) % 3 = 0) = b := ⟨_, rfl⟩
      have dB : ((((k : Int) + 1 + 1 + 1 + 1 + 1 + 1 + 1) % 3) == 0) = b := by rw [← hb]; rfl
      have c0 := M0.cell 0 (by omega)
      have f0 := M0.frozen 0
      rw [Nat.add_zero] at c0 f0
      have c1 := M0.cell 1 (by omega)
      have f1 := M0.frozen 1
      have c2 := M0.cell 2 (by omega)
      have f2 := M0.frozen 2
      have c3 := M0.cell 3 (by omega)
      have f3 := M0.frozen 3
      have c4 := M0.cell 4 (by omega)
      have f4 := M0.frozen 4
      have c5 := M0.cell 5 (by omega)
      have f5 := M0.frozen 5
      have c6 := M0.cell 6 (by omega)
      have f6 := M0.frozen 6
      have c7 := M0.cell 7 (by omega)
      have f7 := M0.frozen 7
      simp only [rqC, List.getElem?_cons_zero, List.getElem?_cons_succ] at c0 c1 c2 c3 c4 c5 c6 c7
      have b1 : (0 : Int) ≤ (j : Int) := by omega
      have b2 : (j : Int) < (m : Int) := by omega
      have HS' := hideIt hS'
      have HM0 := hideIt M0
      have HH := hideIt hqo
      have HHb := hideIt hb
      have HMS := hideIt hms
      have HGR := hideIt hgr
      clear hS hS' M0 hqo hms hb hq hqd hqt hk hgp hgr
      go_upto_region 20 with fail
      have R0 : MR (fun i => i = g ∨ (q.lo ≤ i ∧ i < q.hi)) wr wr B g m c (j * 14) (qcells ps) [.int .i64 q.r.kind, .int .i64 q.r.id, .int .i64 q.r.op, .int .i64 q.r.a, .int .i64 q.r.b, .int .i64 q.r.sh, .int .i64 q.r.an.num, .bool q.r.an.ok, .slice q.a1 q.k1 q.c1, .slice q.a2 q.k2 q.c2, .int .i64 q.r.o.num, .int .i64 q.r.o.op, .slice q.a3 q.k3 q.c3, .int .i64 q.r.o.v] (qcells rs) q q.r.an.es q.r.an.ls q.r.o.es := ⟨HM0.out, HH.out.r1, HH.out.r2, HH.out.r3⟩
      obtain ⟨W1, e1⟩ : ∃ W, W = wr.setCell ⟨g, j * 14, none⟩ (.int .i64 ((k : Int))) := ⟨_, rfl⟩
      have R1 : MR (fun i => i = g ∨ (q.lo ≤ i ∧ i < q.hi)) wr W1 B g m c (j * 14) (qcells ps) [.int .i64 ((k : Int)), .int .i64 q.r.id, .int .i64 q.r.op, .int .i64 q.r.a, .int .i64 q.r.b, .int .i64 q.r.sh, .int .i64 q.r.an.num, .bool q.r.an.ok, .slice q.a1 q.k1 q.c1, .slice q.a2 q.k2 q.c2, .int .i64 q.r.o.num, .int .i64 q.r.o.op, .slice q.a3 q.k3 q.c3, .int .i64 q.r.o.v] (qcells rs) q q.r.an.es q.r.an.ls q.r.o.es := by rw [e1]; exact R0.set 0 (.int .i64 ((k : Int))) (by omega)
      obtain ⟨W2, e2⟩ : ∃ W, W = W1.setCell ⟨g, j * 14 + 1, none⟩ (.int .i64 ((k : Int) + 1)) := ⟨_, rfl⟩
      have R2 : MR (fun i => i = g ∨ (q.lo ≤ i ∧ i < q.hi)) wr W2 B g m c (j * 14) (qcells ps) [.int .i64 ((k : Int)), .int .i64 ((k : Int) + 1), .int .i64 q.r.op, .int .i64 q.r.a, .int .i64 q.r.b, .int .i64 q.r.sh, .int .i64 q.r.an.num, .bool q.r.an.ok, .slice q.a1 q.k1 q.c1, .slice q.a2 q.k2 q.c2, .int .i64 q.r.o.num, .int .i64 q.r.o.op, .slice q.a3 q.k3 q.c3, .int .i64 q.r.o.v] (qcells rs) q q.r.an.es q.r.an.ls q.r.o.es := by rw [e2]; exact R1.set 1 (.int .i64 ((k : Int) + 1)) (by omega)
      obtain ⟨W3, e3⟩ : ∃ W, W = W2.setCell ⟨g, j * 14 + 1 + 1, none⟩ (.int .i64 ((k : Int) + 1 + 1)) := ⟨_, rfl⟩
      have R3 : MR (fun i => i = g ∨ (q.lo ≤ i ∧ i < q.hi)) wr W3 B g m c (j * 14) (qcells ps) [.int .i64 ((k : Int)), .int .i64 ((k : Int) + 1), .int .i64 ((k : Int) + 1 + 1), .int .i64 q.r.a, .int .i64 q.r.b, .int .i64 q.r.sh, .int .i64 q.r.an.num, .bool q.r.an.ok, .slice q.a1 q.k1 q.c1, .slice q.a2 q.k2 q.c2, .int .i64 q.r.o.num, .int .i64 q.r.o.op, .slice q.a3 q.k3 q.c3, .int .i64 q.r.o.v] (qcells rs) q q.r.an.es q.r.an.ls q.r.o.es := by rw [e3]; exact R2.set 2 (.int .i64 ((k : Int) + 1 + 1)) (by omega)
      obtain ⟨W4, e4⟩ : ∃ W, W = W3.setCell ⟨g, j * 14 + 1 + 2, none⟩ (.int .i64 ((k : Int) + 1 + 1 + 1)) := ⟨_, rfl⟩
      have R4 : MR (fun i => i = g ∨ (q.lo ≤ i ∧ i < q.hi)) wr W4 B g m c (j * 14) (qcells ps) [.int .i64 ((k : Int)), .int .i64 ((k : Int) + 1), .int .i64 ((k : Int) + 1 + 1), .int .i64 ((k : Int) + 1 + 1 + 1), .int .i64 q.r.b, .int .i64 q.r.sh, .int .i64 q.r.an.num, .bool q.r.an.ok, .slice q.a1 q.k1 q.c1, .slice q.a2 q.k2 q.c2, .int .i64 q.r.o.num, .int .i64 q.r.o.op, .slice q.a3 q.k3 q.c3, .int .i64 q.r.o.v] (qcells rs) q q.r.an.es q.r.an.ls q.r.o.es := by rw [e4]; exact R3.set 3 (.int .i64 ((k : Int) + 1 + 1 + 1)) (by omega)
      obtain ⟨W5, e5⟩ : ∃ W, W = W4.setCell ⟨g, j * 14 + 1 + 3, none⟩ (.int .i64 ((k : Int) + 1 + 1 + 1 + 1)) := ⟨_, rfl⟩
      have R5 : MR (fun i => i = g ∨ (q.lo ≤ i ∧ i < q.hi)) wr W5 B g m c (j * 14) (qcells ps) [.int .i64 ((k : Int)), .int .i64 ((k : Int) + 1), .int .i64 ((k : Int) + 1 + 1), .int .i64 ((k : Int) + 1 + 1 + 1), .int .i64 ((k : Int) + 1 + 1 + 1 + 1), .int .i64 q.r.sh, .int .i64 q.r.an.num, .bool q.r.an.ok, .slice q.a1 q.k1 q.c1, .slice q.a2 q.k2 q.c2, .int .i64 q.r.o.num, .int .i64 q.r.o.op, .slice q.a3 q.k3 q.c3, .int .i64 q.r.o.v] (qcells rs) q q.r.an.es q.r.an.ls q.r.o.es := by rw [e5]; exact R4.set 4 (.int .i64 ((k : Int) + 1 + 1 + 1 + 1)) (by omega)
      obtain ⟨W6, e6⟩ : ∃ W, W = W5.setCell ⟨g, j * 14 + 5, none⟩ (.int .i64 ((k : Int) + 1 + 1 + 1 + 1 + 1)) := ⟨_, rfl⟩
      have R6 : MR (fun i => i = g ∨ (q.lo ≤ i ∧ i < q.hi)) wr W6 B g m c (j * 14) (qcells ps) [.int .i64 ((k : Int)), .int .i64 ((k : Int) + 1), .int .i64 ((k : Int) + 1 + 1), .int .i64 ((k : Int) + 1 + 1 + 1), .int .i64 ((k : Int) + 1 + 1 + 1 + 1), .int .i64 ((k : Int) + 1 + 1 + 1 + 1 + 1), .int .i64 q.r.an.num, .bool q.r.an.ok, .slice q.a1 q.k1 q.c1, .slice q.a2 q.k2 q.c2, .int .i64 q.r.o.num, .int .i64 q.r.o.op, .slice q.a3 q.k3 q.c3, .int .i64 q.r.o.v] (qcells rs) q q.r.an.es q.r.an.ls q.r.o.es := by rw [e6]; exact R5.set 5 (.int .i64 ((k : Int) + 1 + 1 + 1 + 1 + 1)) (by omega)
      obtain ⟨W7, e7⟩ : ∃ W, W = W6.setCell ⟨g, j * 14 + 6, none⟩ (.int .i64 ((k : Int) + 1 + 1 + 1 + 1 + 1 + 1)) := ⟨_, rfl⟩
      have R7 : MR (fun i => i = g ∨ (q.lo ≤ i ∧ i < q.hi)) wr W7 B g m c (j * 14) (qcells ps) [.int .i64 ((k : Int)), .int .i64 ((k : Int) + 1), .int .i64 ((k : Int) + 1 + 1), .int .i64 ((k : Int) + 1 + 1 + 1), .int .i64 ((k : Int) + 1 + 1 + 1 + 1), .int .i64 ((k : Int) + 1 + 1 + 1 + 1 + 1), .int .i64 ((k : Int) + 1 + 1 + 1 + 1 + 1 + 1), .bool q.r.an.ok, .slice q.a1 q.k1 q.c1, .slice q.a2 q.k2 q.c2, .int .i64 q.r.o.num, .int .i64 q.r.o.op, .slice q.a3 q.k3 q.c3, .int .i64 q.r.o.v] (qcells rs) q q.r.an.es q.r.an.ls q.r.o.es := by rw [e7]; exact R6.set 6 (.int .i64 ((k : Int) + 1 + 1 + 1 + 1 + 1 + 1)) (by omega)
      obtain ⟨W8, e8⟩ : ∃ W, W = W7.setCell ⟨g, j * 14 + 6 + 1, none⟩ (.bool b) := ⟨_, rfl⟩
      have R8 : MR (fun i => i = g ∨ (q.lo ≤ i ∧ i < q.hi)) wr W8 B g m c (j * 14) (qcells ps) [.int .i64 ((k : Int)), .int .i64 ((k : Int) + 1), .int .i64 ((k : Int) + 1 + 1), .int .i64 ((k : Int) + 1 + 1 + 1), .int .i64 ((k : Int) + 1 + 1 + 1 + 1), .int .i64 ((k : Int) + 1 + 1 + 1 + 1 + 1), .int .i64 ((k : Int) + 1 + 1 + 1 + 1 + 1 + 1), .bool b, .slice q.a1 q.k1 q.c1, .slice q.a2 q.k2 q.c2, .int .i64 q.r.o.num, .int .i64 q.r.o.op, .slice q.a3 q.k3 q.c3, .int .i64 q.r.o.v] (qcells rs) q q.r.an.es q.r.an.ls q.r.o.es := by rw [e8]; exact R7.set 7 (.bool b) (by omega)
      rw [← e1, ← e2, ← e3, ← e4, ← e5, ← e6, ← e7, ← e8]
      clear e1 e2 e3 e4 e5 e6 e7 e8 R0 R1 R2 R3 R4 R5 R6 R7 W1 W2 W3 W4 W5 W6 W7
      have M8 := R8.ms
      have o1 := R8.o1
      have o2 := R8.o2
      have o3 := R8.o3
      clear R8 c0 c1 c2 c3 c4 c5 c6 c7 f0 f1 f2 f3 f4 f5 f6 f7 dB
      have in1 : ∀ k, (Value.slice q.a1 q.k1 q.c1).ownBlock = some k → k = g ∨ (q.lo ≤ k ∧ k < q.hi) := fun k hk => .inr ⟨(HH.out.r1.lt k hk).1, HH.out.t1 k hk⟩
      have in2 : ∀ k, (Value.slice q.a2 q.k2 q.c2).ownBlock = some k → k = g ∨ (q.lo ≤ k ∧ k < q.hi) := fun k hk => .inr ⟨(HH.out.r2.lt k hk).1, HH.out.t2 k hk⟩
      have in3 : ∀ k, (Value.slice q.a3 q.k3 q.c3).ownBlock = some k → k = g ∨ (q.lo ≤ k ∧ k < q.hi) := fun k hk => .inr ⟨(HH.out.r3.lt k hk).1, HH.out.t3 k hk⟩
      have ng1 := own_msR HH.out.r1 HM0.out.row (by decide)
      have ng2 := own_msR HH.out.r2 HM0.out.row (by decide)
      have ng3 := own_msR HH.out.r3 HM0.out.row (by decide)
      have n12 : ∀ k, (Value.slice q.a1 q.k1 q.c1).ownBlock = some k → ¬ (Value.slice q.a2 q.k2 q.c2).ownBlock = some k := fun k h1 h2 => rows_ne HH.out.r1 HH.out.r2 (by decide) k h1 h2
      have n21 : ∀ k, (Value.slice q.a2 q.k2 q.c2).ownBlock = some k → ¬ (Value.slice q.a1 q.k1 q.c1).ownBlock = some k := fun k h1 h2 => n12 k h2 h1
      have n23 : ∀ k, (Value.slice q.a2 q.k2 q.c2).ownBlock = some k → ¬ (Value.slice q.a3 q.k3 q.c3).ownBlock = some k := fun k h1 h2 => rows_ne HH.out.r2 HH.out.r3 (by decide) k h1 h2
      have n32 : ∀ k, (Value.slice q.a3 q.k3 q.c3).ownBlock = some k → ¬ (Value.slice q.a2 q.k2 q.c2).ownBlock = some k := fun k h1 h2 => n23 k h2 h1
      have n13 : ∀ k, (Value.slice q.a1 q.k1 q.c1).ownBlock = some k → ¬ (Value.slice q.a3 q.k3 q.c3).ownBlock = some k := fun k h1 h2 => by
        rcases HH.out.ap with ⟨_, z⟩ | ⟨_, z⟩
        · rw [z] at h1; simp [Value.ownBlock] at h1
        · rw [z] at h2; simp [Value.ownBlock] at h2
      have n31 : ∀ k, (Value.slice q.a3 q.k3 q.c3).ownBlock = some k → ¬ (Value.slice q.a1 q.k1 q.c1).ownBlock = some k := fun k h1 h2 => n13 k h2 h1
      have IN := hideIt (And.intro in1 (And.intro in2 in3))
      have NG := hideIt (And.intro ng1 (And.intro ng2 ng3))
      have NN := hideIt (And.intro n12 (And.intro n21 (And.intro n23 (And.intro n32 (And.intro n13 n31)))))
      clear in1 in2 in3 ng1 ng2 ng3 n12 n21 n23 n32 n13 n31
      -- the answer's edges
      obtain ⟨K1, hK1⟩ : ∃ K1, K1 = k + 8 + q.k1 * 2 := ⟨_, rfl⟩
      obtain ⟨K2, hK2⟩ : ∃ K2, K2 = k + 8 + q.k1 * 2 + q.k2 := ⟨_, rfl⟩
      obtain ⟨K3, hK3⟩ : ∃ K3, K3 = k + 8 + q.k1 * 2 + q.k2 + 2 + q.k3 * 2 := ⟨_, rfl⟩
      have z1 : K1 ≤ 4000000 := by omega
      have z2 : K2 ≤ 4000000 := by omega
      have z3 : K3 ≤ 4000000 := by omega
      have z4 : K3 + 1 ≤ 1 + (j + 1) * 511 := by omega
      have HK := hideIt (And.intro hK1 (And.intro hK2 hK3))
      have HE1 : Hid (Calls Tryz.prog 15 #[.slice q.a1 q.k1 q.c1, .int .i64 ((k : Int) + 1 + 1 + 1 + 1 + 1 + 1 + 1 + 1)] W8 fun e v => e = .returned (.int .i64 (K1 : Int)) ∧ v.ownsRow q.lo 79 2 (.slice q.a1 q.k1 q.c1) q.k1 (ecells (marks (k + 8) q.k1)) ∧ Trn (fun k => (Value.slice q.a1 q.k1 q.c1).ownBlock = some k) W8 v) := by
        have h1 := markE_own q.a1 q.k1 q.c1 _ (k + 8) o1 (by omega) (by omega)
        rw [show ((k + 8 : Nat) : Int) = (k : Int) + 1 + 1 + 1 + 1 + 1 + 1 + 1 + 1 by omega] at h1
        exact h1.mono fun e v h2 => ⟨by rw [h2.1]; congr 2; have := HK.out; omega, h2.2⟩
      clear hK1 hK2 hK3
      have c8 := M8.cell 8 (by omega)
      simp only [List.getElem?_cons_zero, List.getElem?_cons_succ] at c8
      have HM8 := hideIt M8
      have HO2 := hideIt o2
      have HO3 := hideIt o3
      clear M8 o1 o2 o3
      go_wp2_with (go_at_call 15; refine HE1.out.mono ?_; rintro e w9 ⟨rfl, p1, t9⟩; refine Hid.out ?_)
      refine (show ∀ {p : Prop}, p → Hid p from fun h => h) ?_
      have M9 := HM8.out.trn t9 IN.out.1 NG.out.1
      have o2 := own_out HO2.out t9 NN.out.2.1
      have o3 := own_out HO3.out t9 NN.out.2.2.2.2.2
      have c9 := M9.cell 9 (by omega)
      simp only [List.getElem?_cons_zero, List.getElem?_cons_succ] at c9
      have HE2 : Hid (Calls Tryz.prog 16 #[.slice q.a2 q.k2 q.c2, .int .i64 (K1 : Int)] w9 fun e v => e = .returned (.int .i64 (K2 : Int)) ∧ v.ownsRow q.lo 3 1 (.slice q.a2 q.k2 q.c2) q.k2 (ic (imarks K1 q.k2)) ∧ Trn (fun k => (Value.slice q.a2 q.k2 q.c2).ownBlock = some k) w9 v) :=
        (markI_own q.a2 q.k2 q.c2 _ K1 o2 (by omega) (by omega)).mono fun e v h2 => ⟨by rw [h2.1]; congr 2; have := HK.out; omega, h2.2⟩
      have HM9 := hideIt M9
      have HP1 := hideIt p1
      have HO3' := hideIt o3
      clear HE1 t9 M9 o2 o3 p1 c8 HO2 HO3 HM8
      go_wp2_with (go_at_call 16; refine HE2.out.mono ?_; rintro e w10 ⟨rfl, p2, t10⟩; refine Hid.out ?_)
      refine (show ∀ {p : Prop}, p → Hid p from fun h => h) ?_
      have M10 := HM9.out.trn t10 IN.out.2.1 NG.out.2.1
      have p1 := own_out HP1.out t10 NN.out.1
      have o3 := own_out HO3'.out t10 NN.out.2.2.2.1
      have c10 := M10.cell 10 (by omega)
      have f10 := M10.frozen 10
      have c11 := M10.cell 11 (by omega)
      have f11 := M10.frozen 11
      simp only [List.getElem?_cons_zero, List.getElem?_cons_succ] at c10 c11
      have HM10 := hideIt M10
      have HP1' := hideIt p1
      have HP2 := hideIt p2
      have HO3'' := hideIt o3
      clear HE2 t10 M10 o3 p1 p2 c9 HP1 HO3' HM9
      go_upto_region 26 with fail
      have R10 : MR (fun i => i = g ∨ (q.lo ≤ i ∧ i < q.hi)) wr w10 B g m c (j * 14) (qcells ps) [.int .i64 ((k : Int)), .int .i64 ((k : Int) + 1), .int .i64 ((k : Int) + 1 + 1), .int .i64 ((k : Int) + 1 + 1 + 1), .int .i64 ((k : Int) + 1 + 1 + 1 + 1), .int .i64 ((k : Int) + 1 + 1 + 1 + 1 + 1), .int .i64 ((k : Int) + 1 + 1 + 1 + 1 + 1 + 1), .bool b, .slice q.a1 q.k1 q.c1, .slice q.a2 q.k2 q.c2, .int .i64 q.r.o.num, .int .i64 q.r.o.op, .slice q.a3 q.k3 q.c3, .int .i64 q.r.o.v] (qcells rs) q (marks (k + 8) q.k1) (imarks K1 q.k2) q.r.o.es := ⟨HM10.out, HP1'.out, HP2.out, HO3''.out⟩
      obtain ⟨W11, e11⟩ : ∃ W, W = w10.setCell ⟨g, j * 14 + 10, none⟩ (.int .i64 (K2 : Int)) := ⟨_, rfl⟩
      have R11 : MR (fun i => i = g ∨ (q.lo ≤ i ∧ i < q.hi)) wr W11 B g m c (j * 14) (qcells ps) [.int .i64 ((k : Int)), .int .i64 ((k : Int) + 1), .int .i64 ((k : Int) + 1 + 1), .int .i64 ((k : Int) + 1 + 1 + 1), .int .i64 ((k : Int) + 1 + 1 + 1 + 1), .int .i64 ((k : Int) + 1 + 1 + 1 + 1 + 1), .int .i64 ((k : Int) + 1 + 1 + 1 + 1 + 1 + 1), .bool b, .slice q.a1 q.k1 q.c1, .slice q.a2 q.k2 q.c2, .int .i64 (K2 : Int), .int .i64 q.r.o.op, .slice q.a3 q.k3 q.c3, .int .i64 q.r.o.v] (qcells rs) q (marks (k + 8) q.k1) (imarks K1 q.k2) q.r.o.es := by rw [e11]; exact R10.set 10 (.int .i64 (K2 : Int)) (by omega)
      obtain ⟨W12, e12⟩ : ∃ W, W = W11.setCell ⟨g, j * 14 + 10 + 1, none⟩ (.int .i64 ((K2 : Int) + 1)) := ⟨_, rfl⟩
      have R12 : MR (fun i => i = g ∨ (q.lo ≤ i ∧ i < q.hi)) wr W12 B g m c (j * 14) (qcells ps) [.int .i64 ((k : Int)), .int .i64 ((k : Int) + 1), .int .i64 ((k : Int) + 1 + 1), .int .i64 ((k : Int) + 1 + 1 + 1), .int .i64 ((k : Int) + 1 + 1 + 1 + 1), .int .i64 ((k : Int) + 1 + 1 + 1 + 1 + 1), .int .i64 ((k : Int) + 1 + 1 + 1 + 1 + 1 + 1), .bool b, .slice q.a1 q.k1 q.c1, .slice q.a2 q.k2 q.c2, .int .i64 (K2 : Int), .int .i64 ((K2 : Int) + 1), .slice q.a3 q.k3 q.c3, .int .i64 q.r.o.v] (qcells rs) q (marks (k + 8) q.k1) (imarks K1 q.k2) q.r.o.es := by rw [e12]; exact R11.set 11 (.int .i64 ((K2 : Int) + 1)) (by omega)
      rw [← e11, ← e12]
      clear e11 e12 R10 R11 W11 c10 c11 f10 f11 HM10 HP1' HP2 HO3''
      have HE3 : Hid (Calls Tryz.prog 15 #[.slice q.a3 q.k3 q.c3, .int .i64 ((K2 : Int) + 1 + 1)] W12 fun e v => e = .returned (.int .i64 (K3 : Int)) ∧ v.ownsRow q.lo 79 2 (.slice q.a3 q.k3 q.c3) q.k3 (ecells (marks (K2 + 2) q.k3)) ∧ Trn (fun k => (Value.slice q.a3 q.k3 q.c3).ownBlock = some k) W12 v) := by
        have h1 := markE_own q.a3 q.k3 q.c3 _ (K2 + 2) R12.o3 (by omega) (by omega)
        rw [show ((K2 + 2 : Nat) : Int) = (K2 : Int) + 1 + 1 by omega] at h1
        exact h1.mono fun e v h2 => ⟨by rw [h2.1]; congr 2; have := HK.out; omega, h2.2⟩
      have c12 := R12.ms.cell 12 (by omega)
      simp only [List.getElem?_cons_zero, List.getElem?_cons_succ] at c12
      have HR12 := hideIt R12
      clear R12
      go_wp2_with (go_at_call 15; refine HE3.out.mono ?_; rintro e w13 ⟨rfl, p3, t13⟩; refine Hid.out ?_)
      refine (show ∀ {p : Prop}, p → Hid p from fun h => h) ?_
      have R13 : MR (fun i => i = g ∨ (q.lo ≤ i ∧ i < q.hi)) wr w13 B g m c (j * 14) (qcells ps) [.int .i64 ((k : Int)), .int .i64 ((k : Int) + 1), .int .i64 ((k : Int) + 1 + 1), .int .i64 ((k : Int) + 1 + 1 + 1), .int .i64 ((k : Int) + 1 + 1 + 1 + 1), .int .i64 ((k : Int) + 1 + 1 + 1 + 1 + 1), .int .i64 ((k : Int) + 1 + 1 + 1 + 1 + 1 + 1), .bool b, .slice q.a1 q.k1 q.c1, .slice q.a2 q.k2 q.c2, .int .i64 (K2 : Int), .int .i64 ((K2 : Int) + 1), .slice q.a3 q.k3 q.c3, .int .i64 q.r.o.v] (qcells rs) q (marks (k + 8) q.k1) (imarks K1 q.k2) (marks (K2 + 2) q.k3) := ⟨HR12.out.ms.trn t13 IN.out.2.2 NG.out.2.2, own_out HR12.out.o1 t13 NN.out.2.2.2.2.1, own_out HR12.out.o2 t13 NN.out.2.2.1, p3⟩
      have c13 := R13.ms.cell 13 (by omega)
      have f13 := R13.ms.frozen 13
      simp only [List.getElem?_cons_zero, List.getElem?_cons_succ] at c13
      have R14 : MR (fun i => i = g ∨ (q.lo ≤ i ∧ i < q.hi)) wr (w13.setCell ⟨g, j * 14 + 13, none⟩ (.int .i64 (K3 : Int))) B g m c (j * 14) (qcells ps) [.int .i64 ((k : Int)), .int .i64 ((k : Int) + 1), .int .i64 ((k : Int) + 1 + 1), .int .i64 ((k : Int) + 1 + 1 + 1), .int .i64 ((k : Int) + 1 + 1 + 1 + 1), .int .i64 ((k : Int) + 1 + 1 + 1 + 1 + 1), .int .i64 ((k : Int) + 1 + 1 + 1 + 1 + 1 + 1), .bool b, .slice q.a1 q.k1 q.c1, .slice q.a2 q.k2 q.c2, .int .i64 (K2 : Int), .int .i64 ((K2 : Int) + 1), .slice q.a3 q.k3 q.c3, .int .i64 (K3 : Int)] (qcells rs) q (marks (k + 8) q.k1) (imarks K1 q.k2) (marks (K2 + 2) q.k3) := R13.set 13 (.int .i64 (K3 : Int)) (by omega)
      have HN : Hid (RS (w13.setCell ⟨g, j * 14 + 13, none⟩ (.int .i64 (K3 : Int))) B (some ⟨g, 0, none⟩) m c (mqs 1 (qs.take (j + 1)) ++ qs.drop (j + 1)) ∧ K3 + 1 = kqs 1 (qs.take (j + 1)) ∧ Trn (fun i => B ≤ i) u (w13.setCell ⟨g, j * 14 + 13, none⟩ (.int .i64 (K3 : Int)))) := by
        obtain ⟨e1, e2, e3⟩ := HK.out
        have hok : (mq k q).ok (w13.setCell ⟨g, j * 14 + 13, none⟩ (.int .i64 (K3 : Int))) := by
          have q1 := R14.o1
          have q2 := R14.o2
          have q3 := R14.o3
          rw [e1] at q2
          rw [e2] at q3
          exact ⟨q1, q2, q3, HH.out.t1, HH.out.t2, HH.out.t3, Nat.le_trans HH.out.th R14.ms.tr.size, HH.out.bd, HH.out.ap⟩
        have hrow := R14.ms.row
        have hL : [.int .i64 ((k : Int)), .int .i64 ((k : Int) + 1), .int .i64 ((k : Int) + 1 + 1), .int .i64 ((k : Int) + 1 + 1 + 1), .int .i64 ((k : Int) + 1 + 1 + 1 + 1), .int .i64 ((k : Int) + 1 + 1 + 1 + 1 + 1), .int .i64 ((k : Int) + 1 + 1 + 1 + 1 + 1 + 1), .bool b, .slice q.a1 q.k1 q.c1, .slice q.a2 q.k2 q.c2, .int .i64 (K2 : Int), .int .i64 ((K2 : Int) + 1), .slice q.a3 q.k3 q.c3, .int .i64 (K3 : Int)] = rqC (mq k q) := by rw [e2, e3, ← HHb.out]; rfl
        rw [hL] at hrow
        have hT2 := HS'.out.turn (q' := mq k q) hrow hok rfl rfl R14.ms.tr
        refine ⟨?_, ?_, ?_⟩
        · rw [HMS.out.1, HGR.out, List.append_assoc]
          exact hT2
        · rw [HMS.out.2, e3]
          rfl
        · refine trn_imp (hT.out.trans R14.ms.tr) (fun i hi => ?_)
          have := (HM0.out.row.lt g rfl).1
          rcases hi with hi | rfl | hi <;> omega
      clear R13 R14 HR12 HE3 c12 p3 t13 HK
      go_wp2
      all_goals exact ⟨⟨j + 1, K3 + 1, by omega, by go_num, by go_num, HN.out.2.1, by omega, HN.out.1, HN.out.2.2⟩, by simp [intOf]; omega⟩
    · obtain rfl : j = m := by omega
      have h1 : qs.take j = qs := List.take_of_length_le (by omega)
      have h2 : qs.drop j = [] := List.drop_of_length_le (by omega)
      have HN : Hid (RS wr B (some ⟨g, 0, none⟩) j c (mqs 1 qs) ∧ k = kqs 1 qs) := by
        have q1 := hS.out
        have q2 := hk.out
        rw [h1, h2, List.append_nil] at q1
        rw [h1] at q2
        exact ⟨q1, q2⟩
      clear hS h1 h2 hk
      go_wp2
      go_ret
      exact ⟨by rw [← HN.out.2]; rfl, HN.out.1, hT.out⟩
theorem RS.row_of {u : World} {B : Nat} {a : Option Addr} {m c : Nat} {qs : List RQ} (h : RS u B a m c qs) {j : Nat} {q : RQ} (hj : qs[j]? = some q) : ∃ g, a = some ⟨g, 0, none⟩ ∧ g < u.heap.size := by
  have := (List.getElem?_eq_some_iff.1 hj).1
  obtain ⟨g, rfl⟩ := h.some_of (by have := h.len; omega)
  exact ⟨g, rfl, (h.row.lt g rfl).2⟩
end Go.Proofs.YtcieanhbipbhgaaGreatDoor
