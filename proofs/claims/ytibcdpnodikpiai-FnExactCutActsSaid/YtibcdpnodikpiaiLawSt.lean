/- Where a law stands that looks at fresh memory: disks in ranges of blocks of their own. -/
import Derived.Test.YtibcdpnodikpiaiSAct3
import Derived.Test.YtibcdpnodikpiaiMarks3
namespace Go.Proofs.Ytibcdpnodikpiai
open Go.RowKit

/-- a disk that is ours: its box and its files lie in blocks lo .. hi -/
structure DBox (u : World) (lo hi b : Nat) (a : Option Addr) (m c : Nat) (gs : List FileV) : Prop where
  box : Box u b 31 (.slice a m c)
  own : u.ownsRow lo 63 3 (.slice a m c) m (fcells gs)
  least : lo ≤ b
  most : b < hi
  row : ∀ g, (Value.slice a m c).ownBlock = some g → g < hi
  there : hi ≤ u.heap.size

/-- what lies outside lo .. hi has not turned -/
structure Rng (lo hi : Nat) (u v : World) : Prop where
  os : v.os = u.os
  tape : v.tape = u.tape
  output : v.output = u.output
  size : u.heap.size ≤ v.heap.size
  block : ∀ k, k < u.heap.size → (k < lo ∨ hi ≤ k) → v.heap[k]? = u.heap[k]?

theorem Rng.of_below {u v : World} {lo hi : Nat} (h : Below u.heap.size u v) : Rng lo hi u v := ⟨h.os, h.tape, h.output, h.size, fun k hk _ => h.block k hk⟩
theorem Rng.of_grown {u v : World} {lo hi g : Nat} (h : u.grownBy v (some g)) (h1 : lo ≤ g) (h2 : g < hi) : Rng lo hi u v :=
  ⟨h.os, h.tape, h.output, h.size, fun k hk ho => h.block k hk (by simp; omega)⟩
theorem Rng.below {u v : World} {lo hi B : Nat} (h : Rng lo hi u v) (h1 : B ≤ lo) (h2 : B ≤ u.heap.size) : Below B u v := ⟨h.os, h.tape, h.output, h.size, fun k hk => h.block k (by omega) (.inl (by omega))⟩

theorem DBox.len {u : World} {lo hi b : Nat} {a : Option Addr} {m c : Nat} {gs : List FileV} (h : DBox u lo hi b a m c gs) : gs.length = m := by
  have := h.own.1; rw [fcells_length] at this; omega
theorem DBox.fs {u : World} {lo hi b : Nat} {a : Option Addr} {m c : Nat} {gs : List FileV} (h : DBox u lo hi b a m c gs) : Fs u u.heap.size a m gs := Fs_of_ownv h.own
theorem DBox.rng {u v : World} {lo hi b l2 h2 : Nat} {a : Option Addr} {m c : Nat} {gs : List FileV} (h : DBox u lo hi b a m c gs) (hr : Rng l2 h2 u v) (ho : hi ≤ l2 ∨ h2 ≤ lo) : DBox v lo hi b a m c gs := by
  have hth := h.there
  have hb := h.least
  have hb' := h.most
  have g1 : ∀ k, lo ≤ k → k < hi → v.heap[k]? = u.heap[k]? := fun k h3 h4 => hr.block k (by omega) (by omega)
  refine ⟨?_, ?_, hb, hb', h.row, Nat.le_trans hth hr.size⟩
  · unfold Box; rw [g1 b hb hb']; exact h.box
  · refine ⟨h.own.1, ?_⟩
    rcases h.own.2 with h3 | ⟨g, cap, cur, hv, hg, hcur, hrest⟩
    · exact .inl h3
    · refine .inr ⟨g, cap, cur, hv, hg, ?_, hrest⟩
      rw [g1 g hg (h.row g (by rw [hv]; rfl))]
      exact hcur
theorem DBox.up {u v : World} {lo hi b : Nat} {a : Option Addr} {m c : Nat} {gs : List FileV} (h : DBox u lo hi b a m c gs) (hb : Below u.heap.size u v) : DBox v lo hi b a m c gs :=
  h.rng (l2 := hi) (h2 := hi) (Rng.of_below hb) (.inl (Nat.le_refl _))
theorem DBox.cell {u : World} {lo hi b : Nat} {a : Option Addr} {m c : Nat} {gs : List FileV} (h : DBox u lo hi b a m c gs) : u.cell? ⟨b, 0, none⟩ = some (.slice a m c) := h.box.cell

/-- a disk of lo .. is marked -/
theorem markDB {u : World} {lo hi b : Nat} {a : Option Addr} {m c : Nat} {gs : List FileV} (h : DBox u lo hi b a m c gs) (k0 : Nat) (hm : m ≤ 1048576) (h0 : 0 < k0) (h1 : k0 ≤ 10000000) :
    Calls Try.prog 15 #[.agg #[.slice a m c], .int .i64 (k0 : Int)] u fun e v => e = .returned (.int .i64 ((k0 : Int) + (m : Int) * 3)) ∧ DBox v lo hi b a m c (marks k0 m) ∧ Rng lo hi u v := by
  have hth := h.there
  rcases h.own.2 with ⟨hv, hm0⟩ | ⟨g, cap, cur, hv, hg, hcur, hrest⟩
  · subst hm0
    refine (markDisk_zero a c (k0 : Int) u).mono fun e v ⟨he, hb⟩ => ⟨by rw [he]; simp, ?_, Rng.of_below hb⟩
    have h2 := h.up hb
    have hg0 : gs = [] := List.length_eq_zero_iff.1 h.len
    subst hg0
    exact h2
  · have hv' := hv
    simp at hv'
    obtain ⟨rfl, rfl⟩ := hv'
    have hgh := h.row g rfl
    refine (markDisk_any lo g c m k0 gs hm h0 h1 u h.own).mono fun e v ⟨he, ho, hgr⟩ => ⟨he, ?_, Rng.of_grown hgr hg hgh⟩
    by_cases hbg : b = g
    · exfalso
      subst hbg
      have hbx : u.heap[b]? = some (.cells #[.slice (some ⟨b, 0, none⟩) m c] 31 (0, 0)) := h.box
      rw [hbx] at hcur
      simp at hcur
    · exact ⟨h.box.grown hgr (by simpa using hbg), ho, h.least, h.most, h.row, Nat.le_trans hth hgr.size⟩
theorem heldDB {u : World} {lo hi b : Nat} {a : Option Addr} {m c : Nat} (k0 : Nat) (h : DBox u lo hi b a m c (marks k0 m)) (hm : m ≤ 1048576) (h0 : 0 < k0) (h1 : k0 ≤ 10000000) :
    Calls Try.prog 16 #[.agg #[.slice a m c], .int .i64 (k0 : Int)] u fun e v => e = .returned (.int .i64 ((k0 : Int) + (m : Int) * 3)) ∧ Below u.heap.size u v :=
  heldDisk_any m k0 a c hm h0 h1 u h.fs
theorem eqDB {u : World} {lo hi b lo' hi' b' : Nat} {a a' : Option Addr} {m c m' c' : Nat} {gs : List FileV} (h : DBox u lo hi b a m c gs) (h' : DBox u lo' hi' b' a' m' c' gs) (hm : m ≤ 1048576) :
    Calls Try.prog 14 #[.agg #[.slice a m c], .agg #[.slice a' m' c']] u fun e v => e = .returned (.bool true) ∧ Below u.heap.size u v := by
  have e : m' = m := by rw [← h.len, ← h'.len]
  subst e
  exact eqDisk_same gs m' a a' c c' hm u h.fs h'.fs
/-- a disk that a call has made is laid into a box: the box came ahead of the call -/
theorem DBox.stored {u : World} {lo b : Nat} {a : Option Addr} {m c : Nat} {gs : List FileV} {v0 : Value} (hb : Box u b 31 v0) (hl : lo ≤ b) (ho : u.ownsRow lo 63 3 (.slice a m c) m (fcells gs)) :
    DBox (u.setCell ⟨b, 0, none⟩ (.slice a m c)) lo (u.setCell ⟨b, 0, none⟩ (.slice a m c)).heap.size b a m c gs := by
  have hne : (Value.slice a m c).ownBlock ≠ some b := fun e => by
    rcases ho.2 with ⟨h3, _⟩ | ⟨g, cap, cur, hv, hg, hcur, hrest⟩
    · simp at h3
      obtain ⟨rfl, _⟩ := h3
      cases e
    · simp at hv
      obtain ⟨rfl, rfl⟩ := hv
      have e' : some g = some b := e
      simp at e'
      rw [e'] at hcur
      have hbx : u.heap[b]? = some (.cells #[v0] 31 (0, 0)) := hb
      rw [hbx] at hcur
      simp at hcur
  have ho' : (u.setCell ⟨b, 0, none⟩ (.slice a m c)).ownsRow lo 63 3 (.slice a m c) m (fcells gs) := World.ownsRow.kept ho (grownSet u b 0 _) (.inr hne)
  have hb' := hb.set (.slice a m c)
  exact ⟨hb', ho', hl, hb'.lt, fun g hg => (ho'.lt g hg).2, Nat.le_refl _⟩
/-- .. or comes behind it -/
theorem DBox.laid {u : World} {lo : Nat} {a : Option Addr} {m c : Nat} {gs : List FileV} (hl : lo ≤ u.heap.size) (ho : u.ownsRow lo 63 3 (.slice a m c) m (fcells gs)) :
    DBox (u.alloc (.cells #[.slice a m c] 31)) lo (u.alloc (.cells #[.slice a m c] 31)).heap.size u.heap.size a m c gs :=
  ⟨Box.new _ _ _ _ rfl, ho.alloc _, hl, by simp, fun g hg => by have := (ho.lt g hg).2; simp; omega, Nat.le_refl _⟩

theorem Good.refl (w : World) : Good w w := Below.refl _ _
theorem Good.size {w u : World} (h : Good w u) : w.heap.size ≤ u.heap.size := Below.size h
theorem Good.up {w u v : World} (h : Good w u) (hb : Below u.heap.size u v) : Good w v := Below.trans h (hb.mono h.size)
theorem Good.alloc {w u : World} (h : Good w u) (o : Obj) : Good w (u.alloc o) := h.up ((Below.refl _ _).alloc (Nat.le_refl _) _)
theorem Good.set {w u : World} (h : Good w u) (b j : Nat) (v : Value) (hb : w.heap.size ≤ b) : Good w (u.setCell ⟨b, j, none⟩ v) := Below.setCell h (p := ⟨b, j, none⟩) hb v
theorem Good.drew {w u : World} (h : Good w u) : Good w u.drew := Below.drew h
theorem Good.rng {w u v : World} {lo hi : Nat} (h : Good w u) (hr : Rng lo hi u v) (hl : w.heap.size ≤ lo) : Good w v := Below.trans h (hr.below hl h.size)

/-- any box stands behind a call -/
def Keep (u v : World) : Prop := ∀ b t x, Box u b t x → Box v b t x
theorem Keep.of {u v : World} (h : Below u.heap.size u v) : Keep u v := fun _ _ _ hb => hb.below h hb.lt
theorem Keep.nil {u v : World} (h : Keep u v) {b : Nat} (hb : Box u b 31 (.slice none 0 0)) : Box v b 31 (.slice none 0 0) := h _ _ _ hb
theorem own_up {w w' : World} {B e s n : Nat} {v : Value} {xs : List Value} (h : w.ownsRow B e s v n xs) (hb : Below w.heap.size w w') : w'.ownsRow B e s v n xs :=
  World.ownsRow.kept h (grown_of_below hb none) (by cases hv : v.ownBlock <;> simp)
/-- the answer in one form -/
theorem act_ans {w : World} {o : Option (List FileV)} {e : Ending} {w' : World} (h : ActAns w o e w') : ∃ a m c, e = .returned (.tuple #[.agg #[.slice a m c], .bool o.isSome]) ∧ w'.ownsRow w.heap.size 63 3 (.slice a m c) m (fcells (o.getD [])) ∧ Below w.heap.size w w' := by
  cases o with
  | none => exact ⟨none, 0, 0, h.1, World.ownsRow_nil _ _ _ _, h.2⟩
  | some gs => exact h

/-- a disk is made of what came in -/
theorem toDisk_G (fs : List FileV) (n : Nat) (a : Option Addr) (c : Nat) (hn : n ≤ 1048576) {u0 u : World} (hf : Fs u0 u0.heap.size a n fs) (h : Good u0 u) :
    Calls Try.prog 11 #[.agg #[.slice a n c]] u fun e v => ∃ g, e = .returned (.agg #[.slice (some ⟨g, 0, none⟩) n n]) ∧ v.ownsRow u0.heap.size 63 3 (.slice (some ⟨g, 0, none⟩) n n) n (fcells fs) ∧ Good u0 v ∧ Keep u v :=
  (toDisk_any fs n a c hn u (h.fs hf)).mono fun _ _ ⟨g, he, ho, hb⟩ => ⟨g, he, own_mono ho h.size, h.up hb, Keep.of hb⟩
end Go.Proofs.Ytibcdpnodikpiai
