/- Where a law stands that looks at fresh memory: graphs in ranges of blocks of their own. -/
import Derived.Test.YtfkoddhojcjohaaMarkE
import Derived.Test.YtfkoddhojcjohaaIAdd
namespace Go.Proofs.Ytfkoddhojcjohaa
open Go.RowKit

/-- a graph in a block of its own -/
def Box2 (w : World) (b : Nat) (t : TypeId) (v0 v1 : Value) : Prop := w.heap[b]? = some (.cells #[v0, v1] t (0, 0))
theorem Box2.cell0 {w : World} {b : Nat} {t : TypeId} {v0 v1 : Value} (h : Box2 w b t v0 v1) : w.cell? ⟨b, 0, none⟩ = some v0 := by rw [cell_of_row w b 0 _ _ _ h]; rfl
theorem Box2.cell1 {w : World} {b : Nat} {t : TypeId} {v0 v1 : Value} (h : Box2 w b t v0 v1) : w.cell? ⟨b, 1, none⟩ = some v1 := by rw [cell_of_row w b 1 _ _ _ h]; rfl
theorem Box2.frozen {w : World} {b : Nat} {t : TypeId} {v0 v1 : Value} (h : Box2 w b t v0 v1) (j : Nat) : w.frozen? ⟨b, j, none⟩ = false := frozen_of_row w b j _ _ h
theorem Box2.lt {w : World} {b : Nat} {t : TypeId} {v0 v1 : Value} (h : Box2 w b t v0 v1) : b < w.heap.size := (Array.getElem?_eq_some_iff.1 h).1
theorem Box2.new (w : World) (t : TypeId) (v0 v1 : Value) (b : Nat) (hb : w.heap.size = b) : Box2 (w.alloc (.cells #[v0, v1] t)) b t v0 v1 := by subst hb; exact heap_alloc_new w _
theorem Box2.grown {w w' : World} {b : Nat} {t : TypeId} {v0 v1 : Value} {row : Option Nat} (h : Box2 w b t v0 v1) (hg : w.grownBy w' row) (hr : some b ≠ row) : Box2 w' b t v0 v1 := by
  unfold Box2; rw [hg.block b h.lt hr]; exact h
theorem Box2.alloc {w : World} {b : Nat} {t : TypeId} {v0 v1 : Value} (h : Box2 w b t v0 v1) (o : Obj) : Box2 (w.alloc o) b t v0 v1 := by
  unfold Box2; rw [Below.heap_alloc w o b h.lt]; exact h
theorem Box2.set {w : World} {b : Nat} {t : TypeId} {v0 v1 : Value} (h : Box2 w b t v0 v1) (u0 u1 : Value) : Box2 ((w.setCell ⟨b, 0, none⟩ u0).setCell ⟨b, 1, none⟩ u1) b t u0 u1 := by
  have h1 : (w.setCell ⟨b, 0, none⟩ u0).heap[b]? = some (.cells #[u0, v1] t (0, 0)) := by rw [heap_setCell_same w b 0 _ t u0 h]; rfl
  unfold Box2
  rw [heap_setCell_same _ b 1 _ t u1 h1]; rfl
theorem Box2.below {w w' : World} {b C : Nat} {t : TypeId} {v0 v1 : Value} (h : Box2 w b t v0 v1) (hb : Below C w w') (hC : b < C) : Box2 w' b t v0 v1 := by
  unfold Box2; rw [hb.block b hC]; exact h
theorem Good.set {w u : World} (h : Good w u) (b j : Nat) (v : Value) (hb : w.heap.size ≤ b) : Good w (u.setCell ⟨b, j, none⟩ v) := Below.setCell h (p := ⟨b, j, none⟩) hb v

/-- a graph that is ours: its box and its edges lie in blocks lo .. hi -/
structure GBox (u : World) (lo hi b : Nat) (M : Int) (a : Option Addr) (m c : Nat) (gs : List EdgeV) : Prop where
  box : Box2 u b 26 (.int .i64 M) (.slice a m c)
  own : u.ownsRow lo 28 2 (.slice a m c) m (ecells gs)
  least : lo ≤ b
  most : b < hi
  row : ∀ g, (Value.slice a m c).ownBlock = some g → g < hi
  there : hi ≤ u.heap.size

/-- what lies outside lo .. hi has not turned -/
structure Rng (lo hi : Nat) (u v : World) : Prop where
  os : v.os = u.os
  tape : v.tape = u.tape
  output : v.output = u.output
  size : u.heap.size ≤ v.heap.size
  block : ∀ k, k < u.heap.size → (k < lo ∨ hi ≤ k) → v.heap[k]? = u.heap[k]?

theorem Rng.of_below {u v : World} {lo hi : Nat} (h : Below u.heap.size u v) : Rng lo hi u v := ⟨h.os, h.tape, h.output, h.size, fun k hk _ => h.block k hk⟩
theorem Rng.of_grown {u v : World} {lo hi g : Nat} (h : u.grownBy v (some g)) (h1 : lo ≤ g) (h2 : g < hi) : Rng lo hi u v :=
  ⟨h.os, h.tape, h.output, h.size, fun k hk ho => h.block k hk (by simp; omega)⟩
theorem Rng.below {u v : World} {lo hi B : Nat} (h : Rng lo hi u v) (h1 : B ≤ lo) (h2 : B ≤ u.heap.size) : Below B u v := ⟨h.os, h.tape, h.output, h.size, fun k hk => h.block k (by omega) (.inl (by omega))⟩

theorem GBox.len {u : World} {lo hi b : Nat} {M : Int} {a : Option Addr} {m c : Nat} {gs : List EdgeV} (h : GBox u lo hi b M a m c gs) : gs.length = m := by
  have := h.own.1; rw [ecells_length] at this; omega
theorem GBox.es {u : World} {lo hi b : Nat} {M : Int} {a : Option Addr} {m c : Nat} {gs : List EdgeV} (h : GBox u lo hi b M a m c gs) : Es u u.heap.size a m gs := Es_of_own h.own
theorem GBox.rng {u v : World} {lo hi b l2 h2 : Nat} {M : Int} {a : Option Addr} {m c : Nat} {gs : List EdgeV} (h : GBox u lo hi b M a m c gs) (hr : Rng l2 h2 u v) (ho : hi ≤ l2 ∨ h2 ≤ lo) : GBox v lo hi b M a m c gs := by
  have hth := h.there
  have hb := h.least
  have hb' := h.most
  have g1 : ∀ k, lo ≤ k → k < hi → v.heap[k]? = u.heap[k]? := fun k h3 h4 => hr.block k (by omega) (by omega)
  refine ⟨?_, ?_, hb, hb', h.row, Nat.le_trans hth hr.size⟩
  · unfold Box2; rw [g1 b hb hb']; exact h.box
  · refine ⟨h.own.1, ?_⟩
    rcases h.own.2 with h3 | ⟨g, cap, cur, hv, hg, hcur, hrest⟩
    · exact .inl h3
    · refine .inr ⟨g, cap, cur, hv, hg, ?_, hrest⟩
      rw [g1 g hg (h.row g (by rw [hv]; rfl))]
      exact hcur
theorem GBox.up {u v : World} {lo hi b : Nat} {M : Int} {a : Option Addr} {m c : Nat} {gs : List EdgeV} (h : GBox u lo hi b M a m c gs) (hb : Below u.heap.size u v) : GBox v lo hi b M a m c gs :=
  h.rng (l2 := hi) (h2 := hi) (Rng.of_below hb) (.inl (Nat.le_refl _))
theorem GBox.cells {u : World} {lo hi b : Nat} {M : Int} {a : Option Addr} {m c : Nat} {gs : List EdgeV} (h : GBox u lo hi b M a m c gs) : u.cell? ⟨b, 0, none⟩ = some (.int .i64 M) ∧ u.cell? ⟨b, 1, none⟩ = some (.slice a m c) := ⟨h.box.cell0, h.box.cell1⟩

/-- a graph of lo .. is marked -/
theorem markGB {u : World} {lo hi b : Nat} {M : Int} {a : Option Addr} {m c : Nat} {gs : List EdgeV} (h : GBox u lo hi b M a m c gs) (k0 : Nat) (hm : m ≤ 1048576) (h1 : k0 ≤ 10000000) :
    Calls Try.prog 30 #[.agg #[.int .i64 M, .slice a m c], .int .i64 (k0 : Int)] u fun e v => e = .returned (.int .i64 ((k0 : Int) + (m : Int) * 2)) ∧ GBox v lo hi b M a m c (marks k0 m) ∧ Rng lo hi u v := by
  have hth := h.there
  rcases h.own.2 with ⟨hv, hm0⟩ | ⟨g, cap, cur, hv, hg, hcur, hrest⟩
  · subst hm0
    refine (markGraph_zero M a c (k0 : Int) u).mono fun e v ⟨he, hb⟩ => ⟨by rw [he]; simp, ?_, Rng.of_below hb⟩
    have h2 := h.up hb
    have hg0 : gs = [] := List.length_eq_zero_iff.1 h.len
    subst hg0
    exact h2
  · have hv' := hv
    simp at hv'
    obtain ⟨rfl, rfl⟩ := hv'
    have hgh := h.row g rfl
    refine (markGraph_any M lo g c m k0 gs hm h1 u h.own).mono fun e v ⟨he, ho, hgr⟩ => ⟨he, ?_, Rng.of_grown hgr hg hgh⟩
    by_cases hbg : b = g
    · exfalso
      subst hbg
      have hbx : u.heap[b]? = some (.cells #[.int .i64 M, .slice (some ⟨b, 0, none⟩) m c] 26 (0, 0)) := h.box
      rw [hbx] at hcur
      simp at hcur
    · exact ⟨h.box.grown hgr (by simpa using hbg), ho, h.least, h.most, h.row, Nat.le_trans hth hgr.size⟩
theorem heldGB {u : World} {lo hi b : Nat} {M : Int} {a : Option Addr} {m c : Nat} (k0 : Nat) (h : GBox u lo hi b M a m c (marks k0 m)) (hm : m ≤ 1048576) (h1 : k0 ≤ 10000000) :
    Calls Try.prog 31 #[.agg #[.int .i64 M, .slice a m c], .int .i64 (k0 : Int)] u fun e v => e = .returned (.int .i64 ((k0 : Int) + (m : Int) * 2)) ∧ Below u.heap.size u v :=
  heldGraph_any M m k0 a c hm h1 u h.es
theorem eqGB {u : World} {lo hi b lo' hi' b' : Nat} {M : Int} {a a' : Option Addr} {m c m' c' : Nat} {gs : List EdgeV} (h : GBox u lo hi b M a m c gs) (h' : GBox u lo' hi' b' M a' m' c' gs) (hm : m ≤ 1048576) :
    Calls Try.prog 28 #[.agg #[.int .i64 M, .slice a m c], .agg #[.int .i64 M, .slice a' m' c']] u fun e v => e = .returned (.bool true) ∧ Below u.heap.size u v := by
  have e : m' = m := by rw [← h.len, ← h'.len]
  subst e
  exact eqGraph_same M gs m' a a' c c' hm u h.es h'.es
/-- a graph that a call has made is laid into a box: the box came ahead of the call -/
theorem GBox.stored {u : World} {lo b : Nat} {M : Int} {a : Option Addr} {m c : Nat} {gs : List EdgeV} {v0 v1 : Value} (hb : Box2 u b 26 v0 v1) (hl : lo ≤ b) (ho : u.ownsRow lo 28 2 (.slice a m c) m (ecells gs)) :
    GBox ((u.setCell ⟨b, 0, none⟩ (.int .i64 M)).setCell ⟨b, 1, none⟩ (.slice a m c)) lo ((u.setCell ⟨b, 0, none⟩ (.int .i64 M)).setCell ⟨b, 1, none⟩ (.slice a m c)).heap.size b M a m c gs := by
  have hne : (Value.slice a m c).ownBlock ≠ some b := fun e => by
    rcases ho.2 with ⟨h3, _⟩ | ⟨g, cap, cur, hv, hg, hcur, hrest⟩
    · simp at h3
      obtain ⟨rfl, _⟩ := h3
      cases e
    · simp at hv
      obtain ⟨rfl, rfl⟩ := hv
      have e' : some g = some b := e
      simp at e'
      rw [e'] at hcur
      have hbx : u.heap[b]? = some (.cells #[v0, v1] 26 (0, 0)) := hb
      rw [hbx] at hcur
      simp at hcur
  have ho1 : (u.setCell ⟨b, 0, none⟩ (.int .i64 M)).ownsRow lo 28 2 (.slice a m c) m (ecells gs) := World.ownsRow.kept ho (grownSet u b 0 _) (.inr hne)
  have ho' : ((u.setCell ⟨b, 0, none⟩ (.int .i64 M)).setCell ⟨b, 1, none⟩ (.slice a m c)).ownsRow lo 28 2 (.slice a m c) m (ecells gs) := World.ownsRow.kept ho1 (grownSet _ b 1 _) (.inr hne)
  have hb' := hb.set (.int .i64 M) (.slice a m c)
  exact ⟨hb', ho', hl, hb'.lt, fun g hg => (ho'.lt g hg).2, Nat.le_refl _⟩
/-- .. or comes behind it -/
theorem GBox.laid {u : World} {lo : Nat} {M : Int} {a : Option Addr} {m c : Nat} {gs : List EdgeV} (hl : lo ≤ u.heap.size) (ho : u.ownsRow lo 28 2 (.slice a m c) m (ecells gs)) :
    GBox (u.alloc (.cells #[.int .i64 M, .slice a m c] 26)) lo (u.alloc (.cells #[.int .i64 M, .slice a m c] 26)).heap.size u.heap.size M a m c gs :=
  ⟨Box2.new _ _ _ _ _ rfl, ho.alloc _, hl, by simp, fun g hg => by have := (ho.lt g hg).2; simp; omega, Nat.le_refl _⟩

/-- any box stands behind a call -/
def Keep (u v : World) : Prop := ∀ b t x y, Box2 u b t x y → Box2 v b t x y
theorem Keep.of {u v : World} (h : Below u.heap.size u v) : Keep u v := fun _ _ _ _ hb => hb.below h hb.lt
theorem Keep.nil {u v : World} (h : Keep u v) {b : Nat} (hb : Box2 u b 26 (.int .i64 0) (.slice none 0 0)) : Box2 v b 26 (.int .i64 0) (.slice none 0 0) := h _ _ _ _ hb
theorem own_up {w w' : World} {B e s n : Nat} {v : Value} {xs : List Value} (h : w.ownsRow B e s v n xs) (hb : Below w.heap.size w w') : w'.ownsRow B e s v n xs :=
  World.ownsRow.kept h (grown_of_below hb none) (by cases hv : v.ownBlock <;> simp)

/-- a graph is made of what came in -/
theorem toGraph_G (N : Int) (fs : List EdgeV) (n : Nat) (a : Option Addr) (c : Nat) (hn : n ≤ 1048576) {u0 u : World} (hf : Es u0 u0.heap.size a n fs) (h : Good u0 u) :
    Calls Try.prog 27 #[.agg #[.int .i64 N, .slice a n c]] u fun e v => ∃ g, e = .returned (.agg #[.int .i64 N, .slice (some ⟨g, 0, none⟩) n n]) ∧ v.ownsRow u0.heap.size 28 2 (.slice (some ⟨g, 0, none⟩) n n) n (ecells fs) ∧ Good u0 v ∧ Keep u v :=
  (toGraph_any N fs n a c hn u (h.es hf)).mono fun _ _ ⟨g, he, ho, hb⟩ => ⟨g, he, own_mono ho h.size, h.up hb, Keep.of hb⟩
theorem toEdge_G (x : EdgeV) {u0 u : World} (h : Good u0 u) {B m cc : Nat} {aa : Option Addr} {ds : List EdgeV} (ho : u.ownsRow B 28 2 (.slice aa m cc) m (ecells ds)) :
    Calls Try.prog 25 #[.agg #[.int .i64 x.1, .int .i64 x.2]] u fun e v => e = .returned (.agg #[.int .i64 x.1, .int .i64 x.2]) ∧ v.ownsRow B 28 2 (.slice aa m cc) m (ecells ds) ∧ Good u0 v ∧ Keep u v :=
  (toEdge_any x u).mono fun _ _ ⟨he, hb⟩ => ⟨he, own_up ho hb, h.up hb, Keep.of hb⟩
/-- what is asked of either side -/
theorem ans_G {F : Nat} {N : Int} {fs : List EdgeV} {n : Nat} {x : EdgeV} {o : Option (List EdgeV)}
    (H : ∀ (g : Nat) (w : World) (_ : Es w w.heap.size (some ⟨g, 0, none⟩) n fs), Calls Try.prog F #[.agg #[.int .i64 N, .slice (some ⟨g, 0, none⟩) n n], .agg #[.int .i64 x.1, .int .i64 x.2]] w (GAns w N o))
    {u0 u : World} (h : Good u0 u) {B g : Nat} (ho : u.ownsRow B 28 2 (.slice (some ⟨g, 0, none⟩) n n) n (ecells fs)) :
    Calls Try.prog F #[.agg #[.int .i64 N, .slice (some ⟨g, 0, none⟩) n n], .agg #[.int .i64 x.1, .int .i64 x.2]] u fun e v => ∃ aw mw cw, e = .returned (.tuple #[.agg #[.int .i64 (if o.isSome then N else 0), .slice aw mw cw], .bool o.isSome]) ∧ v.ownsRow u0.heap.size 28 2 (.slice aw mw cw) mw (ecells (o.getD [])) ∧ Good u0 v ∧ Keep u v :=
  (H g u (Es_of_own ho)).mono fun _ _ ⟨aw, mw, cw, he, hw, hb⟩ => ⟨aw, mw, cw, he, own_mono hw h.size, h.up hb, Keep.of hb⟩

/-- the world behind the law's two boxes -/
def lw (w : World) (N : Int) (a : Option Addr) (n c : Nat) (x : EdgeV) : World := (w.alloc (.cells #[.int .i64 N, .slice a n c] 47)).alloc (.cells #[.int .i64 x.1, .int .i64 x.2] 42)
theorem lw_size (w : World) (N : Int) (a : Option Addr) (n c : Nat) (x : EdgeV) : (lw w N a n c x).heap.size = w.heap.size + 2 := by simp [lw]
/-- nothing of these has turned -/
def LG (w : World) (N : Int) (a : Option Addr) (n c : Nat) (x : EdgeV) (u : World) : Prop := Below (w.heap.size + 2) (lw w N a n c x) u
theorem LG.start (w : World) (N : Int) (a : Option Addr) (n c : Nat) (x : EdgeV) : LG w N a n c x (lw w N a n c x) := Below.refl _ _
theorem LG.size {w : World} {N : Int} {a : Option Addr} {n c : Nat} {x : EdgeV} {u : World} (h : LG w N a n c x u) : w.heap.size + 2 ≤ u.heap.size := by have := Below.size h; rw [lw_size] at this; exact this
theorem LG.up {w : World} {N : Int} {a : Option Addr} {n c : Nat} {x : EdgeV} {u v : World} (h : LG w N a n c x u) (hb : Below u.heap.size u v) : LG w N a n c x v := Below.trans h (hb.mono h.size)
theorem LG.good {w : World} {N : Int} {a : Option Addr} {n c : Nat} {x : EdgeV} {u v : World} (h : LG w N a n c x u) (hb : Good u v) : LG w N a n c x v := h.up hb
theorem LG.rng {w : World} {N : Int} {a : Option Addr} {n c : Nat} {x : EdgeV} {u v : World} {lo hi : Nat} (h : LG w N a n c x u) (hr : Rng lo hi u v) (hl : w.heap.size + 2 ≤ lo) : LG w N a n c x v := Below.trans h (hr.below hl h.size)
theorem LG.below {w : World} {N : Int} {a : Option Addr} {n c : Nat} {x : EdgeV} {u : World} (h : LG w N a n c x u) : Below w.heap.size w u :=
  (((Below.refl w.heap.size w).alloc (Nat.le_refl _) _).alloc (by simp) _).trans (Below.mono h (by omega))
theorem LG.es {w : World} {N : Int} {a : Option Addr} {n c : Nat} {x : EdgeV} {u : World} {fs : List EdgeV} (h : LG w N a n c x u) (hf : Es w w.heap.size a n fs) : Es u u.heap.size a n fs := hf.up h.below
theorem LG.cells {w : World} {N : Int} {a : Option Addr} {n c : Nat} {x : EdgeV} {u : World} (h : LG w N a n c x u) :
    (u.cell? ⟨w.heap.size, 0, none⟩ = some (.int .i64 N) ∧ u.cell? ⟨w.heap.size, 1, none⟩ = some (.slice a n c)) ∧ u.cell? ⟨w.heap.size + 1, 0, none⟩ = some (.int .i64 x.1) ∧ u.cell? ⟨w.heap.size + 1, 1, none⟩ = some (.int .i64 x.2) := by
  refine ⟨⟨?_, ?_⟩, ?_, ?_⟩
  · rw [Below.cell h (by show w.heap.size < _; omega)]; simp [lw, go_sem]
  · rw [Below.cell h (by show w.heap.size < _; omega)]; simp [lw, go_sem]
  · rw [Below.cell h (by show w.heap.size + 1 < _; omega)]; simp [lw, go_sem]
  · rw [Below.cell h (by show w.heap.size + 1 < _; omega)]; simp [lw, go_sem]
end Go.Proofs.Ytfkoddhojcjohaa
