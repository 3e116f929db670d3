/- Where a law over webs stands that looks at fresh memory: webs in ranges of blocks of their own. slices.Concat of edges with levels. The specification's l08Put. The library's comparisons; the program's compareEdges. The program's EdgeOk. Right graphs, as lists. -/
import Derived.Test.YtgjnlhdgekfieaaGreatKBx7
import Derived.Lib.AppendZerosOnto
import Derived.Lib.Walk
import Derived.Lib.SliceRun
import Derived.Laws.AppendOwnNone
import Derived.Deep.AppendLies
namespace Go.Proofs.YtgjnlhdgekfieaaGreat
open Go.RowKit

/-- a struct of a number and a list that is ours: its box and its list lie in blocks lo .. hi -/
structure PBox (u : World) (lo hi b : Nat) (t e s : Nat) (M : Int) (a : Option Addr) (m c : Nat) (xs : List Value) : Prop where
  box : Box7 u b t (.int .i64 M) (.slice a m c)
  own : u.ownsRow lo e s (.slice a m c) m xs
  least : lo ≤ b
  most : b < hi
  row : ∀ g, (Value.slice a m c).ownBlock = some g → g < hi
  there : hi ≤ u.heap.size
theorem PBox.rng {u v : World} {lo hi b l2 h2 t e s : Nat} {M : Int} {a : Option Addr} {m c : Nat} {xs : List Value} (h : PBox u lo hi b t e s M a m c xs) (hr : Rng l2 h2 u v) (ho : hi ≤ l2 ∨ h2 ≤ lo) : PBox v lo hi b t e s M a m c xs := by
  have hth := h.there
  have hb := h.least
  have hb' := h.most
  have g1 : ∀ k, lo ≤ k → k < hi → v.heap[k]? = u.heap[k]? := fun k h3 h4 => hr.block k (by omega) (by omega)
  refine ⟨?_, ?_, hb, hb', h.row, Nat.le_trans hth hr.size⟩
  · unfold Box7; rw [g1 b hb hb']; exact h.box
  · refine ⟨h.own.1, ?_⟩
    rcases h.own.2 with h3 | ⟨g, cap, cur, hv, hg, hcur, hrest⟩
    · exact .inl h3
    · refine .inr ⟨g, cap, cur, hv, hg, ?_, hrest⟩
      rw [g1 g hg (h.row g (by rw [hv]; rfl))]
      exact hcur
theorem PBox.up {u v : World} {lo hi b t e s : Nat} {M : Int} {a : Option Addr} {m c : Nat} {xs : List Value} (h : PBox u lo hi b t e s M a m c xs) (hb : Below u.heap.size u v) : PBox v lo hi b t e s M a m c xs :=
  h.rng (l2 := hi) (h2 := hi) (Rng.of_below hb) (.inl (Nat.le_refl _))
theorem PBox.cells {u : World} {lo hi b t e s : Nat} {M : Int} {a : Option Addr} {m c : Nat} {xs : List Value} (h : PBox u lo hi b t e s M a m c xs) : u.cell? ⟨b, 0, none⟩ = some (.int .i64 M) ∧ u.cell? ⟨b, 1, none⟩ = some (.slice a m c) := ⟨h.box.cell0, h.box.cell1⟩
theorem PBox.laid {u : World} {lo t e s : Nat} {M : Int} {a : Option Addr} {m c : Nat} {xs : List Value} (hl : lo ≤ u.heap.size) (ho : u.ownsRow lo e s (.slice a m c) m xs) :
    PBox (u.alloc (.cells #[.int .i64 M, .slice a m c] t)) lo (u.alloc (.cells #[.int .i64 M, .slice a m c] t)).heap.size u.heap.size t e s M a m c xs :=
  ⟨Box7.new _ _ _ _ _ rfl, ho.alloc _, hl, by simp, fun g hg => by have := (ho.lt g hg).2; simp; omega, Nat.le_refl _⟩
theorem PBox.ne {u : World} {lo hi b t e s : Nat} {M : Int} {a : Option Addr} {m c : Nat} {xs : List Value} (h : PBox u lo hi b t e s M a m c xs) (hte : t ≠ e) : ∀ g, (Value.slice a m c).ownBlock = some g → b ≠ g := fun g hg e2 => by
  rcases h.own.2 with ⟨h3, _⟩ | ⟨g2, cap, cur, hv, hg2, hcur, hrest⟩
  · simp at h3
    rw [h3.1] at hg
    simp [Value.ownBlock] at hg
  · simp only [Value.slice.injEq] at hv
    rw [hv.1] at hg
    simp [Value.ownBlock] at hg
    subst hg
    have hbx : u.heap[b]? = some (.cells #[.int .i64 M, .slice a m c] t (0, 0)) := h.box
    rw [e2, hcur] at hbx
    simp at hbx
    exact hte hbx.2.symm
/-- the list is turned, the box stays -/
theorem PBox.turned {u v : World} {lo hi b t e s : Nat} {M : Int} {a : Option Addr} {m c : Nat} {xs ys : List Value} (h : PBox u lo hi b t e s M a m c xs) (hte : t ≠ e) {g : Nat} (hg : (Value.slice a m c).ownBlock = some g) (ho : v.ownsRow lo e s (.slice a m c) m ys) (hgr : u.grownBy v (some g)) : PBox v lo hi b t e s M a m c ys ∧ Rng lo hi u v :=
  ⟨⟨h.box.grown hgr (by have := h.ne hte g hg; simpa using this), ho, h.least, h.most, h.row, Nat.le_trans h.there hgr.size⟩, Rng.of_grown hgr (h.own.lt g hg).1 (h.row g hg)⟩
/-- a web of lo .. is marked -/
theorem markWB {u : World} {lo hi b : Nat} {M : Int} {a : Option Addr} {m c : Nat} {ls : List Ld} (h : PBox u lo hi b 26 52 4 M a m c (lcells ls)) (k0 : Nat) (hm : m ≤ 1048576) (h1 : k0 ≤ 10000000) :
    Calls Tryz.prog 54 #[.agg #[.int .i64 M, .slice a m c], .int .i64 (k0 : Int)] u fun e v => e = .returned (.int .i64 ((k0 : Int) + (m : Int) * 4)) ∧ PBox v lo hi b 26 52 4 M a m c (lcells (lmarks k0 m)) ∧ Rng lo hi u v := by
  rcases h.own.2 with ⟨hv, hm0⟩ | ⟨g, cap, cur, hv, hg, hcur, hrest⟩
  · subst hm0
    refine (markWeb_zero M a c (k0 : Int) u).mono fun e v ⟨he, hb⟩ => ⟨by rw [he]; simp, ?_, Rng.of_below hb⟩
    have h2 := h.up hb
    have hl := h.own.1
    rw [lcells_length] at hl
    have hg0 : ls = [] := List.length_eq_zero_iff.1 (by omega)
    subst hg0
    exact h2
  · have hv' := hv
    simp at hv'
    obtain ⟨rfl, rfl⟩ := hv'
    refine (markWeb_any M lo g c m k0 ls hm h1 u h.own).mono fun e v ⟨he, ho, hgr⟩ => ?_
    obtain ⟨p1, p2⟩ := h.turned (by decide) (g := g) rfl ho hgr
    exact ⟨he, p1, p2⟩
theorem heldWB {u : World} {lo hi b : Nat} {M : Int} {a : Option Addr} {m c : Nat} (k0 : Nat) (h : PBox u lo hi b 26 52 4 M a m c (lcells (lmarks k0 m))) (hm : m ≤ 1048576) (h1 : k0 ≤ 10000000) :
    Calls Tryz.prog 55 #[.agg #[.int .i64 M, .slice a m c], .int .i64 (k0 : Int)] u fun e v => e = .returned (.int .i64 ((k0 : Int) + (m : Int) * 4)) ∧ Below u.heap.size u v :=
  heldWeb_any M m k0 a c hm h1 u (Ls_of_own h.own)
theorem eqWB {u : World} {lo hi b lo' hi' b' : Nat} {M : Int} {a a' : Option Addr} {m c m' c' : Nat} {ls : List Ld} (h : PBox u lo hi b 26 52 4 M a m c (lcells ls)) (h' : PBox u lo' hi' b' 26 52 4 M a' m' c' (lcells ls)) (hm : m ≤ 1048576) :
    Calls Tryz.prog 52 #[.agg #[.int .i64 M, .slice a m c], .agg #[.int .i64 M, .slice a' m' c']] u fun e v => e = .returned (.bool true) ∧ Below u.heap.size u v := by
  have h1 := h.own.1
  have h2 := h'.own.1
  rw [lcells_length] at h1 h2
  have e : m' = m := by omega
  subst e
  exact eqWeb_same M ls m' a a' c c' hm u (Ls_of_own h.own) (Ls_of_own h'.own)
/-- nothing of the law's own box has turned -/
def LWx (w : World) (N : Int) (a : Option Addr) (n c : Nat) : World := w.alloc (.cells #[.int .i64 N, .slice a n c] 84)
theorem LWx_size (w : World) (N : Int) (a : Option Addr) (n c : Nat) : (LWx w N a n c).heap.size = w.heap.size + 1 := by simp [LWx]
def LW (w : World) (N : Int) (a : Option Addr) (n c : Nat) (u : World) : Prop := Below (w.heap.size + 1) (LWx w N a n c) u
theorem LW.start (w : World) (N : Int) (a : Option Addr) (n c : Nat) : LW w N a n c (LWx w N a n c) := Below.refl _ _
theorem LW.size {w : World} {N : Int} {a : Option Addr} {n c : Nat} {u : World} (h : LW w N a n c u) : w.heap.size + 1 ≤ u.heap.size := by have := Below.size h; rw [LWx_size] at this; exact this
theorem LW.up {w : World} {N : Int} {a : Option Addr} {n c : Nat} {u v : World} (h : LW w N a n c u) (hb : Below u.heap.size u v) : LW w N a n c v := Below.trans h (hb.mono h.size)
theorem LW.rng {w : World} {N : Int} {a : Option Addr} {n c : Nat} {u v : World} {lo hi : Nat} (h : LW w N a n c u) (hr : Rng lo hi u v) (hl : w.heap.size + 1 ≤ lo) : LW w N a n c v := Below.trans h (hr.below hl h.size)
theorem LW.below {w : World} {N : Int} {a : Option Addr} {n c : Nat} {u : World} (h : LW w N a n c u) : Below w.heap.size w u :=
  ((Below.refl w.heap.size w).alloc (Nat.le_refl _) _).trans (Below.mono h (by omega))
theorem LW.ls {w : World} {N : Int} {a : Option Addr} {n c : Nat} {u : World} {ls : List Ld} (h : LW w N a n c u) (hf : Ls w w.heap.size a n ls) : Ls u u.heap.size a n ls := hf.up h.below
theorem LW.cells {w : World} {N : Int} {a : Option Addr} {n c : Nat} {u : World} (h : LW w N a n c u) : u.cell? ⟨w.heap.size, 0, none⟩ = some (.int .i64 N) ∧ u.cell? ⟨w.heap.size, 1, none⟩ = some (.slice a n c) := by
  refine ⟨?_, ?_⟩
  · rw [Below.cell h (by show w.heap.size < _; omega)]; simp [LWx]
  · rw [Below.cell h (by show w.heap.size < _; omega)]; simp [LWx]
end Go.Proofs.YtgjnlhdgekfieaaGreat
namespace Go.Proofs.YtgjnlhdgekfieaaGreat
open Go.RowKit

theorem GrowL_zero (w : World) : Calls Tryz.prog 142 #[.slice none 0 0, .int .i64 0] w fun e w' => e = .returned (.slice none 0 0) ∧ w' = w := by
  go_enter Tryz.func142, Tryz.ntmps142
  go_wp2
  go_ret
  exact ⟨rfl, rfl⟩
theorem GrowL_some (n : Nat) (hn0 : 0 < n) (hn : n ≤ 10000000) (w : World) :
    Calls Tryz.prog 142 #[.slice none 0 0, .int .i64 (n : Int)] w fun e w' => ∃ a' c', e = .returned (.slice a' 0 c') ∧ w'.ownsRow w.heap.size 52 4 (.slice a' 0 c') 0 [] ∧ Below w.heap.size w w' := by
  obtain ⟨i0, hi, hz0, hz1, hz2⟩ := info_parts infoIL
  have hold : (Builtin.firstCells i0.size 0 (.slice none 0 0)).run Tryz.prog w.drew = .ok ([] : List Value).toArray w.drew := run_firstCells_none w.drew i0.size 0 0 0
  have hrz : ∀ ty, (Builtin.append_ #[24, 3] ty #[.slice none 0 0, .int .i64 (n : Int)]).run Tryz.prog w = _ := fun ty =>
    Lib.run_append_grow_zeros w 24 3 ty 52 i0 _ .i64 .i64 Tryz.underlying24 Tryz.underlying3 hi hz0 none 0 0 [] hold n hn0 (by rw [hz1]; omega) (by omega) (by omega)
      (by rw [hz2]; omega) (by rw [Nat.zero_add]; exact growslice_fits (by omega) (by rw [hz2]; omega))
  have hGn : 0 + n ≤ grownCap w (0 + n) 0 52 := grownCap_ge w _ _ _
  have hGm : grownCap w (0 + n) 0 52 ≤ maxLen := grownCap_le_maxLen w (0 + n) 0 52 (by unfold maxLen; omega)
  obtain ⟨G, hG⟩ : ∃ G, G = grownCap w (0 + n) 0 52 := ⟨_, rfl⟩
  rw [← hG] at hGn hGm
  have hrz2 : ∀ ty, (Builtin.append_ #[24, 3] ty #[.slice none 0 0, .int .i64 (n : Int)]).run Tryz.prog w = .ok (.slice (some ⟨w.heap.size, 0, none⟩) n G) (w.drew.alloc (.cells (Builtin.zeroCells #[.int .i64 0, .int .i64 0, .int .i64 0, .bool false] n ++ Builtin.zeroCells #[.int .i64 0, .int .i64 0, .int .i64 0, .bool false] (G - n)) 52)) := fun ty => by
    rw [hrz ty, ← hG]
    simp [Value.cells]
  have hsz : (Builtin.zeroCells #[.int .i64 0, .int .i64 0, .int .i64 0, .bool false] n ++ Builtin.zeroCells #[.int .i64 0, .int .i64 0, .int .i64 0, .bool false] (G - n)).size = G * 4 := by
    simp [Builtin.zeroCells]
    omega
  have HO := hideIt (show (w.drew.alloc (.cells (Builtin.zeroCells #[.int .i64 0, .int .i64 0, .int .i64 0, .bool false] n ++ Builtin.zeroCells #[.int .i64 0, .int .i64 0, .int .i64 0, .bool false] (G - n)) 52)).ownsRow w.heap.size 52 4 (.slice (some ⟨w.heap.size, 0, none⟩) 0 G) 0 [] from
    ⟨rfl, .inr ⟨w.heap.size, G, _, rfl, Nat.le_refl _, heap_alloc_new w.drew _, by omega, hGm, hsz, rfl⟩⟩)
  have HB := hideIt (show Below w.heap.size w (w.drew.alloc (.cells (Builtin.zeroCells #[.int .i64 0, .int .i64 0, .int .i64 0, .bool false] n ++ Builtin.zeroCells #[.int .i64 0, .int .i64 0, .int .i64 0, .bool false] (G - n)) 52)) from (Below.refl _ _).drew.alloc (Nat.le_refl _) _)
  generalize (w.drew.alloc (.cells (Builtin.zeroCells #[.int .i64 0, .int .i64 0, .int .i64 0, .bool false] n ++ Builtin.zeroCells #[.int .i64 0, .int .i64 0, .int .i64 0, .bool false] (G - n)) 52)) = W at hrz2 HO HB
  have g1 : (0 : Int) ≤ (G : Int) := by omega
  have d0 : decide ((0 : Int) < (n : Int)) = true := decide_eq_true (by omega)
  have d1 : decide ((n : Int) < 0) = false := decide_eq_false (by omega)
  unfold maxLen at hGm
  clear hrz hold hG hsz
  go_enter Tryz.func142, Tryz.ntmps142
  go_wp2_with (at_builtin; refine Lib.wpList_append_run _ rfl _ _ _ _ rfl _ _ rfl rfl _ _ (hrz2 _) ?_)
  all_goals
    go_ret
    exact ⟨_, _, rfl, HO.out, HB.out⟩
/-- one of the lists that are put together -/
structure PartL where
  a : Option Addr
  m : Nat
  c : Nat
  es : List Ld
/-- the lists stand in block b -/
def PartsL (w : World) (b : Nat) (ps : List PartL) : Prop :=
  b < w.heap.size ∧ ∀ (j : Nat) (p : PartL), ps[j]? = some p → w.cell? ⟨b, j, none⟩ = some (.slice p.a p.m p.c) ∧ Ls w w.heap.size p.a p.m p.es ∧ (p.a = none → p.m = 0 ∧ p.c = 0)
def pLenL (ps : List PartL) : Nat := (ps.map fun p => p.m).sum
def pAllL (ps : List PartL) : List Ld := ps.flatMap fun p => p.es
theorem pLenL_snoc (ps : List PartL) (p : PartL) : pLenL (ps ++ [p]) = pLenL ps + p.m := by simp [pLenL]
theorem pAllL_snoc (ps : List PartL) (p : PartL) : pAllL (ps ++ [p]) = pAllL ps ++ p.es := by simp [pAllL]
theorem pLenL_take (ps : List PartL) (k : Nat) : pLenL (ps.take k) ≤ pLenL ps := by
  have h := congrArg pLenL (List.take_append_drop k ps)
  have e : ∀ a b : List PartL, pLenL (a ++ b) = pLenL a + pLenL b := fun a b => by simp [pLenL]
  rw [e] at h
  omega
theorem pAllL_len {w : World} {b : Nat} {ps : List PartL} (h : PartsL w b ps) (k : Nat) : (pAllL (ps.take k)).length = pLenL (ps.take k) := by
  induction k with
  | zero => simp [pAllL, pLenL]
  | succ k ih =>
    by_cases hk : k < ps.length
    · obtain ⟨p, hp⟩ : ∃ p, ps[k]? = some p := ⟨ps[k], List.getElem?_eq_getElem hk⟩
      rw [take_snocF ps k p hp, pAllL_snoc, pLenL_snoc, List.length_append, ih, (h.2 k p hp).2.1.1]
    · rw [List.take_of_length_le (by omega), ← List.take_of_length_le (by omega : ps.length ≤ k)]; exact ih
theorem Ls.news {w : World} {B b off n : Nat} {ls : List Ld} (h : Ls w B (some ⟨b, off, none⟩) n ls) : ∀ j u, (lcells ls)[j]? = some u → w.cell? ((⟨b, off, none⟩ : Addr).add j) = some u := by
  intro j u hj
  have hl : j < ls.length * 4 := by have := (List.getElem?_eq_some_iff.1 hj).1; rw [lcells_length] at this; exact this
  have hn := h.1
  rcases h.2 with h0 | ⟨b', off', hb, _, hc⟩
  · omega
  · simp at hb
    obtain ⟨rfl, rfl⟩ := hb
    obtain ⟨f, hf⟩ : ∃ f, ls[j / 4]? = some f := ⟨ls[j / 4]'(by omega), List.getElem?_eq_getElem (by omega)⟩
    obtain ⟨c0, c1, c2, c3⟩ := hc _ f hf
    obtain ⟨d0, d1, d2, d3⟩ := lcells_at ls _ f hf
    rw [show ((⟨b, off, none⟩ : Addr).add j) = ⟨b, off + j, none⟩ by by_cases h0 : j = 0 <;> simp [Addr.add, h0]]
    rcases (show j = j / 4 * 4 ∨ j = j / 4 * 4 + 1 ∨ j = j / 4 * 4 + 2 ∨ j = j / 4 * 4 + 3 by omega) with e | e | e | e
    · rw [← e] at d0 c0
      rw [d0] at hj
      rw [c0]
      exact hj
    · rw [← e] at d1
      rw [Nat.add_assoc, ← e] at c1
      rw [d1] at hj
      rw [c1]
      exact hj
    · rw [← e] at d2
      rw [Nat.add_assoc, ← e] at c2
      rw [d2] at hj
      rw [c2]
      exact hj
    · rw [← e] at d3
      rw [Nat.add_assoc, ← e] at c3
      rw [d3] at hj
      rw [c3]
      exact hj
theorem lcells_one {ls : List Ld} : ∀ u ∈ lcells ls, u.oneCell' = true := by
  intro u hu
  simp only [lcells, List.mem_flatMap] at hu
  obtain ⟨e, _, he⟩ := hu
  simp [lcell] at he
  rcases he with rfl | rfl | rfl | rfl <;> rfl
theorem Ls.take {w : World} {B : Nat} {a : Option Addr} {n : Nat} {ls : List Ld} (h : Ls w B a n ls) {k : Nat} (hk : k ≤ n) : Ls w B a k (ls.take k) := by
  have hl := h.1
  refine ⟨by rw [List.length_take]; omega, ?_⟩
  rcases h.2 with h0 | ⟨b, off, ha, hb, hc⟩
  · exact .inl (by omega)
  · refine .inr ⟨b, off, ha, hb, fun j e he => hc j e ?_⟩
    have hj : j < k := by have := (List.getElem?_eq_some_iff.1 he).1; rw [List.length_take] at this; omega
    rw [List.getElem?_take_of_lt hj] at he
    exact he
theorem Ls.drop {w : World} {B b off n : Nat} {ls : List Ld} (h : Ls w B (some ⟨b, off, none⟩) n ls) (k : Nat) (hk : k ≤ n) : Ls w B (some ⟨b, off + k * 4, none⟩) (n - k) (ls.drop k) := by
  have hl := h.1
  refine ⟨by rw [List.length_drop]; omega, ?_⟩
  rcases h.2 with h0 | ⟨b', off', hb, hbl, hc⟩
  · exact .inl (by omega)
  · simp at hb
    obtain ⟨rfl, rfl⟩ := hb
    refine .inr ⟨b, _, rfl, hbl, fun j e he => ?_⟩
    rw [List.getElem?_drop] at he
    have := hc (k + j) e he
    rw [show off + k * 4 + j * 4 = off + (k + j) * 4 by omega]
    exact this
theorem Ls.single {w u : World} {x : Ld} (hu : u = w.alloc (.cells #[.int .i64 x.a, .int .i64 x.b, .int .i64 x.l, .bool x.t] 52)) : Ls u u.heap.size (some ⟨w.heap.size, 0, none⟩) 1 [x] := by
  subst hu
  refine ⟨rfl, .inr ⟨w.heap.size, 0, rfl, by simp, fun j e he => ?_⟩⟩
  rcases j with _ | j
  · simp at he
    subst he
    exact ⟨by simp, by simp, by simp, by simp⟩
  · simp at he
set_option maxRecDepth 100000 in
set_option maxHeartbeats 2000000 in
theorem ConcatL_any (ps : List PartL) (b k0 : Nat) (hk0 : ps.length = k0) (hsm : k0 ≤ 10) (w : World) (h : PartsL w b ps) (hlen : pLenL ps ≤ 3000000) :
    Calls Tryz.prog 77 #[.slice (some ⟨b, 0, none⟩) k0 k0] w fun e w' => ∃ a m c, e = .returned (.slice a m c) ∧ w'.ownsRow w.heap.size 52 4 (.slice a m c) m (lcells (pAllL ps)) ∧ Below w.heap.size w w' := by
  obtain ⟨i0, hi, hz0, hz1, hz2⟩ := info_parts infoIL
  have HP := hideIt h
  have HL := hideIt hlen
  have HK := hideIt hk0
  have hbw := h.1
  clear h hlen hk0
  have HG : Hid (∀ n : Nat, n ≤ 3000000 → Calls Tryz.prog 142 #[.slice none 0 0, .int .i64 (n : Int)] w fun e w' => ∃ a' c', e = .returned (.slice a' 0 c') ∧ w'.ownsRow w.heap.size 52 4 (.slice a' 0 c') 0 [] ∧ Below w.heap.size w w') := fun n hn => by
    by_cases h0 : n = 0
    · subst h0
      exact (GrowL_zero w).mono fun _ _ ⟨he, hw⟩ => ⟨_, _, he, by rw [hw]; exact World.ownsRow_nil _ _ _ _, by rw [hw]; exact Below.refl _ _⟩
    · exact GrowL_some n (by omega) (by omega) w
  go_enter Tryz.func77, Tryz.ntmps77
  go_wp2
  go_loopw [3, 11] (fun s i wr => ∃ (k q : Nat), k ≤ k0 ∧ i = .int .i64 (k : Int) ∧ s = .int .i64 (q : Int) ∧ Hid (q = pLenL (ps.take k)) ∧ q ≤ 3000000 ∧ wr = w) (fun _ i _ => k0 - (intOf i).toNat)
  case atStart => exact ⟨0, 0, by omega, rfl, rfl, by show _ = _; simp [pLenL], by omega, rfl⟩
  case round =>
    obtain ⟨k, q, hk, rfl, rfl, hq, hq1, hw⟩ := hrel
    have hw' := hw.symm
    subst hw'
    clear hw
    by_cases hlt : k < k0
    · obtain ⟨p, hp⟩ : ∃ p, ps[k]? = some p := ⟨ps[k]'(by have := HK.out; omega), List.getElem?_eq_getElem _⟩
      obtain ⟨c0, _, _⟩ := HP.out.2 k p hp
      have HQ : Hid (q + p.m = pLenL (ps.take (k + 1))) := by show _ = _; rw [take_snocF ps k p hp, pLenL_snoc, hq.out]
      have hqm : q + p.m ≤ 3000000 := by have := HQ.out; have := pLenL_take ps (k + 1); have := HL.out; omega
      have b1 : (0 : Int) ≤ (k : Int) := by omega
      have b2 : (k : Int) < (k0 : Int) := by omega
      clear hq hp
      go_wp2
      exact ⟨⟨k + 1, q + p.m, by omega, by go_num, by go_num, HQ, hqm, by first | trivial | rfl⟩, by simp [intOf]; omega⟩
    · obtain rfl : k = k0 := by omega
      have HQ : Hid (q = pLenL ps) := by show _ = _; rw [hq.out, List.take_of_length_le (by have := HK.out; omega)]
      clear hq
      have HG1 := hideIt (HG.out q hq1)
      clear HG
      go_wp2_with (go_at_call 142; refine HG1.out.mono ?_; rintro e w1 ⟨a1, c1, rfl, hown1, hb1⟩; refine Hid.out ?_)
      refine (show ∀ {p : Prop}, p → Hid p from fun h => h) ?_
      clear HG1
      have HO1 := hideIt hown1
      clear hown1
      go_wp2
      go_loopw [6, 27] (fun v i wr => ∃ (j m : Nat) (a' : Option Addr) (c' : Nat), j ≤ k ∧ i = .int .i64 (j : Int) ∧ v = .slice a' m c' ∧ Hid (m = pLenL (ps.take j)) ∧ wr.ownsRow w.heap.size 52 4 (.slice a' m c') m (lcells (pAllL (ps.take j))) ∧ Below w.heap.size w wr) (fun _ i _ => k - (intOf i).toNat)
      case atStart => exact ⟨0, 0, a1, c1, by omega, rfl, rfl, by show _ = _; simp [pLenL], by simpa [pAllL, lcells] using HO1.out, hb1⟩
      case round =>
        obtain ⟨j, m, a', c', hj, rfl, rfl, hm, hown, hb⟩ := hrel
        by_cases hlt2 : j < k
        · obtain ⟨p, hp⟩ : ∃ p, ps[j]? = some p := ⟨ps[j]'(by have := HK.out; omega), List.getElem?_eq_getElem _⟩
          obtain ⟨c0, hes, hnil⟩ := HP.out.2 j p hp
          have c1 : wr.cell? ⟨b, j, none⟩ = some (.slice p.a p.m p.c) := by rw [hb.cell hbw]; exact c0
          have HM : Hid (m + p.m = pLenL (ps.take (j + 1))) := by show _ = _; rw [take_snocF ps j p hp, pLenL_snoc, hm.out]
          have HA : Hid (lcells (pAllL (ps.take (j + 1))) = lcells (pAllL (ps.take j)) ++ lcells p.es) := by show _ = _; rw [take_snocF ps j p hp, pAllL_snoc, lcells_append]
          have hmp : m + p.m ≤ 3000000 := by have := HM.out; have := pLenL_take ps (j + 1); have := HL.out; omega
          have b1 : (0 : Int) ≤ (j : Int) := by omega
          have b2 : (j : Int) < (k : Int) := by omega
          have hesw := (hes.below hb (Nat.le_refl _)).mono hb.size
          have hl2 : (lcells p.es).length = p.m * 4 := by rw [lcells_length, hes.1]
          obtain ⟨pa, pm, pc, pes⟩ := p
          dsimp only at *
          clear hm hp c0 hes
          cases pa with
          | none =>
            obtain ⟨rfl, rfl⟩ := hnil rfl
            have HO2 : Hid (wr.ownsRow w.heap.size 52 4 (.slice a' m c') m (lcells (pAllL (ps.take (j + 1))))) := by
              have e0 : pes = [] := List.length_eq_zero_iff.1 hesw.1
              show World.ownsRow _ _ _ _ _ _ _
              rw [HA.out, e0]
              simpa [lcells] using hown
            clear hnil
            go_wp2_with (at_builtin; refine wpList_append_own_none rfl _ _ 24 rfl w.heap.size 52 i0 4 Tryz.underlying24 hi _ _ _ rfl hown rfl ?_)
            exact ⟨⟨j + 1, m, a', c', by omega, by go_num, rfl, HM, HO2.out, hb⟩, by simp [intOf]; omega⟩
          | some ad =>
            have hnews : ∀ q u, (lcells pes)[q]? = some u → wr.cell? (ad.add q) = some u := by
              rcases hesw.2 with h0 | ⟨bb, oo, hbb, _⟩
              · intro q u hq
                have e0 : pes = [] := List.length_eq_zero_iff.1 (by rw [hesw.1]; exact h0)
                rw [e0] at hq
                simp [lcells] at hq
              · simp at hbb
                subst hbb
                exact hesw.news
            clear hnil
            go_wp2_with (at_builtin; refine wpList_append_own _ rfl _ _ 24 rfl w.heap.size 52 i0 _ 4 32 Tryz.underlying24 hi hz0 hz1 hz2 rfl (by decide) _ _ _ rfl hown ad pm pc (lcells pes) rfl hl2 hnews lcells_one (by unfold maxLen; omega) (by omega) hb.size ?_)
            intro v1 w1 hown1 hg1 hn1
            have hb1 : Below w.heap.size w w1 := hb.grown hg1 hb.size (fun q hq => (hown.lt q hq).1)
            rw [← HA.out] at hown1
            obtain ⟨a2, c2, rfl⟩ := own_form hown1
            have HO2 := hideIt hown1
            clear hown1 hown hg1 hn1 hnews
            go_wp2
            exact ⟨⟨j + 1, m + pm, a2, c2, by omega, by go_num, rfl, HM, HO2.out, hb1⟩, by simp [intOf]; omega⟩
        · obtain rfl : j = k := by omega
          have e : ps.take j = ps := List.take_of_length_le (by have := HK.out; omega)
          rw [e] at hown
          have HO2 := hideIt hown
          clear hown e hm
          go_wp2
          go_ret
          exact ⟨a', m, c', rfl, HO2.out, hb⟩
end Go.Proofs.YtgjnlhdgekfieaaGreat
namespace Go.Proofs.YtgjnlhdgekfieaaGreat
open Go.RowKit

/-- one more edge in its place -/
def putL (ls : List Ld) (x : Ld) : List Ld := ls.filter (fun d => lt d.e x.e) ++ [x] ++ ls.filter (fun d => lt x.e d.e)
/-- the world behind the edge's box -/
def wX (w : World) (x : Ld) : World := w.alloc (.cells #[.int .i64 x.a, .int .i64 x.b, .int .i64 x.l, .bool x.t] 52)
theorem wX_size (w : World) (x : Ld) : (wX w x).heap.size = w.heap.size + 1 := by simp [wX]
structure PutL (w : World) (x : Ld) (a : Option Addr) (m c : Nat) (gs : List Ld) (u : World) : Prop where
  own : u.ownsRow (w.heap.size + 1) 52 4 (.slice a m c) m (lcells gs)
  bel : Below (w.heap.size + 1) (wX w x) u
theorem PutL.size {w : World} {x : Ld} {a : Option Addr} {m c : Nat} {gs : List Ld} {u : World} (h : PutL w x a m c gs u) : w.heap.size + 1 ≤ u.heap.size := by have := h.bel.size; rw [wX_size] at this; exact this
theorem PutL.below {w : World} {x : Ld} {a : Option Addr} {m c : Nat} {gs : List Ld} {u : World} (h : PutL w x a m c gs u) : Below w.heap.size w u :=
  ((Below.refl w.heap.size w).alloc (Nat.le_refl _) _).trans (h.bel.mono (by omega))
theorem PutL.up {w : World} {x : Ld} {a : Option Addr} {m c : Nat} {gs : List Ld} {u v : World} (h : PutL w x a m c gs u) (hb : Below u.heap.size u v) : PutL w x a m c gs v := ⟨own_up h.own hb, h.bel.trans (hb.mono h.size)⟩
theorem PutL.box {w : World} {x : Ld} {a : Option Addr} {m c : Nat} {gs : List Ld} {u : World} (h : PutL w x a m c gs u) : LdAt u w.heap.size 0 x := by
  have h0 : LdAt (wX w x) w.heap.size 0 x := ⟨by simp [wX], by simp [wX], by simp [wX], by simp [wX]⟩
  exact h0.below h.bel (by omega)
theorem PutL.app {w : World} {x : Ld} {a : Option Addr} {m c : Nat} {gs : List Ld} {u : World} (h : PutL w x a m c gs u) {y : Ld} {o : Obj} {v : Value} {u' : World}
    (ho : u'.ownsRow (w.heap.size + 1) 52 4 v (m + 1) (lcells gs ++ [.int .i64 y.a, .int .i64 y.b, .int .i64 y.l, .bool y.t])) (hg : (u.alloc o).grownBy u' (Value.slice a m c).ownBlock) :
    ∃ a' c', v = .slice a' (m + 1) c' ∧ PutL w x a' (m + 1) c' (gs ++ [y]) u' := by
  obtain ⟨a', c', rfl⟩ := own_form ho
  rw [← lcells_snoc] at ho
  refine ⟨a', c', rfl, ho, ?_⟩
  exact (h.bel.alloc h.size _).grown hg (by have := h.size; simp; omega) (fun j hj => (h.own.lt j hj).1)
theorem newsL (w : World) (y : Ld) : ∀ j u, ([Value.int .i64 y.a, Value.int .i64 y.b, Value.int .i64 y.l, Value.bool y.t] : List Value)[j]? = some u → (w.alloc (.cells #[.int .i64 y.a, .int .i64 y.b, .int .i64 y.l, .bool y.t] 52)).cell? ((⟨w.heap.size, 0, none⟩ : Addr).add j) = some u := by
  intro j u hj
  rcases j with _ | _ | _ | _ | j
  · simp at hj; subst hj; simp [Addr.add]
  · simp at hj; subst hj; simp [Addr.add]
  · simp at hj; subst hj; simp [Addr.add]
  · simp at hj; subst hj; simp [Addr.add]
  · simp at hj
theorem lt_cases (d e : EdgeV) : (d.1 < e.1 ∧ lt d e = true) ∨ (¬ d.1 < e.1 ∧ d.1 = e.1 ∧ d.2 < e.2 ∧ lt d e = true) ∨ (¬ d.1 < e.1 ∧ d.1 = e.1 ∧ ¬ d.2 < e.2 ∧ lt d e = false) ∨ (¬ d.1 < e.1 ∧ d.1 ≠ e.1 ∧ lt d e = false) := by
  have hf : ¬ (d.1 < e.1 ∨ d.1 = e.1 ∧ d.2 < e.2) → lt d e = false := fun h => by
    cases h2 : lt d e with
    | false => rfl
    | true => exact absurd ((lt_iff d e).1 h2) h
  by_cases h1 : d.1 < e.1
  · exact .inl ⟨h1, (lt_iff d e).2 (.inl h1)⟩
  · by_cases h2 : d.1 = e.1
    · by_cases h3 : d.2 < e.2
      · exact .inr (.inl ⟨h1, h2, h3, (lt_iff d e).2 (.inr ⟨h2, h3⟩)⟩)
      · exact .inr (.inr (.inl ⟨h1, h2, h3, hf (by omega)⟩))
    · exact .inr (.inr (.inr ⟨h1, h2, hf (by omega)⟩))

set_option maxRecDepth 100000 in
set_option maxHeartbeats 8000000 in
theorem l08Put_any (ls : List Ld) (x : Ld) (n : Nat) (a : Option Addr) (c : Nat) (hn : n ≤ 1048576) (w : World) (h : Ls w w.heap.size a n ls) :
    Calls Tryz.prog 176 #[.slice a n c, .agg #[.int .i64 x.a, .int .i64 x.b, .int .i64 x.l, .bool x.t]] w fun e w' => ∃ a' m' c', e = .returned (.slice a' m' c') ∧ w'.ownsRow w.heap.size 52 4 (.slice a' m' c') m' (lcells (putL ls x)) ∧ Below w.heap.size w w' := by
  obtain ⟨i0, hi, hz0, hz1, hz2⟩ := info_parts infoIL
  have HR := hideIt h
  have hlen := h.1
  clear h
  go_enter Tryz.func176, Tryz.ntmps176
  go_wp2
  go_loopw [5, 6] (fun v i wr => ∃ (k m' : Nat) (a' : Option Addr) (c' : Nat) (gs : List Ld), k ≤ n ∧ i = .int .i64 (k : Int) ∧ v = .slice a' m' c' ∧ m' ≤ k ∧ Hid (gs = (ls.take k).filter (fun d => lt d.e x.e)) ∧ PutL w x a' m' c' gs wr) (fun _ i _ => n - (intOf i).toNat)
  case atStart =>
    refine ⟨0, 0, _, _, [], by omega, rfl, rfl, by omega, by show _ = _; simp, ?_, ?_⟩
    · have h0 := World.ownsRow_lit (base := w.heap.size + 1) (e := 52) (size := 4) (wX w x) #[] 0 (by rw [wX_size]; omega) (by unfold maxLen; omega) (by simp)
      rw [wX_size] at h0
      simpa [lcells, wX] using h0
    · have h1 := (Below.refl (w.heap.size + 1) (wX w x)).alloc (by rw [wX_size]; omega) (.cells #[] 52)
      simpa [wX] using h1
  case round =>
    obtain ⟨k, m', a', c', gs, hk, rfl, rfl, hm, hgs, hst⟩ := hrel
    by_cases hlt : k < n
    · obtain ⟨b, off, f, rfl, hbl, hfk, hat⟩ := (HR.out.below hst.below (Nat.le_refl _)).at hlt
      have e0 := hat.ca
      have e1 := hat.cb
      have e2 := hat.cl
      have e3 := hat.ct
      have x0 := hst.box.ca
      have x1 := hst.box.cb
      rw [Nat.zero_add] at x1
      have b1 : (0 : Int) ≤ (k : Int) := by omega
      have b2 : (k : Int) < (n : Int) := by omega
      have HTk := hideIt (take_snocF ls k f hfk)
      have z1 := hst.size
      have HST := hideIt hst
      clear hfk hat hst
      rcases lt_cases f.e x.e with ⟨p1, hL⟩ | ⟨p1, p2, p3, hL⟩ | ⟨p1, p2, p3, hL⟩ | ⟨p1, p2, hL⟩
      · simp only [Ld.e] at p1
        have d1 : decide (f.a < x.a) = true := decide_eq_true p1
        have HG2 : Hid (gs ++ [f] = (ls.take (k + 1)).filter (fun d => lt d.e x.e)) := by
          show _ = _
          rw [HTk.out, List.filter_append, hgs.out]
          simp [hL]
        clear hL hgs
        go_wp2
        go_quiet (fail)
        go_wp2_with (at_builtin; refine wpList_append_own _ rfl _ _ 24 rfl (w.heap.size + 1) 52 i0 _ 4 32 Tryz.underlying24 hi hz0 hz1 hz2 rfl (by decide) _ _ _ rfl ((HST.out.up (below_drewN (Below.refl _ _) _)).own.alloc _) ⟨_, 0, none⟩ 1 1 [.int .i64 f.a, .int .i64 f.b, .int .i64 f.l, .bool f.t] rfl rfl (newsL _ _) (by intro u hu; simp at hu; rcases hu with rfl | rfl | rfl | rfl <;> rfl) (by unfold maxLen; omega) (by omega) (by simp; omega) ?_)
        intro v2 w2 hown2 hg2 hn2
        obtain ⟨a2, c2, rfl, hst2⟩ := (HST.out.up (below_drewN (Below.refl _ _) _)).app hown2 hg2
        have HS2 := hideIt hst2
        clear hown2 hg2 hn2 hst2
        go_wp2
        exact ⟨⟨k + 1, m' + 1, a2, c2, gs ++ [f], by omega, by go_num, rfl, by omega, HG2, HS2.out⟩, by simp [intOf]; omega⟩
      · simp only [Ld.e] at p1 p2 p3
        have d1 : decide (f.a < x.a) = false := decide_eq_false p1
        have d2 : (f.a == x.a) = true := by simpa using p2
        have d3 : decide (f.b < x.b) = true := decide_eq_true p3
        have HP := hideIt p2
        clear p2
        have HG2 : Hid (gs ++ [f] = (ls.take (k + 1)).filter (fun d => lt d.e x.e)) := by
          show _ = _
          rw [HTk.out, List.filter_append, hgs.out]
          simp [hL]
        clear hL hgs
        go_wp2
        go_quiet (fail)
        go_wp2_with (at_builtin; refine wpList_append_own _ rfl _ _ 24 rfl (w.heap.size + 1) 52 i0 _ 4 32 Tryz.underlying24 hi hz0 hz1 hz2 rfl (by decide) _ _ _ rfl ((HST.out.up (below_drewN (Below.refl _ _) _)).own.alloc _) ⟨_, 0, none⟩ 1 1 [.int .i64 f.a, .int .i64 f.b, .int .i64 f.l, .bool f.t] rfl rfl (newsL _ _) (by intro u hu; simp at hu; rcases hu with rfl | rfl | rfl | rfl <;> rfl) (by unfold maxLen; omega) (by omega) (by simp; omega) ?_)
        intro v2 w2 hown2 hg2 hn2
        obtain ⟨a2, c2, rfl, hst2⟩ := (HST.out.up (below_drewN (Below.refl _ _) _)).app hown2 hg2
        have HS2 := hideIt hst2
        clear hown2 hg2 hn2 hst2
        go_wp2
        exact ⟨⟨k + 1, m' + 1, a2, c2, gs ++ [f], by omega, by go_num, rfl, by omega, HG2, HS2.out⟩, by simp [intOf]; omega⟩
      · simp only [Ld.e] at p1 p2 p3
        have d1 : decide (f.a < x.a) = false := decide_eq_false p1
        have d2 : (f.a == x.a) = true := by simpa using p2
        have d3 : decide (f.b < x.b) = false := decide_eq_false p3
        have HP := hideIt p2
        clear p2
        have HG2 : Hid (gs = (ls.take (k + 1)).filter (fun d => lt d.e x.e)) := by
          show _ = _
          rw [HTk.out, List.filter_append, hgs.out]
          simp [hL]
        clear hL hgs
        go_wp2
        go_quiet (fail)
        go_wp2
        exact ⟨⟨k + 1, m', a', c', gs, by omega, by go_num, rfl, by omega, HG2, HST.out.up (below_drewN (Below.refl _ _) _)⟩, by simp [intOf]; omega⟩
      · simp only [Ld.e] at p1 p2
        have d1 : decide (f.a < x.a) = false := decide_eq_false p1
        have d2 : (f.a == x.a) = false := by simpa using p2
        have HG2 : Hid (gs = (ls.take (k + 1)).filter (fun d => lt d.e x.e)) := by
          show _ = _
          rw [HTk.out, List.filter_append, hgs.out]
          simp [hL]
        clear hL hgs
        go_wp2
        go_quiet (fail)
        go_wp2
        exact ⟨⟨k + 1, m', a', c', gs, by omega, by go_num, rfl, by omega, HG2, HST.out.up (below_drewN (Below.refl _ _) _)⟩, by simp [intOf]; omega⟩
    · obtain rfl : k = n := by omega
      have HG : Hid (gs ++ [x] = ls.filter (fun d => lt d.e x.e) ++ [x]) := by show _ = _; rw [hgs.out, List.take_of_length_le (by omega)]
      have x0 := hst.box.ca
      have x1 := hst.box.cb
      have x2 := hst.box.cl
      have x3 := hst.box.ct
      rw [Nat.zero_add] at x1 x2 x3
      have z1 := hst.size
      have HST := hideIt hst
      clear hgs hst
      go_wp2_with (at_builtin; refine wpList_append_own _ rfl _ _ 24 rfl (w.heap.size + 1) 52 i0 _ 4 32 Tryz.underlying24 hi hz0 hz1 hz2 rfl (by decide) _ _ _ rfl (HST.out.own.alloc _) ⟨wr.heap.size, 0, none⟩ 1 1 [.int .i64 x.a, .int .i64 x.b, .int .i64 x.l, .bool x.t] rfl rfl (newsL _ _) (by intro u hu; simp at hu; rcases hu with rfl | rfl | rfl | rfl <;> rfl) (by unfold maxLen; omega) (by omega) (by simp; omega) ?_)
      intro v2 w2 hown2 hg2 hn2
      obtain ⟨a2, c2, rfl, hst2⟩ := HST.out.app hown2 hg2
      have hmk : m' + 1 ≤ k + 1 := by omega
      generalize m' + 1 = m3 at hst2 hmk
      generalize gs ++ [x] = g0 at HG hst2
      have HST2 := hideIt hst2
      clear hown2 hg2 hn2 x0 x1 x2 x3 HST hst2
      go_wp2
      go_loopw [5, 7] (fun v i wr => ∃ (q m' : Nat) (a' : Option Addr) (c' : Nat) (gs : List Ld), q ≤ k ∧ i = .int .i64 (q : Int) ∧ v = .slice a' m' c' ∧ m' ≤ k + 1 + q ∧ Hid (gs = g0 ++ (ls.take q).filter (fun d => lt x.e d.e)) ∧ PutL w x a' m' c' gs wr) (fun _ i _ => k - (intOf i).toNat)
      case atStart => exact ⟨0, m3, a2, c2, g0, by omega, rfl, rfl, by omega, by show _ = _; simp, HST2.out⟩
      case round =>
        obtain ⟨q, m', a', c', gs, hq, rfl, rfl, hm, hgs, hst⟩ := hrel
        clear HST2
        by_cases hlt : q < k
        · obtain ⟨b, off, f, rfl, hbl, hfk, hat⟩ := (HR.out.below hst.below (Nat.le_refl _)).at (show q < k from hlt)
          have e0 := hat.ca
          have e1 := hat.cb
          have e2 := hat.cl
          have e3 := hat.ct
          have x0 := hst.box.ca
          have x1 := hst.box.cb
          rw [Nat.zero_add] at x1
          have b1 : (0 : Int) ≤ (q : Int) := by omega
          have b2 : (q : Int) < (k : Int) := by omega
          have HTk := hideIt (take_snocF ls q f hfk)
          have z1 := hst.size
          have HST := hideIt hst
          clear hfk hat hst
          rcases lt_cases x.e f.e with ⟨p1, hL⟩ | ⟨p1, p2, p3, hL⟩ | ⟨p1, p2, p3, hL⟩ | ⟨p1, p2, hL⟩
          · simp only [Ld.e] at p1
            have d1 : decide (x.a < f.a) = true := decide_eq_true p1
            have HG2 : Hid (gs ++ [f] = g0 ++ (ls.take (q + 1)).filter (fun d => lt x.e d.e)) := by
              show _ = _
              rw [HTk.out, List.filter_append, hgs.out]
              simp [hL]
            clear hL hgs
            go_wp2
            go_quiet (fail)
            go_wp2_with (at_builtin; refine wpList_append_own _ rfl _ _ 24 rfl (w.heap.size + 1) 52 i0 _ 4 32 Tryz.underlying24 hi hz0 hz1 hz2 rfl (by decide) _ _ _ rfl ((HST.out.up (below_drewN (Below.refl _ _) _)).own.alloc _) ⟨_, 0, none⟩ 1 1 [.int .i64 f.a, .int .i64 f.b, .int .i64 f.l, .bool f.t] rfl rfl (newsL _ _) (by intro u hu; simp at hu; rcases hu with rfl | rfl | rfl | rfl <;> rfl) (by unfold maxLen; omega) (by omega) (by simp; omega) ?_)
            intro v2 w2 hown2 hg2 hn2
            obtain ⟨a2, c2, rfl, hst2⟩ := (HST.out.up (below_drewN (Below.refl _ _) _)).app hown2 hg2
            have HS2 := hideIt hst2
            clear hown2 hg2 hn2 hst2
            go_wp2
            exact ⟨⟨q + 1, m' + 1, a2, c2, gs ++ [f], by omega, by go_num, rfl, by omega, HG2, HS2.out⟩, by simp [intOf]; omega⟩
          · simp only [Ld.e] at p1 p2 p3
            have d1 : decide (x.a < f.a) = false := decide_eq_false p1
            have d2 : (f.a == x.a) = true := by simpa using p2.symm
            have d3 : decide (x.b < f.b) = true := decide_eq_true p3
            have HP := hideIt p2
            clear p2
            have HG2 : Hid (gs ++ [f] = g0 ++ (ls.take (q + 1)).filter (fun d => lt x.e d.e)) := by
              show _ = _
              rw [HTk.out, List.filter_append, hgs.out]
              simp [hL]
            clear hL hgs
            go_wp2
            go_quiet (fail)
            go_wp2_with (at_builtin; refine wpList_append_own _ rfl _ _ 24 rfl (w.heap.size + 1) 52 i0 _ 4 32 Tryz.underlying24 hi hz0 hz1 hz2 rfl (by decide) _ _ _ rfl ((HST.out.up (below_drewN (Below.refl _ _) _)).own.alloc _) ⟨_, 0, none⟩ 1 1 [.int .i64 f.a, .int .i64 f.b, .int .i64 f.l, .bool f.t] rfl rfl (newsL _ _) (by intro u hu; simp at hu; rcases hu with rfl | rfl | rfl | rfl <;> rfl) (by unfold maxLen; omega) (by omega) (by simp; omega) ?_)
            intro v2 w2 hown2 hg2 hn2
            obtain ⟨a2, c2, rfl, hst2⟩ := (HST.out.up (below_drewN (Below.refl _ _) _)).app hown2 hg2
            have HS2 := hideIt hst2
            clear hown2 hg2 hn2 hst2
            go_wp2
            exact ⟨⟨q + 1, m' + 1, a2, c2, gs ++ [f], by omega, by go_num, rfl, by omega, HG2, HS2.out⟩, by simp [intOf]; omega⟩
          · simp only [Ld.e] at p1 p2 p3
            have d1 : decide (x.a < f.a) = false := decide_eq_false p1
            have d2 : (f.a == x.a) = true := by simpa using p2.symm
            have d3 : decide (x.b < f.b) = false := decide_eq_false p3
            have HP := hideIt p2
            clear p2
            have HG2 : Hid (gs = g0 ++ (ls.take (q + 1)).filter (fun d => lt x.e d.e)) := by
              show _ = _
              rw [HTk.out, List.filter_append, hgs.out]
              simp [hL]
            clear hL hgs
            go_wp2
            go_quiet (fail)
            go_wp2
            exact ⟨⟨q + 1, m', a', c', gs, by omega, by go_num, rfl, by omega, HG2, HST.out.up (below_drewN (Below.refl _ _) _)⟩, by simp [intOf]; omega⟩
          · simp only [Ld.e] at p1 p2
            have d1 : decide (x.a < f.a) = false := decide_eq_false p1
            have d2 : (f.a == x.a) = false := by simpa using fun h => p2 h.symm
            have HG2 : Hid (gs = g0 ++ (ls.take (q + 1)).filter (fun d => lt x.e d.e)) := by
              show _ = _
              rw [HTk.out, List.filter_append, hgs.out]
              simp [hL]
            clear hL hgs
            go_wp2
            go_quiet (fail)
            go_wp2
            exact ⟨⟨q + 1, m', a', c', gs, by omega, by go_num, rfl, by omega, HG2, HST.out.up (below_drewN (Below.refl _ _) _)⟩, by simp [intOf]; omega⟩
        · obtain rfl : q = k := by omega
          have HF : Hid (gs = putL ls x) := by show _ = _; unfold putL; rw [hgs.out, HG.out, List.take_of_length_le (by omega)]
          have HST := hideIt hst
          clear hgs hst
          go_wp2
          go_ret
          exact ⟨a', m', c', rfl, by rw [← HF.out]; exact own_mono HST.out.own (by omega), HST.out.below⟩
end Go.Proofs.YtgjnlhdgekfieaaGreat
namespace Go.Proofs.YtgjnlhdgekfieaaGreat
open Go.RowKit

/-- -1, 0 or 1 -/
def cmpI (x y : Int) : Int := if x < y then -1 else if y < x then 1 else 0
/-- the comparison of two edges -/
def cmpE (d e : EdgeV) : Int := if cmpI d.1 e.1 ≠ 0 then cmpI d.1 e.1 else cmpI d.2 e.2

theorem cmpI_zero (x y : Int) : cmpI x y = 0 ↔ x = y := by unfold cmpI; split <;> (try split) <;> omega
theorem cmpI_neg (x y : Int) : cmpI x y < 0 ↔ x < y := by unfold cmpI; split <;> (try split) <;> omega
theorem cmpE_neg (d e : EdgeV) : cmpE d e < 0 ↔ lt d e = true := by
  unfold cmpE lt
  rw [decide_eq_true_iff]
  by_cases h : cmpI d.1 e.1 = 0
  · rw [if_neg (by simpa using h), cmpI_neg]
    have := (cmpI_zero d.1 e.1).1 h
    omega
  · rw [if_pos h, cmpI_neg]
    have := mt (cmpI_zero d.1 e.1).2 h
    omega
theorem cmpE_zero (d e : EdgeV) : cmpE d e = 0 ↔ d = e := by
  unfold cmpE
  by_cases h : cmpI d.1 e.1 = 0
  · rw [if_neg (by simpa using h), cmpI_zero]
    exact ⟨fun h2 => Prod.ext ((cmpI_zero _ _).1 h) h2, fun h2 => by rw [h2]⟩
  · rw [if_pos h]
    exact ⟨fun h2 => absurd h2 h, fun h2 => absurd ((cmpI_zero _ _).2 (by rw [h2])) h⟩

theorem cmpCompare_any (x y : Int) (w : World) : Calls Tryz.prog 184 #[.int .i64 x, .int .i64 y] w fun e w' => e = .returned (.int .i64 (cmpI x y)) ∧ w' = w := by
  unfold cmpI
  by_cases h1 : x < y
  · rw [if_pos h1]
    have d1 : decide (x < y) = true := decide_eq_true h1
    go_enter Tryz.func184, Tryz.ntmps184
    go_wp2
    go_ret
    exact ⟨rfl, rfl⟩
  · rw [if_neg h1]
    have d1 : decide (x < y) = false := decide_eq_false h1
    by_cases h2 : y < x
    · rw [if_pos h2]
      have d2 : decide (y < x) = true := decide_eq_true h2
      go_enter Tryz.func184, Tryz.ntmps184
      go_wp2
      go_ret
      exact ⟨rfl, rfl⟩
    · rw [if_neg h2]
      have d2 : decide (y < x) = false := decide_eq_false h2
      go_enter Tryz.func184, Tryz.ntmps184
      go_wp2
      go_ret
      exact ⟨rfl, rfl⟩

theorem cmpOr_any (x y : Int) (b : Nat) (w : World) (h0 : w.cell? ⟨b, 0, none⟩ = some (.int .i64 x)) (h1 : w.cell? ⟨b, 1, none⟩ = some (.int .i64 y)) :
    Calls Tryz.prog 183 #[.slice (some ⟨b, 0, none⟩) 2 2] w fun e w' => e = .returned (.int .i64 (if x ≠ 0 then x else y)) ∧ w' = w := by
  go_enter Tryz.func183, Tryz.ntmps183
  go_wp2
  go_loopw [8] (fun i wr => ∃ k : Nat, k ≤ 2 ∧ i = .int .i64 (k : Int) ∧ wr = w ∧ Hid (1 ≤ k → x = 0) ∧ Hid (2 ≤ k → y = 0)) (fun i _ => 2 - (intOf i).toNat)
  case atStart => exact ⟨0, by omega, rfl, rfl, fun h => by omega, fun h => by omega⟩
  case round =>
    obtain ⟨k, hk, rfl, rfl, hx, hy⟩ := hrel
    rcases k with _ | _ | k
    · by_cases g : x = 0
      · subst g
        go_wp2
        exact ⟨⟨1, by omega, by go_num, by first | trivial | rfl, by first | exact fun _ => True.intro | exact fun _ => rfl, by first | exact True.intro | exact fun h => by omega⟩, by simp [intOf]⟩
      · have d : (x != 0) = true := by simpa using g
        go_wp2
        go_ret
        exact ⟨rfl, rfl⟩
    · have g := hx.out (by omega)
      subst g
      clear hx hy
      by_cases g : y = 0
      · subst g
        go_wp2
        exact ⟨⟨2, by omega, by go_num, by first | trivial | rfl, by first | exact fun _ => True.intro | exact fun _ => rfl, by first | exact fun _ => True.intro | exact fun _ => rfl⟩, by simp [intOf]⟩
      · have d : (y != 0) = true := by simpa using g
        go_wp2
        go_ret
        exact ⟨rfl, rfl⟩
    · obtain rfl : k = 0 := by omega
      have g := hx.out (by omega)
      have g2 := hy.out (by omega)
      subst g g2
      clear hx hy
      go_wp2
      go_ret
      exact ⟨rfl, rfl⟩

set_option maxHeartbeats 1000000 in
theorem compareEdges_any (d e : EdgeV) (w : World) :
    Calls Tryz.prog 119 #[.agg #[.int .i64 d.1, .int .i64 d.2], .agg #[.int .i64 e.1, .int .i64 e.2]] w fun x w' => x = .returned (.int .i64 (cmpE d e)) ∧ Below w.heap.size w w' := by
  obtain ⟨a, b⟩ := d
  obtain ⟨c, f⟩ := e
  dsimp only
  have HC := hideIt cmpCompare_any
  have HO : Hid (Calls Tryz.prog 183 #[.slice (some ⟨w.heap.size + 1 + 1, 0, none⟩) 2 2] (((w.alloc (.cells #[.int .i64 a, .int .i64 b] 28)).alloc (.cells #[.int .i64 c, .int .i64 f] 28)).alloc (.cells #[.int .i64 (cmpI a c), .int .i64 (cmpI b f)] 3)).drew
      fun e w' => e = .returned (.int .i64 (cmpE (a, b) (c, f))) ∧ w' = (((w.alloc (.cells #[.int .i64 a, .int .i64 b] 28)).alloc (.cells #[.int .i64 c, .int .i64 f] 28)).alloc (.cells #[.int .i64 (cmpI a c), .int .i64 (cmpI b f)] 3)).drew) :=
    cmpOr_any (cmpI a c) (cmpI b f) (w.heap.size + 1 + 1) _ (by simp [go_sem]) (by simp [go_sem])
  go_enter Tryz.func119, Tryz.ntmps119
  go_wp2
  go_region_held3 (fun u => (u.cell? ⟨w.heap.size, 0, none⟩ = some (.int .i64 a) ∧ u.cell? ⟨w.heap.size, 1, none⟩ = some (.int .i64 b)) ∧ u.cell? ⟨w.heap.size + 1, 0, none⟩ = some (.int .i64 c) ∧ u.cell? ⟨w.heap.size + 1, 1, none⟩ = some (.int .i64 f))
    (go_keep)
    (first
      | (go_at_call 184; refine (HC.out _ _ _).mono ?_; rintro e w1 ⟨rfl, rfl⟩)
      | (go_at_call 183; refine HO.out.mono ?_; rintro e w1 ⟨rfl, rfl⟩))
  all_goals
    go_wp2
    go_ret
    exact ⟨rfl, ((((Below.refl _ _).alloc (Nat.le_refl _) _).alloc (by simp) _).alloc (by simp; omega) _).drew⟩
end Go.Proofs.YtgjnlhdgekfieaaGreat
namespace Go.Proofs.YtgjnlhdgekfieaaGreat
open Go.RowKit

theorem vertsOk_any (x : Int) (w : World) : Calls Tryz.prog 103 #[.int .i64 x] w fun e w' => e = .returned (.bool (decide (1 ≤ x ∧ x ≤ 12))) ∧ w' = w := by
  by_cases h1 : 1 ≤ x
  · by_cases h2 : x ≤ 12
    · have d1 : decide (1 ≤ x) = true := by simpa using h1
      have d2 : decide (x ≤ 12) = true := by simpa using h2
      go_enter Tryz.func103, Tryz.ntmps103
      go_wp2
      go_ret
      exact ⟨by simp [h1, h2], rfl⟩
    · have d1 : decide (1 ≤ x) = true := by simpa using h1
      have d2 : decide (x ≤ 12) = false := by simpa using h2
      go_enter Tryz.func103, Tryz.ntmps103
      go_wp2
      go_ret
      exact ⟨by simp, rfl⟩
  · have d1 : decide (1 ≤ x) = false := by simpa using h1
    go_enter Tryz.func103, Tryz.ntmps103
    go_wp2
    go_ret
    exact ⟨by simp, rfl⟩

theorem iEdgeOk_any (n : Int) (e : EdgeV) (w : World) :
    Calls Tryz.prog 148 #[.int .i64 n, .agg #[.int .i64 e.1, .int .i64 e.2]] w fun x w' => x = .returned (.bool (eB n e)) ∧ Below w.heap.size w w' := by
  obtain ⟨a, b⟩ := e
  dsimp only
  have HI := hideIt vertsOk_any
  by_cases h1 : 1 ≤ n ∧ n ≤ 12
  · have r1 : decide (1 ≤ n ∧ n ≤ 12) = true := by simpa using h1
    by_cases h2 : 0 ≤ a
    · have r2 : decide (0 ≤ a) = true := by simpa using h2
      by_cases h3 : a < b
      · have r3 : decide (a < b) = true := by simpa using h3
        go_enter Tryz.func148, Tryz.ntmps148
        go_wp2_with (go_at_call 103; refine (HI.out _ _).mono ?_; rintro e w1 ⟨rfl, rfl⟩)
        go_ret
        exact ⟨bret (by dsimp only; omega), (Below.refl _ _).alloc (Nat.le_refl _) _⟩
      · have r3 : decide (a < b) = false := by simpa using h3
        go_enter Tryz.func148, Tryz.ntmps148
        go_wp2_with (go_at_call 103; refine (HI.out _ _).mono ?_; rintro e w1 ⟨rfl, rfl⟩)
        go_ret
        exact ⟨by simp [eB]; omega, (Below.refl _ _).alloc (Nat.le_refl _) _⟩
    · have r2 : decide (0 ≤ a) = false := by simpa using h2
      go_enter Tryz.func148, Tryz.ntmps148
      go_wp2_with (go_at_call 103; refine (HI.out _ _).mono ?_; rintro e w1 ⟨rfl, rfl⟩)
      go_ret
      exact ⟨by simp [eB]; omega, (Below.refl _ _).alloc (Nat.le_refl _) _⟩
  · have r1 : decide (1 ≤ n ∧ n ≤ 12) = false := by simpa using h1
    go_enter Tryz.func148, Tryz.ntmps148
    go_wp2_with (go_at_call 103; refine (HI.out _ _).mono ?_; rintro e w1 ⟨rfl, rfl⟩)
    go_ret
    exact ⟨by simp [eB]; omega, (Below.refl _ _).alloc (Nat.le_refl _) _⟩

end Go.Proofs.YtgjnlhdgekfieaaGreat
namespace Go.Proofs.YtgjnlhdgekfieaaGreat
open Go.RowKit

/-- the edge of place j is right, and comes behind the one ahead of it -/
def chkAt (n : Int) (es : List EdgeV) (j : Nat) : Bool :=
  match es[j]? with
  | none => true
  | some e => eB n e && (match j with
    | 0 => true
    | i + 1 => match es[i]? with
      | none => true
      | some d => lt d e)

/-- all of them are so -/
def chk (n : Int) (es : List EdgeV) : Bool := (List.range es.length).all (chkAt n es)

/-- the graph is right -/
def gB (N : Int) (es : List EdgeV) : Bool := decide (1 ≤ N ∧ N ≤ 12) && (chk N es && decide (es.length ≤ 66))

theorem chk_no {n : Int} {es : List EdgeV} {j : Nat} (hj : j < es.length) (h : chkAt n es j = false) : chk n es = false := by
  unfold chk
  rw [List.all_eq_false]
  exact ⟨j, List.mem_range.2 hj, by simp [h]⟩

theorem chk_yes {n : Int} {es : List EdgeV} (h : ∀ j, j < es.length → chkAt n es j = true) : chk n es = true := by
  unfold chk
  rw [List.all_eq_true]
  exact fun j hj => h j (List.mem_range.1 hj)

theorem chkAt_zero {n : Int} {es : List EdgeV} {e : EdgeV} (h : es[0]? = some e) : chkAt n es 0 = eB n e := by simp [chkAt, h]

theorem chkAt_succ {n : Int} {es : List EdgeV} {i : Nat} {d e : EdgeV} (h : es[i + 1]? = some e) (hd : es[i]? = some d) : chkAt n es (i + 1) = (eB n e && lt d e) := by simp only [chkAt, h, hd]

theorem chkAt_no {n : Int} {es : List EdgeV} {j : Nat} {e : EdgeV} (h : es[j]? = some e) (he : eB n e = false) : chkAt n es j = false := by simp only [chkAt, h, he, Bool.false_and]

theorem chk_all {n : Int} {es : List EdgeV} (h : chk n es = true) (j : Nat) (hj : j < es.length) : chkAt n es j = true := by
  unfold chk at h
  rw [List.all_eq_true] at h
  exact h j (List.mem_range.2 hj)

theorem chk_eB {n : Int} {es : List EdgeV} (h : chk n es = true) {e : EdgeV} (he : e ∈ es) : eB n e = true := by
  obtain ⟨j, hj, rfl⟩ := List.getElem_of_mem he
  have h1 := chk_all h j hj
  have h2 : es[j]? = some es[j] := List.getElem?_eq_getElem hj
  cases h3 : eB n es[j] with
  | true => rfl
  | false => rw [chkAt_no h2 h3] at h1; cases h1

theorem chk_next {n : Int} {es : List EdgeV} (h : chk n es = true) {i : Nat} {d e : EdgeV} (hd : es[i]? = some d) (he : es[i + 1]? = some e) : lt d e = true := by
  have h1 := chk_all h (i + 1) (List.getElem?_eq_some_iff.1 he).1
  rw [chkAt_succ he hd, Bool.and_eq_true] at h1
  exact h1.2

theorem asc_of_chk {n : Int} {es : List EdgeV} (h : chk n es = true) : Asc es := by
  intro i j d e hij hd he
  obtain ⟨k, rfl⟩ : ∃ k, j = i + 1 + k := ⟨j - i - 1, by omega⟩
  clear hij
  induction k generalizing e with
  | zero => exact chk_next h hd he
  | succ k ih =>
    have hl := (List.getElem?_eq_some_iff.1 he).1
    have h2 : es[i + 1 + k]? = some (es[i + 1 + k]'(by omega)) := List.getElem?_eq_getElem (by omega)
    exact lt_trans' (ih _ h2) (chk_next h h2 he)

theorem gB_chk {N : Int} {es : List EdgeV} (h : gB N es = true) : (1 ≤ N ∧ N ≤ 12) ∧ chk N es = true ∧ es.length ≤ 66 := by
  unfold gB at h
  simp only [Bool.and_eq_true, decide_eq_true_eq] at h
  exact ⟨h.1, h.2.1, h.2.2⟩

end Go.Proofs.YtgjnlhdgekfieaaGreat
