/- Where a law over webs stands that looks at fresh memory: webs in ranges of blocks of their own. The laws' own functions over lists of edges. The laws' own functions over graphs, as boxes. The program's GraphOf and forestEdges. The specification's GraphOf. The walk of FnExactGraphOf. -/
import Derived.Test.YtgjngaaibcmgmaaKBx7
import Derived.Deep.AppendLies
import Derived.Deep.RegionLaw
import Derived.Deep.RegionHeld3
import Derived.Deep.DeepCutAuto
namespace Go.Proofs.Ytgjngaaibcmgmaa
open Go.RowKit

/-- a struct of a number and a list that is ours: its box and its list lie in blocks lo .. hi -/
structure PBox (u : World) (lo hi b : Nat) (t e s : Nat) (M : Int) (a : Option Addr) (m c : Nat) (xs : List Value) : Prop where
  box : Box7 u b t (.int .i64 M) (.slice a m c)
  own : u.ownsRow lo e s (.slice a m c) m xs
  least : lo ≤ b
  most : b < hi
  row : ∀ g, (Value.slice a m c).ownBlock = some g → g < hi
  there : hi ≤ u.heap.size
theorem PBox.rng {u v : World} {lo hi b l2 h2 t e s : Nat} {M : Int} {a : Option Addr} {m c : Nat} {xs : List Value} (h : PBox u lo hi b t e s M a m c xs) (hr : Rng l2 h2 u v) (ho : hi ≤ l2 ∨ h2 ≤ lo) : PBox v lo hi b t e s M a m c xs := by
  have hth := h.there
  have hb := h.least
  have hb' := h.most
  have g1 : ∀ k, lo ≤ k → k < hi → v.heap[k]? = u.heap[k]? := fun k h3 h4 => hr.block k (by omega) (by omega)
  refine ⟨?_, ?_, hb, hb', h.row, Nat.le_trans hth hr.size⟩
  · unfold Box7; rw [g1 b hb hb']; exact h.box
  · refine ⟨h.own.1, ?_⟩
    rcases h.own.2 with h3 | ⟨g, cap, cur, hv, hg, hcur, hrest⟩
    · exact .inl h3
    · refine .inr ⟨g, cap, cur, hv, hg, ?_, hrest⟩
      rw [g1 g hg (h.row g (by rw [hv]; rfl))]
      exact hcur
theorem PBox.up {u v : World} {lo hi b t e s : Nat} {M : Int} {a : Option Addr} {m c : Nat} {xs : List Value} (h : PBox u lo hi b t e s M a m c xs) (hb : Below u.heap.size u v) : PBox v lo hi b t e s M a m c xs :=
  h.rng (l2 := hi) (h2 := hi) (Rng.of_below hb) (.inl (Nat.le_refl _))
theorem PBox.cells {u : World} {lo hi b t e s : Nat} {M : Int} {a : Option Addr} {m c : Nat} {xs : List Value} (h : PBox u lo hi b t e s M a m c xs) : u.cell? ⟨b, 0, none⟩ = some (.int .i64 M) ∧ u.cell? ⟨b, 1, none⟩ = some (.slice a m c) := ⟨h.box.cell0, h.box.cell1⟩
theorem PBox.laid {u : World} {lo t e s : Nat} {M : Int} {a : Option Addr} {m c : Nat} {xs : List Value} (hl : lo ≤ u.heap.size) (ho : u.ownsRow lo e s (.slice a m c) m xs) :
    PBox (u.alloc (.cells #[.int .i64 M, .slice a m c] t)) lo (u.alloc (.cells #[.int .i64 M, .slice a m c] t)).heap.size u.heap.size t e s M a m c xs :=
  ⟨Box7.new _ _ _ _ _ rfl, ho.alloc _, hl, by simp, fun g hg => by have := (ho.lt g hg).2; simp; omega, Nat.le_refl _⟩
theorem PBox.ne {u : World} {lo hi b t e s : Nat} {M : Int} {a : Option Addr} {m c : Nat} {xs : List Value} (h : PBox u lo hi b t e s M a m c xs) (hte : t ≠ e) : ∀ g, (Value.slice a m c).ownBlock = some g → b ≠ g := fun g hg e2 => by
  rcases h.own.2 with ⟨h3, _⟩ | ⟨g2, cap, cur, hv, hg2, hcur, hrest⟩
  · simp at h3
    rw [h3.1] at hg
    simp [Value.ownBlock] at hg
  · simp only [Value.slice.injEq] at hv
    rw [hv.1] at hg
    simp [Value.ownBlock] at hg
    subst hg
    have hbx : u.heap[b]? = some (.cells #[.int .i64 M, .slice a m c] t (0, 0)) := h.box
    rw [e2, hcur] at hbx
    simp at hbx
    exact hte hbx.2.symm
/-- the list is turned, the box stays -/
theorem PBox.turned {u v : World} {lo hi b t e s : Nat} {M : Int} {a : Option Addr} {m c : Nat} {xs ys : List Value} (h : PBox u lo hi b t e s M a m c xs) (hte : t ≠ e) {g : Nat} (hg : (Value.slice a m c).ownBlock = some g) (ho : v.ownsRow lo e s (.slice a m c) m ys) (hgr : u.grownBy v (some g)) : PBox v lo hi b t e s M a m c ys ∧ Rng lo hi u v :=
  ⟨⟨h.box.grown hgr (by have := h.ne hte g hg; simpa using this), ho, h.least, h.most, h.row, Nat.le_trans h.there hgr.size⟩, Rng.of_grown hgr (h.own.lt g hg).1 (h.row g hg)⟩
/-- a web of lo .. is marked -/
theorem markWB {u : World} {lo hi b : Nat} {M : Int} {a : Option Addr} {m c : Nat} {ls : List Ld} (h : PBox u lo hi b 24 47 4 M a m c (lcells ls)) (k0 : Nat) (hm : m ≤ 1048576) (h1 : k0 ≤ 10000000) :
    Calls Try.prog 8 #[.agg #[.int .i64 M, .slice a m c], .int .i64 (k0 : Int)] u fun e v => e = .returned (.int .i64 ((k0 : Int) + (m : Int) * 4)) ∧ PBox v lo hi b 24 47 4 M a m c (lcells (lmarks k0 m)) ∧ Rng lo hi u v := by
  rcases h.own.2 with ⟨hv, hm0⟩ | ⟨g, cap, cur, hv, hg, hcur, hrest⟩
  · subst hm0
    refine (markWeb_zero M a c (k0 : Int) u).mono fun e v ⟨he, hb⟩ => ⟨by rw [he]; simp, ?_, Rng.of_below hb⟩
    have h2 := h.up hb
    have hl := h.own.1
    rw [lcells_length] at hl
    have hg0 : ls = [] := List.length_eq_zero_iff.1 (by omega)
    subst hg0
    exact h2
  · have hv' := hv
    simp at hv'
    obtain ⟨rfl, rfl⟩ := hv'
    refine (markWeb_any M lo g c m k0 ls hm h1 u h.own).mono fun e v ⟨he, ho, hgr⟩ => ?_
    obtain ⟨p1, p2⟩ := h.turned (by decide) (g := g) rfl ho hgr
    exact ⟨he, p1, p2⟩
theorem heldWB {u : World} {lo hi b : Nat} {M : Int} {a : Option Addr} {m c : Nat} (k0 : Nat) (h : PBox u lo hi b 24 47 4 M a m c (lcells (lmarks k0 m))) (hm : m ≤ 1048576) (h1 : k0 ≤ 10000000) :
    Calls Try.prog 9 #[.agg #[.int .i64 M, .slice a m c], .int .i64 (k0 : Int)] u fun e v => e = .returned (.int .i64 ((k0 : Int) + (m : Int) * 4)) ∧ Below u.heap.size u v :=
  heldWeb_any M m k0 a c hm h1 u (Ls_of_own h.own)
theorem eqWB {u : World} {lo hi b lo' hi' b' : Nat} {M : Int} {a a' : Option Addr} {m c m' c' : Nat} {ls : List Ld} (h : PBox u lo hi b 24 47 4 M a m c (lcells ls)) (h' : PBox u lo' hi' b' 24 47 4 M a' m' c' (lcells ls)) (hm : m ≤ 1048576) :
    Calls Try.prog 7 #[.agg #[.int .i64 M, .slice a m c], .agg #[.int .i64 M, .slice a' m' c']] u fun e v => e = .returned (.bool true) ∧ Below u.heap.size u v := by
  have h1 := h.own.1
  have h2 := h'.own.1
  rw [lcells_length] at h1 h2
  have e : m' = m := by omega
  subst e
  exact eqWeb_same M ls m' a a' c c' hm u (Ls_of_own h.own) (Ls_of_own h'.own)
/-- nothing of the law's own box has turned -/
def LWx (w : World) (N : Int) (a : Option Addr) (n c : Nat) : World := w.alloc (.cells #[.int .i64 N, .slice a n c] 32)
theorem LWx_size (w : World) (N : Int) (a : Option Addr) (n c : Nat) : (LWx w N a n c).heap.size = w.heap.size + 1 := by simp [LWx]
def LW (w : World) (N : Int) (a : Option Addr) (n c : Nat) (u : World) : Prop := Below (w.heap.size + 1) (LWx w N a n c) u
theorem LW.start (w : World) (N : Int) (a : Option Addr) (n c : Nat) : LW w N a n c (LWx w N a n c) := Below.refl _ _
theorem LW.size {w : World} {N : Int} {a : Option Addr} {n c : Nat} {u : World} (h : LW w N a n c u) : w.heap.size + 1 ≤ u.heap.size := by have := Below.size h; rw [LWx_size] at this; exact this
theorem LW.up {w : World} {N : Int} {a : Option Addr} {n c : Nat} {u v : World} (h : LW w N a n c u) (hb : Below u.heap.size u v) : LW w N a n c v := Below.trans h (hb.mono h.size)
theorem LW.rng {w : World} {N : Int} {a : Option Addr} {n c : Nat} {u v : World} {lo hi : Nat} (h : LW w N a n c u) (hr : Rng lo hi u v) (hl : w.heap.size + 1 ≤ lo) : LW w N a n c v := Below.trans h (hr.below hl h.size)
theorem LW.below {w : World} {N : Int} {a : Option Addr} {n c : Nat} {u : World} (h : LW w N a n c u) : Below w.heap.size w u :=
  ((Below.refl w.heap.size w).alloc (Nat.le_refl _) _).trans (Below.mono h (by omega))
theorem LW.ls {w : World} {N : Int} {a : Option Addr} {n c : Nat} {u : World} {ls : List Ld} (h : LW w N a n c u) (hf : Ls w w.heap.size a n ls) : Ls u u.heap.size a n ls := hf.up h.below
theorem LW.cells {w : World} {N : Int} {a : Option Addr} {n c : Nat} {u : World} (h : LW w N a n c u) : u.cell? ⟨w.heap.size, 0, none⟩ = some (.int .i64 N) ∧ u.cell? ⟨w.heap.size, 1, none⟩ = some (.slice a n c) := by
  refine ⟨?_, ?_⟩
  · rw [Below.cell h (by show w.heap.size < _; omega)]; simp [LWx]
  · rw [Below.cell h (by show w.heap.size < _; omega)]; simp [LWx]
end Go.Proofs.Ytgjngaaibcmgmaa
namespace Go.Proofs.Ytgjngaaibcmgmaa
open Go.RowKit

theorem take_set2 {α : Type} (xs : List α) (m : Nat) (a b : α) (h : m + 2 ≤ xs.length) : ((xs.set m a).set (m + 1) b).take (m + 2) = xs.take m ++ [a, b] := by
  apply List.ext_getElem?
  intro i
  have hl : (xs.take m).length = m := by simp; omega
  by_cases h1 : i < m
  · rw [List.getElem?_append_left (by omega), List.getElem?_take_of_lt h1, List.getElem?_take_of_lt (by omega), List.getElem?_set_ne (by omega), List.getElem?_set_ne (by omega)]
  · rw [List.getElem?_append_right (by omega), hl]
    by_cases h2 : i < m + 2
    · rw [List.getElem?_take_of_lt h2]
      rcases (show i = m ∨ i = m + 1 by omega) with rfl | rfl
      · rw [List.getElem?_set_ne (by omega), List.getElem?_set_self (by omega)]; simp
      · rw [List.getElem?_set_self (by simp; omega)]; simp
    · rw [List.getElem?_eq_none (by simp; omega), List.getElem?_eq_none (by simp; omega)]

theorem eqEdge_yes (f : EdgeV) (w : World) :
    Calls Try.prog 30 #[.agg #[.int .i64 f.1, .int .i64 f.2], .agg #[.int .i64 f.1, .int .i64 f.2]] w fun e w' => e = .returned (.bool true) ∧ Below w.heap.size w w' := by
  go_enter Try.func30, Try.ntmps30
  go_wp2
  go_ret
  exact ⟨rfl, ((Below.refl _ _).alloc (Nat.le_refl _) _).alloc (by simp) _⟩

set_option maxRecDepth 100000 in
set_option maxHeartbeats 2000000 in
theorem eqEdgeS_same (fs : List EdgeV) (n : Nat) (a a' : Option Addr) (c c' : Nat) (hn : n ≤ 1048576) (w : World) (h : Es w w.heap.size a n fs) (h' : Es w w.heap.size a' n fs) :
    Calls Try.prog 25 #[.slice a n c, .slice a' n c'] w fun e w' => e = .returned (.bool true) ∧ Below w.heap.size w w' := by
  obtain ⟨hlen, hrow⟩ := h
  obtain ⟨_, hrow'⟩ := h'
  have HR := hideIt hrow
  have HR' := hideIt hrow'
  clear hrow hrow'
  go_enter Try.func25, Try.ntmps25
  go_wp2
  go_loopw [5] (fun i wr => ∃ k : Nat, k ≤ n ∧ i = .int .i64 (k : Int) ∧ Below w.heap.size w wr) (fun i _ => n - (intOf i).toNat)
  case atStart => exact ⟨0, by omega, rfl, Below.refl _ _⟩
  case round =>
    obtain ⟨k, hk, rfl, hb⟩ := hrel
    by_cases hlt : k < n
    · rcases HR.out with hz | ⟨b, off, rfl, hbl, hc⟩
      · omega
      · rcases HR'.out with hz | ⟨b', off', rfl, hbl', hc'⟩
        · omega
        · obtain ⟨f, hf⟩ : ∃ f, fs[k]? = some f := ⟨fs[k]'(by omega), List.getElem?_eq_getElem (by omega)⟩
          obtain ⟨c0, c1⟩ := hc k f hf
          obtain ⟨d0, d1⟩ := hc' k f hf
          have e0 : wr.cell? ⟨b, off + k * 2, none⟩ = some (.int .i64 f.1) := by rw [hb.cell hbl]; exact c0
          have e1 : wr.cell? ⟨b, off + k * 2 + 1, none⟩ = some (.int .i64 f.2) := by rw [hb.cell hbl]; exact c1
          have e3 : wr.cell? ⟨b', off' + k * 2, none⟩ = some (.int .i64 f.1) := by rw [hb.cell hbl']; exact d0
          have e4 : wr.cell? ⟨b', off' + k * 2 + 1, none⟩ = some (.int .i64 f.2) := by rw [hb.cell hbl']; exact d1
          have b1 : (0 : Int) ≤ (k : Int) := by omega
          have b2 : (k : Int) < (n : Int) := by omega
          have HT : Hid (∀ W : World, Below w.heap.size w W → Calls Try.prog 30 #[.agg #[.int .i64 f.1, .int .i64 f.2], .agg #[.int .i64 f.1, .int .i64 f.2]] W fun e w' => e = .returned (.bool true) ∧ Below w.heap.size w w') := fun W hW =>
            (eqEdge_yes f W).mono fun _ _ ⟨he, hb'⟩ => ⟨he, hW.trans (hb'.mono hW.size)⟩
          have HK : Hid (∀ W : World, Below w.heap.size w W → (W.cell? ⟨b, off + k * 2, none⟩ = some (.int .i64 f.1) ∧ W.cell? ⟨b, off + k * 2 + 1, none⟩ = some (.int .i64 f.2) ∧ W.cell? ⟨b', off' + k * 2, none⟩ = some (.int .i64 f.1) ∧ W.cell? ⟨b', off' + k * 2 + 1, none⟩ = some (.int .i64 f.2))) := fun W hW =>
            ⟨by rw [hW.cell hbl]; exact c0, by rw [hW.cell hbl]; exact c1, by rw [hW.cell hbl']; exact d0, by rw [hW.cell hbl']; exact d1⟩
          have hbd := hb.drew
          clear c0 c1 d0 d1 hc hc' hf
          go_wp2
          go_region_held3 (fun u => Below w.heap.size w u ∧ u.cell? ⟨b, off + k * 2, none⟩ = some (.int .i64 f.1) ∧ u.cell? ⟨b, off + k * 2 + 1, none⟩ = some (.int .i64 f.2) ∧ u.cell? ⟨b', off' + k * 2, none⟩ = some (.int .i64 f.1) ∧ u.cell? ⟨b', off' + k * 2 + 1, none⟩ = some (.int .i64 f.2))
            (first | exact ⟨hb3, HK.out _ hb3⟩ | exact ⟨hbd, HK.out _ hbd⟩)
            ((go_at_call 30; refine (HT.out _ hbd).mono ?_; rintro e w1 ⟨rfl, hb3⟩))
          clear hbd
          go_wp2
          go_roundw
          case rel => exact ⟨k + 1, by omega, by go_num, hb3⟩
          case measure => simp [intOf]; omega
    · go_wp2
      go_ret
      exact ⟨rfl, hb⟩


/-- n marked edges from k0 on -/
def marks (k0 n : Nat) : List EdgeV := (List.range n).map fun (t : Nat) => ((k0 : Int) + (t : Int) * 2, (k0 : Int) + (t : Int) * 2 + 1)
theorem marks_snoc (k0 n : Nat) : marks k0 (n + 1) = marks k0 n ++ [((k0 : Int) + (n : Int) * 2, (k0 : Int) + (n : Int) * 2 + 1)] := by simp [marks, List.range_succ]
theorem marks_length (k0 n : Nat) : (marks k0 n).length = n := by simp [marks]
theorem marks_at (k0 n j : Nat) (h : j < n) : (marks k0 n)[j]? = some ((k0 : Int) + (j : Int) * 2, (k0 : Int) + (j : Int) * 2 + 1) := by simp [marks, h]

theorem markEdgeS_zero (a : Option Addr) (c : Nat) (k0 : Int) (w : World) :
    Calls Try.prog 26 #[.slice a 0 c, .int .i64 k0] w fun e w' => e = .returned (.int .i64 k0) ∧ w' = w := by
  go_enter Try.func26, Try.ntmps26
  go_wp2
  refine wp_loop_rounds 1 ?_
  rw [rounds_succ]
  go_wp2
  go_ret
  exact ⟨rfl, rfl⟩

set_option maxRecDepth 100000 in
set_option maxHeartbeats 4000000 in
theorem markEdgeS_any (base g c n k0 : Nat) (fs : List EdgeV) (hn : n ≤ 1048576) (hk1 : k0 ≤ 10000000) (w : World)
    (h : w.ownsRow base 49 2 (.slice (some ⟨g, 0, none⟩) n c) n (ecells fs)) :
    Calls Try.prog 26 #[.slice (some ⟨g, 0, none⟩) n c, .int .i64 (k0 : Int)] w fun e w' => e = .returned (.int .i64 ((k0 : Int) + (n : Int) * 2)) ∧
      w'.ownsRow base 49 2 (.slice (some ⟨g, 0, none⟩) n c) n (ecells (marks k0 n)) ∧ w.grownBy w' (some g) := by
  have HO0 := hideIt h
  clear h
  go_enter Try.func26, Try.ntmps26
  go_wp2
  go_loopw [1, 5] (fun kk i wr => ∃ (j : Nat) (xs : List Value), j ≤ n ∧ i = .int .i64 (j : Int) ∧ kk = .int .i64 ((k0 : Int) + (j : Int) * 2) ∧ Hid (xs.take (j * 2) = ecells (marks k0 j)) ∧
      wr.ownsRow base 49 2 (.slice (some ⟨g, 0, none⟩) n c) n xs ∧ w.grownBy wr (some g)) (fun _ i _ => n - (intOf i).toNat)
  case atStart => exact ⟨0, _, by omega, rfl, by simp, by show _ = _; simp [ecells, marks], HO0.out, ⟨rfl, rfl, rfl, Nat.le_refl _, fun _ _ _ => rfl⟩⟩
  case round =>
    obtain ⟨j, xs, hj, rfl, rfl, hx, hown, hgr⟩ := hrel
    clear HO0
    have hl3 : xs.length = n * 2 := hown.1
    by_cases hlt : j < n
    · have b1 : (0 : Int) ≤ (j : Int) := by omega
      have b2 : (j : Int) < (n : Int) := by omega
      obtain ⟨y0, c0⟩ : ∃ y, wr.cell? ⟨g, j * 2, none⟩ = some y := ⟨_, by rw [hown.cellAt (j * 2) (by omega)]; exact List.getElem?_eq_getElem (by omega)⟩
      obtain ⟨y1, c1⟩ : ∃ y, wr.cell? ⟨g, j * 2 + 1, none⟩ = some y := ⟨_, by rw [hown.cellAt (j * 2 + 1) (by omega)]; exact List.getElem?_eq_getElem (by omega)⟩
      have f0 := hown.frozenAt (j * 2)
      have f1 := hown.frozenAt (j * 2 + 1)
      have hst1 := hown.stored (j * 2) (.int .i64 ((k0 : Int) + (j : Int) * 2))
      have hst2 := hst1.1.stored (j * 2 + 1) (.int .i64 ((k0 : Int) + (j : Int) * 2 + 1))
      have HO2 := hideIt hst2.1
      have HG2 := hideIt (grown_trans (grown_trans hgr hst1.2) hst2.2)
      have HX : Hid (((xs.set (j * 2) (.int .i64 ((k0 : Int) + (j : Int) * 2))).set (j * 2 + 1) (.int .i64 ((k0 : Int) + (j : Int) * 2 + 1))).take ((j + 1) * 2) = ecells (marks k0 (j + 1))) := by
        show _ = _
        rw [show (j + 1) * 2 = j * 2 + 2 by omega, take_set2 _ _ _ _ (by omega), hx.out, marks_snoc, ecells_snoc]
      clear hst1 hst2 hx hown hgr
      go_wp2
      exact ⟨⟨j + 1, _, by omega, by go_num, by go_num, HX, HO2.out, HG2.out⟩, by simp [intOf]; omega⟩
    · obtain rfl : j = n := by omega
      have HX : Hid (xs = ecells (marks k0 j)) := by
        show _ = _
        have := hx.out
        rw [List.take_of_length_le (by omega)] at this
        exact this
      have HO := hideIt hown
      clear hx hown
      go_wp2
      go_ret
      exact ⟨rfl, by rw [← HX.out]; exact HO.out, hgr⟩

set_option maxRecDepth 100000 in
set_option maxHeartbeats 4000000 in
theorem heldEdgeS_any (n k0 : Nat) (a : Option Addr) (c : Nat) (hn : n ≤ 1048576) (hk1 : k0 ≤ 10000000) (w : World) (h : Es w w.heap.size a n (marks k0 n)) :
    Calls Try.prog 27 #[.slice a n c, .int .i64 (k0 : Int)] w fun e w' => e = .returned (.int .i64 ((k0 : Int) + (n : Int) * 2)) ∧ w' = w := by
  obtain ⟨_, hrow⟩ := h
  have HR := hideIt hrow
  clear hrow
  go_enter Try.func27, Try.ntmps27
  go_wp2
  go_loopw [1, 5] (fun kk i wr => ∃ j : Nat, j ≤ n ∧ i = .int .i64 (j : Int) ∧ kk = .int .i64 ((k0 : Int) + (j : Int) * 2) ∧ wr = w) (fun _ i _ => n - (intOf i).toNat)
  case atStart => exact ⟨0, by omega, rfl, by simp, rfl⟩
  case round =>
    obtain ⟨j, hj, rfl, rfl, hw⟩ := hrel
    have hw' := hw.symm
    subst hw'
    clear hw
    by_cases hlt : j < n
    · rcases HR.out with hz | ⟨b, off, rfl, hbl, hc⟩
      · omega
      · obtain ⟨c0, c1⟩ := hc j _ (marks_at k0 n j hlt)
        dsimp only at c0 c1
        have b1 : (0 : Int) ≤ (j : Int) := by omega
        have b2 : (j : Int) < (n : Int) := by omega
        clear hc
        go_wp2
        exact ⟨⟨j + 1, by omega, by go_num, by go_num, by first | trivial | rfl⟩, by simp [intOf]; omega⟩
    · obtain rfl : j = n := by omega
      go_wp2
      go_ret
      exact ⟨rfl, rfl⟩


/-- a list of edges that is ours, in blocks lo .. hi -/
structure EBox (u : World) (lo hi : Nat) (a : Option Addr) (m c : Nat) (es : List EdgeV) : Prop where
  own : u.ownsRow lo 49 2 (.slice a m c) m (ecells es)
  row : ∀ g, (Value.slice a m c).ownBlock = some g → g < hi
  there : hi ≤ u.heap.size
theorem EBox.rng {u v : World} {lo hi l2 h2 : Nat} {a : Option Addr} {m c : Nat} {es : List EdgeV} (h : EBox u lo hi a m c es) (hr : Rng l2 h2 u v) (ho : hi ≤ l2 ∨ h2 ≤ lo) : EBox v lo hi a m c es := by
  have hth := h.there
  refine ⟨⟨h.own.1, ?_⟩, h.row, Nat.le_trans hth hr.size⟩
  rcases h.own.2 with h3 | ⟨g, cap, cur, hv, hg, hcur, hrest⟩
  · exact .inl h3
  · have hgh := h.row g (by rw [hv]; rfl)
    refine .inr ⟨g, cap, cur, hv, hg, ?_, hrest⟩
    rw [hr.block g (by omega) (by omega)]
    exact hcur
theorem EBox.up {u v : World} {lo hi : Nat} {a : Option Addr} {m c : Nat} {es : List EdgeV} (h : EBox u lo hi a m c es) (hb : Below u.heap.size u v) : EBox v lo hi a m c es := h.rng (l2 := hi) (h2 := hi) (Rng.of_below hb) (.inl (Nat.le_refl _))
theorem EBox.es {u : World} {lo hi : Nat} {a : Option Addr} {m c : Nat} {es : List EdgeV} (h : EBox u lo hi a m c es) : Es u u.heap.size a m es := Es_of_own h.own
theorem EBox.len {u : World} {lo hi : Nat} {a : Option Addr} {m c : Nat} {es : List EdgeV} (h : EBox u lo hi a m c es) : es.length = m := by have := h.own.1; rw [ecells_length] at this; omega
theorem EBox.laid {u : World} {lo : Nat} {a : Option Addr} {m c : Nat} {es : List EdgeV} (ho : u.ownsRow lo 49 2 (.slice a m c) m (ecells es)) : EBox u lo u.heap.size a m c es := ⟨ho, fun g hg => (ho.lt g hg).2, Nat.le_refl _⟩
theorem eqEB {u : World} {lo hi lo' hi' : Nat} {a a' : Option Addr} {m c m' c' : Nat} {es : List EdgeV} (h : EBox u lo hi a m c es) (h' : EBox u lo' hi' a' m' c' es) (hm : m ≤ 1048576) :
    Calls Try.prog 25 #[.slice a m c, .slice a' m' c'] u fun e v => e = .returned (.bool true) ∧ Below u.heap.size u v := by
  have e : m' = m := by rw [← h.len, ← h'.len]
  subst e
  exact eqEdgeS_same es m' a a' c c' hm u h.es h'.es
theorem markEB {u : World} {lo hi : Nat} {a : Option Addr} {m c : Nat} {es : List EdgeV} (h : EBox u lo hi a m c es) (k0 : Nat) (hm : m ≤ 1048576) (h1 : k0 ≤ 10000000) :
    Calls Try.prog 26 #[.slice a m c, .int .i64 (k0 : Int)] u fun e v => e = .returned (.int .i64 ((k0 : Int) + (m : Int) * 2)) ∧ EBox v lo hi a m c (marks k0 m) ∧ Rng lo hi u v := by
  have hth := h.there
  rcases h.own.2 with ⟨hv, hm0⟩ | ⟨g, cap, cur, hv, hg, hcur, hrest⟩
  · subst hm0
    refine (markEdgeS_zero a c (k0 : Int) u).mono fun e v ⟨he, hb⟩ => ⟨by rw [he]; simp, ?_, by rw [hb]; exact Rng.of_below (Below.refl _ _)⟩
    have hg0 : es = [] := List.length_eq_zero_iff.1 h.len
    subst hg0
    rw [hb]
    exact h
  · have hv' := hv
    simp at hv'
    obtain ⟨rfl, rfl⟩ := hv'
    have hgh := h.row g rfl
    refine (markEdgeS_any lo g c m k0 es hm h1 u h.own).mono fun e v ⟨he, ho, hgr⟩ => ⟨he, ⟨ho, h.row, Nat.le_trans hth hgr.size⟩, Rng.of_grown hgr hg hgh⟩
theorem heldEB {u : World} {lo hi : Nat} {a : Option Addr} {m c : Nat} (k0 : Nat) (h : EBox u lo hi a m c (marks k0 m)) (hm : m ≤ 1048576) (h1 : k0 ≤ 10000000) :
    Calls Try.prog 27 #[.slice a m c, .int .i64 (k0 : Int)] u fun e v => e = .returned (.int .i64 ((k0 : Int) + (m : Int) * 2)) ∧ v = u :=
  heldEdgeS_any m k0 a c hm h1 u h.es
end Go.Proofs.Ytgjngaaibcmgmaa
namespace Go.Proofs.Ytgjngaaibcmgmaa
open Go.RowKit

theorem eqGraph_same9 (N : Int) (fs : List EdgeV) (n : Nat) (a a' : Option Addr) (c c' : Nat) (hn : n ≤ 1048576) (w : World) (h : Es w w.heap.size a n fs) (h' : Es w w.heap.size a' n fs) :
    Calls Try.prog 14 #[.agg #[.int .i64 N, .slice a n c], .agg #[.int .i64 N, .slice a' n c']] w fun e w' => e = .returned (.bool true) ∧ Below w.heap.size w w' := by
  have g2 : Good w ((w.alloc (.cells #[.int .i64 N, .slice a n c] 36)).alloc (.cells #[.int .i64 N, .slice a' n c'] 36)) := ((Good.refl w).alloc _).alloc _
  have HT := hideIt (eqEdgeS_same fs n a a' c c' hn _ (h.up g2) (h'.up g2))
  clear h h'
  go_enter Try.func14, Try.ntmps14
  go_wp2_with (go_at_call 25; refine HT.out.mono ?_; rintro e w1 ⟨rfl, hb1⟩)
  go_ret
  exact ⟨rfl, g2.up hb1⟩
theorem markGraph_zero9 (N : Int) (a : Option Addr) (c : Nat) (k0 : Int) (w : World) :
    Calls Try.prog 15 #[.agg #[.int .i64 N, .slice a 0 c], .int .i64 k0] w fun e w' => e = .returned (.int .i64 k0) ∧ Below w.heap.size w w' := by
  have HT := hideIt (markEdgeS_zero a c k0)
  go_enter Try.func15, Try.ntmps15
  go_wp2_with (go_at_call 26; refine (HT.out _).mono ?_; rintro e w1 ⟨rfl, rfl⟩)
  go_ret
  exact ⟨rfl, (Below.refl _ _).alloc (Nat.le_refl _) _⟩
theorem markGraph_any9 (N : Int) (base g c n k0 : Nat) (fs : List EdgeV) (hn : n ≤ 1048576) (hk1 : k0 ≤ 10000000) (w : World)
    (h : w.ownsRow base 49 2 (.slice (some ⟨g, 0, none⟩) n c) n (ecells fs)) :
    Calls Try.prog 15 #[.agg #[.int .i64 N, .slice (some ⟨g, 0, none⟩) n c], .int .i64 (k0 : Int)] w fun e w' => e = .returned (.int .i64 ((k0 : Int) + (n : Int) * 2)) ∧
      w'.ownsRow base 49 2 (.slice (some ⟨g, 0, none⟩) n c) n (ecells (marks k0 n)) ∧ w.grownBy w' (some g) := by
  have HT := hideIt (markEdgeS_any base g c n k0 fs hn hk1 _ (h.alloc (.cells #[.int .i64 N, .slice (some ⟨g, 0, none⟩) n c] 36)))
  clear h
  go_enter Try.func15, Try.ntmps15
  go_wp2_with (go_at_call 26; refine HT.out.mono ?_; rintro e w1 ⟨rfl, ho, hg⟩; refine Hid.out ?_)
  refine (show ∀ {p : Prop}, p → Hid p from fun h => h) ?_
  have HO := hideIt ho
  have HG := hideIt hg
  clear ho hg HT
  go_wp2
  go_ret
  exact ⟨rfl, HO.out, grown_trans (grown_of_below ((Below.refl _ _).alloc (Nat.le_refl _) _) _) HG.out⟩
theorem heldGraph_any9 (N : Int) (n k0 : Nat) (a : Option Addr) (c : Nat) (hn : n ≤ 1048576) (hk1 : k0 ≤ 10000000) (w : World) (h : Es w w.heap.size a n (marks k0 n)) :
    Calls Try.prog 16 #[.agg #[.int .i64 N, .slice a n c], .int .i64 (k0 : Int)] w fun e w' => e = .returned (.int .i64 ((k0 : Int) + (n : Int) * 2)) ∧ Below w.heap.size w w' := by
  have g1 : Good w (w.alloc (.cells #[.int .i64 N, .slice a n c] 36)) := (Good.refl w).alloc _
  have HT := hideIt (heldEdgeS_any n k0 a c hn hk1 _ (h.up g1))
  have d1 : decide ((k0 : Int) + (n : Int) * 2 < 0) = false := decide_eq_false (by omega)
  clear h
  go_enter Try.func16, Try.ntmps16
  go_wp2_with (go_at_call 27; refine HT.out.mono ?_; rintro e w1 ⟨rfl, rfl⟩)
  go_ret
  exact ⟨rfl, (Below.refl _ _).alloc (Nat.le_refl _) _⟩
theorem markGB {u : World} {lo hi b : Nat} {M : Int} {a : Option Addr} {m c : Nat} {es : List EdgeV} (h : PBox u lo hi b 36 49 2 M a m c (ecells es)) (k0 : Nat) (hm : m ≤ 1048576) (h1 : k0 ≤ 10000000) :
    Calls Try.prog 15 #[.agg #[.int .i64 M, .slice a m c], .int .i64 (k0 : Int)] u fun e v => e = .returned (.int .i64 ((k0 : Int) + (m : Int) * 2)) ∧ PBox v lo hi b 36 49 2 M a m c (ecells (marks k0 m)) ∧ Rng lo hi u v := by
  rcases h.own.2 with ⟨hv, hm0⟩ | ⟨g, cap, cur, hv, hg, hcur, hrest⟩
  · subst hm0
    refine (markGraph_zero9 M a c (k0 : Int) u).mono fun e v ⟨he, hb⟩ => ⟨by rw [he]; simp, ?_, Rng.of_below hb⟩
    have h2 := h.up hb
    have hl := h.own.1
    rw [ecells_length] at hl
    have hg0 : es = [] := List.length_eq_zero_iff.1 (by omega)
    subst hg0
    exact h2
  · have hv' := hv
    simp at hv'
    obtain ⟨rfl, rfl⟩ := hv'
    refine (markGraph_any9 M lo g c m k0 es hm h1 u h.own).mono fun e v ⟨he, ho, hgr⟩ => ?_
    obtain ⟨p1, p2⟩ := h.turned (by decide) (g := g) rfl ho hgr
    exact ⟨he, p1, p2⟩
theorem heldGB {u : World} {lo hi b : Nat} {M : Int} {a : Option Addr} {m c : Nat} (k0 : Nat) (h : PBox u lo hi b 36 49 2 M a m c (ecells (marks k0 m))) (hm : m ≤ 1048576) (h1 : k0 ≤ 10000000) :
    Calls Try.prog 16 #[.agg #[.int .i64 M, .slice a m c], .int .i64 (k0 : Int)] u fun e v => e = .returned (.int .i64 ((k0 : Int) + (m : Int) * 2)) ∧ Below u.heap.size u v :=
  heldGraph_any9 M m k0 a c hm h1 u (Es_of_own h.own)
theorem eqGB {u : World} {lo hi b lo' hi' b' : Nat} {M : Int} {a a' : Option Addr} {m c m' c' : Nat} {es : List EdgeV} (h : PBox u lo hi b 36 49 2 M a m c (ecells es)) (h' : PBox u lo' hi' b' 36 49 2 M a' m' c' (ecells es)) (hm : m ≤ 1048576) :
    Calls Try.prog 14 #[.agg #[.int .i64 M, .slice a m c], .agg #[.int .i64 M, .slice a' m' c']] u fun e v => e = .returned (.bool true) ∧ Below u.heap.size u v := by
  have h1 := h.own.1
  have h2 := h'.own.1
  rw [ecells_length] at h1 h2
  have e : m' = m := by omega
  subst e
  exact eqGraph_same9 M es m' a a' c c' hm u (Es_of_own h.own) (Es_of_own h'.own)
end Go.Proofs.Ytgjngaaibcmgmaa
namespace Go.Proofs.Ytgjngaaibcmgmaa
open Go.RowKit

theorem take_set2' (xs : List Value) (k : Nat) (x y : Value) (h : k + 2 ≤ xs.length) : ((xs.set k x).set (k + 1) y).take (k + 2) = xs.take k ++ [x, y] := by
  apply List.ext_getElem?
  intro i
  by_cases h1 : i < k
  · rw [List.getElem?_take_of_lt (by omega), List.getElem?_set_ne (by omega), List.getElem?_set_ne (by omega), List.getElem?_append_left (by simp; omega), List.getElem?_take_of_lt h1]
  · by_cases h2 : i = k
    · subst h2
      rw [List.getElem?_take_of_lt (by omega), List.getElem?_set_ne (by omega), List.getElem?_set_self (by omega), List.getElem?_append_right (by simp; omega)]
      have e : i - (xs.take i).length = 0 := by simp; omega
      rw [e]; rfl
    · by_cases h3 : i = k + 1
      · subst h3
        rw [List.getElem?_take_of_lt (by omega), List.getElem?_set_self (by simp; omega), List.getElem?_append_right (by simp; omega)]
        have e : k + 1 - (xs.take k).length = 1 := by simp; omega
        rw [e]; rfl
      · rw [List.getElem?_take_eq_none (by omega), List.getElem?_eq_none (by simp; omega)]
/-- behind the web's box and the answer's -/
def wg2 (w : World) (N : Int) (a : Option Addr) (n c : Nat) : World := (wW w N a n c).alloc (.cells #[.int .i64 0, .slice none 0 0] 36)
theorem wg2_size (w : World) (N : Int) (a : Option Addr) (n c : Nat) : (wg2 w N a n c).heap.size = w.heap.size + 2 := by simp [wg2, wW]
theorem wg2_good (w : World) (N : Int) (a : Option Addr) (n c : Nat) : Good w (wg2 w N a n c) := (wW_good w N a n c).alloc _
theorem wg2_cells {w : World} {N : Int} {a : Option Addr} {n c : Nat} {u : World} (h : Below (w.heap.size + 2) (wg2 w N a n c) u) : (u.cell? ⟨w.heap.size, 0, none⟩ = some (.int .i64 N) ∧ u.cell? ⟨w.heap.size, 1, none⟩ = some (.slice a n c)) ∧ Box7 u (w.heap.size + 1) 36 (.int .i64 0) (.slice none 0 0) := by
  have b1 : Box7 (wg2 w N a n c) w.heap.size 24 (.int .i64 N) (.slice a n c) := (Box7.new w _ _ _ _ rfl).alloc _
  have b2 : Box7 (wg2 w N a n c) (w.heap.size + 1) 36 (.int .i64 0) (.slice none 0 0) := Box7.new _ _ _ _ _ (by simp [wW])
  have c1 := b1.below h (by omega)
  exact ⟨⟨c1.cell0, c1.cell1⟩, b2.below h (by omega)⟩

set_option maxRecDepth 100000 in
set_option maxHeartbeats 4000000 in
theorem iGraphOf_any (N : Int) (ls : List Ld) (n : Nat) (a : Option Addr) (c : Nat) (hn : n ≤ 1048576) (w : World) (h : Ls w w.heap.size a n ls) :
    Calls Try.prog 13 #[.agg #[.int .i64 N, .slice a n c]] w fun e w' => ∃ g, e = .returned (.agg #[.int .i64 N, .slice (some ⟨g, 0, none⟩) n n]) ∧ w'.ownsRow w.heap.size 49 2 (.slice (some ⟨g, 0, none⟩) n n) n (ecells (gE ls)) ∧ Below w.heap.size w w' := by
  obtain ⟨i0, hi, hz0, hz1, hz2⟩ := info_parts infoIE
  have hmk : ∀ u : World, (Instr.makeSlice 34 (.int .i64 (n : Int)) (.int .i64 (n : Int))).run Try.prog u =
      .ok (.slice (some ⟨u.heap.size, 0, none⟩) n n) (u.alloc (.cells (madeCells #[.int .i64 0, .int .i64 0] (n * 2)) 49)) := fun u => by
    have h := run_make (P := Try.prog) u 34 49 i0 _ Try.underlying34 hi hz0 .i64 .i64 (n : Int) (n : Int) (by omega) (by omega) (by rw [hz2]; omega) (by omega)
    rw [Int.toNat_natCast] at h
    simpa [hz1, Value.cells] using h
  have HR := hideIt h
  have hlen := h.1
  have o0 := World.ownsRow_lit (base := w.heap.size + 2) (e := 49) (size := 2) (wg2 w N a n c) (madeCells #[.int .i64 0, .int .i64 0] (n * 2)) n (by rw [wg2_size]; omega) (by unfold maxLen; omega) (by simp [madeCells])
  rw [wg2_size] at o0
  have HO0 := hideIt o0
  have HB0 : Hid (Below (w.heap.size + 2) (wg2 w N a n c) ((wg2 w N a n c).alloc (.cells (madeCells #[.int .i64 0, .int .i64 0] (n * 2)) 49))) := (Below.refl _ _).alloc (by rw [wg2_size]; omega) _
  clear h o0
  go_enter Try.func13, Try.ntmps13
  go_wp2
  go_loopw [13] (fun i wr => ∃ (k : Nat) (xs : List Value), k ≤ n ∧ i = .int .i64 (k : Int) ∧ Hid (xs.take (k * 2) = ecells (gE (ls.take k))) ∧ wr.ownsRow (w.heap.size + 2) 49 2 (.slice (some ⟨w.heap.size + 2, 0, none⟩) n n) n xs ∧ Below (w.heap.size + 2) (wg2 w N a n c) wr) (fun i _ => n - (intOf i).toNat)
  case atStart => exact ⟨0, _, by omega, rfl, by show _ = _; simp [ecells, gE], HO0.out, HB0.out⟩
  case round =>
    obtain ⟨k, xs, hk, rfl, hx, hown, hb⟩ := hrel
    clear HO0 HB0
    obtain ⟨⟨cw0, cw1⟩, bx⟩ := wg2_cells hb
    have hz := hb.size
    rw [wg2_size] at hz
    by_cases hlt : k < n
    · have hgb : Good w wr := (wg2_good w N a n c).trans (hb.mono (by omega))
      obtain ⟨b, off, x, rfl, hbl, hxk, hat⟩ := (HR.out.below hgb (Nat.le_refl _)).at hlt
      have e0 := hat.ca
      have e1 := hat.cb
      have e2 := hat.cl
      have e3 := hat.ct
      have b1 : (0 : Int) ≤ (k : Int) := by omega
      have b2 : (k : Int) < (n : Int) := by omega
      have HT := hideIt (ledgeEdge_any x)
      have HTk : Hid (ecells (gE (ls.take (k + 1))) = ecells (gE (ls.take k)) ++ [.int .i64 x.a, .int .i64 x.b]) := by
        show _ = _
        rw [take_snocF ls k x hxk]
        simp [gE, Ld.e, ecells, ecell]
      have hba : Below wr.heap.size wr (wr.alloc (.cells #[.int .i64 x.a, .int .i64 x.b, .int .i64 x.l, .bool x.t] 47)) := (Below.refl _ _).alloc (Nat.le_refl _) _
      have HU : Hid (∀ u, Below (wr.alloc (.cells #[.int .i64 x.a, .int .i64 x.b, .int .i64 x.l, .bool x.t] 47)).heap.size (wr.alloc (.cells #[.int .i64 x.a, .int .i64 x.b, .int .i64 x.l, .bool x.t] 47)) u → u.ownsRow (w.heap.size + 2) 49 2 (.slice (some ⟨w.heap.size + 2, 0, none⟩) n n) n xs ∧ Below (w.heap.size + 2) (wg2 w N (some ⟨b, off, none⟩) n c) u) := fun u hu =>
        ⟨own_up (own_up hown hba) hu, (hb.trans (hba.mono hz)).trans (hu.mono (by simp; omega))⟩
      clear hxk hat hown hb hba
      go_wp2_with (go_at_call 24; refine (HT.out _).mono ?_; rintro e w1 ⟨rfl, hb1⟩; refine Hid.out ?_)
      refine (show ∀ {p : Prop}, p → Hid p from fun h => h) ?_
      obtain ⟨hown1, hb2⟩ := HU.out _ hb1
      have hl3 : xs.length = n * 2 := hown1.1
      have f0 := hown1.frozenAt (k * 2)
      have f1 := hown1.frozenAt (k * 2 + 1)
      have x0 : w1.cell? ⟨w.heap.size + 2, k * 2, none⟩ = some (xs[k * 2]'(by omega)) := by rw [hown1.cellAt (k * 2) (by omega)]; exact List.getElem?_eq_getElem (by omega)
      have x1 : w1.cell? ⟨w.heap.size + 2, k * 2 + 1, none⟩ = some (xs[k * 2 + 1]'(by omega)) := by rw [hown1.cellAt (k * 2 + 1) (by omega)]; exact List.getElem?_eq_getElem (by omega)
      clear e0 e1 e2 e3 HT HU
      go_wp2
      refine ⟨⟨k + 1, (xs.set (k * 2) (.int .i64 x.a)).set (k * 2 + 1) (.int .i64 x.b), by omega, by go_num, ?_, ?_, ?_⟩, by simp [intOf]; omega⟩
      · show _ = _
        rw [show (k + 1) * 2 = k * 2 + 2 by omega, take_set2' _ _ _ _ (by omega), hx.out, HTk.out]
      · exact ((hown1.stored (k * 2) _).1.stored (k * 2 + 1) _).1
      · exact (hb2.setCell (p := ⟨w.heap.size + 2, _, none⟩) (Nat.le_refl _) _).setCell (p := ⟨w.heap.size + 2, _, none⟩) (Nat.le_refl _) _
    · have e : ls.take k = ls := List.take_of_length_le (by omega)
      have hl3 : xs.length = n * 2 := hown.1
      have HX : Hid (xs = ecells (gE ls)) := by
        show _ = _
        have := hx.out
        rw [e, List.take_of_length_le (by omega)] at this
        exact this
      have HO := hideIt hown
      have HB := hideIt hb
      have r0 := bx.cell0
      have r1 := bx.cell1
      have q0 := bx.frozen 0
      have q1 := bx.frozen 1
      clear hx e hown hl3 hb
      go_wp2
      have HG : Good w wr := (wg2_good w N a n c).trans (HB.out.mono (by omega))
      refine bodyPost_ret (v := .agg #[.int .i64 N, .slice (some ⟨w.heap.size + 2, 0, none⟩) n n]) (by simp [results, Try.results13, go_sem, r0, r1]) rfl ⟨w.heap.size + 2, rfl, ?_, ?_⟩
      · rw [← HX.out]
        exact own_mono (own_setOther (own_setOther HO.out (w.heap.size + 1) 0 _ (by omega)) (w.heap.size + 1) 1 _ (by omega)) (by omega)
      · exact (HG.setCell (p := ⟨w.heap.size + 1, 0, none⟩) (by show _ ≤ w.heap.size + 1; omega) _).setCell (p := ⟨w.heap.size + 1, 1, none⟩) (by show _ ≤ w.heap.size + 1; omega) _

/-- edges of a list in the making, a web's box ahead of them -/
structure FSt (w : World) (N : Int) (a : Option Addr) (n c : Nat) (g m c' : Nat) (es : List EdgeV) (u : World) : Prop where
  own : u.ownsRow (w.heap.size + 1) 49 2 (.slice (some ⟨g, 0, none⟩) m c') m (ecells es)
  bel : Below (w.heap.size + 1) (wW w N a n c) u
theorem FSt.size {w : World} {N : Int} {a : Option Addr} {n c g m c' : Nat} {es : List EdgeV} {u : World} (h : FSt w N a n c g m c' es u) : w.heap.size + 1 ≤ u.heap.size := by have := h.bel.size; rw [wW_size] at this; exact this
theorem FSt.up {w : World} {N : Int} {a : Option Addr} {n c g m c' : Nat} {es : List EdgeV} {u v : World} (h : FSt w N a n c g m c' es u) (hb : Below u.heap.size u v) : FSt w N a n c g m c' es v := ⟨own_up h.own hb, h.bel.trans (hb.mono h.size)⟩
theorem FSt.good {w : World} {N : Int} {a : Option Addr} {n c g m c' : Nat} {es : List EdgeV} {u : World} (h : FSt w N a n c g m c' es u) : Good w u := (wW_good w N a n c).trans (h.bel.mono (by omega))
theorem FSt.app {w : World} {N : Int} {a : Option Addr} {n c g m c' : Nat} {es : List EdgeV} {u : World} (h : FSt w N a n c g m c' es u) {e : EdgeV} {o : Obj} {v : Value} {u' : World}
    (ho : u'.ownsRow (w.heap.size + 1) 49 2 v (m + 1) (ecells es ++ [.int .i64 e.1, .int .i64 e.2])) (hg : (u.alloc o).grownBy u' (some g)) : ∃ g2 c2, v = .slice (some ⟨g2, 0, none⟩) (m + 1) c2 ∧ FSt w N a n c g2 (m + 1) c2 (es ++ [e]) u' := by
  obtain ⟨g2, c2, rfl, _⟩ := ho.form (by omega)
  rw [← ecells_snoc] at ho
  refine ⟨g2, c2, rfl, ho, ?_⟩
  exact (h.bel.alloc h.size _).grown hg (by have := h.size; simp; omega) (fun j hj => by cases hj; exact (h.own.lt g rfl).1)
theorem newsE9 (w : World) (g : EdgeV) : ∀ j u, ([Value.int .i64 g.1, Value.int .i64 g.2] : List Value)[j]? = some u → (w.alloc (.cells #[.int .i64 g.1, .int .i64 g.2] 49)).cell? ((⟨w.heap.size, 0, none⟩ : Addr).add j) = some u := by
  intro j u hj
  rcases j with _ | _ | j
  · simp at hj; subst hj; simp [Addr.add]
  · simp at hj; subst hj; simp [Addr.add]
  · simp at hj
theorem FSt.start (w : World) (N : Int) (a : Option Addr) (n c : Nat) : FSt w N a n c (w.heap.size + 1) 0 0 [] ((wW w N a n c).alloc (.cells #[] 49)) := by
  refine ⟨?_, (Below.refl _ _).alloc (by rw [wW_size]; omega) _⟩
  have h0 := World.ownsRow_lit (base := w.heap.size + 1) (e := 49) (size := 2) (wW w N a n c) #[] 0 (by rw [wW_size]; omega) (by unfold maxLen; omega) (by simp)
  rw [wW_size] at h0
  simpa [ecells] using h0
end Go.Proofs.Ytgjngaaibcmgmaa
namespace Go.Proofs.Ytgjngaaibcmgmaa
open Go.RowKit

set_option maxRecDepth 100000 in
set_option maxHeartbeats 4000000 in
theorem sGraphOf_any (N : Int) (ls : List Ld) (n : Nat) (a : Option Addr) (c : Nat) (hn : n ≤ 1048576) (w : World) (h : Ls w w.heap.size a n ls) :
    Calls Try.prog 11 #[.agg #[.int .i64 N, .slice a n c]] w fun e w' => ∃ a' c', e = .returned (.agg #[.int .i64 N, .slice a' n c']) ∧ w'.ownsRow w.heap.size 49 2 (.slice a' n c') n (ecells (gE ls)) ∧ Below w.heap.size w w' := by
  obtain ⟨i0, hi, hz0, hz1, hz2⟩ := info_parts infoIE
  have HR := hideIt h
  have hlen := h.1
  clear h
  go_enter Try.func11, Try.ntmps11
  go_wp2
  go_loopw [4] (fun i wr => ∃ (k : Nat) (a' : Option Addr) (c' : Nat), k ≤ n ∧ i = .int .i64 (k : Int) ∧ Box7 wr w.heap.size 24 (.int .i64 N) (.slice a n c) ∧ Box7 wr (w.heap.size + 1) 36 (.int .i64 0) (.slice none 0 0) ∧ Box7 wr (w.heap.size + 1 + 1) 36 (.int .i64 N) (.slice a' k c') ∧
      wr.ownsRow (w.heap.size + 1 + 1 + 1) 49 2 (.slice a' k c') k (ecells (gE (ls.take k))) ∧ Below w.heap.size w wr) (fun i _ => n - (intOf i).toNat)
  case atStart =>
    refine ⟨0, none, 0, by omega, rfl, ?_, ?_, ?_, by simpa [gE, ecells] using World.ownsRow_nil _ _ _ _, ?_⟩
    · exact ((Box7.new w _ _ _ _ rfl).alloc _).alloc _
    · exact (Box7.new _ _ _ _ _ (by simp)).alloc _
    · exact Box7.new _ _ _ _ _ (by simp)
    · exact (((Below.refl _ _).alloc (Nat.le_refl _) _).alloc (by simp) _).alloc (by simp; omega) _
  case round =>
    obtain ⟨k, a', c', hk, rfl, x0, x1, x2, hown, hb⟩ := hrel
    have e0 := x0.cell1
    have e1 := x2.cell1
    have e2 := x2.frozen 1
    have l2 := x2.lt
    by_cases hlt : k < n
    · obtain ⟨b, off, x, rfl, hbl, hxk, hat⟩ := (HR.out.below hb (Nat.le_refl _)).at hlt
      have d0 := hat.ca
      have d1 := hat.cb
      have b1 : (0 : Int) ≤ (k : Int) := by omega
      have b2 : (k : Int) < (n : Int) := by omega
      have HX : Hid (ecells (gE (ls.take (k + 1))) = ecells (gE (ls.take k)) ++ [.int .i64 x.a, .int .i64 x.b]) := by
        show _ = _
        rw [take_snocF ls k x hxk]
        simp [gE, Ld.e, ecells, ecell]
      have hrow : ∀ q, q < w.heap.size + 1 + 1 + 1 → some q ≠ (Value.slice a' k c').ownBlock := fun q hq e => by
        have := (hown.lt q e.symm).1
        omega
      have HK : Hid (∀ w1 : World, ((wr.alloc (.cells #[.int .i64 x.a, .int .i64 x.b] 49)).drew).grownBy w1 (Value.slice a' k c').ownBlock →
          (w1.cell? ⟨w.heap.size, 1, none⟩ = some (.slice (some ⟨b, off, none⟩) n c) ∧ w1.cell? ⟨b, off + k * 4, none⟩ = some (.int .i64 x.a) ∧ w1.cell? ⟨b, off + k * 4 + 1, none⟩ = some (.int .i64 x.b)) ∧
          Box7 w1 w.heap.size 24 (.int .i64 N) (.slice (some ⟨b, off, none⟩) n c) ∧ Box7 w1 (w.heap.size + 1) 36 (.int .i64 0) (.slice none 0 0) ∧ Box7 w1 (w.heap.size + 1 + 1) 36 (.int .i64 N) (.slice a' k c') ∧ Below w.heap.size w w1) := fun w1 hg => by
        have y0 := (x0.alloc (.cells #[.int .i64 x.a, .int .i64 x.b] 49)).grown (w' := w1) ⟨hg.os, hg.tape, hg.output, hg.size, hg.block⟩ (hrow _ (by omega))
        have y1 := (x1.alloc (.cells #[.int .i64 x.a, .int .i64 x.b] 49)).grown (w' := w1) ⟨hg.os, hg.tape, hg.output, hg.size, hg.block⟩ (hrow _ (by omega))
        have y2 := (x2.alloc (.cells #[.int .i64 x.a, .int .i64 x.b] 49)).grown (w' := w1) ⟨hg.os, hg.tape, hg.output, hg.size, hg.block⟩ (hrow _ (by omega))
        have hb1 : Below wr.heap.size wr (wr.alloc (.cells #[.int .i64 x.a, .int .i64 x.b] 49)).drew := ((Below.refl _ _).alloc (Nat.le_refl _) _).drew
        have hb2 : Below w.heap.size wr w1 := (hb1.mono hb.size).grown hg (by have := hb.size; simp; omega) (fun j hj => by have := (hown.lt j hj).1; omega)
        exact ⟨⟨y0.cell1, by rw [hb2.cell hbl]; exact d0, by rw [hb2.cell hbl]; exact d1⟩, y0, y1, y2, hb.trans hb2⟩
      have hS0 : wr.drew.cell? ⟨w.heap.size, 1, none⟩ = some (.slice (some ⟨b, off, none⟩) n c) ∧ wr.drew.cell? ⟨b, off + k * 4, none⟩ = some (.int .i64 x.a) ∧ wr.drew.cell? ⟨b, off + k * 4 + 1, none⟩ = some (.int .i64 x.b) := ⟨e0, d0, d1⟩
      have hal : Below wr.heap.size wr (wr.alloc (.cells #[.int .i64 x.a, .int .i64 x.b] 49)).drew := ((Below.refl _ _).alloc (Nat.le_refl _) _).drew
      have hbw : b < wr.heap.size := by have := hb.size; omega
      have hS1 : (wr.alloc (.cells #[.int .i64 x.a, .int .i64 x.b] 49)).drew.cell? ⟨w.heap.size, 1, none⟩ = some (.slice (some ⟨b, off, none⟩) n c) ∧ (wr.alloc (.cells #[.int .i64 x.a, .int .i64 x.b] 49)).drew.cell? ⟨b, off + k * 4, none⟩ = some (.int .i64 x.a) ∧ (wr.alloc (.cells #[.int .i64 x.a, .int .i64 x.b] 49)).drew.cell? ⟨b, off + k * 4 + 1, none⟩ = some (.int .i64 x.b) :=
        ⟨by rw [hal.cell x0.lt]; exact e0, by rw [hal.cell hbw]; exact d0, by rw [hal.cell hbw]; exact d1⟩
      have HS2 : Hid (∀ (u : World) (v : Value) (j : Nat), (u.cell? ⟨w.heap.size, 1, none⟩ = some (.slice (some ⟨b, off, none⟩) n c) ∧ u.cell? ⟨b, off + k * 4, none⟩ = some (.int .i64 x.a) ∧ u.cell? ⟨b, off + k * 4 + 1, none⟩ = some (.int .i64 x.b)) → ((u.setCell ⟨w.heap.size + 1 + 1, j, none⟩ v).cell? ⟨w.heap.size, 1, none⟩ = some (.slice (some ⟨b, off, none⟩) n c) ∧ (u.setCell ⟨w.heap.size + 1 + 1, j, none⟩ v).cell? ⟨b, off + k * 4, none⟩ = some (.int .i64 x.a) ∧ (u.setCell ⟨w.heap.size + 1 + 1, j, none⟩ v).cell? ⟨b, off + k * 4 + 1, none⟩ = some (.int .i64 x.b))) := fun u v j h => by
        rw [set_other (by omega), set_other (by omega), set_other (by omega)]
        exact h
      have HOwn := hideIt hown
      clear hxk hat hown hal
      go_wp2
      refine wp_region_held_drew (S := (fun u => u.cell? ⟨w.heap.size, 1, none⟩ = some (.slice (some ⟨b, off, none⟩) n c) ∧ u.cell? ⟨b, off + k * 4, none⟩ = some (.int .i64 x.a) ∧ u.cell? ⟨b, off + k * 4 + 1, none⟩ = some (.int .i64 x.b))) (by kernel_rfl) hS0 (fun hHeld => ?_)
      refine wpAnyH_take (i := 0) (v := ?_) rfl (by kernel_rfl) (by kernel_rfl) (by kernel_rfl) (fun _ _ _ h => h) (Or.inl ⟨by rfl, ?_⟩) (by assumption) ?_
      rotate_left
      · intro w hSw; (try dsimp only at hSw); go_simp; try with_reducible rfl
      try simp only [Act.put, List.getElem_toArray, List.getElem_cons_zero, List.setIfInBounds_toArray, List.set_cons_zero, List.set_cons_succ]
      refine wpAnyH_take (i := 2) (v := ?_) rfl (by kernel_rfl) (by kernel_rfl) (by kernel_rfl) (fun _ _ _ h => h) (Or.inl ⟨by rfl, ?_⟩) (by assumption) ?_
      rotate_left
      · intro w hSw; (try dsimp only at hSw); go_simp; try with_reducible rfl
      try simp only [Act.put, List.getElem_toArray, List.getElem_cons_succ, List.getElem_cons_zero, List.setIfInBounds_toArray, List.set_cons_zero, List.set_cons_succ]
      refine wpAnyH_take (i := 3) (v := ?_) rfl (by kernel_rfl) (by kernel_rfl) (by kernel_rfl) (fun _ _ _ h => h) (Or.inl ⟨by rfl, ?_⟩) (by assumption) ?_
      rotate_left
      · intro w hSw; (try dsimp only at hSw); go_simp; try with_reducible rfl
      try simp only [Act.put, List.getElem_toArray, List.getElem_cons_succ, List.getElem_cons_zero, List.setIfInBounds_toArray, List.set_cons_zero, List.set_cons_succ]
      refine wpAnyH_take (i := 4) (v := ?_) rfl (by kernel_rfl) (by kernel_rfl) (by kernel_rfl) (fun _ _ _ h => h) (Or.inl ⟨by rfl, ?_⟩) (by assumption) ?_
      rotate_left
      · intro w hSw; (try dsimp only at hSw); go_simp; try with_reducible rfl
      try simp only [Act.put, List.getElem_toArray, List.getElem_cons_succ, List.getElem_cons_zero, List.setIfInBounds_toArray, List.set_cons_zero, List.set_cons_succ]
      refine wpAnyH_take (i := 5) (v := ?_) rfl (by kernel_rfl) (by kernel_rfl) (by kernel_rfl) (fun _ _ _ h => h) (Or.inl ⟨by rfl, ?_⟩) (by assumption) ?_
      rotate_left
      · intro w hSw; (try dsimp only at hSw); go_simp; try with_reducible rfl
      try simp only [Act.put, List.getElem_toArray, List.getElem_cons_succ, List.getElem_cons_zero, List.setIfInBounds_toArray, List.set_cons_zero, List.set_cons_succ]
      refine wpAnyH_take (i := 6) (v := ?_) rfl (by kernel_rfl) (by kernel_rfl) (by kernel_rfl) (fun _ _ _ h => h) (Or.inl ⟨by rfl, ?_⟩) (by assumption) ?_
      rotate_left
      · intro w hSw; (try dsimp only at hSw); go_simp; try with_reducible rfl
      try simp only [Act.put, List.getElem_toArray, List.getElem_cons_succ, List.getElem_cons_zero, List.setIfInBounds_toArray, List.set_cons_zero, List.set_cons_succ]
      refine wpAnyH_take (i := 7) (v := ?_) rfl (by kernel_rfl) (by kernel_rfl) (by kernel_rfl) (fun _ _ _ h => h) (Or.inl ⟨by rfl, ?_⟩) (by assumption) ?_
      rotate_left
      · intro w hSw; (try dsimp only at hSw); go_simp; try with_reducible rfl
      try simp only [Act.put, List.getElem_toArray, List.getElem_cons_succ, List.getElem_cons_zero, List.setIfInBounds_toArray, List.set_cons_zero, List.set_cons_succ]
      refine wpAnyH_take (i := 8) (v := ?_) rfl (by kernel_rfl) (by kernel_rfl) (by kernel_rfl) (fun _ _ _ h => h) (Or.inl ⟨by rfl, ?_⟩) (by assumption) ?_
      rotate_left
      · intro w hSw; (try dsimp only at hSw); go_simp; try with_reducible rfl
      try simp only [Act.put, List.getElem_toArray, List.getElem_cons_succ, List.getElem_cons_zero, List.setIfInBounds_toArray, List.set_cons_zero, List.set_cons_succ]
      refine wpAnyH_take (i := 9) (v := ?_) rfl (by kernel_rfl) (by kernel_rfl) (by kernel_rfl) (fun _ _ _ h => h) (Or.inl ⟨by rfl, ?_⟩) (by assumption) ?_
      rotate_left
      · intro w hSw; (try dsimp only at hSw); go_simp; try with_reducible rfl
      try simp only [Act.put, List.getElem_toArray, List.getElem_cons_succ, List.getElem_cons_zero, List.setIfInBounds_toArray, List.set_cons_zero, List.set_cons_succ]
      refine wpAnyH_take (i := 10) (v := ?_) rfl (by kernel_rfl) (by kernel_rfl) (by kernel_rfl) (fun _ _ _ h => h) (Or.inl ⟨by rfl, ?_⟩) (by assumption) ?_
      rotate_left
      · intro w hSw; (try dsimp only at hSw); go_simp; try with_reducible rfl
      try simp only [Act.put, List.getElem_toArray, List.getElem_cons_succ, List.getElem_cons_zero, List.setIfInBounds_toArray, List.set_cons_zero, List.set_cons_succ]
      refine wpAnyH_take (i := 11) (v := ?_) rfl (by kernel_rfl) (by kernel_rfl) (by kernel_rfl) (fun _ _ _ h => h) (Or.inl ⟨by rfl, ?_⟩) (by assumption) ?_
      rotate_left
      · intro w hSw; (try dsimp only at hSw); go_simp; try with_reducible rfl
      try simp only [Act.put, List.getElem_toArray, List.getElem_cons_succ, List.getElem_cons_zero, List.setIfInBounds_toArray, List.set_cons_zero, List.set_cons_succ]
      refine wpAnyH_take (i := 12) (v := ?_) rfl (by kernel_rfl) (by kernel_rfl) (by kernel_rfl) (fun _ _ _ h => h) (Or.inl ⟨by rfl, ?_⟩) (by assumption) ?_
      rotate_left
      · intro w hSw; (try dsimp only at hSw); go_simp; try with_reducible rfl
      try simp only [Act.put, List.getElem_toArray, List.getElem_cons_succ, List.getElem_cons_zero, List.setIfInBounds_toArray, List.set_cons_zero, List.set_cons_succ]
      refine wpAnyH_take (i := 13) (v := ?_) rfl (by kernel_rfl) (by kernel_rfl) (by kernel_rfl) (fun _ _ _ h => h) (Or.inl ⟨by rfl, ?_⟩) (by assumption) ?_
      rotate_left
      · intro w hSw; (try dsimp only at hSw); go_simp; try with_reducible rfl
      try simp only [Act.put, List.getElem_toArray, List.getElem_cons_succ, List.getElem_cons_zero, List.setIfInBounds_toArray, List.set_cons_zero, List.set_cons_succ]
      refine wpAnyH_take (i := 14) (v := ?_) rfl (by kernel_rfl) (by kernel_rfl) (by kernel_rfl) (fun _ _ _ h => h) (Or.inl ⟨by rfl, ?_⟩) (by assumption) ?_
      rotate_left
      · intro w hSw; (try dsimp only at hSw); go_simp; try with_reducible rfl
      try simp only [Act.put, List.getElem_toArray, List.getElem_cons_succ, List.getElem_cons_zero, List.setIfInBounds_toArray, List.set_cons_zero, List.set_cons_succ]
      refine wpAnyH_ready (rs := [1, 15]) (by kernel_rfl) (by simp) ?_
      refine AllReadyH.cons rfl (fun K hK => ?_) (AllReadyH.cons rfl (fun K hK => ?_) AllReadyH.nil)
      · go_simp
        refine hK.out _ _ hS0 (fun hHeld => ?_)
        clear hK K
        try simp only [Act.put, List.getElem_toArray, List.getElem_cons_succ, List.getElem_cons_zero, List.setIfInBounds_toArray, List.set_cons_zero, List.set_cons_succ]
        refine wpAnyH_ready (rs := [15]) (by kernel_rfl) (by simp) ?_
        refine AllReadyH.cons rfl (fun K hK => ?_) AllReadyH.nil
        go_simp
        refine hK.out _ _ hS1 (fun hHeld => ?_)
        clear hK K
        try simp only [Act.put, List.getElem_toArray, List.getElem_cons_succ, List.getElem_cons_zero, List.setIfInBounds_toArray, List.set_cons_zero, List.set_cons_succ]
        refine wpAnyH_ready (rs := [16]) (by kernel_rfl) (by simp) ?_
        refine AllReadyH.cons rfl (fun K hK => ?_) AllReadyH.nil
        refine step_append_lies _ (by rfl) _ _ _ (by rfl) (w.heap.size + 1 + 1 + 1) 49 i0 _ 2 16 Try.underlying34 hi hz0 hz1 hz2 rfl (by omega) _ k _ (by rfl) ((HOwn.out.alloc _).drew) ⟨wr.heap.size, 0, none⟩ 1 1 [.int .i64 x.a, .int .i64 x.b] (by rfl) (by rfl) (World.news_of_block (cs := #[.int .i64 x.a, .int .i64 x.b]) (t := 49) (fr := (0, 0)) (heap_alloc_new wr _)) (by simp [Value.oneCell']) (by omega) (by unfold maxLen; omega) (by omega) (by simp; omega) (wr.heap.size + 1) (by simp) ?_
        intro g1 cap1 w1 hown1 hg1 hat1 hlt1
        obtain ⟨S1, y0, y1, y2, hb1⟩ := HK.out _ hg1
        have z1 := y2.cell1
        have z2 := y2.frozen 1
        refine hK.out _ _ S1 (fun hHeld => ?_)
        clear hK K
        try simp only [Act.put, List.getElem_toArray, List.getElem_cons_succ, List.getElem_cons_zero, List.setIfInBounds_toArray, List.set_cons_zero, List.set_cons_succ]
        refine wpAnyH_ready (rs := [17]) (by kernel_rfl) (by simp) ?_
        refine AllReadyH.cons rfl (fun K hK => ?_) AllReadyH.nil
        go_simp
        refine hK.out _ _ S1 (fun hHeld => ?_)
        clear hK K
        try simp only [Act.put, List.getElem_toArray, List.getElem_cons_succ, List.getElem_cons_zero, List.setIfInBounds_toArray, List.set_cons_zero, List.set_cons_succ]
        refine wpAnyH_ready (rs := [18]) (by kernel_rfl) (by simp) ?_
        refine AllReadyH.cons rfl (fun K hK => ?_) AllReadyH.nil
        go_simp
        refine hK.out _ _ (HS2.out _ _ _ S1) (fun hHeld => ?_)
        clear hK K
        try simp only [Act.put, List.getElem_toArray, List.getElem_cons_succ, List.getElem_cons_zero, List.setIfInBounds_toArray, List.set_cons_zero, List.set_cons_succ]
        refine wpAnyH_done (by kernel_rfl) ?_ _
        have lg := (hown1.lt g1 rfl).1
        have HO := hideIt (own_setOther hown1 (w.heap.size + 1 + 1) 1 (.slice (some ⟨g1, 0, none⟩) (k + 1) cap1) (by omega))
        have q0 := y0.setOther (j := 1) (.slice (some ⟨g1, 0, none⟩) (k + 1) cap1) (show w.heap.size ≠ w.heap.size + 1 + 1 by omega)
        have q1 := y1.setOther (j := 1) (.slice (some ⟨g1, 0, none⟩) (k + 1) cap1) (show w.heap.size + 1 ≠ w.heap.size + 1 + 1 by omega)
        have q2 := y2.set1 (.slice (some ⟨g1, 0, none⟩) (k + 1) cap1)
        have q3 := hb1.setCell (p := ⟨w.heap.size + 1 + 1, 1, none⟩) (by show _ ≤ w.heap.size + 1 + 1; omega) (.slice (some ⟨g1, 0, none⟩) (k + 1) cap1)
        clear hown1 hg1 HOwn S1 HK hrow
        go_wp2
        exact ⟨⟨k + 1, _, _, by omega, by go_num, q0, q1, q2, by rw [HX.out]; exact HO.out, q3⟩, by simp [intOf]; omega⟩
      · go_simp
        refine hK.out _ _ hS1 (fun hHeld => ?_)
        clear hK K
        try simp only [Act.put, List.getElem_toArray, List.getElem_cons_succ, List.getElem_cons_zero, List.setIfInBounds_toArray, List.set_cons_zero, List.set_cons_succ]
        refine wpAnyH_ready (rs := [1]) (by kernel_rfl) (by simp) ?_
        refine AllReadyH.cons rfl (fun K hK => ?_) AllReadyH.nil
        go_simp
        refine hK.out _ _ hS1 (fun hHeld => ?_)
        clear hK K
        try simp only [Act.put, List.getElem_toArray, List.getElem_cons_succ, List.getElem_cons_zero, List.setIfInBounds_toArray, List.set_cons_zero, List.set_cons_succ]
        refine wpAnyH_ready (rs := [16]) (by kernel_rfl) (by simp) ?_
        refine AllReadyH.cons rfl (fun K hK => ?_) AllReadyH.nil
        refine step_append_lies _ (by rfl) _ _ _ (by rfl) (w.heap.size + 1 + 1 + 1) 49 i0 _ 2 16 Try.underlying34 hi hz0 hz1 hz2 rfl (by omega) _ k _ (by rfl) ((HOwn.out.alloc _).drew) ⟨wr.heap.size, 0, none⟩ 1 1 [.int .i64 x.a, .int .i64 x.b] (by rfl) (by rfl) (World.news_of_block (cs := #[.int .i64 x.a, .int .i64 x.b]) (t := 49) (fr := (0, 0)) (heap_alloc_new wr _)) (by simp [Value.oneCell']) (by omega) (by unfold maxLen; omega) (by omega) (by simp; omega) (wr.heap.size + 1) (by simp) ?_
        intro g1 cap1 w1 hown1 hg1 hat1 hlt1
        obtain ⟨S1, y0, y1, y2, hb1⟩ := HK.out _ hg1
        have z1 := y2.cell1
        have z2 := y2.frozen 1
        refine hK.out _ _ S1 (fun hHeld => ?_)
        clear hK K
        try simp only [Act.put, List.getElem_toArray, List.getElem_cons_succ, List.getElem_cons_zero, List.setIfInBounds_toArray, List.set_cons_zero, List.set_cons_succ]
        refine wpAnyH_ready (rs := [17]) (by kernel_rfl) (by simp) ?_
        refine AllReadyH.cons rfl (fun K hK => ?_) AllReadyH.nil
        go_simp
        refine hK.out _ _ S1 (fun hHeld => ?_)
        clear hK K
        try simp only [Act.put, List.getElem_toArray, List.getElem_cons_succ, List.getElem_cons_zero, List.setIfInBounds_toArray, List.set_cons_zero, List.set_cons_succ]
        refine wpAnyH_ready (rs := [18]) (by kernel_rfl) (by simp) ?_
        refine AllReadyH.cons rfl (fun K hK => ?_) AllReadyH.nil
        go_simp
        refine hK.out _ _ (HS2.out _ _ _ S1) (fun hHeld => ?_)
        clear hK K
        try simp only [Act.put, List.getElem_toArray, List.getElem_cons_succ, List.getElem_cons_zero, List.setIfInBounds_toArray, List.set_cons_zero, List.set_cons_succ]
        refine wpAnyH_done (by kernel_rfl) ?_ _
        have lg := (hown1.lt g1 rfl).1
        have HO := hideIt (own_setOther hown1 (w.heap.size + 1 + 1) 1 (.slice (some ⟨g1, 0, none⟩) (k + 1) cap1) (by omega))
        have q0 := y0.setOther (j := 1) (.slice (some ⟨g1, 0, none⟩) (k + 1) cap1) (show w.heap.size ≠ w.heap.size + 1 + 1 by omega)
        have q1 := y1.setOther (j := 1) (.slice (some ⟨g1, 0, none⟩) (k + 1) cap1) (show w.heap.size + 1 ≠ w.heap.size + 1 + 1 by omega)
        have q2 := y2.set1 (.slice (some ⟨g1, 0, none⟩) (k + 1) cap1)
        have q3 := hb1.setCell (p := ⟨w.heap.size + 1 + 1, 1, none⟩) (by show _ ≤ w.heap.size + 1 + 1; omega) (.slice (some ⟨g1, 0, none⟩) (k + 1) cap1)
        clear hown1 hg1 HOwn S1 HK hrow
        go_wp2
        exact ⟨⟨k + 1, _, _, by omega, by go_num, q0, q1, q2, by rw [HX.out]; exact HO.out, q3⟩, by simp [intOf]; omega⟩
    · obtain rfl : k = n := by omega
      have e : ls.take k = ls := List.take_of_length_le (by omega)
      rw [e] at hown
      have HO := hideIt hown
      have r0 := x1.cell0
      have r1 := x1.cell1
      have r2 := x1.frozen 0
      have r3 := x1.frozen 1
      have c0 := x2.cell0
      clear hown e
      have s2 := x1.set2 (.int .i64 N) (.slice a' k c')
      have s0 := s2.cell0
      have s1 := s2.cell1
      have HO2 := hideIt (own_setLow (own_setLow HO.out (w.heap.size + 1) 0 (.int .i64 N) (by omega)) (w.heap.size + 1) 1 (.slice a' k c') (by omega))
      have q3 := (hb.setCell (p := ⟨w.heap.size + 1, 0, none⟩) (by show _ ≤ w.heap.size + 1; omega) (.int .i64 N)).setCell (p := ⟨w.heap.size + 1, 1, none⟩) (by show _ ≤ w.heap.size + 1; omega) (.slice a' k c')
      clear s2
      go_wp2
      exact bodyPost_ret (v := .agg #[.int .i64 N, .slice a' k c']) (by simp [results, Try.results11, go_sem, s0, s1]) rfl ⟨a', c', rfl, own_mono HO2.out (by omega), q3⟩

end Go.Proofs.Ytgjngaaibcmgmaa
namespace Go.Proofs.Ytgjngaaibcmgmaa
open Go.RowKit

set_option maxRecDepth 100000 in
set_option maxHeartbeats 8000000 in
theorem fnExactGraphOf.walk (N : Int) (_hN : (Lit.int .i64 N).wf = true) (ls : List Ld) (n : Nat) (a : Option Addr) (c : Nat) (hn : n ≤ maxLen) (w : World) (h : Ls w w.heap.size a n ls) :
    Calls Try.prog 4 #[.agg #[.int .i64 N, .slice a n c]] w fun e w' => e = .returned (.bool true) ∧ Below w.heap.size w w' := by
  have HS := hideIt (szWeb_any N n a c hn (LWx w N a n c))
  have HF := hideIt h
  have HB := hideIt (LW.start w N a n c).below
  clear h
  by_cases hn1 : n ≤ 1048576
  · have e1 : szw n = 1048576 - (n : Int) := by unfold szw; rw [if_pos hn1]
    rw [e1] at HS
    have d1 : decide (1048576 - (n : Int) < 0) = false := decide_eq_false (by omega)
    have HT := hideIt (fun u (hu : LW w N a n c u) => toWeb_any N ls n a c hn1 u (hu.ls HF.out))
    have HDs := hideIt (fun u g (hf : Ls u u.heap.size (some ⟨g, 0, none⟩) n ls) => sGraphOf_any N ls n (some ⟨g, 0, none⟩) n hn1 u hf)
    have HDi := hideIt (fun u g (hf : Ls u u.heap.size (some ⟨g, 0, none⟩) n ls) => iGraphOf_any N ls n (some ⟨g, 0, none⟩) n hn1 u hf)
    clear e1
    generalize gE ls = es at *
    go_enter Try.func4, Try.ntmps4
    go_wp2_with (go_at_call 10; refine (show Calls Try.prog 10 _ (LWx w N a n c) _ from HS.out).mono ?_; rintro e w2 ⟨rfl, hb1⟩; refine Hid.out ?_)
    refine (show ∀ {p : Prop}, p → Hid p from fun h => h) ?_
    have L2 : LW w N a n c w2 := (LW.start w N a n c).up hb1
    clear hb1 HS
    obtain ⟨c0, c1⟩ := L2.cells
    have HT2 := hideIt (HT.out w2 L2)
    go_wp2_with (go_at_call 12; refine HT2.out.mono ?_; rintro e w3 ⟨g3, rfl, ho3, hb3⟩; refine Hid.out ?_)
    refine (show ∀ {p : Prop}, p → Hid p from fun h => h) ?_
    have L3 := L2.up hb3
    have HS3 := hideIt (HDs.out w3 g3 (Ls_of_own ho3))
    clear HT2 c0 c1 ho3 hb3 L2
    go_wp2_with (go_at_call 11; refine HS3.out.mono ?_; rintro e w4 ⟨aw, cw, rfl, how, hb4⟩; refine Hid.out ?_)
    refine (show ∀ {p : Prop}, p → Hid p from fun h => h) ?_
    have z3 := L3.size
    have DW := PBox.laid (t := 36) (M := N) (u := w4) hb4.size how
    have L4 := (L3.up hb4).up ((Below.refl _ _).alloc (Nat.le_refl _) (.cells #[.int .i64 N, .slice aw n cw] 36))
    have hz4 := hb4.size
    have hs4 : (w4.alloc (.cells #[.int .i64 N, .slice aw n cw] 36)).heap.size = w4.heap.size + 1 := by simp
    obtain ⟨c0, c1⟩ := L4.cells
    have HT4 := hideIt (HT.out _ L4)
    clear HS3 how hb4 L3 HDs
    go_wp2_with (go_at_call 12; refine HT4.out.mono ?_; rintro e w5 ⟨g5, rfl, ho5, hb5⟩; refine Hid.out ?_)
    refine (show ∀ {p : Prop}, p → Hid p from fun h => h) ?_
    clear HT4 c0 c1
    have hz5 := hb5.size
    rw [hs4] at hz5 ho5 hb5
    have DX := PBox.laid (t := 24) (M := N) (u := w5) hz5 ho5
    have G5 : Good (w4.alloc (.cells #[.int .i64 N, .slice aw n cw] 36)) (w5.alloc (.cells #[.int .i64 N, .slice (some ⟨g5, 0, none⟩) n n] 24)) := (show Good (w4.alloc (.cells #[.int .i64 N, .slice aw n cw] 36)) w5 by unfold Good; rw [hs4]; exact hb5).alloc _
    have L5 := L4.up G5
    have DW5 := DW.up G5
    have hs5 : (w5.alloc (.cells #[.int .i64 N, .slice (some ⟨g5, 0, none⟩) n n] 24)).heap.size = w5.heap.size + 1 := by simp
    have HI5 := hideIt (HDi.out _ g5 (Ls_of_own DX.own))
    clear ho5 hb5 DW L4 G5
    go_wp2_with (go_at_call 13; refine HI5.out.mono ?_; rintro e w6 ⟨gg, rfl, hog, hb6⟩; refine Hid.out ?_)
    refine (show ∀ {p : Prop}, p → Hid p from fun h => h) ?_
    have hz6 := hb6.size
    have DG := PBox.laid (t := 36) (M := N) (u := w6) hz6 hog
    have G6 : Good (w5.alloc (.cells #[.int .i64 N, .slice (some ⟨g5, 0, none⟩) n n] 24)) (w6.alloc (.cells #[.int .i64 N, .slice (some ⟨gg, 0, none⟩) n n] 36)) := (show Good (w5.alloc (.cells #[.int .i64 N, .slice (some ⟨g5, 0, none⟩) n n] 24)) w6 from hb6).alloc _
    have L6 := L5.up G6
    have DX6 := DX.up G6
    have DW6 := DW5.up G6
    have hs6 : (w6.alloc (.cells #[.int .i64 N, .slice (some ⟨gg, 0, none⟩) n n] 36)).heap.size = w6.heap.size + 1 := by simp
    rw [hs5] at hz6 DG DX6
    rw [hs4] at DW6
    rw [hs6] at DG
    clear HI5 hog hb6 G6 L5 DX DW5
    have p2 := DW6.cells.1
    have p3 := DW6.cells.2
    have HE6 := hideIt (eqGB DG DW6 hn1)
    go_wp2_with (go_at_call 14; refine HE6.out.mono ?_; rintro e w7 ⟨rfl, hb7⟩; refine Hid.out ?_)
    refine (show ∀ {p : Prop}, p → Hid p from fun h => h) ?_
    have L7 := L6.up hb7
    have DX7 := DX6.up hb7
    have DW7 := DW6.up hb7
    have DG7 := DG.up hb7
    clear HE6 hb7 L6 DX6 DW6 DG p2 p3
    have HC7 := hideIt (fun u (hu : Good w7 u) => And.intro (And.intro (DX7.up hu).cells (L7.up hu).cells) hu)
    have hS7 := HC7.out _ (Good.refl w7).drew
    have HT7 := hideIt (fun u (hu : Good w7 u) => (HT.out u (L7.up hu)).mono fun e v ⟨g8, he, ho8, hb8⟩ => (show ∃ g, e = Ending.returned (.agg #[.int .i64 N, .slice (some ⟨g, 0, none⟩) n n]) ∧ Ls v v.heap.size (some ⟨g, 0, none⟩) n ls ∧ Good w7 v from ⟨g8, he, Ls_of_own ho8, hu.up hb8⟩))
    have HX7 := hideIt (fun u (hu : Good w7 u) => Ls_of_own (DX7.up hu).own)
    go_upto_region 10 with fail
    go_region_held3 (fun u => ((u.cell? ⟨w5.heap.size, 0, none⟩ = some (.int .i64 N) ∧ u.cell? ⟨w5.heap.size, 1, none⟩ = some (.slice (some ⟨g5, 0, none⟩) n n)) ∧ u.cell? ⟨w.heap.size, 0, none⟩ = some (.int .i64 N) ∧ u.cell? ⟨w.heap.size, 1, none⟩ = some (.slice a n c)) ∧ Good w7 u)
      (first | assumption)
      (first
        | (go_at_call 12; refine (HT7.out _ (And.right (by assumption))).mono ?_; rintro e w8 ⟨g8, rfl, ho8, hg8⟩; have hS8 := HC7.out _ hg8)
        | (go_at_call 7; refine (eqWeb_same N ls n _ _ _ _ hn1 _ (HX7.out _ hg8) ho8).mono ?_; rintro e w9 ⟨rfl, hb9⟩; have hg9 := hg8.up hb9; have hS9 := HC7.out _ hg9))
    have L9 := L7.up hg9
    have DW9 := DW7.up hg9
    have DX9 := DX7.up hg9
    have DG9 := DG7.up hg9
    clear HC7 hS7 HT7 HX7 hS8 hS9 hg8 ho8 hb9 L7 DW7 DX7 DG7 hg9
    have q2 := DX9.cells.1
    have q3 := DX9.cells.2
    have HM9 := hideIt (markWB DX9 1 hn1 (by omega))
    go_wp2_with (go_at_call 8; refine HM9.out.mono ?_; rintro e w10 ⟨rfl, _, hr10⟩; refine Hid.out ?_)
    refine (show ∀ {p : Prop}, p → Hid p from fun h => h) ?_
    have L10 := L9.rng hr10 (by omega)
    have DW10 := DW9.rng hr10 (.inl (Nat.le_refl _))
    have DG10 := DG9.rng hr10 (.inr (Nat.le_refl _))
    clear HM9 q2 q3 L9 DW9 DX9 DG9 hr10
    have d3 : decide ((1 : Int) + (n : Int) * 4 < 0) = false := decide_eq_false (by omega)
    have p0 := DG10.cells.1
    have p1 := DG10.cells.2
    have p2 := DW10.cells.1
    have p3 := DW10.cells.2
    have HE10 := hideIt (eqGB DG10 DW10 hn1)
    go_wp2_with (go_at_call 14; refine HE10.out.mono ?_; rintro e w11 ⟨rfl, hb11⟩; refine Hid.out ?_)
    refine (show ∀ {p : Prop}, p → Hid p from fun h => h) ?_
    have L11 := L10.up hb11
    have DW11 := DW10.up hb11
    have DG11 := DG10.up hb11
    clear HE10 hb11 L10 DW10 DG10 p0 p1 p2 p3
    have p0 := DG11.cells.1
    have p1 := DG11.cells.2
    have HM11 := hideIt (markGB DG11 1 hn1 (by omega))
    go_wp2_with (go_at_call 15; refine HM11.out.mono ?_; rintro e w12 ⟨rfl, DG12, hr12⟩; refine Hid.out ?_)
    refine (show ∀ {p : Prop}, p → Hid p from fun h => h) ?_
    have L12 := L11.rng hr12 (by omega)
    have DW12 := DW11.rng hr12 (.inl (by omega))
    clear HM11 L11 DW11 DG11 hr12 p0 p1
    have p0 := DG12.cells.1
    have p1 := DG12.cells.2
    have HH12 := hideIt (heldGB 1 DG12 hn1 (by omega))
    have d4 : decide ((1 : Int) + (n : Int) * 2 < 0) = false := decide_eq_false (by omega)
    have d5 : ((1 : Int) + (n : Int) * 2 != (1 : Int) + (n : Int) * 2) = false := by simp
    go_wp2_with (go_at_call 16; refine HH12.out.mono ?_; rintro e w13 ⟨rfl, hb13⟩; refine Hid.out ?_)
    refine (show ∀ {p : Prop}, p → Hid p from fun h => h) ?_
    have L13 := L12.up hb13
    have DW13 := DW12.up hb13
    have DG13 := DG12.up hb13
    clear HH12 hb13 L12 DW12 DG12 p0 p1
    obtain ⟨c0, c1⟩ := L13.cells
    have HT13 := hideIt (HT.out w13 L13)
    go_wp2_with (go_at_call 12; refine HT13.out.mono ?_; rintro e w14 ⟨g14, rfl, ho14, hb14⟩; refine Hid.out ?_)
    refine (show ∀ {p : Prop}, p → Hid p from fun h => h) ?_
    have L14 := L13.up hb14
    have DW14 := DW13.up hb14
    have DG14 := DG13.up hb14
    have HI14 := hideIt (HDi.out w14 g14 (Ls_of_own ho14))
    clear HT13 c0 c1 ho14 hb14 L13 DW13 DG13
    go_wp2_with (go_at_call 13; refine HI14.out.mono ?_; rintro e w15 ⟨gh, rfl, hoh, hb15⟩; refine Hid.out ?_)
    refine (show ∀ {p : Prop}, p → Hid p from fun h => h) ?_
    have DH := PBox.laid (t := 36) (M := N) (u := w15) hb15.size hoh
    have G15 : Good w14 (w15.alloc (.cells #[.int .i64 N, .slice (some ⟨gh, 0, none⟩) n n] 36)) := (show Good w14 w15 from hb15).alloc _
    have L15 := L14.up G15
    have DW15 := DW14.up G15
    have DG15 := DG14.up G15
    clear HI14 hoh hb15 L14 DW14 DG14 G15
    have p0 := DW15.cells.1
    have p1 := DW15.cells.2
    have HE15 := hideIt (eqGB DH DW15 hn1)
    go_wp2_with (go_at_call 14; refine HE15.out.mono ?_; rintro e w16 ⟨rfl, hb16⟩; refine Hid.out ?_)
    refine (show ∀ {p : Prop}, p → Hid p from fun h => h) ?_
    have L16 := L15.up hb16
    have DG16 := DG15.up hb16
    clear HE15 hb16 L15 DW15 DG15 DH p0 p1
    have p0 := DG16.cells.1
    have p1 := DG16.cells.2
    have HH16 := hideIt (heldGB 1 DG16 hn1 (by omega))
    go_wp2_with (go_at_call 16; refine HH16.out.mono ?_; rintro e w17 ⟨rfl, hb17⟩)
    go_ret
    exact ⟨rfl, (L16.up hb17).below⟩
  · have e1 : szw n = -1 := by unfold szw; rw [if_neg hn1]
    rw [e1] at HS
    clear e1
    go_enter Try.func4, Try.ntmps4
    go_wp2_with (go_at_call 10; refine (show Calls Try.prog 10 _ (LWx w N a n c) _ from HS.out).mono ?_; rintro e w2 ⟨rfl, hb1⟩)
    go_ret
    exact ⟨rfl, ((LW.start w N a n c).up hb1).below⟩
end Go.Proofs.Ytgjngaaibcmgmaa
