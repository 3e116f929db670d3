/- The program's GraphOf and forestEdges. An edge is put into a list of edges. slices.Values over edges, and slices.Collect of it: each edge, in order, in a list of its own. The library's sorting by a comparison, at this program, by the shelf's own laying in plain words. slices.SortedFunc of a list of edges by compareEdges: the edges ascending, in a list of their own. A graph in a box of its own. -/
import Derived.Test.YtgjnlhdgekfieaaGreatKBx7
import Derived.Deep.AppendLies
import Derived.RangeFuncNested
import Derived.RangeFuncBound
import Derived.RangeFuncCalls
import Derived.RangeFuncLeaves
import Derived.RangeFuncBox
import Derived.Shelf.Abstract
import Derived.Shelf.RegionOpen
import Derived.WalkKit
import Derived.OwnWalkIn
import Derived.TacticsInMore
import Derived.LoopNIn
import Derived.LoopIn
import Derived.Maps.AppendAt
import Derived.Shelf.SlSortCmp.NoneTotal
import Derived.Test.YtgjnlhdgekfieaaGreatProg
import Derived.Test.YtgjnlhdgekfieaaGreatKGr6
namespace Go.Proofs.YtgjnlhdgekfieaaGreat
open Go.RowKit

theorem take_set2' (xs : List Value) (k : Nat) (x y : Value) (h : k + 2 ≤ xs.length) : ((xs.set k x).set (k + 1) y).take (k + 2) = xs.take k ++ [x, y] := by
  apply List.ext_getElem?
  intro i
  by_cases h1 : i < k
  · rw [List.getElem?_take_of_lt (by omega), List.getElem?_set_ne (by omega), List.getElem?_set_ne (by omega), List.getElem?_append_left (by simp; omega), List.getElem?_take_of_lt h1]
  · by_cases h2 : i = k
    · subst h2
      rw [List.getElem?_take_of_lt (by omega), List.getElem?_set_ne (by omega), List.getElem?_set_self (by omega), List.getElem?_append_right (by simp; omega)]
      have e : i - (xs.take i).length = 0 := by simp; omega
      rw [e]; rfl
    · by_cases h3 : i = k + 1
      · subst h3
        rw [List.getElem?_take_of_lt (by omega), List.getElem?_set_self (by simp; omega), List.getElem?_append_right (by simp; omega)]
        have e : k + 1 - (xs.take k).length = 1 := by simp; omega
        rw [e]; rfl
      · rw [List.getElem?_take_eq_none (by omega), List.getElem?_eq_none (by simp; omega)]
/-- behind the web's box and the answer's -/
def wg2 (w : World) (N : Int) (a : Option Addr) (n c : Nat) : World := (wW w N a n c).alloc (.cells #[.int .i64 0, .slice none 0 0] 33)
theorem wg2_size (w : World) (N : Int) (a : Option Addr) (n c : Nat) : (wg2 w N a n c).heap.size = w.heap.size + 2 := by simp [wg2, wW]
theorem wg2_good (w : World) (N : Int) (a : Option Addr) (n c : Nat) : Good w (wg2 w N a n c) := (wW_good w N a n c).alloc _
theorem wg2_cells {w : World} {N : Int} {a : Option Addr} {n c : Nat} {u : World} (h : Below (w.heap.size + 2) (wg2 w N a n c) u) : (u.cell? ⟨w.heap.size, 0, none⟩ = some (.int .i64 N) ∧ u.cell? ⟨w.heap.size, 1, none⟩ = some (.slice a n c)) ∧ Box7 u (w.heap.size + 1) 33 (.int .i64 0) (.slice none 0 0) := by
  have b1 : Box7 (wg2 w N a n c) w.heap.size 26 (.int .i64 N) (.slice a n c) := (Box7.new w _ _ _ _ rfl).alloc _
  have b2 : Box7 (wg2 w N a n c) (w.heap.size + 1) 33 (.int .i64 0) (.slice none 0 0) := Box7.new _ _ _ _ _ (by simp [wW])
  have c1 := b1.below h (by omega)
  exact ⟨⟨c1.cell0, c1.cell1⟩, b2.below h (by omega)⟩

set_option maxRecDepth 100000 in
set_option maxHeartbeats 4000000 in
theorem iGraphOf_any (N : Int) (ls : List Ld) (n : Nat) (a : Option Addr) (c : Nat) (hn : n ≤ 1048576) (w : World) (h : Ls w w.heap.size a n ls) :
    Calls Tryz.prog 14 #[.agg #[.int .i64 N, .slice a n c]] w fun e w' => ∃ g, e = .returned (.agg #[.int .i64 N, .slice (some ⟨g, 0, none⟩) n n]) ∧ w'.ownsRow w.heap.size 28 2 (.slice (some ⟨g, 0, none⟩) n n) n (ecells (gE ls)) ∧ Below w.heap.size w w' := by
  obtain ⟨i0, hi, hz0, hz1, hz2⟩ := info_parts infoIE
  have hmk : ∀ u : World, (Instr.makeSlice 31 (.int .i64 (n : Int)) (.int .i64 (n : Int))).run Tryz.prog u =
      .ok (.slice (some ⟨u.heap.size, 0, none⟩) n n) (u.alloc (.cells (madeCells #[.int .i64 0, .int .i64 0] (n * 2)) 28)) := fun u => by
    have h := run_make (P := Tryz.prog) u 31 28 i0 _ Tryz.underlying31 hi hz0 .i64 .i64 (n : Int) (n : Int) (by omega) (by omega) (by rw [hz2]; omega) (by omega)
    rw [Int.toNat_natCast] at h
    simpa [hz1, Value.cells] using h
  have HR := hideIt h
  have hlen := h.1
  have o0 := World.ownsRow_lit (base := w.heap.size + 2) (e := 28) (size := 2) (wg2 w N a n c) (madeCells #[.int .i64 0, .int .i64 0] (n * 2)) n (by rw [wg2_size]; omega) (by unfold maxLen; omega) (by simp [madeCells])
  rw [wg2_size] at o0
  have HO0 := hideIt o0
  have HB0 : Hid (Below (w.heap.size + 2) (wg2 w N a n c) ((wg2 w N a n c).alloc (.cells (madeCells #[.int .i64 0, .int .i64 0] (n * 2)) 28))) := (Below.refl _ _).alloc (by rw [wg2_size]; omega) _
  clear h o0
  go_enter Tryz.func14, Tryz.ntmps14
  go_wp2
  go_loopw [13] (fun i wr => ∃ (k : Nat) (xs : List Value), k ≤ n ∧ i = .int .i64 (k : Int) ∧ Hid (xs.take (k * 2) = ecells (gE (ls.take k))) ∧ wr.ownsRow (w.heap.size + 2) 28 2 (.slice (some ⟨w.heap.size + 2, 0, none⟩) n n) n xs ∧ Below (w.heap.size + 2) (wg2 w N a n c) wr) (fun i _ => n - (intOf i).toNat)
  case atStart => exact ⟨0, _, by omega, rfl, by show _ = _; simp [ecells, gE], HO0.out, HB0.out⟩
  case round =>
    obtain ⟨k, xs, hk, rfl, hx, hown, hb⟩ := hrel
    clear HO0 HB0
    obtain ⟨⟨cw0, cw1⟩, bx⟩ := wg2_cells hb
    have hz := hb.size
    rw [wg2_size] at hz
    by_cases hlt : k < n
    · have hgb : Good w wr := (wg2_good w N a n c).trans (hb.mono (by omega))
      obtain ⟨b, off, x, rfl, hbl, hxk, hat⟩ := (HR.out.below hgb (Nat.le_refl _)).at hlt
      have e0 := hat.ca
      have e1 := hat.cb
      have e2 := hat.cl
      have e3 := hat.ct
      have b1 : (0 : Int) ≤ (k : Int) := by omega
      have b2 : (k : Int) < (n : Int) := by omega
      have HT := hideIt (ledgeEdge_any x)
      have HTk : Hid (ecells (gE (ls.take (k + 1))) = ecells (gE (ls.take k)) ++ [.int .i64 x.a, .int .i64 x.b]) := by
        show _ = _
        rw [take_snocF ls k x hxk]
        simp [gE, Ld.e, ecells, ecell]
      have hba : Below wr.heap.size wr (wr.alloc (.cells #[.int .i64 x.a, .int .i64 x.b, .int .i64 x.l, .bool x.t] 52)) := (Below.refl _ _).alloc (Nat.le_refl _) _
      have HU : Hid (∀ u, Below (wr.alloc (.cells #[.int .i64 x.a, .int .i64 x.b, .int .i64 x.l, .bool x.t] 52)).heap.size (wr.alloc (.cells #[.int .i64 x.a, .int .i64 x.b, .int .i64 x.l, .bool x.t] 52)) u → u.ownsRow (w.heap.size + 2) 28 2 (.slice (some ⟨w.heap.size + 2, 0, none⟩) n n) n xs ∧ Below (w.heap.size + 2) (wg2 w N (some ⟨b, off, none⟩) n c) u) := fun u hu =>
        ⟨own_up (own_up hown hba) hu, (hb.trans (hba.mono hz)).trans (hu.mono (by simp; omega))⟩
      clear hxk hat hown hb hba
      go_wp2_with (go_at_call 74; refine (HT.out _).mono ?_; rintro e w1 ⟨rfl, hb1⟩; refine Hid.out ?_)
      refine (show ∀ {p : Prop}, p → Hid p from fun h => h) ?_
      obtain ⟨hown1, hb2⟩ := HU.out _ hb1
      have hl3 : xs.length = n * 2 := hown1.1
      have f0 := hown1.frozenAt (k * 2)
      have f1 := hown1.frozenAt (k * 2 + 1)
      have x0 : w1.cell? ⟨w.heap.size + 2, k * 2, none⟩ = some (xs[k * 2]'(by omega)) := by rw [hown1.cellAt (k * 2) (by omega)]; exact List.getElem?_eq_getElem (by omega)
      have x1 : w1.cell? ⟨w.heap.size + 2, k * 2 + 1, none⟩ = some (xs[k * 2 + 1]'(by omega)) := by rw [hown1.cellAt (k * 2 + 1) (by omega)]; exact List.getElem?_eq_getElem (by omega)
      clear e0 e1 e2 e3 HT HU
      go_wp2
      refine ⟨⟨k + 1, (xs.set (k * 2) (.int .i64 x.a)).set (k * 2 + 1) (.int .i64 x.b), by omega, by go_num, ?_, ?_, ?_⟩, by simp [intOf]; omega⟩
      · show _ = _
        rw [show (k + 1) * 2 = k * 2 + 2 by omega, take_set2' _ _ _ _ (by omega), hx.out, HTk.out]
      · exact ((hown1.stored (k * 2) _).1.stored (k * 2 + 1) _).1
      · exact (hb2.setCell (p := ⟨w.heap.size + 2, _, none⟩) (Nat.le_refl _) _).setCell (p := ⟨w.heap.size + 2, _, none⟩) (Nat.le_refl _) _
    · have e : ls.take k = ls := List.take_of_length_le (by omega)
      have hl3 : xs.length = n * 2 := hown.1
      have HX : Hid (xs = ecells (gE ls)) := by
        show _ = _
        have := hx.out
        rw [e, List.take_of_length_le (by omega)] at this
        exact this
      have HO := hideIt hown
      have HB := hideIt hb
      have r0 := bx.cell0
      have r1 := bx.cell1
      have q0 := bx.frozen 0
      have q1 := bx.frozen 1
      clear hx e hown hl3 hb
      go_wp2
      have HG : Good w wr := (wg2_good w N a n c).trans (HB.out.mono (by omega))
      refine bodyPost_ret (v := .agg #[.int .i64 N, .slice (some ⟨w.heap.size + 2, 0, none⟩) n n]) (by simp [results, Tryz.results14, go_sem, r0, r1]) rfl ⟨w.heap.size + 2, rfl, ?_, ?_⟩
      · rw [← HX.out]
        exact own_mono (own_setOther (own_setOther HO.out (w.heap.size + 1) 0 _ (by omega)) (w.heap.size + 1) 1 _ (by omega)) (by omega)
      · exact (HG.setCell (p := ⟨w.heap.size + 1, 0, none⟩) (by show _ ≤ w.heap.size + 1; omega) _).setCell (p := ⟨w.heap.size + 1, 1, none⟩) (by show _ ≤ w.heap.size + 1; omega) _

/-- edges of a list in the making, a web's box ahead of them -/
structure FSt (w : World) (N : Int) (a : Option Addr) (n c : Nat) (g m c' : Nat) (es : List EdgeV) (u : World) : Prop where
  own : u.ownsRow (w.heap.size + 1) 28 2 (.slice (some ⟨g, 0, none⟩) m c') m (ecells es)
  bel : Below (w.heap.size + 1) (wW w N a n c) u
theorem FSt.size {w : World} {N : Int} {a : Option Addr} {n c g m c' : Nat} {es : List EdgeV} {u : World} (h : FSt w N a n c g m c' es u) : w.heap.size + 1 ≤ u.heap.size := by have := h.bel.size; rw [wW_size] at this; exact this
theorem FSt.up {w : World} {N : Int} {a : Option Addr} {n c g m c' : Nat} {es : List EdgeV} {u v : World} (h : FSt w N a n c g m c' es u) (hb : Below u.heap.size u v) : FSt w N a n c g m c' es v := ⟨own_up h.own hb, h.bel.trans (hb.mono h.size)⟩
theorem FSt.good {w : World} {N : Int} {a : Option Addr} {n c g m c' : Nat} {es : List EdgeV} {u : World} (h : FSt w N a n c g m c' es u) : Good w u := (wW_good w N a n c).trans (h.bel.mono (by omega))
theorem FSt.app {w : World} {N : Int} {a : Option Addr} {n c g m c' : Nat} {es : List EdgeV} {u : World} (h : FSt w N a n c g m c' es u) {e : EdgeV} {o : Obj} {v : Value} {u' : World}
    (ho : u'.ownsRow (w.heap.size + 1) 28 2 v (m + 1) (ecells es ++ [.int .i64 e.1, .int .i64 e.2])) (hg : (u.alloc o).grownBy u' (some g)) : ∃ g2 c2, v = .slice (some ⟨g2, 0, none⟩) (m + 1) c2 ∧ FSt w N a n c g2 (m + 1) c2 (es ++ [e]) u' := by
  obtain ⟨g2, c2, rfl, _⟩ := ho.form (by omega)
  rw [← ecells_snoc] at ho
  refine ⟨g2, c2, rfl, ho, ?_⟩
  exact (h.bel.alloc h.size _).grown hg (by have := h.size; simp; omega) (fun j hj => by cases hj; exact (h.own.lt g rfl).1)
theorem newsE9 (w : World) (g : EdgeV) : ∀ j u, ([Value.int .i64 g.1, Value.int .i64 g.2] : List Value)[j]? = some u → (w.alloc (.cells #[.int .i64 g.1, .int .i64 g.2] 28)).cell? ((⟨w.heap.size, 0, none⟩ : Addr).add j) = some u := by
  intro j u hj
  rcases j with _ | _ | j
  · simp at hj; subst hj; simp [Addr.add]
  · simp at hj; subst hj; simp [Addr.add]
  · simp at hj
theorem FSt.start (w : World) (N : Int) (a : Option Addr) (n c : Nat) : FSt w N a n c (w.heap.size + 1) 0 0 [] ((wW w N a n c).alloc (.cells #[] 28)) := by
  refine ⟨?_, (Below.refl _ _).alloc (by rw [wW_size]; omega) _⟩
  have h0 := World.ownsRow_lit (base := w.heap.size + 1) (e := 28) (size := 2) (wW w N a n c) #[] 0 (by rw [wW_size]; omega) (by unfold maxLen; omega) (by simp)
  rw [wW_size] at h0
  simpa [ecells] using h0
set_option maxRecDepth 100000 in
set_option maxHeartbeats 4000000 in
theorem forestEdges_any (N : Int) (ls : List Ld) (lv : Int) (n : Nat) (a : Option Addr) (c : Nat) (hn : n ≤ 1048576) (w : World) (h : Ls w w.heap.size a n ls) :
    Calls Tryz.prog 96 #[.agg #[.int .i64 N, .slice a n c], .int .i64 lv] w fun e w' => ∃ g m c', e = .returned (.slice (some ⟨g, 0, none⟩) m c') ∧ w'.ownsRow w.heap.size 28 2 (.slice (some ⟨g, 0, none⟩) m c') m (ecells (fE ls lv)) ∧ Below w.heap.size w w' := by
  obtain ⟨i0, hi, hz0, hz1, hz2⟩ := info_parts infoIE
  have HR := hideIt h
  have hlen := h.1
  have HS0 := hideIt (FSt.start w N a n c)
  clear h
  go_enter Tryz.func96, Tryz.ntmps96
  go_wp2
  go_loopw [5, 12] (fun r i wr => ∃ (k g m c' : Nat), k ≤ n ∧ m ≤ k ∧ i = .int .i64 (k : Int) ∧ r = .slice (some ⟨g, 0, none⟩) m c' ∧ FSt w N a n c g m c' (fE (ls.take k) lv) wr) (fun _ i _ => n - (intOf i).toNat)
  case atStart => exact ⟨0, _, 0, 0, by omega, by omega, rfl, rfl, HS0.out⟩
  case round =>
    obtain ⟨k, g, m, c', hk, hm, rfl, rfl, hst⟩ := hrel
    clear HS0
    have hz := hst.size
    by_cases hlt : k < n
    · obtain ⟨b, off, x, rfl, hbl, hxk, hat⟩ := (HR.out.below hst.good (Nat.le_refl _)).at hlt
      have e0 := hat.ca
      have e1 := hat.cb
      have e2 := hat.cl
      have e3 := hat.ct
      have b1 : (0 : Int) ≤ (k : Int) := by omega
      have b2 : (k : Int) < (n : Int) := by omega
      have hba : Below wr.heap.size wr (wr.alloc (.cells #[.int .i64 x.a, .int .i64 x.b, .int .i64 x.l, .bool x.t] 52)) := (Below.refl _ _).alloc (Nat.le_refl _) _
      have HS1 := hideIt (hst.up hba)
      have HT := hideIt (ledgeEdge_any x)
      cases hp : fP lv x with
      | true =>
        have HF := hideIt (fE_take_yes hxk hp)
        unfold fP at hp
        rw [Bool.and_eq_true, decide_eq_true_eq] at hp
        obtain ⟨ht, hle⟩ := hp
        rw [ht] at e3 HT HS1
        clear hxk hat hba hst
        go_wp2_with (go_at_call 74; refine (HT.out _).mono ?_; rintro e w1 ⟨rfl, hb1⟩; refine Hid.out ?_)
        refine (show ∀ {p : Prop}, p → Hid p from fun h => h) ?_
        have HS2 := hideIt (HS1.out.up hb1)
        have z2 := HS2.out.size
        clear e0 e1 e2 e3 HT HS1 hb1
        go_wp2_with (at_builtin; refine wpList_append_own _ rfl _ _ 31 rfl (w.heap.size + 1) 28 i0 _ 2 16 Tryz.underlying31 hi hz0 hz1 hz2 rfl (by decide) _ _ _ rfl (HS2.out.own.alloc _) ⟨w1.heap.size, 0, none⟩ 1 1 [.int .i64 x.a, .int .i64 x.b] rfl rfl (newsE9 w1 (x.a, x.b)) (by intro u hu; simp at hu; rcases hu with rfl | rfl <;> rfl) (by unfold maxLen; omega) (by omega) (by simp; omega) ?_)
        intro v2 w2 hown2 hg2 hn2
        obtain ⟨g2, c2, rfl, hst2⟩ := HS2.out.app (e := (x.a, x.b)) hown2 hg2
        have HS3 := hideIt hst2
        clear hown2 hg2 hn2 hst2 HS2
        go_wp2
        exact ⟨⟨k + 1, g2, m + 1, c2, by omega, by omega, by go_num, rfl, by rw [HF.out]; exact HS3.out⟩, by simp [intOf]; omega⟩
      | false =>
        have HF := hideIt (fE_take_no hxk hp)
        clear hxk hat hba hst HT
        cases ht : x.t with
        | false =>
          rw [ht] at e3 HS1
          clear hp
          go_wp2
          exact ⟨⟨k + 1, g, m, c', by omega, by omega, by go_num, rfl, by rw [HF.out]; exact HS1.out⟩, by simp [intOf]; omega⟩
        | true =>
          rw [ht] at e3 HS1
          have hle : ¬ lv ≤ x.l := fun h2 => by unfold fP at hp; rw [ht, decide_eq_true h2] at hp; cases hp
          clear hp
          go_wp2
          exact ⟨⟨k + 1, g, m, c', by omega, by omega, by go_num, rfl, by rw [HF.out]; exact HS1.out⟩, by simp [intOf]; omega⟩
    · have e : ls.take k = ls := List.take_of_length_le (by omega)
      rw [e] at hst
      have HST := hideIt hst
      clear hst e
      go_wp2
      go_ret
      exact ⟨g, m, c', rfl, own_mono HST.out.own (by omega), HST.out.good⟩
end Go.Proofs.YtgjnlhdgekfieaaGreat
namespace Go.Proofs.YtgjnlhdgekfieaaGreat
open Go.RowKit

/-- the world behind the edge's box -/
def wE (w : World) (e : EdgeV) : World := w.alloc (.cells #[.int .i64 e.1, .int .i64 e.2] 28)

theorem wE_size (w : World) (e : EdgeV) : (wE w e).heap.size = w.heap.size + 1 := by simp [wE]

/-- nothing of it has turned, and the row is ours -/
structure PutSt (w : World) (e : EdgeV) (a : Option Addr) (m c : Nat) (gs : List EdgeV) (u : World) : Prop where
  own : u.ownsRow (w.heap.size + 1) 28 2 (.slice a m c) m (ecells gs)
  bel : Below (w.heap.size + 1) (wE w e) u

theorem PutSt.size {w : World} {e : EdgeV} {a : Option Addr} {m c : Nat} {gs : List EdgeV} {u : World} (h : PutSt w e a m c gs u) : w.heap.size + 1 ≤ u.heap.size := by have := h.bel.size; rw [wE_size] at this; exact this

theorem PutSt.len {w : World} {e : EdgeV} {a : Option Addr} {m c : Nat} {gs : List EdgeV} {u : World} (h : PutSt w e a m c gs u) : gs.length = m := by have := h.own.1; rw [ecells_length] at this; omega

theorem PutSt.below {w : World} {e : EdgeV} {a : Option Addr} {m c : Nat} {gs : List EdgeV} {u : World} (h : PutSt w e a m c gs u) : Below w.heap.size w u :=
  ((Below.refl w.heap.size w).alloc (Nat.le_refl _) _).trans (h.bel.mono (by omega))

theorem PutSt.up {w : World} {e : EdgeV} {a : Option Addr} {m c : Nat} {gs : List EdgeV} {u v : World} (h : PutSt w e a m c gs u) (hb : Below u.heap.size u v) : PutSt w e a m c gs v :=
  ⟨World.ownsRow.kept h.own (show u.grownBy v none from ⟨hb.os, hb.tape, hb.output, hb.size, fun k hk _ => hb.block k hk⟩) (by cases hv : (Value.slice a m c).ownBlock <;> simp), h.bel.trans (hb.mono h.size)⟩

theorem PutSt.box {w : World} {e : EdgeV} {a : Option Addr} {m c : Nat} {gs : List EdgeV} {u : World} (h : PutSt w e a m c gs u) : u.cell? ⟨w.heap.size, 0, none⟩ = some (.int .i64 e.1) ∧ u.cell? ⟨w.heap.size, 1, none⟩ = some (.int .i64 e.2) := by
  refine ⟨?_, ?_⟩
  · rw [h.bel.cell (by show w.heap.size < _; omega)]; simp [wE]
  · rw [h.bel.cell (by show w.heap.size < _; omega)]; simp [wE]

/-- behind an append of one edge -/
theorem PutSt.app {w : World} {e : EdgeV} {a : Option Addr} {m c : Nat} {gs : List EdgeV} {u : World} (h : PutSt w e a m c gs u) {g : EdgeV} {o : Obj} {v : Value} {u' : World}
    (ho : u'.ownsRow (w.heap.size + 1) 28 2 v (m + 1) (ecells gs ++ [.int .i64 g.1, .int .i64 g.2])) (hg : (u.alloc o).grownBy u' (Value.slice a m c).ownBlock) :
    ∃ a' c', v = .slice a' (m + 1) c' ∧ PutSt w e a' (m + 1) c' (gs ++ [g]) u' := by
  obtain ⟨a', c', rfl⟩ := own_form ho
  rw [← ecells_snoc] at ho
  refine ⟨a', c', rfl, ho, ?_⟩
  exact (h.bel.alloc h.size _).grown hg (by have := h.size; simp; omega) (fun j hj => (h.own.lt j hj).1)

theorem news1 (w : World) (g : EdgeV) : ∀ j u, ([Value.int .i64 g.1, Value.int .i64 g.2] : List Value)[j]? = some u → (w.alloc (.cells #[.int .i64 g.1, .int .i64 g.2] 28)).cell? ((⟨w.heap.size, 0, none⟩ : Addr).add j) = some u := by
  intro j u hj
  rcases j with _ | _ | j
  · simp at hj; subst hj; simp [Addr.add]
  · simp at hj; subst hj; simp [Addr.add]
  · simp at hj

set_option maxRecDepth 100000 in
set_option maxHeartbeats 4000000 in
theorem l05Put_any (es : List EdgeV) (e : EdgeV) (n : Nat) (a : Option Addr) (c : Nat) (hn : n ≤ 1048576) (w : World) (h : Es w w.heap.size a n es) :
    Calls Tryz.prog 85 #[.slice a n c, .agg #[.int .i64 e.1, .int .i64 e.2]] w fun x w' => ∃ a' m' c', x = .returned (.slice a' m' c') ∧ w'.ownsRow w.heap.size 28 2 (.slice a' m' c') m' (ecells (putE es e)) ∧ Below w.heap.size w w' := by
  obtain ⟨i0, hi, hz0, hz1, hz2⟩ := info_parts infoIE
  obtain ⟨hlen, hrow⟩ := h
  have HR := hideIt hrow
  clear hrow
  have HLs : Hid (∀ (a' : Option Addr) (m' c' : Nat) (gs : List EdgeV) (d f : EdgeV) (W : World), PutSt w e a' m' c' gs W → Calls Tryz.prog 153 #[.agg #[.int .i64 d.1, .int .i64 d.2], .agg #[.int .i64 f.1, .int .i64 f.2]] W fun x w' => x = .returned (.bool (lt d f)) ∧ PutSt w e a' m' c' gs w') := fun _ _ _ _ d f W hW =>
    (l05Less_any d f W).mono fun _ _ ⟨he, hb⟩ => ⟨he, hW.up hb⟩
  go_enter Tryz.func85, Tryz.ntmps85
  go_wp2
  go_loopw [5, 6] (fun v i wr => ∃ (k m' : Nat) (a' : Option Addr) (c' : Nat) (gs : List EdgeV), k ≤ n ∧ i = .int .i64 (k : Int) ∧ v = .slice a' m' c' ∧ m' ≤ k ∧ Hid (gs = (es.take k).filter (fun d => lt d e)) ∧ PutSt w e a' m' c' gs wr) (fun _ i _ => n - (intOf i).toNat)
  case atStart =>
    refine ⟨0, 0, _, _, [], by omega, rfl, rfl, by omega, by show _ = _; simp, ?_, ?_⟩
    · have h0 := World.ownsRow_lit (base := w.heap.size + 1) (e := 28) (size := 2) (wE w e) #[] 0 (by rw [wE_size]; omega) (by unfold maxLen; omega) (by simp)
      rw [wE_size] at h0
      simpa [ecells, wE] using h0
    · have h1 := (Below.refl (w.heap.size + 1) (wE w e)).alloc (by rw [wE_size]; omega) (.cells #[] 28)
      simpa [wE] using h1
  case round =>
    obtain ⟨k, m', a', c', gs, hk, rfl, rfl, hm, hgs, hst⟩ := hrel
    by_cases hlt : k < n
    · rcases HR.out with hz | ⟨b, off, rfl, hbl, hc⟩
      · omega
      · obtain ⟨f, hf⟩ : ∃ f, es[k]? = some f := ⟨es[k]'(by omega), List.getElem?_eq_getElem (by omega)⟩
        obtain ⟨c0, c1⟩ := hc k f hf
        have b1 : (0 : Int) ≤ (k : Int) := by omega
        have b2 : (k : Int) < (n : Int) := by omega
        have HK : Hid (∀ W : World, PutSt w e a' m' c' gs W → (W.cell? ⟨b, off + k * 2, none⟩ = some (.int .i64 f.1) ∧ W.cell? ⟨b, off + k * 2 + 1, none⟩ = some (.int .i64 f.2)) ∧ W.cell? ⟨w.heap.size, 0, none⟩ = some (.int .i64 e.1) ∧ W.cell? ⟨w.heap.size, 1, none⟩ = some (.int .i64 e.2)) := fun W hW =>
          ⟨⟨by rw [hW.below.cell hbl]; exact c0, by rw [hW.below.cell hbl]; exact c1⟩, hW.box⟩
        have S0 := hst.up (Below.refl _ _).drew
        have HLc := hideIt (HLs.out a' m' c' gs f e _ S0)
        have e0 := (HK.out _ hst).1.1
        have e1 := (HK.out _ hst).1.2
        cases hL : lt f e with
        | true =>
          rw [hL] at HLc
          have HG : Hid (gs ++ [f] = (es.take (k + 1)).filter (fun d => lt d e)) := by
            show _ = _
            rw [take_snocF es k f hf, List.filter_append, hgs.out]
            simp [hL]
          clear hc hf c0 c1 hL
          go_wp2
          go_region_held3 (fun u => PutSt w e a' m' c' gs u ∧ (u.cell? ⟨b, off + k * 2, none⟩ = some (.int .i64 f.1) ∧ u.cell? ⟨b, off + k * 2 + 1, none⟩ = some (.int .i64 f.2)) ∧ u.cell? ⟨w.heap.size, 0, none⟩ = some (.int .i64 e.1) ∧ u.cell? ⟨w.heap.size, 1, none⟩ = some (.int .i64 e.2))
            (first | exact ⟨S1, HK.out _ S1⟩ | exact ⟨S0, HK.out _ S0⟩)
            ((go_at_call 153; refine HLc.out.mono ?_; rintro x w1 ⟨rfl, S1⟩))
          obtain ⟨⟨y0, y1⟩, _, _⟩ := HK.out _ S1
          have z1 := S1.size
          clear HLc S0
          go_wp2_with (at_builtin; refine wpList_append_own _ rfl _ _ 31 rfl (w.heap.size + 1) 28 i0 _ 2 16 Tryz.underlying31 hi hz0 hz1 hz2 rfl (by decide) _ _ _ rfl (S1.own.alloc _) ⟨w1.heap.size, 0, none⟩ 1 1 [.int .i64 f.1, .int .i64 f.2] rfl rfl (news1 _ _) (by intro u hu; simp at hu; rcases hu with rfl | rfl <;> rfl) (by unfold maxLen; omega) (by omega) (by simp; omega) ?_)
          intro v2 w2 hown2 hg2 hn2
          obtain ⟨a2, c2, rfl, hst2⟩ := S1.app hown2 hg2
          clear hown2 hg2 hn2 S1 y0 y1 e0 e1 hst
          go_wp2
          exact ⟨⟨k + 1, m' + 1, a2, c2, gs ++ [f], by omega, by go_num, rfl, by omega, HG, hst2⟩, by simp [intOf]; omega⟩
        | false =>
          rw [hL] at HLc
          have HG : Hid (gs = (es.take (k + 1)).filter (fun d => lt d e)) := by
            show _ = _
            rw [take_snocF es k f hf, List.filter_append, hgs.out]
            simp [hL]
          clear hc hf c0 c1 hL
          go_wp2
          go_region_held3 (fun u => PutSt w e a' m' c' gs u ∧ (u.cell? ⟨b, off + k * 2, none⟩ = some (.int .i64 f.1) ∧ u.cell? ⟨b, off + k * 2 + 1, none⟩ = some (.int .i64 f.2)) ∧ u.cell? ⟨w.heap.size, 0, none⟩ = some (.int .i64 e.1) ∧ u.cell? ⟨w.heap.size, 1, none⟩ = some (.int .i64 e.2))
            (first | exact ⟨S1, HK.out _ S1⟩ | exact ⟨S0, HK.out _ S0⟩)
            ((go_at_call 153; refine HLc.out.mono ?_; rintro x w1 ⟨rfl, S1⟩))
          go_wp2
          exact ⟨⟨k + 1, m', a', c', gs, by omega, by go_num, rfl, by omega, HG, S1⟩, by simp [intOf]; omega⟩
    · obtain rfl : k = n := by omega
      have HG : Hid (gs ++ [e] = es.filter (fun d => lt d e) ++ [e]) := by show _ = _; rw [hgs.out, List.take_of_length_le (by omega)]
      obtain ⟨x0, x1⟩ := hst.box
      have z1 := hst.size
      clear hgs
      go_wp2_with (at_builtin; refine wpList_append_own _ rfl _ _ 31 rfl (w.heap.size + 1) 28 i0 _ 2 16 Tryz.underlying31 hi hz0 hz1 hz2 rfl (by decide) _ _ _ rfl (hst.own.alloc _) ⟨wr.heap.size, 0, none⟩ 1 1 [.int .i64 e.1, .int .i64 e.2] rfl rfl (news1 _ _) (by intro u hu; simp at hu; rcases hu with rfl | rfl <;> rfl) (by unfold maxLen; omega) (by omega) (by simp; omega) ?_)
      intro v2 w2 hown2 hg2 hn2
      obtain ⟨a2, c2, rfl, hst2⟩ := hst.app hown2 hg2
      have hmk : m' + 1 ≤ k + 1 := by omega
      generalize m' + 1 = m3 at hst2 hmk
      generalize gs ++ [e] = g0 at HG hst2
      clear hown2 hg2 hn2 x0 x1 hst
      go_wp2
      go_loopw [5, 7] (fun v i wr => ∃ (q m' : Nat) (a' : Option Addr) (c' : Nat) (gs : List EdgeV), q ≤ k ∧ i = .int .i64 (q : Int) ∧ v = .slice a' m' c' ∧ m' ≤ k + 1 + q ∧ Hid (gs = g0 ++ (es.take q).filter (fun d => lt e d)) ∧ PutSt w e a' m' c' gs wr) (fun _ i _ => k - (intOf i).toNat)
      case atStart => exact ⟨0, m3, a2, c2, g0, by omega, rfl, rfl, by omega, by show _ = _; simp, hst2⟩
      case round =>
        obtain ⟨q, m', a', c', gs, hq, rfl, rfl, hm, hgs, hst⟩ := hrel
        by_cases hlt : q < k
        · rcases HR.out with hz | ⟨b, off, rfl, hbl, hc⟩
          · omega
          · obtain ⟨f, hf⟩ : ∃ f, es[q]? = some f := ⟨es[q]'(by omega), List.getElem?_eq_getElem (by omega)⟩
            obtain ⟨c0, c1⟩ := hc q f hf
            have b1 : (0 : Int) ≤ (q : Int) := by omega
            have b2 : (q : Int) < (k : Int) := by omega
            have HK : Hid (∀ W : World, PutSt w e a' m' c' gs W → (W.cell? ⟨b, off + q * 2, none⟩ = some (.int .i64 f.1) ∧ W.cell? ⟨b, off + q * 2 + 1, none⟩ = some (.int .i64 f.2)) ∧ W.cell? ⟨w.heap.size, 0, none⟩ = some (.int .i64 e.1) ∧ W.cell? ⟨w.heap.size, 1, none⟩ = some (.int .i64 e.2)) := fun W hW =>
              ⟨⟨by rw [hW.below.cell hbl]; exact c0, by rw [hW.below.cell hbl]; exact c1⟩, hW.box⟩
            have S0 := hst.up (Below.refl _ _).drew
            have HLc := hideIt (HLs.out a' m' c' gs e f _ S0)
            have e0 := (HK.out _ hst).1.1
            have e1 := (HK.out _ hst).1.2
            cases hL : lt e f with
            | true =>
              rw [hL] at HLc
              have HG : Hid (gs ++ [f] = g0 ++ (es.take (q + 1)).filter (fun d => lt e d)) := by
                show _ = _
                rw [take_snocF es q f hf, List.filter_append, hgs.out]
                simp [hL]
              clear hc hf c0 c1 hL
              go_wp2
              go_region_held3 (fun u => PutSt w e a' m' c' gs u ∧ (u.cell? ⟨b, off + q * 2, none⟩ = some (.int .i64 f.1) ∧ u.cell? ⟨b, off + q * 2 + 1, none⟩ = some (.int .i64 f.2)) ∧ u.cell? ⟨w.heap.size, 0, none⟩ = some (.int .i64 e.1) ∧ u.cell? ⟨w.heap.size, 1, none⟩ = some (.int .i64 e.2))
                (first | exact ⟨S1, HK.out _ S1⟩ | exact ⟨S0, HK.out _ S0⟩)
                ((go_at_call 153; refine HLc.out.mono ?_; rintro x w1 ⟨rfl, S1⟩))
              obtain ⟨⟨y0, y1⟩, _, _⟩ := HK.out _ S1
              have z1 := S1.size
              clear HLc S0
              go_wp2_with (at_builtin; refine wpList_append_own _ rfl _ _ 31 rfl (w.heap.size + 1) 28 i0 _ 2 16 Tryz.underlying31 hi hz0 hz1 hz2 rfl (by decide) _ _ _ rfl (S1.own.alloc _) ⟨w1.heap.size, 0, none⟩ 1 1 [.int .i64 f.1, .int .i64 f.2] rfl rfl (news1 _ _) (by intro u hu; simp at hu; rcases hu with rfl | rfl <;> rfl) (by unfold maxLen; omega) (by omega) (by simp; omega) ?_)
              intro v2 w2 hown2 hg2 hn2
              obtain ⟨a2, c2, rfl, hst2⟩ := S1.app hown2 hg2
              clear hown2 hg2 hn2 S1 y0 y1 e0 e1 hst
              go_wp2
              exact ⟨⟨q + 1, m' + 1, a2, c2, gs ++ [f], by omega, by go_num, rfl, by omega, HG, hst2⟩, by simp [intOf]; omega⟩
            | false =>
              rw [hL] at HLc
              have HG : Hid (gs = g0 ++ (es.take (q + 1)).filter (fun d => lt e d)) := by
                show _ = _
                rw [take_snocF es q f hf, List.filter_append, hgs.out]
                simp [hL]
              clear hc hf c0 c1 hL
              go_wp2
              go_region_held3 (fun u => PutSt w e a' m' c' gs u ∧ (u.cell? ⟨b, off + q * 2, none⟩ = some (.int .i64 f.1) ∧ u.cell? ⟨b, off + q * 2 + 1, none⟩ = some (.int .i64 f.2)) ∧ u.cell? ⟨w.heap.size, 0, none⟩ = some (.int .i64 e.1) ∧ u.cell? ⟨w.heap.size, 1, none⟩ = some (.int .i64 e.2))
                (first | exact ⟨S1, HK.out _ S1⟩ | exact ⟨S0, HK.out _ S0⟩)
                ((go_at_call 153; refine HLc.out.mono ?_; rintro x w1 ⟨rfl, S1⟩))
              go_wp2
              exact ⟨⟨q + 1, m', a', c', gs, by omega, by go_num, rfl, by omega, HG, S1⟩, by simp [intOf]; omega⟩
        · obtain rfl : q = k := by omega
          have HF : Hid (gs = putE es e) := by show _ = _; rw [hgs.out, HG.out, List.take_of_length_le (by omega)]; unfold putE; rfl
          have HO := hideIt (own_mono hst.own (show w.heap.size ≤ w.heap.size + 1 by omega))
          have hb := hst.below
          clear hgs hst
          go_wp2
          go_ret
          exact ⟨a', m', c', rfl, by rw [← HF.out]; exact HO.out, hb⟩

end Go.Proofs.YtgjnlhdgekfieaaGreat
namespace Go.Proofs.YtgjnlhdgekfieaaGreat
open Go.RowKit Go.Shelf
attribute [local go_sem] Oper.semAt_some

/-- an edge, as yield takes it -/
abbrev edgV (x : EdgeV) : Array Value := #[.agg #[.int .i64 x.1, .int .i64 x.2]]

set_option maxRecDepth 100000 in
set_option maxHeartbeats 2000000 in
theorem valItE_in (n l B n0 : Nat) (hn : 1 ≤ n) (ls : List EdgeV) (m : Nat) (a : Option Addr) (c : Nat) (hm : m ≤ 3000000) (J Jx : List EdgeV → World → Prop) (W : World) (hn0 : n0 ≤ W.heap.size) (hJa : AbidesFrom W.heap.size J)
    (hY : ∀ pre x W1, J pre W1 → pre.length < m → YieldAt Fence.wide (n - 1) Tryz.prog l (edgV x) W1 fun e W' =>
      (e = .returned (.bool true) ∧ J (pre ++ [x]) W' ∧ Below n0 W1 W') ∨ (e = .returned (.bool false) ∧ Jx (pre ++ [x]) W'))
    (hBc : W.cell? ⟨B, 0, none⟩ = some (.slice a m c)) (hI : Es W n0 a m ls) (h0 : J [] W) :
    CallsIn Fence.wide n Tryz.prog 182 #[.func (.yield l) #[] #[], .pointer (some ⟨B, 0, none⟩)] W fun e W' => (∃ v, e = .returned v) ∧
      ((∃ ys, ys = ls ∧ J ys W') ∨ (∃ pre, True ∧ Jx pre W')) := by
  obtain ⟨hlen, hrow⟩ := hI
  have HR := hideIt hrow
  clear hrow
  have HJ := hideIt (fun s X o (hs : J s X) => hJa s X (X.alloc o) none hs (World.grownBy_alloc X o none) (fun r e => by cases e))
  refine callsIn_of_wp Tryz.func182 rfl trivial ?_ rfl
  simp only [Tryz.ntmps182, List.size_toArray, List.length_cons, List.length_nil, Nat.reduceAdd, Nat.reduceSub, Array.replicate_succ, Array.replicate_zero, List.push_toArray, List.append_toArray, List.nil_append, List.cons_append]
  gi_wp2
  gi_loopw [7] (fun i wr => ∃ (k : Nat) (pre : List EdgeV), k ≤ m ∧ i = .int .i64 (k : Int) ∧ pre.length = k ∧ Hid (pre = ls.take k) ∧ Below n0 W wr ∧ J pre wr)
    (fun i _ => m - (intOf i).toNat)
  case atStart => exact ⟨0, [], by omega, rfl, rfl, by show _ = _; simp, Below.refl _ _, h0⟩
  case round =>
    obtain ⟨k, pre, hk, rfl, hpk, HP, hb, hJ⟩ := hrel
    by_cases hlt : k < m
    · rcases HR.out with hz | ⟨b, off, rfl, hbl, hc⟩
      · omega
      · obtain ⟨f, hf⟩ : ∃ f, ls[k]? = some f := ⟨ls[k]'(by omega), List.getElem?_eq_getElem (by omega)⟩
        have e0 : wr.cell? ⟨b, off + k * 2, none⟩ = some (.int .i64 f.1) := by rw [hb.cell hbl]; exact (hc k f hf).1
        have e1 : wr.cell? ⟨b, off + k * 2 + 1, none⟩ = some (.int .i64 f.2) := by rw [hb.cell hbl]; exact (hc k f hf).2
        have b1 : (0 : Int) ≤ (k : Int) := by omega
        have b2 : (k : Int) < (m : Int) := by omega
        have HP2 : Hid (pre ++ [f] = ls.take (k + 1)) := by show _ = _; rw [take_snocF ls k f hf, HP.out]
        have hsz := hb.size
        obtain ⟨fn, tmps, assign, body, hy, hR⟩ := hY pre f (wr.alloc (.cells #[.int .i64 f.1, .int .i64 f.2] 28)) (HJ.out pre wr _ hJ) (by omega)
        dsimp only [edgV] at hy
        have HBa := hideIt (hb.alloc (by omega) (.cells #[.int .i64 f.1, .int .i64 f.2] 28))
        clear hc hf HP hJ hb
        gi_wp2
        refine hR.mono ?_
        rintro e W3 (⟨rfl, hJ3, hk3⟩ | ⟨rfl, hJx3⟩)
        · gi_wp2
          exact ⟨⟨k + 1, pre ++ [f], by omega, by go_num, by simp; omega, HP2, HBa.out.trans hk3, hJ3⟩, by simp [intOf]; omega⟩
        · gi_wp2
          (try simp only [Exit.inBlock, Exit.then])
          refine bodyPost_ret (v := .tuple #[]) (results_none rfl _ _ _) rfl ?_
          exact ⟨⟨_, rfl⟩, .inr ⟨_, trivial, hJx3⟩⟩
    · obtain rfl : k = m := by omega
      have HP2 : Hid (pre = ls) := by show _ = _; rw [HP.out, List.take_of_length_le (by omega)]
      clear HP
      gi_wp2
      go_end0
      exact ⟨⟨_, rfl⟩, .inl ⟨pre, HP2.out, hJ⟩⟩

theorem valE_stops (n B n0 : Nat) (hn : 1 ≤ n) (ls : List EdgeV) (m : Nat) (a : Option Addr) (c : Nat) (hm : m ≤ 3000000) (w1 : World) (hB : B < w1.heap.size) (hn0 : n0 ≤ w1.heap.size) (hBc : w1.cell? ⟨B, 0, none⟩ = some (.slice a m c)) (hI : Es w1 n0 a m ls) :
    SeqStopsK Fence.wide n Tryz.prog 182 #[.pointer (some ⟨B, 0, none⟩)] edgV (Below n0) (fun ys => ys = ls) (fun _ => True) m w1 := fun l J Jx W hW hJ _ hY h0 =>
  valItE_in n l B n0 hn ls m a c hm J Jx W (Nat.le_trans hn0 hW.size) hJ hY ((hW.cell (p := ⟨B, 0, none⟩) hB).trans hBc) (hI.below hW hn0) h0

theorem valuesE_any (a : Option Addr) (m c : Nat) (w : World) :
    Calls Tryz.prog 118 #[.slice a m c] w fun e w' => e = .returned (.func (.func 182) #[] #[.pointer (some ⟨w.heap.size, 0, none⟩)]) ∧ w' = w.alloc (.cells #[.slice a m c] 31) := by
  go_enter Tryz.func118, Tryz.ntmps118
  go_wp2
  go_ret
  exact ⟨rfl, rfl⟩

set_option maxRecDepth 100000 in
set_option maxHeartbeats 2000000 in
theorem appSeqE_any (ls : List EdgeV) (m : Nat) (a : Option Addr) (c B : Nat) (hm : m ≤ 3000000) (w : World) (hB : B < w.heap.size) (hBc : w.cell? ⟨B, 0, none⟩ = some (.slice a m c)) (h : Es w w.heap.size a m ls) :
    Calls Tryz.prog 214 #[.slice none 0 0, .func (.func 182) #[] #[.pointer (some ⟨B, 0, none⟩)]] w fun e w' => ∃ v, e = .returned v ∧ w'.ownsRow w.heap.size 28 2 v m (ecells ls) ∧ Below w.heap.size w w' := by
  obtain ⟨i0, hi, hz0, hz1, hz2⟩ := info_parts infoIE
  refine (callsIn_wide (n := 6)).1 ?_
  refine callsIn_of_wp_marks Tryz.func214 rfl trivial ?_ rfl
  simp only [Tryz.ntmps214, List.size_toArray, List.length_cons, List.length_nil, Nat.reduceAdd, Nat.reduceSub, Array.replicate_succ, Array.replicate_zero, List.push_toArray, List.append_toArray, List.nil_append, List.cons_append]
  gi_wp2
  have bS := Boxed.new w 31 (.slice none 0 0)
  have hB0 : Below w.heap.size w (w.alloc (.cells #[.slice none 0 0] 31)) := (Below.refl _ w).alloc (Nat.le_refl _) _
  have hlen := h.1
  have hc0 : (w.alloc (.cells #[.slice none 0 0] 31)).cell? ⟨B, 0, none⟩ = some (.slice a m c) := by rw [hB0.cell (p := ⟨B, 0, none⟩) hB]; exact hBc
  refine wpIn_rangeFunc_ownH rfl (by omega) (gf := 182) (lb := #[.pointer (some ⟨B, 0, none⟩)]) rfl trivial (enters_of Tryz.func182 (by kernel_rfl) rfl)
    (valE_stops 5 B w.heap.size (by omega) ls m a c hm _ (by simp; omega) (by simp) hc0 (h.below hB0 (Nat.le_refl _))) belowK_t (belowK_b (by simp)) (Below.refl _ _) (fun _ => rfl)
    (fun pre W => (∃ v, Boxed W w.heap.size 31 v ∧ W.ownsRow w.heap.size 28 2 v pre.length (ecells pre) ∧ (v = .slice none 0 0 ↔ pre = [])) ∧ Below w.heap.size w W)
    (fun _ _ _ => False)
    (OwnFrom.and (Own.from (holdsRow_own w.heap.size w.heap.size 31 28 2 (fun pre => pre.length) (fun pre => ecells pre) (fun pre v => v = .slice none 0 0 ↔ pre = [])) _) (ownFrom_below (Nat.le_refl _) (by simp)))
    (fun _ _ _ _ _ hs _ _ => hs)
    ⟨⟨_, bS, World.ownsRow_nil _ _ _ _, by simp⟩, hB0⟩
    (fun x a' W => ∃ Bx, w.heap.size < Bx ∧ W.heap[Bx]? = some (.cells #[.int .i64 x.1, .int .i64 x.2] 28 (0, 0)) ∧ a' = { tmps := #[.slice none 0 0, .func (.func 182) #[] #[.pointer (some ⟨B, 0, none⟩)], .pointer (some ⟨w.heap.size, 0, none⟩), undef, .slice none 0 0, .pointer (some ⟨Bx, 0, none⟩), .func (.func 182) #[] #[.pointer (some ⟨B, 0, none⟩)], .agg #[.int .i64 x.1, .int .i64 x.2], undef, undef, undef, undef, undef], defers := [] })
    ?hAx ?assign ?body ?done ?stop
  case hAx =>
    rintro x a' _ X Y row ⟨Bx, h1, h2, h3⟩ hg hr
    refine ⟨Bx, h1, ?_, h3⟩
    rw [hg.block Bx (Array.getElem?_eq_some_iff.1 h2).1 (fun e' => by obtain ⟨_, o, ho, hc⟩ := hr Bx e'.symm; rw [h2] at ho; cases ho; cases hc)]
    exact h2
  case assign =>
    rintro l pre x W K ⟨⟨v, hv, hrow, hnil⟩, hB1⟩ hK
    have hlt := hv.lt
    gi_wp2
    exact hK _ _ ((KeepsOthers.alloc _ _).from _) ((Below.refl _ W).alloc hB1.size _) ⟨⟨v, hv.alloc _, hrow.alloc _, hnil⟩, hB1.alloc hB1.size _⟩ ⟨W.heap.size, hlt, heap_alloc_new W _, rfl⟩
  case body =>
    rintro l pre x a' W hl ⟨r, hr⟩ ⟨⟨v, hv, hrow, hnil⟩, hB1⟩ ⟨Bx, hBx, bX, rfl⟩ hlt
    have hc := hv.cell
    have x0 : W.cell? ⟨Bx, 0, none⟩ = some (.int .i64 x.1) := by rw [cell_of_row W Bx 0 _ _ _ bX]; rfl
    have x1 : W.cell? ⟨Bx, 1, none⟩ = some (.int .i64 x.2) := by rw [cell_of_row W Bx 1 _ _ _ bX]; rfl
    have HB := hideIt hB1
    have z1 := hB1.size
    clear hr bX
    gi_wp2_with (gi_at_builtin; refine wpListIn_append_own _ rfl _ _ 31 rfl w.heap.size 28 i0 _ 2 16 Tryz.underlying31 hi hz0 hz1 hz2 rfl (by decide) _ _ _ rfl (hrow.alloc _) ⟨W.heap.size, 0, none⟩ 1 1 [.int .i64 x.1, .int .i64 x.2] rfl rfl (news1 _ _) (by intro u hu; simp at hu; rcases hu with rfl | rfl <;> rfl) (by unfold maxLen; omega) (by omega) (by simp; omega) ?_; intro v' w1 hown' hgrow _; obtain ⟨g', cap', rfl⟩ := ownsRow_succ hown'; obtain ⟨hv1, hv2, hr2, hk2, hb2⟩ := hv.appended (by decide) hrow z1 (Nat.le_refl _) hown' hgrow; have hc1 := hv1.cell; have hf1 := hv1.frozen)
    exact ⟨hk2.from _, hb2, ⟨_, hv2, by rw [ecells_snoc]; simpa using hr2, by simp⟩, HB.out.trans hb2⟩
  case done =>
    rintro D ys W hD rfl ⟨⟨v, hv, hrow, hnil⟩, hB1⟩ hK
    have hc := hv.cell
    have HB := hideIt hB1
    gi_wp2
    refine ⟨by simp, .inl ⟨_, _, rfl, run_takeDeferred hK, ?_⟩⟩
    refine ⟨v, by simp [results, Tryz.results214, go_sem], v, rfl, ?_, ?_⟩
    · rw [← hlen]; exact ownsRow_putObj hrow _ hK rfl
    · exact HB.out.trans (belowK_b (w := w) (Nat.le_refl _) W D _ _ (by simp at hD; omega) hK rfl rfl)
  case stop =>
    rintro D cc pre W _ _ hh _
    exact hh.elim

set_option maxHeartbeats 1000000 in
theorem collectE_any (ls : List EdgeV) (m : Nat) (a : Option Addr) (c B : Nat) (hm : m ≤ 3000000) (w : World) (hB : B < w.heap.size) (hBc : w.cell? ⟨B, 0, none⟩ = some (.slice a m c)) (h : Es w w.heap.size a m ls) :
    Calls Tryz.prog 180 #[.func (.func 182) #[] #[.pointer (some ⟨B, 0, none⟩)]] w fun e w' => ∃ v, e = .returned v ∧ w'.ownsRow w.heap.size 28 2 v m (ecells ls) ∧ Below w.heap.size w w' := by
  have HA := hideIt (appSeqE_any ls m a c B hm w hB hBc h)
  clear h hBc
  go_enter Tryz.func180, Tryz.ntmps180
  go_wp2_with (go_at_call 214; refine HA.out.mono ?_; rintro e w1 ⟨v, rfl, ho, hb⟩)
  go_ret
  exact ⟨v, rfl, ho, hb⟩
end Go.Proofs.YtgjnlhdgekfieaaGreat
namespace Go.Proofs
open Go.Shelf
def Tryz.laysSF_ren : Go.Shelf.Ren := ⟨fun | 6 => 181 | 15 => 216 | 14 => 215 | 28 => 243 | 29 => 244 | 20 => 235 | 21 => 236 | 22 => 237 | 23 => 238 | 24 => 239 | 25 => 240 | 26 => 241 | 27 => 242 | 46 => 263 | 47 => 264 | 48 => 265 | 49 => 266 | 50 => 267 | 57 => 271 | n => n, fun | 22 => 31 | 24 => 28 | 25 => 164 | 3 => 3 | 39 => 208 | 0 => 0 | 53 => 146 | 55 => 268 | 4 => 4 | 46 => 261 | 45 => 260 | 50 => 188 | 5 => 5 | 9 => 9 | 66 => 282 | 70 => 286 | 76 => 290 | 77 => 78 | n => n, fun | n => n⟩
theorem Tryz.laysSF : Go.Proofs.SlLaysF0.n6 Tryz.prog Tryz.laysSF_ren := {
  mixed := by kernel_rfl
  f6 := ⟨Tryz.f181.name, by decide, Tryz.func181.trans (congrArg some (by kernel_rfl))⟩
  f14 := ⟨Tryz.f215.name, by decide, Tryz.func215.trans (congrArg some (by kernel_rfl))⟩
  f15 := Tryz.func216.trans (congrArg some (by kernel_rfl))
  f20 := ⟨Tryz.f235.name, by decide, Tryz.func235.trans (congrArg some (by kernel_rfl))⟩
  f21 := ⟨Tryz.f236.name, by decide, Tryz.func236.trans (congrArg some (by kernel_rfl))⟩
  f22 := ⟨Tryz.f237.name, by decide, Tryz.func237.trans (congrArg some (by kernel_rfl))⟩
  f23 := ⟨Tryz.f238.name, by decide, Tryz.func238.trans (congrArg some (by kernel_rfl))⟩
  f24 := ⟨Tryz.f239.name, by decide, Tryz.func239.trans (congrArg some (by kernel_rfl))⟩
  f25 := ⟨Tryz.f240.name, by decide, Tryz.func240.trans (congrArg some (by kernel_rfl))⟩
  f26 := ⟨Tryz.f241.name, by decide, Tryz.func241.trans (congrArg some (by kernel_rfl))⟩
  f27 := ⟨Tryz.f242.name, by decide, Tryz.func242.trans (congrArg some (by kernel_rfl))⟩
  f28 := Tryz.func243.trans (congrArg some (by kernel_rfl))
  f29 := Tryz.func244.trans (congrArg some (by kernel_rfl))
  f46 := ⟨Tryz.f263.name, by decide, Tryz.func263.trans (congrArg some (by kernel_rfl))⟩
  f47 := Tryz.func264.trans (congrArg some (by kernel_rfl))
  f48 := Tryz.func265.trans (congrArg some (by kernel_rfl))
  f49 := ⟨Tryz.f266.name, by decide, Tryz.func266.trans (congrArg some (by kernel_rfl))⟩
  f50 := ⟨Tryz.f267.name, by decide, Tryz.func267.trans (congrArg some (by kernel_rfl))⟩
  f57 := ⟨Tryz.f271.name, by decide, Tryz.func271.trans (congrArg some (by kernel_rfl))⟩
  t0 := Tryz.underlying0
  a0 := Tryz.isAgg0
  z0 := Tryz.sizeOf0
  v0 := Tryz.zeroValue0
  t3 := Tryz.underlying3
  a3 := Tryz.isAgg3
  z3 := Tryz.sizeOf3
  v3 := Tryz.zeroValue3
  t4 := Tryz.underlying4
  a4 := Tryz.isAgg4
  z4 := Tryz.sizeOf4
  v4 := Tryz.zeroValue4
  t5 := Tryz.underlying5
  a5 := Tryz.isAgg5
  z5 := Tryz.sizeOf5
  v5 := Tryz.zeroValue5
  t9 := Tryz.underlying9
  a9 := Tryz.isAgg9
  z9 := Tryz.sizeOf9
  v9 := Tryz.zeroValue9
  t22 := Tryz.underlying31
  a22 := Tryz.isAgg31
  z22 := Tryz.sizeOf31
  v22 := Tryz.zeroValue31
  t25 := Tryz.underlying164
  a25 := Tryz.isAgg164
  z25 := Tryz.sizeOf164
  v25 := Tryz.zeroValue164
  t39 := Tryz.underlying208
  a39 := Tryz.isAgg208
  z39 := Tryz.sizeOf208
  v39 := Tryz.zeroValue208
  t45 := Tryz.underlying260
  a45 := Tryz.isAgg260
  z45 := Tryz.sizeOf260
  v45 := Tryz.zeroValue260
  t46 := Tryz.underlying261
  a46 := Tryz.isAgg261
  z46 := Tryz.sizeOf261
  v46 := Tryz.zeroValue261
  t50 := Tryz.underlying188
  a50 := Tryz.isAgg188
  z50 := Tryz.sizeOf188
  v50 := Tryz.zeroValue188
  t53 := Tryz.underlying146
  a53 := Tryz.isAgg146
  z53 := Tryz.sizeOf146
  v53 := Tryz.zeroValue146
  t55 := Tryz.underlying268
  a55 := Tryz.isAgg268
  z55 := Tryz.sizeOf268
  v55 := Tryz.zeroValue268
  t66 := Tryz.underlying282
  a66 := Tryz.isAgg282
  z66 := Tryz.sizeOf282
  v66 := Tryz.zeroValue282
  t70 := Tryz.underlying286
  a70 := Tryz.isAgg286
  z70 := Tryz.sizeOf286
  v70 := Tryz.zeroValue286
  t76 := Tryz.underlying290
  a76 := Tryz.isAgg290
  z76 := Tryz.sizeOf290
  v76 := Tryz.zeroValue290
  t77 := Tryz.underlying78
  a77 := Tryz.isAgg78
  z77 := Tryz.sizeOf78
  v77 := Tryz.zeroValue78 }
end Go.Proofs
namespace Go.Proofs.YtgjnlhdgekfieaaGreat
open Go.RowKit Go.Sort Go.Lib

set_option maxHeartbeats 1000000 in
theorem compareEdges_grow (d e : EdgeV) (w : World) :
    Calls Tryz.prog 119 #[.agg #[.int .i64 d.1, .int .i64 d.2], .agg #[.int .i64 e.1, .int .i64 e.2]] w fun x w' => x = .returned (.int .i64 (cmpE d e)) ∧ ∃ q os', w' = grow (w.drewN q) os' := by
  obtain ⟨a, b⟩ := d
  obtain ⟨c, f⟩ := e
  dsimp only
  have HC := hideIt cmpCompare_any
  have HO : Hid (Calls Tryz.prog 183 #[.slice (some ⟨w.heap.size + 1 + 1, 0, none⟩) 2 2] (((w.alloc (.cells #[.int .i64 a, .int .i64 b] 28)).alloc (.cells #[.int .i64 c, .int .i64 f] 28)).alloc (.cells #[.int .i64 (cmpI a c), .int .i64 (cmpI b f)] 3)).drew
      fun e w' => e = .returned (.int .i64 (cmpE (a, b) (c, f))) ∧ w' = (((w.alloc (.cells #[.int .i64 a, .int .i64 b] 28)).alloc (.cells #[.int .i64 c, .int .i64 f] 28)).alloc (.cells #[.int .i64 (cmpI a c), .int .i64 (cmpI b f)] 3)).drew) :=
    cmpOr_any (cmpI a c) (cmpI b f) (w.heap.size + 1 + 1) _ (by simp [go_sem]) (by simp [go_sem])
  go_enter Tryz.func119, Tryz.ntmps119
  go_wp2
  go_region_held3 (fun u => (u.cell? ⟨w.heap.size, 0, none⟩ = some (.int .i64 a) ∧ u.cell? ⟨w.heap.size, 1, none⟩ = some (.int .i64 b)) ∧ u.cell? ⟨w.heap.size + 1, 0, none⟩ = some (.int .i64 c) ∧ u.cell? ⟨w.heap.size + 1, 1, none⟩ = some (.int .i64 f))
    (go_keep)
    (first
      | (go_at_call 184; refine (HC.out _ _ _).mono ?_; rintro e w1 ⟨rfl, rfl⟩)
      | (go_at_call 183; refine HO.out.mono ?_; rintro e w1 ⟨rfl, rfl⟩))
  all_goals
    go_wp2
    go_ret
    exact ⟨rfl, 1, _, by rw [alloc_eq_grow, alloc_eq_grow, alloc_eq_grow, grow_grow, grow_grow]; rfl⟩

theorem ltE (x y : EdgeV) : ltOf cmpE x y = lt x y := by
  unfold ltOf
  rw [Bool.eq_iff_iff, decide_eq_true_iff, cmpE_neg]
theorem swoE : SWO (ltOf cmpE) where
  irrefl x := by rw [ltE]; exact lt_irrefl' x
  trans x y z h1 h2 := by rw [ltE] at *; exact lt_trans' h1 h2
  ntrans x y z h1 h2 := by
    rw [ltE] at *
    cases h : lt x z with
    | false => rfl
    | true =>
      rw [lt_iff] at h
      have a1 : ¬ (lt x y = true) := by rw [h1]; simp
      have a2 : ¬ (lt y z = true) := by rw [h2]; simp
      rw [lt_iff] at a1 a2
      omega
/-- the edges, ascending -/
def srtE (es : List EdgeV) : List EdgeV := es.mergeSort fun x y => !(lt y x)
theorem srtE_eq (es : List EdgeV) : (es.mergeSort fun x y => !(ltOf cmpE) y x) = srtE es := by
  unfold srtE
  congr 1
  funext x y
  rw [ltE]
theorem srtE_perm (es : List EdgeV) : (srtE es).Perm es := List.mergeSort_perm _ _
theorem srtE_mem (es : List EdgeV) (e : EdgeV) : e ∈ srtE es ↔ e ∈ es := (srtE_perm es).mem_iff
theorem srtE_len (es : List EdgeV) : (srtE es).length = es.length := (srtE_perm es).length_eq
theorem srtE_asc {es : List EdgeV} (hn : es.Nodup) : Asc (srtE es) := by
  have hp : (srtE es).Pairwise (fun x y => (!(lt y x)) = true) := List.pairwise_mergeSort (fun a b c h1 h2 => by
      simp only [Bool.not_eq_true'] at h1 h2 ⊢
      have a1 : ¬ (lt b a = true) := by rw [h1]; simp
      have a2 : ¬ (lt c b = true) := by rw [h2]; simp
      cases h : lt c a with
      | false => rfl
      | true =>
        rw [lt_iff] at h a1 a2
        omega) (fun a b => by
      cases h : lt b a with
      | false => simp
      | true => simp [lt_asymm' h]) es
  have hn2 : (srtE es).Nodup := (srtE_perm es).nodup_iff.2 hn
  intro i j d e hij hd he
  obtain ⟨q0, q1⟩ := List.getElem?_eq_some_iff.1 hd
  obtain ⟨q2, q3⟩ := List.getElem?_eq_some_iff.1 he
  have h1 := List.pairwise_iff_getElem.1 hp i j q0 q2 hij
  have h2 := List.pairwise_iff_getElem.1 hn2 i j q0 q2 hij
  rw [q1, q3] at h1 h2
  simp only [Bool.not_eq_true'] at h1
  exact lt_total' h1 (fun e => h2 e.symm)

theorem flat_cells (es : List EdgeV) : flatK ecell 2 es.toArray = (ecells es).toArray := by
  refine ext_get! (by simp [ecells_length]) fun t ht => ?_
  have ht' : t < es.length * 2 := by simpa using ht
  rw [get_flatK _ _ _ t (by simpa using ht')]
  obtain ⟨f, hf⟩ : ∃ f, es[t / 2]? = some f := ⟨es[t / 2]'(by omega), List.getElem?_eq_getElem (by omega)⟩
  have hfe : es.toArray[t / 2]! = f := by
    rw [getElem!_pos _ _ (by simp; omega)]
    obtain ⟨q, e⟩ := List.getElem?_eq_some_iff.1 hf
    simpa using e
  rw [hfe]
  obtain ⟨h0, h1⟩ := ecells_at es (t / 2) f hf
  have hl : t < (ecells es).length := by rw [ecells_length]; exact ht'
  rw [getElem!_pos _ t (by simpa using hl)]
  rcases Nat.mod_two_eq_zero_or_one t with h | h
  · have et : t / 2 * 2 = t := by omega
    rw [et] at h0
    obtain ⟨q, e⟩ := List.getElem?_eq_some_iff.1 h0
    rw [h]
    simpa [ecell] using e.symm
  · have et : t / 2 * 2 + 1 = t := by omega
    rw [et] at h1
    obtain ⟨q, e⟩ := List.getElem?_eq_some_iff.1 h1
    rw [h]
    simpa [ecell] using e.symm
theorem take_putId (cur F : Array Value) (h : F.size ≤ cur.size) : (putCells id 0 F cur).toList.take F.size = F.toList := by
  apply List.ext_getElem?
  intro j
  by_cases hj : j < F.size
  · rw [List.getElem?_take_of_lt hj, Array.getElem?_toList]
    simp [putCells, hj, show j < cur.size by omega]
  · rw [List.getElem?_take_eq_none (by omega), List.getElem?_eq_none (by simp; omega)]
theorem heap_putId {w : World} {g n : Nat} {os : Array Obj} {cur : Array Value} {e : TypeId} {fr : Nat × Nat} (F : Array Value) (hb : w.heap[g]? = some (.cells cur e fr)) :
    (grow (putRow id (Sort.ahead w n) g 0 F) os).heap[g]? = some (.cells (putCells id 0 F cur) e fr) := by
  have hg : g < w.heap.size := (Array.getElem?_eq_some_iff.1 hb).1
  rw [heap_grow_old _ _ (by simpa using hg)]
  simp [putRow, mapBlock, Sort.ahead, Array.getElem?_modify, hb, onCells]
theorem grown_putId {w : World} {g n : Nat} {os : Array Obj} (F : Array Value) : w.grownBy (grow (putRow id (Sort.ahead w n) g 0 F) os) (some g) := by
  refine ⟨rfl, rfl, rfl, by simp, fun k hk hne => ?_⟩
  rw [heap_grow_old _ _ (by simpa using hk)]
  have : g ≠ k := fun e => hne (by rw [e])
  simp [putRow, mapBlock, Sort.ahead, Array.getElem?_modify, this]

set_option maxHeartbeats 1000000 in
theorem sortFE_any (es : List EdgeV) (m : Nat) (v : Value) (B : Nat) (hm : m ≤ 3000000) (w : World) (h : w.ownsRow B 28 2 v m (ecells es)) :
    Calls Tryz.prog 181 #[v, .func (.func 119) #[] #[]] w fun e w' => e = .returned (.tuple #[]) ∧ w'.ownsRow B 28 2 v m (ecells (srtE es)) ∧ (B ≤ w.heap.size → Below B w w') := by
  have hl := h.1
  rw [ecells_length] at hl
  rcases h.2 with ⟨rfl, h0⟩ | ⟨g, cap, cur, rfl, hg, hgb, r1, r2, r3, r4⟩
  · have hc := AnyF.slices_SortFunc_none Tryz.laysSF none 0 (.func (.func 119) #[] #[]) w
    change Calls Tryz.prog 181 _ _ _ at hc
    refine hc.mono ?_
    rintro e w' ⟨rfl, rfl⟩
    have e : es = [] := List.eq_nil_of_length_eq_zero (by omega)
    subst e
    exact ⟨rfl, by simpa [srtE] using h, fun _ => Below.refl _ _⟩
  · have hgl : g < w.heap.size := (Array.getElem?_eq_some_iff.1 hgb).1
    have hH : HoldsK ecell 2 w g 0 es.toArray := by
      unfold HoldsK
      rw [flat_cells]
      intro j hj
      have hj' : j < (ecells es).length := by simpa using hj
      refine ⟨?_, h.frozenAt (0 + j)⟩
      rw [Nat.zero_add, h.cellAt j (by rw [ecells_length] at hj'; omega), getElem!_pos _ j hj]
      simp [hj']
    have hc := AnyQ.slices_SortFunc_total Tryz.laysSF 2 Tryz.isAgg28 Tryz.sizeOf28 ecell (fun _ => rfl) (fun x u hu => by simp [ecell] at hu; rcases hu with rfl | rfl <;> rfl) cmpE swoE 119 #[] g 0 cap es.toArray w
      (enters_of Tryz.func119 (by kernel_rfl) rfl) (fun _ _ _ _ x y => compareEdges_grow x y _) hH hgl (by simp; omega) (fun x y h1 h2 => by
        rw [ltE] at h1 h2
        exact Classical.byContradiction fun hne => by have := lt_total' h1 hne; rw [h2] at this; simp at this)
    change Calls Tryz.prog 181 _ _ _ at hc
    rw [show es.toArray.size = m by simp; omega] at hc
    refine hc.mono ?_
    rintro e w' ⟨rfl, n, os, rfl⟩
    rw [show es.toArray.toList = es by simp, srtE_eq]
    unfold sortWorldK putRowK
    rw [flat_cells]
    have hsl : (ecells (srtE es)).toArray.size = m * 2 := by simp [ecells_length, srtE_len]; omega
    refine ⟨rfl, ⟨by rw [ecells_length, srtE_len]; omega, .inr ⟨g, cap, _, rfl, hg, heap_putId _ hgb, r1, r2, by simp [putCells, r3], ?_⟩⟩, fun hB => (Below.refl _ w).grown (grown_putId _) hB (fun j e => by cases e; exact hg)⟩
    have := take_putId cur (ecells (srtE es)).toArray (by rw [hsl, r3]; omega)
    rw [hsl] at this
    simpa using this

set_option maxHeartbeats 1000000 in
theorem sortedFE_any (es : List EdgeV) (m : Nat) (a : Option Addr) (c B : Nat) (hm : m ≤ 3000000) (w : World) (hB : B < w.heap.size) (hBc : w.cell? ⟨B, 0, none⟩ = some (.slice a m c)) (h : Es w w.heap.size a m es) :
    Calls Tryz.prog 117 #[.func (.func 182) #[] #[.pointer (some ⟨B, 0, none⟩)], .func (.func 119) #[] #[]] w fun e w' => ∃ a' c', e = .returned (.slice a' m c') ∧ w'.ownsRow w.heap.size 28 2 (.slice a' m c') m (ecells (srtE es)) ∧ Below w.heap.size w w' := by
  have HA := hideIt (collectE_any es m a c B hm w hB hBc h)
  clear h hBc
  go_enter Tryz.func117, Tryz.ntmps117
  go_wp2_with (go_at_call 180; refine HA.out.mono ?_; rintro e w1 ⟨v, rfl, ho, hb⟩; refine Hid.out ?_)
  refine (show ∀ {p : Prop}, p → Hid p from fun h => h) ?_
  obtain ⟨a1, c1, rfl⟩ := own_form ho
  have HS := hideIt (sortFE_any es m _ w.heap.size hm w1 ho)
  clear HA ho
  go_wp2_with (go_at_call 181; refine HS.out.mono ?_; rintro e w2 ⟨rfl, ho2, hb2⟩)
  go_ret
  exact ⟨a1, c1, rfl, ho2, hb.trans (hb2 hb.size)⟩
end Go.Proofs.YtgjnlhdgekfieaaGreat
namespace Go.Proofs.YtgjnlhdgekfieaaGreat
open Go.RowKit

/-- the world behind a graph's box -/
def wG (w : World) (N : Int) (a : Option Addr) (n c : Nat) : World := w.alloc (.cells #[.int .i64 N, .slice a n c] 33)

theorem wG_size (w : World) (N : Int) (a : Option Addr) (n c : Nat) : (wG w N a n c).heap.size = w.heap.size + 1 := by simp [wG]

theorem wG_below (w : World) (N : Int) (a : Option Addr) (n c : Nat) : Below w.heap.size w (wG w N a n c) := (Below.refl _ _).alloc (Nat.le_refl _) _

/-- nothing of it has turned -/
def InG (w : World) (N : Int) (a : Option Addr) (n c : Nat) (u : World) : Prop := Good (wG w N a n c) u

theorem InG.start (w : World) (N : Int) (a : Option Addr) (n c : Nat) : InG w N a n c (wG w N a n c) := Good.refl _

theorem InG.up {w : World} {N : Int} {a : Option Addr} {n c : Nat} {u v : World} (h : InG w N a n c u) (hb : Below u.heap.size u v) : InG w N a n c v := Good.up h hb

theorem InG.below {w : World} {N : Int} {a : Option Addr} {n c : Nat} {u : World} (h : InG w N a n c u) : Below w.heap.size w u := (wG_below w N a n c).trans (Below.mono h (by rw [wG_size]; omega))

theorem InG.size {w : World} {N : Int} {a : Option Addr} {n c : Nat} {u : World} (h : InG w N a n c u) : w.heap.size + 1 ≤ u.heap.size := by have := Good.size h; rw [wG_size] at this; exact this

theorem InG.cells {w : World} {N : Int} {a : Option Addr} {n c : Nat} {u : World} (h : InG w N a n c u) : u.cell? ⟨w.heap.size, 0, none⟩ = some (.int .i64 N) ∧ u.cell? ⟨w.heap.size, 1, none⟩ = some (.slice a n c) := by
  have hs := wG_size w N a n c
  refine ⟨?_, ?_⟩
  · rw [Good.cell h (by omega)]; simp [wG]
  · rw [Good.cell h (by omega)]; simp [wG]

/-- a row made since u0 stands in a world since w -/
theorem ISt.inG {w : World} {N : Int} {a : Option Addr} {n c : Nat} {u0 : World} (h0 : InG w N a n c u0) {a' : Option Addr} {m c' : Nat} {ls : List Int} {u : World} (h : ISt u0 a' m c' ls u) : InG w N a n c u := h0.up h.bel

theorem ISt.ans {w : World} {N : Int} {a : Option Addr} {n c : Nat} {u0 : World} (h0 : InG w N a n c u0) {a' : Option Addr} {m c' : Nat} {ls : List Int} {u : World} (h : ISt u0 a' m c' ls u) : IAns w ls (.returned (.slice a' m c')) u :=
  ⟨a', m, c', rfl, own_mono h.own (by have := h0.size; omega), (h.inG h0).below⟩

end Go.Proofs.YtgjnlhdgekfieaaGreat
