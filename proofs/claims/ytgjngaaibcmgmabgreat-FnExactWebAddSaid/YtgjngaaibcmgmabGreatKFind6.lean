/- The program's GraphOf and forestEdges. The specification's l08Tree. Tours, as lists: a walk that goes down to a new vertex, or back up to the one that it came from; a tour from another vertex on; two that are joined; one that is split. A tour from another of its vertices on is a tour; two that are joined are one; one that is split is two: pure. What a walk along all edges tells, where each edge is the only way between its ends: pure. Places in a list of ints: the first one of a number, the last one, the first step from one number to another. -/
import Derived.Test.YtgjngaaibcmgmabGreatKBx7
import Derived.Deep.AppendLies
namespace Go.Proofs.YtgjngaaibcmgmabGreat
open Go.RowKit

theorem take_set2' (xs : List Value) (k : Nat) (x y : Value) (h : k + 2 ≤ xs.length) : ((xs.set k x).set (k + 1) y).take (k + 2) = xs.take k ++ [x, y] := by
  apply List.ext_getElem?
  intro i
  by_cases h1 : i < k
  · rw [List.getElem?_take_of_lt (by omega), List.getElem?_set_ne (by omega), List.getElem?_set_ne (by omega), List.getElem?_append_left (by simp; omega), List.getElem?_take_of_lt h1]
  · by_cases h2 : i = k
    · subst h2
      rw [List.getElem?_take_of_lt (by omega), List.getElem?_set_ne (by omega), List.getElem?_set_self (by omega), List.getElem?_append_right (by simp; omega)]
      have e : i - (xs.take i).length = 0 := by simp; omega
      rw [e]; rfl
    · by_cases h3 : i = k + 1
      · subst h3
        rw [List.getElem?_take_of_lt (by omega), List.getElem?_set_self (by simp; omega), List.getElem?_append_right (by simp; omega)]
        have e : k + 1 - (xs.take k).length = 1 := by simp; omega
        rw [e]; rfl
      · rw [List.getElem?_take_eq_none (by omega), List.getElem?_eq_none (by simp; omega)]
/-- behind the web's box and the answer's -/
def wg2 (w : World) (N : Int) (a : Option Addr) (n c : Nat) : World := (wW w N a n c).alloc (.cells #[.int .i64 0, .slice none 0 0] 54)
theorem wg2_size (w : World) (N : Int) (a : Option Addr) (n c : Nat) : (wg2 w N a n c).heap.size = w.heap.size + 2 := by simp [wg2, wW]
theorem wg2_good (w : World) (N : Int) (a : Option Addr) (n c : Nat) : Good w (wg2 w N a n c) := (wW_good w N a n c).alloc _
theorem wg2_cells {w : World} {N : Int} {a : Option Addr} {n c : Nat} {u : World} (h : Below (w.heap.size + 2) (wg2 w N a n c) u) : (u.cell? ⟨w.heap.size, 0, none⟩ = some (.int .i64 N) ∧ u.cell? ⟨w.heap.size, 1, none⟩ = some (.slice a n c)) ∧ Box7 u (w.heap.size + 1) 54 (.int .i64 0) (.slice none 0 0) := by
  have b1 : Box7 (wg2 w N a n c) w.heap.size 29 (.int .i64 N) (.slice a n c) := (Box7.new w _ _ _ _ rfl).alloc _
  have b2 : Box7 (wg2 w N a n c) (w.heap.size + 1) 54 (.int .i64 0) (.slice none 0 0) := Box7.new _ _ _ _ _ (by simp [wW])
  have c1 := b1.below h (by omega)
  exact ⟨⟨c1.cell0, c1.cell1⟩, b2.below h (by omega)⟩

set_option maxRecDepth 100000 in
set_option maxHeartbeats 4000000 in
theorem iGraphOf_any (N : Int) (ls : List Ld) (n : Nat) (a : Option Addr) (c : Nat) (hn : n ≤ 1048576) (w : World) (h : Ls w w.heap.size a n ls) :
    Calls Tryz.prog 37 #[.agg #[.int .i64 N, .slice a n c]] w fun e w' => ∃ g, e = .returned (.agg #[.int .i64 N, .slice (some ⟨g, 0, none⟩) n n]) ∧ w'.ownsRow w.heap.size 37 2 (.slice (some ⟨g, 0, none⟩) n n) n (ecells (gE ls)) ∧ Below w.heap.size w w' := by
  obtain ⟨i0, hi, hz0, hz1, hz2⟩ := info_parts infoIE
  have hmk : ∀ u : World, (Instr.makeSlice 52 (.int .i64 (n : Int)) (.int .i64 (n : Int))).run Tryz.prog u =
      .ok (.slice (some ⟨u.heap.size, 0, none⟩) n n) (u.alloc (.cells (madeCells #[.int .i64 0, .int .i64 0] (n * 2)) 37)) := fun u => by
    have h := run_make (P := Tryz.prog) u 52 37 i0 _ Tryz.underlying52 hi hz0 .i64 .i64 (n : Int) (n : Int) (by omega) (by omega) (by rw [hz2]; omega) (by omega)
    rw [Int.toNat_natCast] at h
    simpa [hz1, Value.cells] using h
  have HR := hideIt h
  have hlen := h.1
  have o0 := World.ownsRow_lit (base := w.heap.size + 2) (e := 37) (size := 2) (wg2 w N a n c) (madeCells #[.int .i64 0, .int .i64 0] (n * 2)) n (by rw [wg2_size]; omega) (by unfold maxLen; omega) (by simp [madeCells])
  rw [wg2_size] at o0
  have HO0 := hideIt o0
  have HB0 : Hid (Below (w.heap.size + 2) (wg2 w N a n c) ((wg2 w N a n c).alloc (.cells (madeCells #[.int .i64 0, .int .i64 0] (n * 2)) 37))) := (Below.refl _ _).alloc (by rw [wg2_size]; omega) _
  clear h o0
  go_enter Tryz.func37, Tryz.ntmps37
  go_wp2
  go_loopw [13] (fun i wr => ∃ (k : Nat) (xs : List Value), k ≤ n ∧ i = .int .i64 (k : Int) ∧ Hid (xs.take (k * 2) = ecells (gE (ls.take k))) ∧ wr.ownsRow (w.heap.size + 2) 37 2 (.slice (some ⟨w.heap.size + 2, 0, none⟩) n n) n xs ∧ Below (w.heap.size + 2) (wg2 w N a n c) wr) (fun i _ => n - (intOf i).toNat)
  case atStart => exact ⟨0, _, by omega, rfl, by show _ = _; simp [ecells, gE], HO0.out, HB0.out⟩
  case round =>
    obtain ⟨k, xs, hk, rfl, hx, hown, hb⟩ := hrel
    clear HO0 HB0
    obtain ⟨⟨cw0, cw1⟩, bx⟩ := wg2_cells hb
    have hz := hb.size
    rw [wg2_size] at hz
    by_cases hlt : k < n
    · have hgb : Good w wr := (wg2_good w N a n c).trans (hb.mono (by omega))
      obtain ⟨b, off, x, rfl, hbl, hxk, hat⟩ := (HR.out.below hgb (Nat.le_refl _)).at hlt
      have e0 := hat.ca
      have e1 := hat.cb
      have e2 := hat.cl
      have e3 := hat.ct
      have b1 : (0 : Int) ≤ (k : Int) := by omega
      have b2 : (k : Int) < (n : Int) := by omega
      have HT := hideIt (ledgeEdge_any x)
      have HTk : Hid (ecells (gE (ls.take (k + 1))) = ecells (gE (ls.take k)) ++ [.int .i64 x.a, .int .i64 x.b]) := by
        show _ = _
        rw [take_snocF ls k x hxk]
        simp [gE, Ld.e, ecells, ecell]
      have hba : Below wr.heap.size wr (wr.alloc (.cells #[.int .i64 x.a, .int .i64 x.b, .int .i64 x.l, .bool x.t] 58)) := (Below.refl _ _).alloc (Nat.le_refl _) _
      have HU : Hid (∀ u, Below (wr.alloc (.cells #[.int .i64 x.a, .int .i64 x.b, .int .i64 x.l, .bool x.t] 58)).heap.size (wr.alloc (.cells #[.int .i64 x.a, .int .i64 x.b, .int .i64 x.l, .bool x.t] 58)) u → u.ownsRow (w.heap.size + 2) 37 2 (.slice (some ⟨w.heap.size + 2, 0, none⟩) n n) n xs ∧ Below (w.heap.size + 2) (wg2 w N (some ⟨b, off, none⟩) n c) u) := fun u hu =>
        ⟨own_up (own_up hown hba) hu, (hb.trans (hba.mono hz)).trans (hu.mono (by simp; omega))⟩
      clear hxk hat hown hb hba
      go_wp2_with (go_at_call 61; refine (HT.out _).mono ?_; rintro e w1 ⟨rfl, hb1⟩; refine Hid.out ?_)
      refine (show ∀ {p : Prop}, p → Hid p from fun h => h) ?_
      obtain ⟨hown1, hb2⟩ := HU.out _ hb1
      have hl3 : xs.length = n * 2 := hown1.1
      have f0 := hown1.frozenAt (k * 2)
      have f1 := hown1.frozenAt (k * 2 + 1)
      have x0 : w1.cell? ⟨w.heap.size + 2, k * 2, none⟩ = some (xs[k * 2]'(by omega)) := by rw [hown1.cellAt (k * 2) (by omega)]; exact List.getElem?_eq_getElem (by omega)
      have x1 : w1.cell? ⟨w.heap.size + 2, k * 2 + 1, none⟩ = some (xs[k * 2 + 1]'(by omega)) := by rw [hown1.cellAt (k * 2 + 1) (by omega)]; exact List.getElem?_eq_getElem (by omega)
      clear e0 e1 e2 e3 HT HU
      go_wp2
      refine ⟨⟨k + 1, (xs.set (k * 2) (.int .i64 x.a)).set (k * 2 + 1) (.int .i64 x.b), by omega, by go_num, ?_, ?_, ?_⟩, by simp [intOf]; omega⟩
      · show _ = _
        rw [show (k + 1) * 2 = k * 2 + 2 by omega, take_set2' _ _ _ _ (by omega), hx.out, HTk.out]
      · exact ((hown1.stored (k * 2) _).1.stored (k * 2 + 1) _).1
      · exact (hb2.setCell (p := ⟨w.heap.size + 2, _, none⟩) (Nat.le_refl _) _).setCell (p := ⟨w.heap.size + 2, _, none⟩) (Nat.le_refl _) _
    · have e : ls.take k = ls := List.take_of_length_le (by omega)
      have hl3 : xs.length = n * 2 := hown.1
      have HX : Hid (xs = ecells (gE ls)) := by
        show _ = _
        have := hx.out
        rw [e, List.take_of_length_le (by omega)] at this
        exact this
      have HO := hideIt hown
      have HB := hideIt hb
      have r0 := bx.cell0
      have r1 := bx.cell1
      have q0 := bx.frozen 0
      have q1 := bx.frozen 1
      clear hx e hown hl3 hb
      go_wp2
      have HG : Good w wr := (wg2_good w N a n c).trans (HB.out.mono (by omega))
      refine bodyPost_ret (v := .agg #[.int .i64 N, .slice (some ⟨w.heap.size + 2, 0, none⟩) n n]) (by simp [results, Tryz.results37, go_sem, r0, r1]) rfl ⟨w.heap.size + 2, rfl, ?_, ?_⟩
      · rw [← HX.out]
        exact own_mono (own_setOther (own_setOther HO.out (w.heap.size + 1) 0 _ (by omega)) (w.heap.size + 1) 1 _ (by omega)) (by omega)
      · exact (HG.setCell (p := ⟨w.heap.size + 1, 0, none⟩) (by show _ ≤ w.heap.size + 1; omega) _).setCell (p := ⟨w.heap.size + 1, 1, none⟩) (by show _ ≤ w.heap.size + 1; omega) _

/-- edges of a list in the making, a web's box ahead of them -/
structure FSt (w : World) (N : Int) (a : Option Addr) (n c : Nat) (g m c' : Nat) (es : List EdgeV) (u : World) : Prop where
  own : u.ownsRow (w.heap.size + 1) 37 2 (.slice (some ⟨g, 0, none⟩) m c') m (ecells es)
  bel : Below (w.heap.size + 1) (wW w N a n c) u
theorem FSt.size {w : World} {N : Int} {a : Option Addr} {n c g m c' : Nat} {es : List EdgeV} {u : World} (h : FSt w N a n c g m c' es u) : w.heap.size + 1 ≤ u.heap.size := by have := h.bel.size; rw [wW_size] at this; exact this
theorem FSt.up {w : World} {N : Int} {a : Option Addr} {n c g m c' : Nat} {es : List EdgeV} {u v : World} (h : FSt w N a n c g m c' es u) (hb : Below u.heap.size u v) : FSt w N a n c g m c' es v := ⟨own_up h.own hb, h.bel.trans (hb.mono h.size)⟩
theorem FSt.good {w : World} {N : Int} {a : Option Addr} {n c g m c' : Nat} {es : List EdgeV} {u : World} (h : FSt w N a n c g m c' es u) : Good w u := (wW_good w N a n c).trans (h.bel.mono (by omega))
theorem FSt.app {w : World} {N : Int} {a : Option Addr} {n c g m c' : Nat} {es : List EdgeV} {u : World} (h : FSt w N a n c g m c' es u) {e : EdgeV} {o : Obj} {v : Value} {u' : World}
    (ho : u'.ownsRow (w.heap.size + 1) 37 2 v (m + 1) (ecells es ++ [.int .i64 e.1, .int .i64 e.2])) (hg : (u.alloc o).grownBy u' (some g)) : ∃ g2 c2, v = .slice (some ⟨g2, 0, none⟩) (m + 1) c2 ∧ FSt w N a n c g2 (m + 1) c2 (es ++ [e]) u' := by
  obtain ⟨g2, c2, rfl, _⟩ := ho.form (by omega)
  rw [← ecells_snoc] at ho
  refine ⟨g2, c2, rfl, ho, ?_⟩
  exact (h.bel.alloc h.size _).grown hg (by have := h.size; simp; omega) (fun j hj => by cases hj; exact (h.own.lt g rfl).1)
theorem newsE9 (w : World) (g : EdgeV) : ∀ j u, ([Value.int .i64 g.1, Value.int .i64 g.2] : List Value)[j]? = some u → (w.alloc (.cells #[.int .i64 g.1, .int .i64 g.2] 37)).cell? ((⟨w.heap.size, 0, none⟩ : Addr).add j) = some u := by
  intro j u hj
  rcases j with _ | _ | j
  · simp at hj; subst hj; simp [Addr.add]
  · simp at hj; subst hj; simp [Addr.add]
  · simp at hj
theorem FSt.start (w : World) (N : Int) (a : Option Addr) (n c : Nat) : FSt w N a n c (w.heap.size + 1) 0 0 [] ((wW w N a n c).alloc (.cells #[] 37)) := by
  refine ⟨?_, (Below.refl _ _).alloc (by rw [wW_size]; omega) _⟩
  have h0 := World.ownsRow_lit (base := w.heap.size + 1) (e := 37) (size := 2) (wW w N a n c) #[] 0 (by rw [wW_size]; omega) (by unfold maxLen; omega) (by simp)
  rw [wW_size] at h0
  simpa [ecells] using h0
set_option maxRecDepth 100000 in
set_option maxHeartbeats 4000000 in
theorem forestEdges_any (N : Int) (ls : List Ld) (lv : Int) (n : Nat) (a : Option Addr) (c : Nat) (hn : n ≤ 1048576) (w : World) (h : Ls w w.heap.size a n ls) :
    Calls Tryz.prog 85 #[.agg #[.int .i64 N, .slice a n c], .int .i64 lv] w fun e w' => ∃ g m c', e = .returned (.slice (some ⟨g, 0, none⟩) m c') ∧ w'.ownsRow w.heap.size 37 2 (.slice (some ⟨g, 0, none⟩) m c') m (ecells (fE ls lv)) ∧ Below w.heap.size w w' := by
  obtain ⟨i0, hi, hz0, hz1, hz2⟩ := info_parts infoIE
  have HR := hideIt h
  have hlen := h.1
  have HS0 := hideIt (FSt.start w N a n c)
  clear h
  go_enter Tryz.func85, Tryz.ntmps85
  go_wp2
  go_loopw [5, 12] (fun r i wr => ∃ (k g m c' : Nat), k ≤ n ∧ m ≤ k ∧ i = .int .i64 (k : Int) ∧ r = .slice (some ⟨g, 0, none⟩) m c' ∧ FSt w N a n c g m c' (fE (ls.take k) lv) wr) (fun _ i _ => n - (intOf i).toNat)
  case atStart => exact ⟨0, _, 0, 0, by omega, by omega, rfl, rfl, HS0.out⟩
  case round =>
    obtain ⟨k, g, m, c', hk, hm, rfl, rfl, hst⟩ := hrel
    clear HS0
    have hz := hst.size
    by_cases hlt : k < n
    · obtain ⟨b, off, x, rfl, hbl, hxk, hat⟩ := (HR.out.below hst.good (Nat.le_refl _)).at hlt
      have e0 := hat.ca
      have e1 := hat.cb
      have e2 := hat.cl
      have e3 := hat.ct
      have b1 : (0 : Int) ≤ (k : Int) := by omega
      have b2 : (k : Int) < (n : Int) := by omega
      have hba : Below wr.heap.size wr (wr.alloc (.cells #[.int .i64 x.a, .int .i64 x.b, .int .i64 x.l, .bool x.t] 58)) := (Below.refl _ _).alloc (Nat.le_refl _) _
      have HS1 := hideIt (hst.up hba)
      have HT := hideIt (ledgeEdge_any x)
      cases hp : fP lv x with
      | true =>
        have HF := hideIt (fE_take_yes hxk hp)
        unfold fP at hp
        rw [Bool.and_eq_true, decide_eq_true_eq] at hp
        obtain ⟨ht, hle⟩ := hp
        rw [ht] at e3 HT HS1
        clear hxk hat hba hst
        go_wp2_with (go_at_call 61; refine (HT.out _).mono ?_; rintro e w1 ⟨rfl, hb1⟩; refine Hid.out ?_)
        refine (show ∀ {p : Prop}, p → Hid p from fun h => h) ?_
        have HS2 := hideIt (HS1.out.up hb1)
        have z2 := HS2.out.size
        clear e0 e1 e2 e3 HT HS1 hb1
        go_wp2_with (at_builtin; refine wpList_append_own _ rfl _ _ 52 rfl (w.heap.size + 1) 37 i0 _ 2 16 Tryz.underlying52 hi hz0 hz1 hz2 rfl (by decide) _ _ _ rfl (HS2.out.own.alloc _) ⟨w1.heap.size, 0, none⟩ 1 1 [.int .i64 x.a, .int .i64 x.b] rfl rfl (newsE9 w1 (x.a, x.b)) (by intro u hu; simp at hu; rcases hu with rfl | rfl <;> rfl) (by unfold maxLen; omega) (by omega) (by simp; omega) ?_)
        intro v2 w2 hown2 hg2 hn2
        obtain ⟨g2, c2, rfl, hst2⟩ := HS2.out.app (e := (x.a, x.b)) hown2 hg2
        have HS3 := hideIt hst2
        clear hown2 hg2 hn2 hst2 HS2
        go_wp2
        exact ⟨⟨k + 1, g2, m + 1, c2, by omega, by omega, by go_num, rfl, by rw [HF.out]; exact HS3.out⟩, by simp [intOf]; omega⟩
      | false =>
        have HF := hideIt (fE_take_no hxk hp)
        clear hxk hat hba hst HT
        cases ht : x.t with
        | false =>
          rw [ht] at e3 HS1
          clear hp
          go_wp2
          exact ⟨⟨k + 1, g, m, c', by omega, by omega, by go_num, rfl, by rw [HF.out]; exact HS1.out⟩, by simp [intOf]; omega⟩
        | true =>
          rw [ht] at e3 HS1
          have hle : ¬ lv ≤ x.l := fun h2 => by unfold fP at hp; rw [ht, decide_eq_true h2] at hp; cases hp
          clear hp
          go_wp2
          exact ⟨⟨k + 1, g, m, c', by omega, by omega, by go_num, rfl, by rw [HF.out]; exact HS1.out⟩, by simp [intOf]; omega⟩
    · have e : ls.take k = ls := List.take_of_length_le (by omega)
      rw [e] at hst
      have HST := hideIt hst
      clear hst e
      go_wp2
      go_ret
      exact ⟨g, m, c', rfl, own_mono HST.out.own (by omega), HST.out.good⟩
end Go.Proofs.YtgjngaaibcmgmabGreat
namespace Go.Proofs.YtgjngaaibcmgmabGreat
open Go.RowKit

set_option maxRecDepth 100000 in
set_option maxHeartbeats 4000000 in
theorem l08Tree_any (N : Int) (ls : List Ld) (lv : Int) (n : Nat) (a : Option Addr) (c : Nat) (hn : n ≤ 1048576) (w : World) (h : Ls w w.heap.size a n ls) :
    Calls Tryz.prog 54 #[.agg #[.int .i64 N, .slice a n c], .int .i64 lv] w fun e w' => ∃ g m c', e = .returned (.slice (some ⟨g, 0, none⟩) m c') ∧ w'.ownsRow w.heap.size 37 2 (.slice (some ⟨g, 0, none⟩) m c') m (ecells (fE ls lv)) ∧ Below w.heap.size w w' := by
  obtain ⟨i0, hi, hz0, hz1, hz2⟩ := info_parts infoIE
  have HR := hideIt h
  have hlen := h.1
  have HS0 := hideIt (FSt.start w N a n c)
  clear h
  go_enter Tryz.func54, Tryz.ntmps54
  go_wp2
  go_loopw [5, 6] (fun r i wr => ∃ (k g m c' : Nat), k ≤ n ∧ m ≤ k ∧ i = .int .i64 (k : Int) ∧ r = .slice (some ⟨g, 0, none⟩) m c' ∧ FSt w N a n c g m c' (fE (ls.take k) lv) wr) (fun _ i _ => n - (intOf i).toNat)
  case atStart => exact ⟨0, _, 0, 0, by omega, by omega, rfl, rfl, HS0.out⟩
  case round =>
    obtain ⟨k, g, m, c', hk, hm, rfl, rfl, hst⟩ := hrel
    clear HS0
    have hz := hst.size
    obtain ⟨cw0, cw1⟩ := wW_cells hst.bel
    by_cases hlt : k < n
    · obtain ⟨b, off, x, rfl, hbl, hxk, hat⟩ := (HR.out.below hst.good (Nat.le_refl _)).at hlt
      have e0 := hat.ca
      have e1 := hat.cb
      have e2 := hat.cl
      have e3 := hat.ct
      have b1 : (0 : Int) ≤ (k : Int) := by omega
      have b2 : (k : Int) < (n : Int) := by omega
      have hba : Below wr.heap.size wr (wr.alloc (.cells #[.int .i64 x.a, .int .i64 x.b, .int .i64 x.l, .bool x.t] 58)) := (Below.refl _ _).alloc (Nat.le_refl _) _
      have HS1 := hideIt (hst.up hba)
      cases hp : fP lv x with
      | true =>
        have HF := hideIt (fE_take_yes hxk hp)
        unfold fP at hp
        rw [Bool.and_eq_true, decide_eq_true_eq] at hp
        obtain ⟨ht, hle⟩ := hp
        rw [ht] at e3 HS1
        have z2 := HS1.out.size
        simp at z2
        clear hxk hat hba hst
        go_wp2_with (at_builtin; refine wpList_append_own _ rfl _ _ 52 rfl (w.heap.size + 1) 37 i0 _ 2 16 Tryz.underlying52 hi hz0 hz1 hz2 rfl (by decide) _ _ _ rfl (HS1.out.own.alloc _) ⟨wr.heap.size + 1, 0, none⟩ 1 1 [.int .i64 x.a, .int .i64 x.b] rfl rfl (by have := newsE9 (wr.alloc (.cells #[.int .i64 x.a, .int .i64 x.b, .int .i64 x.l, .bool true] 58)) (x.a, x.b); simpa using this) (by intro u hu; simp at hu; rcases hu with rfl | rfl <;> rfl) (by unfold maxLen; omega) (by omega) (by simp; omega) ?_)
        intro v2 w2 hown2 hg2 hn2
        obtain ⟨g2, c2, rfl, hst2⟩ := HS1.out.app (e := (x.a, x.b)) hown2 hg2
        have HS3 := hideIt hst2
        clear hown2 hg2 hn2 hst2 HS1 e0 e1 e2 e3
        go_wp2
        exact ⟨⟨k + 1, g2, m + 1, c2, by omega, by omega, by go_num, rfl, by rw [HF.out]; exact HS3.out⟩, by simp [intOf]; omega⟩
      | false =>
        have HF := hideIt (fE_take_no hxk hp)
        clear hxk hat hba hst
        cases ht : x.t with
        | false =>
          rw [ht] at e3 HS1
          clear hp
          go_wp2
          exact ⟨⟨k + 1, g, m, c', by omega, by omega, by go_num, rfl, by rw [HF.out]; exact HS1.out⟩, by simp [intOf]; omega⟩
        | true =>
          rw [ht] at e3 HS1
          have hle : ¬ lv ≤ x.l := fun h2 => by unfold fP at hp; rw [ht, decide_eq_true h2] at hp; cases hp
          clear hp
          go_wp2
          exact ⟨⟨k + 1, g, m, c', by omega, by omega, by go_num, rfl, by rw [HF.out]; exact HS1.out⟩, by simp [intOf]; omega⟩
    · have e : ls.take k = ls := List.take_of_length_le (by omega)
      rw [e] at hst
      have HST := hideIt hst
      clear hst e
      go_wp2
      go_ret
      exact ⟨g, m, c', rfl, own_mono HST.out.own (by omega), HST.out.good⟩
end Go.Proofs.YtgjngaaibcmgmabGreat
namespace Go.Proofs.YtgjngaaibcmgmabGreat

/-- v is the vertex that the way came from -/
def isUp : List Int → Int → Bool
  | _ :: p :: _, v => decide (p = v)
  | _, _ => false
/-- one step: w is the way from the root, the last one first; s is what was seen -/
def tstep (w s : List Int) (v : Int) : Option (List Int × List Int) :=
  if isUp w v = true then some (w.tail, s) else if v ∈ s then none else some (v :: w, v :: s)
def trun (w s : List Int) : List Int → Option (List Int × List Int)
  | [] => some (w, s)
  | v :: r => match tstep w s v with
    | none => none
    | some x => trun x.1 x.2 r
/-- a number is that of a vertex -/
def vB (v : Int) : Bool := decide (0 ≤ v ∧ v < 12)
/-- the tour is right -/
def tB (t : List Int) : Bool := t.all vB && (match trun [] [] t with | some x => x.1.length == 1 | none => false)

theorem trun_nil (w s : List Int) : trun w s [] = some (w, s) := rfl
theorem trun_append (w s a b : List Int) : trun w s (a ++ b) = (trun w s a).bind fun x => trun x.1 x.2 b := by
  induction a generalizing w s with
  | nil => rfl
  | cons v a ih =>
    simp only [List.cons_append, trun]
    cases tstep w s v with
    | none => rfl
    | some x => exact ih _ _
theorem trun_up {w s : List Int} {v : Int} {r : List Int} (h : isUp w v = true) : trun w s (v :: r) = trun w.tail s r := by simp [trun, tstep, h]
theorem trun_down {w s : List Int} {v : Int} {r : List Int} (h : isUp w v = false) (hs : v ∉ s) : trun w s (v :: r) = trun (v :: w) (v :: s) r := by simp [trun, tstep, h, hs]
theorem trun_bad {w s : List Int} {v : Int} {r : List Int} (h : isUp w v = false) (hs : v ∈ s) : trun w s (v :: r) = none := by simp [trun, tstep, h, hs]
/-- a step that is done is one of the two -/
theorem trun_cons {w s : List Int} {v : Int} {r : List Int} {x : List Int × List Int} (h : trun w s (v :: r) = some x) :
    (isUp w v = true ∧ trun w.tail s r = some x) ∨ (isUp w v = false ∧ v ∉ s ∧ trun (v :: w) (v :: s) r = some x) := by
  cases hu : isUp w v with
  | true => rw [trun_up hu] at h; exact .inl ⟨rfl, h⟩
  | false =>
    by_cases hs : v ∈ s
    · rw [trun_bad hu hs] at h; simp at h
    · rw [trun_down hu hs] at h; exact .inr ⟨rfl, hs, h⟩
theorem isUp_some {w : List Int} {v : Int} (h : isUp w v = true) : ∃ c q, w = c :: v :: q := by
  match w, h with
  | c :: p :: q, h => simp [isUp] at h; exact ⟨c, q, by rw [h]⟩
theorem isUp_mem {w : List Int} {v : Int} (h : isUp w v = true) : v ∈ w := by obtain ⟨c, q, rfl⟩ := isUp_some h; simp

/-- what is seen: what was, and what stands in the list -/
theorem trun_seen {t w s w' s' : List Int} (h : trun w s t = some (w', s')) (hw : ∀ x ∈ w, x ∈ s) : (∀ x, x ∈ s' ↔ x ∈ s ∨ x ∈ t) ∧ ∀ x ∈ w', x ∈ s' := by
  induction t generalizing w s with
  | nil => simp [trun] at h; obtain ⟨rfl, rfl⟩ := h; exact ⟨fun x => by simp, hw⟩
  | cons v r ih =>
    rcases trun_cons h with ⟨hu, h1⟩ | ⟨hu, hs, h1⟩
    · obtain ⟨a, b⟩ := ih h1 (fun x hx => hw x (List.mem_of_mem_tail hx))
      refine ⟨fun x => ?_, b⟩
      rw [a x]
      have := hw v (isUp_mem hu)
      simp
      constructor
      · rintro (h | h) <;> simp [h]
      · rintro (h | rfl | h)
        · exact .inl h
        · exact .inl this
        · exact .inr h
    · obtain ⟨a, b⟩ := ih h1 (fun x hx => by rcases List.mem_cons.1 hx with rfl | hx; · simp
                                             · exact List.mem_cons_of_mem _ (hw x hx))
      refine ⟨fun x => ?_, b⟩
      rw [a x]
      simp
      constructor
      · rintro ((h | h) | h) <;> simp [h]
      · rintro (h | h | h) <;> simp [h]
theorem trun_nodup {t w s w' s' : List Int} (h : trun w s t = some (w', s')) (hs : s.Nodup) : s'.Nodup := by
  induction t generalizing w s with
  | nil => simp [trun] at h; obtain ⟨rfl, rfl⟩ := h; exact hs
  | cons v r ih =>
    rcases trun_cons h with ⟨hu, h1⟩ | ⟨hu, hv, h1⟩
    · exact ih h1 hs
    · exact ih h1 (List.nodup_cons.2 ⟨hv, hs⟩)
theorem trun_len {t w s w' s' : List Int} (h : trun w s t = some (w', s')) : t.length + w'.length + 2 * s.length = w.length + 2 * s'.length := by
  induction t generalizing w s with
  | nil => simp [trun] at h; obtain ⟨rfl, rfl⟩ := h; simp
  | cons v r ih =>
    rcases trun_cons h with ⟨hu, h1⟩ | ⟨hu, hv, h1⟩
    · obtain ⟨c, q, rfl⟩ := isUp_some hu
      have := ih h1
      simp at this ⊢
      omega
    · have := ih h1
      simp at this ⊢
      omega
/-- the way has the last one of the list on top, the root at its foot -/
theorem trun_foot {t w s w' s' : List Int} (h : trun w s t = some (w', s')) (hw : w ≠ []) : w' ≠ [] ∧ w'.getLast? = w.getLast? := by
  induction t generalizing w s with
  | nil => simp [trun] at h; obtain ⟨rfl, rfl⟩ := h; exact ⟨hw, rfl⟩
  | cons v r ih =>
    rcases trun_cons h with ⟨hu, h1⟩ | ⟨hu, hv, h1⟩
    · obtain ⟨c, q, rfl⟩ := isUp_some hu
      obtain ⟨a, b⟩ := ih h1 (by simp)
      exact ⟨a, by rw [b]; simp [List.getLast?_cons_cons]⟩
    · obtain ⟨a, b⟩ := ih h1 (by simp)
      refine ⟨a, b.trans ?_⟩
      cases w with
      | nil => exact absurd rfl hw
      | cons c q => simp [List.getLast?_cons_cons]
theorem trun_top {t w s w' s' : List Int} {z : Int} (h : trun w s (t ++ [z]) = some (w', s')) : w'.head? = some z := by
  rw [trun_append] at h
  cases hq : trun w s t with
  | none => rw [hq] at h; simp at h
  | some x =>
    rw [hq] at h
    rcases trun_cons h with ⟨hu, h1⟩ | ⟨hu, hv, h1⟩
    · obtain ⟨c, q, e⟩ := isUp_some hu
      simp [trun] at h1
      rw [← h1.1, e]
      rfl
    · simp [trun] at h1
      rw [← h1.1]
      rfl

theorem tB_iff (t : List Int) : tB t = true ↔ (∀ v ∈ t, vB v = true) ∧ ∃ x s, trun [] [] t = some ([x], s) := by
  unfold tB
  rw [Bool.and_eq_true, List.all_eq_true]
  refine and_congr Iff.rfl ?_
  cases trun [] [] t with
  | none => simp
  | some p =>
    obtain ⟨w, s⟩ := p
    simp
    constructor
    · intro h
      match w, h with
      | [x], _ => exact ⟨x, rfl⟩
    · rintro ⟨x, rfl⟩; rfl
/-- a right tour, opened -/
theorem tB_open {t : List Int} (h : tB t = true) : ∃ x r s, t = x :: r ∧ trun [x] [x] r = some ([x], s) ∧ (∀ v ∈ t, vB v = true) ∧ (r = [] ∨ ∃ q, r = q ++ [x]) := by
  obtain ⟨hv, x, s, h⟩ := (tB_iff t).1 h
  cases t with
  | nil => simp [trun] at h
  | cons y r =>
    rw [trun_down (by rfl) (by simp)] at h
    have hf := (trun_foot h (by simp)).2
    simp at hf
    subst hf
    refine ⟨x, r, s, rfl, h, hv, ?_⟩
    rcases List.eq_nil_or_concat r with rfl | ⟨q, z, e⟩
    · exact .inl rfl
    · rw [List.concat_eq_append] at e
      subst e
      have := trun_top h
      simp at this
      subst this
      exact .inr ⟨q, rfl⟩
theorem tB_of {x : Int} {r s : List Int} (hv : ∀ v ∈ x :: r, vB v = true) (h : trun [x] [x] r = some ([x], s)) : tB (x :: r) = true :=
  (tB_iff _).2 ⟨hv, x, s, by rw [trun_down (by rfl) (by simp)]; exact h⟩
theorem tB_ne {t : List Int} (h : tB t = true) : t ≠ [] := by obtain ⟨x, r, s, rfl, _⟩ := tB_open h; simp

/-- so many numbers below n, no two alike, are n at most -/
theorem nodup_le (n : Nat) (s : List Int) (hs : s.Nodup) (hv : ∀ v ∈ s, 0 ≤ v ∧ v < (n : Int)) : s.length ≤ n := by
  induction n generalizing s with
  | zero =>
    cases s with
    | nil => simp
    | cons a s => have := hv a (by simp); omega
  | succ n ih =>
    by_cases hm : (n : Int) ∈ s
    · have h1 := ih (s.erase (n : Int)) (hs.erase _) (fun v hv' => by
        obtain ⟨h2, h3⟩ := (hs.mem_erase_iff).1 hv'
        have := hv v h3
        omega)
      rw [List.length_erase_of_mem hm] at h1
      omega
    · have h1 := ih s hs (fun v hv' => by
        have := hv v hv'
        have : v ≠ (n : Int) := fun e => hm (e ▸ hv')
        omega)
      omega
theorem nodup_short (s : List Int) (hs : s.Nodup) (hv : ∀ v ∈ s, vB v = true) : s.length ≤ 12 :=
  nodup_le 12 s hs fun v h => by have := hv v h; simpa [vB] using this
theorem tB_len {t : List Int} (h : tB t = true) : 1 ≤ t.length ∧ t.length ≤ 23 := by
  obtain ⟨hv, x, s, h⟩ := (tB_iff t).1 h
  have hl := trun_len h
  have hs := trun_nodup h (by simp)
  have hm := (trun_seen h (by simp)).1
  have := nodup_short s hs (fun v hvs => hv v (by rcases (hm v).1 hvs with h | h; · simp at h
                                                  · exact h))
  simp at hl
  omega
end Go.Proofs.YtgjngaaibcmgmabGreat
namespace Go.Proofs.YtgjngaaibcmgmabGreat

/-- what is seen matters as a set alone: fewer, more or others beside -/
theorem trun_less {r w s w1 s1 s' : List Int} (h : trun w s r = some (w1, s1)) (hs : ∀ x ∈ s', x ∈ s) : ∃ s1', trun w s' r = some (w1, s1') := by
  induction r generalizing w s s' with
  | nil => simp [trun] at h; exact ⟨s', by simp [trun, h.1]⟩
  | cons v r ih =>
    rcases trun_cons h with ⟨hu, h1⟩ | ⟨hu, hv, h1⟩
    · obtain ⟨s1', h2⟩ := ih h1 hs
      exact ⟨s1', by rw [trun_up hu]; exact h2⟩
    · obtain ⟨s1', h2⟩ := ih h1 (s' := v :: s') (fun x hx => by
        rcases List.mem_cons.1 hx with rfl | hx
        · simp
        · exact List.mem_cons_of_mem _ (hs x hx))
      exact ⟨s1', by rw [trun_down hu (fun h3 => hv (hs v h3))]; exact h2⟩
/-- the same run further up, over another way, with more that was seen: nothing of that stands in the list -/
theorem trun_over {r w s w1 s1 E s' : List Int} (h : trun w s r = some (w1, s1)) (hw : w ≠ []) (hs : ∀ x ∈ s', x ∈ s ∨ x ∉ r) (hE : ∀ x ∈ E, x ∈ s ∨ x ∉ r) : ∃ s1', trun (w ++ E) s' r = some (w1 ++ E, s1') := by
  induction r generalizing w s s' with
  | nil => simp [trun] at h; exact ⟨s', by simp [trun, h.1]⟩
  | cons v r ih =>
    rcases trun_cons h with ⟨hu, h1⟩ | ⟨hu, hv, h1⟩
    · obtain ⟨c, q, rfl⟩ := isUp_some hu
      obtain ⟨s1', h2⟩ := ih h1 (by simp) (fun x hx => (hs x hx).imp id (fun h3 h4 => h3 (List.mem_cons_of_mem _ h4))) (fun x hx => (hE x hx).imp id (fun h3 h4 => h3 (List.mem_cons_of_mem _ h4)))
      exact ⟨s1', by rw [trun_up (by simp [isUp])]; exact h2⟩
    · obtain ⟨s1', h2⟩ := ih h1 (by simp) (s' := v :: s') (fun x hx => by
          rcases List.mem_cons.1 hx with rfl | hx
          · exact .inl (by simp)
          · exact (hs x hx).imp (fun h3 => List.mem_cons_of_mem _ h3) (fun h3 h4 => h3 (List.mem_cons_of_mem _ h4))) (fun x hx => (hE x hx).imp (fun h3 => List.mem_cons_of_mem _ h3) (fun h3 h4 => h3 (List.mem_cons_of_mem _ h4)))
      have hvs : v ∉ s' := fun h3 => (hs v h3).elim hv (fun h4 => h4 (by simp))
      have hvE : v ∉ E := fun h3 => (hE v h3).elim hv (fun h4 => h4 (by simp))
      refine ⟨s1', ?_⟩
      rw [trun_down ?_ hvs]
      · exact h2
      · match w, hw with
        | [c], _ =>
          cases E with
          | nil => rfl
          | cons e E => simp [isUp]; rintro rfl; exact hvE (by simp)
        | c :: p :: q, _ => simpa [isUp] using hu
/-- what was seen and is not on the way does not stand in the list -/
theorem trun_avoid {r w s w1 s1 : List Int} (h : trun w s r = some (w1, s1)) {X : Int → Prop} (hX : ∀ x, X x → x ∈ s) (hw : ∀ x ∈ w, ¬ X x) : ∀ x ∈ r, ¬ X x := by
  induction r generalizing w s with
  | nil => simp
  | cons v r ih =>
    intro x hx
    rcases trun_cons h with ⟨hu, h1⟩ | ⟨hu, hv, h1⟩
    · rcases List.mem_cons.1 hx with rfl | hx
      · exact hw _ (isUp_mem hu)
      · exact ih h1 hX (fun y hy => hw y (List.mem_of_mem_tail hy)) x hx
    · rcases List.mem_cons.1 hx with rfl | hx
      · exact fun h2 => hv (hX _ h2)
      · exact ih h1 (fun y hy => List.mem_cons_of_mem _ (hX y hy)) (fun y hy => by
          rcases List.mem_cons.1 hy with rfl | hy
          · exact fun h2 => hv (hX _ h2)
          · exact hw y hy) x hx
theorem trun_way {r w s w1 s1 : List Int} (h : trun w s r = some (w1, s1)) (hn : w.Nodup) (hs : ∀ x ∈ w, x ∈ s) : w1.Nodup := by
  induction r generalizing w s with
  | nil => simp [trun] at h; rw [← h.1]; exact hn
  | cons v r ih =>
    rcases trun_cons h with ⟨hu, h1⟩ | ⟨hu, hv, h1⟩
    · exact ih h1 (hn.sublist (List.tail_sublist _)) (fun x hx => hs x (List.mem_of_mem_tail hx))
    · exact ih h1 (List.nodup_cons.2 ⟨fun h2 => hv (hs v h2), hn⟩) (fun x hx => by
        rcases List.mem_cons.1 hx with rfl | hx
        · simp
        · exact List.mem_cons_of_mem _ (hs x hx))

/-- the root c, left behind: a run over [d, c] that ends at c goes, from d on, to c below d -/
theorem trun_turn {r w s s1 : List Int} {c d : Int} {s' : List Int} (h : trun (w ++ [c]) s r = some ([c], s1)) (hw : w.getLast? = some d) (hs : ∀ x, x ∈ s ↔ x = c ∨ x ∈ s') (hc : c ∉ s') (hd : d ∈ s') : ∃ s1', trun w s' r = some ([c, d], s1') := by
  induction r generalizing w s s' with
  | nil =>
    simp [trun] at h
    rw [h.1] at hw
    simp at hw
  | cons v r ih =>
    match w, hw with
    | [e], hw =>
      simp at hw
      subst hw
      rcases trun_cons h with ⟨hu, h1⟩ | ⟨hu, hv, h1⟩
      · simp [isUp] at hu
        subst hu
        have h1' : trun [c] s r = some ([c], s1) := h1
        have hm : ∀ x ∈ c :: s', x ∈ s ∨ x ∉ r := fun x hx => .inl ((hs x).2 (by simpa using hx))
        obtain ⟨s1', h2⟩ := trun_over (E := [e]) h1' (by simp) hm (fun x hx => by simp at hx; subst hx; exact .inl ((hs x).2 (.inr hd)))
        exact ⟨s1', by rw [trun_down (by rfl) hc]; exact h2⟩
      · have hvc : v ≠ c := fun e => hv ((hs v).2 (.inl e))
        have hvs : v ∉ s' := fun e => hv ((hs v).2 (.inr e))
        obtain ⟨s1', h2⟩ := ih (w := [v, e]) (s' := v :: s') h1 (by simp) (fun x => by
          simp only [List.mem_cons, hs]
          constructor
          · rintro (h | h | h) <;> simp [h]
          · rintro (h | h | h) <;> simp [h]) (by simp [hc]; exact fun e => hvc e.symm) (by simp [hd])
        exact ⟨s1', by rw [trun_down (by rfl) hvs]; exact h2⟩
    | x :: y :: w, hw =>
      rcases trun_cons h with ⟨hu, h1⟩ | ⟨hu, hv, h1⟩
      · have hu' : isUp (x :: y :: w) v = true := by simpa [isUp] using hu
        obtain ⟨s1', h2⟩ := ih (w := y :: w) h1 (by simpa [List.getLast?_cons_cons] using hw) hs hc hd
        exact ⟨s1', by rw [trun_up hu']; exact h2⟩
      · have hu' : isUp (x :: y :: w) v = false := by simpa [isUp] using hu
        have hvc : v ≠ c := fun e => hv ((hs v).2 (.inl e))
        have hvs : v ∉ s' := fun e => hv ((hs v).2 (.inr e))
        obtain ⟨s1', h2⟩ := ih (w := v :: x :: y :: w) (s' := v :: s') h1 (by simpa [List.getLast?_cons_cons] using hw) (fun z => by
          simp only [List.mem_cons, hs]
          constructor
          · rintro (h | h | h) <;> simp [h]
          · rintro (h | h | h) <;> simp [h]) (by simp [hc]; exact fun e => hvc e.symm) (by simp [hd])
        exact ⟨s1', by rw [trun_down hu' hvs]; exact h2⟩
/-- a tour from its second vertex on -/
theorem tour_turn {c d : Int} {m : List Int} (h : tB (c :: d :: (m ++ [c])) = true) : tB (d :: (m ++ [c] ++ [d])) = true := by
  obtain ⟨x, r, s, e, hr, hv, _⟩ := tB_open h
  simp at e
  obtain ⟨rfl, rfl⟩ := e
  rcases trun_cons hr with ⟨hu, _⟩ | ⟨hu, hd, h1⟩
  · simp [isUp] at hu
  · have hdc : d ≠ c := by simpa using hd
    obtain ⟨s1', h2⟩ := trun_turn (w := [d]) (d := d) (s' := [d]) h1 (by simp) (fun x => by simp; exact or_comm) (by simp; exact fun e => hdc e.symm) (by simp)
    refine tB_of (s := s1') (fun v hv' => hv v ?_) ?_
    · simp at hv' ⊢
      rcases hv' with h | h | h | h <;> simp [h]
    · rw [trun_append, h2]
      simp [trun, tstep, isUp]
/-- a tour is a ring of vertices, cut at one of them -/
theorem tour_ring {t : List Int} (h : tB t = true) : (∃ x, t = [x]) ∨ ∃ c d m, t = c :: d :: (m ++ [c]) := by
  obtain ⟨x, r, s, rfl, hr, _, hq⟩ := tB_open h
  rcases hq with rfl | ⟨q, rfl⟩
  · exact .inl ⟨x, rfl⟩
  · cases q with
    | nil =>
      simp [trun, tstep, isUp] at hr
    | cons d m => exact .inr ⟨x, d, m, by simp⟩
/-- the ring, cut at its place k -/
def cutAt (q : List Int) (k : Nat) : List Int := q.drop k ++ (q.take k ++ (q[k]?).toList)
theorem tour_cut {q : List Int} (h : tB (cutAt q 0) = true) (k : Nat) (hk : k < q.length) : tB (cutAt q k) = true := by
  induction k with
  | zero => exact h
  | succ k ih =>
    have h1 := ih (by omega)
    have e1 : q.drop k = q[k]'(by omega) :: q[k + 1] :: q.drop (k + 2) := by
      rw [List.drop_eq_getElem_cons (by omega), List.drop_eq_getElem_cons hk]
    have e2 : cutAt q k = q[k]'(by omega) :: q[k + 1] :: ((q.drop (k + 2) ++ q.take k) ++ [q[k]'(by omega)]) := by
      unfold cutAt
      rw [e1, List.getElem?_eq_getElem (by omega)]
      simp only [Option.toList_some, List.cons_append, List.append_assoc]
    rw [e2] at h1
    have h2 := tour_turn h1
    have e3 : cutAt q (k + 1) = q[k + 1] :: (q.drop (k + 2) ++ q.take k ++ [q[k]'(by omega)] ++ [q[k + 1]]) := by
      unfold cutAt
      rw [List.drop_eq_getElem_cons hk, List.getElem?_eq_getElem hk, List.take_succ_eq_append_getElem (by omega)]
      simp only [Option.toList_some, List.cons_append, List.append_assoc]
    rw [e3]
    exact h2
end Go.Proofs.YtgjngaaibcmgmabGreat
namespace Go.Proofs.YtgjngaaibcmgmabGreat

/-- the edge of two vertices -/
def mkE (v u : Int) : EdgeV := if v < u then (v, u) else (u, v)
theorem mkE_comm {v u : Int} (h : v ≠ u) : mkE v u = mkE u v := by
  unfold mkE
  by_cases h1 : v < u
  · rw [if_pos h1, if_neg (by omega)]
  · rw [if_neg h1, if_pos (by omega)]
theorem mkE_inj {v u w : Int} (h : mkE v u = mkE v w) : u = w := by
  unfold mkE at h
  split at h <;> split at h <;> simp at h <;> omega
theorem mkE_ends (v u : Int) : (mkE v u = (v, u)) ∨ (mkE v u = (u, v)) := by
  unfold mkE
  split <;> simp

/-- the vertices from n - rem on -/
def wkGo (rec : Int → Int → List Int → Option (List Int × List Int)) (es : List EdgeV) (n : Nat) (v fr : Int) : Nat → List Int → List Int → Option (List Int × List Int)
  | 0, out, seen => some (out, seen)
  | rem + 1, out, seen =>
    if ((n - (rem + 1) : Nat) : Int) = fr ∨ mkE v ((n - (rem + 1) : Nat) : Int) ∉ es then wkGo rec es n v fr rem out seen
    else if ((n - (rem + 1) : Nat) : Int) ∈ seen then none
    else match rec ((n - (rem + 1) : Nat) : Int) v seen with
      | none => none
      | some x => wkGo rec es n v fr rem (out ++ x.1 ++ [v]) x.2
/-- the walk from v, to which it came from fr -/
def wk (es : List EdgeV) (n : Nat) : Nat → Int → Int → List Int → Option (List Int × List Int)
  | 0, _, _, _ => none
  | f + 1, v, fr, seen => wkGo (wk es n f) es n v fr n [v] (v :: seen)
theorem wkGo_skip {rec : Int → Int → List Int → Option (List Int × List Int)} {es : List EdgeV} {n : Nat} {v fr : Int} {rem k : Nat} {out seen : List Int} (hk : n - (rem + 1) = k) (h : (k : Int) = fr ∨ mkE v (k : Int) ∉ es) :
    wkGo rec es n v fr (rem + 1) out seen = wkGo rec es n v fr rem out seen := by
  rw [wkGo, hk, if_pos h]
theorem wkGo_go {rec : Int → Int → List Int → Option (List Int × List Int)} {es : List EdgeV} {n : Nat} {v fr : Int} {rem k : Nat} {out seen : List Int} {x : List Int × List Int} (hk : n - (rem + 1) = k) (h1 : (k : Int) ≠ fr) (h2 : mkE v (k : Int) ∈ es)
    (h : wkGo rec es n v fr (rem + 1) out seen = some x) : (k : Int) ∉ seen ∧ ∃ p, rec (k : Int) v seen = some p ∧ wkGo rec es n v fr rem (out ++ p.1 ++ [v]) p.2 = some x := by
  rw [wkGo, hk, if_neg (by rintro (h3 | h3); exact h1 h3; exact h3 h2)] at h
  by_cases hs : (k : Int) ∈ seen
  · rw [if_pos hs] at h; simp at h
  · rw [if_neg hs] at h
    refine ⟨hs, ?_⟩
    cases hr : rec (k : Int) v seen with
    | none => rw [hr] at h; simp at h
    | some p => rw [hr] at h; exact ⟨p, rfl, h⟩

/-- each edge is the only way between its ends -/
def Bridge (es : List EdgeV) : Prop := ∀ e ∈ es, ∃ S : Int → Prop, S e.2 ∧ ¬ S e.1 ∧ ∀ d ∈ es, d ≠ e → (S d.1 ↔ S d.2)
theorem Bridge.side {es : List EdgeV} (h : Bridge es) {v u : Int} (he : mkE v u ∈ es) : ∃ S : Int → Prop, S u ∧ ¬ S v ∧ ∀ d ∈ es, d ≠ mkE v u → (S d.1 ↔ S d.2) := by
  obtain ⟨S, h1, h2, h3⟩ := h _ he
  rcases mkE_ends v u with e | e
  · rw [e] at h1 h2
    exact ⟨S, h1, h2, h3⟩
  · rw [e] at h1 h2
    exact ⟨fun x => ¬ S x, h2, fun h4 => h4 h1, fun d hd hne => not_congr (h3 d hd hne)⟩

structure WkIs (es : List EdgeV) (n : Nat) (v fr : Int) (seen t seen' : List Int) : Prop where
  head : t.head? = some v
  nodup : seen'.Nodup
  rng : ∀ x ∈ seen', 0 ≤ x ∧ x < (n : Int)
  mem : ∀ x, x ∈ seen' ↔ x ∈ seen ∨ x ∈ t
  new : ∀ x ∈ t, x ∉ seen
  run : ∀ W S : List Int, (∀ x ∈ W, x ∈ S) → (∀ x ∈ t, x ∉ S) → ∃ S', trun W S t = some (v :: W, S')
  least : ∀ C : Int → Prop, C v → (∀ e ∈ es, e ≠ mkE v fr → (C e.1 ↔ C e.2)) → ∀ x ∈ t, C x
  len : seen.length < seen'.length
/-- the vertices below k have been gone to -/
structure GoIs (es : List EdgeV) (n : Nat) (v fr : Int) (k : Nat) (seen0 out seen : List Int) : Prop where
  head : out.head? = some v
  nodup : seen.Nodup
  rng : ∀ x ∈ seen, 0 ≤ x ∧ x < (n : Int)
  mem : ∀ x, x ∈ seen ↔ x ∈ seen0 ∨ x ∈ out
  new : ∀ x ∈ out, x ∉ seen0
  run : ∀ W S : List Int, (∀ x ∈ W, x ∈ S) → (∀ x ∈ out, x ∉ S) → ∃ S', trun W S out = some (v :: W, S')
  least : ∀ C : Int → Prop, C v → (∀ e ∈ es, e ≠ mkE v fr → (∀ u : Nat, k ≤ u → u < n → e ≠ mkE v (u : Int)) → (C e.1 ↔ C e.2)) → ∀ x ∈ out, C x
  len : seen0.length < seen.length
theorem GoIs.skip {es : List EdgeV} {n : Nat} {v fr : Int} {k : Nat} {seen0 out seen : List Int} (h : GoIs es n v fr k seen0 out seen) : GoIs es n v fr (k + 1) seen0 out seen :=
  ⟨h.head, h.nodup, h.rng, h.mem, h.new, h.run, fun C hv hC => h.least C hv fun e he h1 h2 => hC e he h1 fun u hu hn => h2 u (by omega) hn, h.len⟩
theorem GoIs.go {es : List EdgeV} {n : Nat} {v fr : Int} {k : Nat} {seen0 out seen p seen' : List Int} (h : GoIs es n v fr k seen0 out seen) (hkf : (k : Int) ≠ fr) (hkv : v ≠ (k : Int)) (he : mkE v (k : Int) ∈ es) {S : Int → Prop} (hS1 : S (k : Int)) (hS2 : ¬ S v) (hS3 : ∀ d ∈ es, d ≠ mkE v (k : Int) → (S d.1 ↔ S d.2))
    (hp : WkIs es n (k : Int) v seen p seen') : GoIs es n v fr (k + 1) seen0 (out ++ p ++ [v]) seen' := by
  have hvo : v ∈ out := by
    have := h.head
    cases out with
    | nil => simp at this
    | cons a o => simp at this; simp [this]
  have hS4 : ∀ w : Int, mkE v w ∈ es → mkE v w ≠ mkE v (k : Int) → ¬ S (mkE v w).1 ∧ ¬ S (mkE v w).2 := fun w hw hne => by
    have := hS3 _ hw hne
    rcases mkE_ends v w with e | e
    · rw [e] at this ⊢; exact ⟨hS2, fun h5 => hS2 (this.2 h5)⟩
    · rw [e] at this ⊢; exact ⟨fun h5 => hS2 (this.1 h5), hS2⟩
  refine ⟨?_, hp.nodup, hp.rng, fun x => ?_, fun x hx => ?_, fun W T hW hT => ?_, fun C hv hC x hx => ?_, Nat.lt_trans h.len hp.len⟩
  · have := h.head
    cases out with
    | nil => simp at this
    | cons a o => simpa using this
  · rw [hp.mem, h.mem]
    simp only [List.mem_append, List.mem_singleton]
    constructor
    · rintro ((h1 | h1) | h1)
      · exact .inl h1
      · exact .inr (.inl (.inl h1))
      · exact .inr (.inl (.inr h1))
    · rintro (h1 | (h1 | h1) | h1)
      · exact .inl (.inl h1)
      · exact .inl (.inr h1)
      · exact .inr h1
      · exact .inl (.inr (by rw [h1]; exact hvo))
  · simp only [List.mem_append, List.mem_singleton] at hx
    rcases hx with (h1 | h1) | h1
    · exact h.new x h1
    · exact fun h2 => hp.new x h1 ((h.mem x).2 (.inl h2))
    · rw [h1]; exact h.new v hvo
  · obtain ⟨S1, h1⟩ := h.run W T hW (fun x hx => hT x (by simp [hx]))
    obtain ⟨hs, hw⟩ := trun_seen h1 hW
    obtain ⟨S2, h2⟩ := hp.run (v :: W) S1 hw (fun x hx h3 => by
      rcases (hs x).1 h3 with h4 | h4
      · exact hT x (by simp [hx]) h4
      · exact hp.new x hx ((h.mem x).2 (.inr h4)))
    refine ⟨S2, ?_⟩
    rw [trun_append, trun_append, h1, Option.bind_some, h2, Option.bind_some, trun_up (by simp [isUp])]
    rfl
  · simp only [List.mem_append, List.mem_singleton] at hx
    rcases hx with (h1 | h1) | h1
    · exact h.skip.least C hv hC x h1
    · refine (hp.least (fun y => C y ∧ S y) ⟨?_, hS1⟩ (fun e he2 hne => ?_) x h1).1
      · have h2 := hC _ he (fun e => hkf (mkE_inj e)) (fun u hu _ e => by have := mkE_inj e; omega)
        rcases mkE_ends v (k : Int) with e | e
        · rw [e] at h2; exact h2.1 hv
        · rw [e] at h2; exact h2.2 hv
      · rw [mkE_comm (fun e => hkv e.symm)] at hne
        by_cases h3 : e = mkE v fr
        · subst h3
          obtain ⟨a, b⟩ := hS4 fr he2 hne
          exact ⟨fun h4 => absurd h4.2 a, fun h4 => absurd h4.2 b⟩
        · by_cases h4 : ∃ u : Nat, k + 1 ≤ u ∧ u < n ∧ e = mkE v (u : Int)
          · obtain ⟨u, _, _, rfl⟩ := h4
            obtain ⟨a, b⟩ := hS4 _ he2 hne
            exact ⟨fun h4 => absurd h4.2 a, fun h4 => absurd h4.2 b⟩
          · exact and_congr (hC e he2 h3 (fun u h5 h6 h7 => h4 ⟨u, h5, h6, h7⟩)) (hS3 e he2 hne)
    · rw [h1]; exact hv
theorem wk_ok {es : List EdgeV} {n : Nat} (hE : ∀ e ∈ es, 0 ≤ e.1 ∧ e.1 < e.2 ∧ e.2 < (n : Int)) (hBr : Bridge es) (f : Nat) : ∀ (v fr : Int) (seen : List Int), 0 ≤ v → v < (n : Int) → seen.Nodup → (∀ x ∈ seen, 0 ≤ x ∧ x < (n : Int)) → n ≤ f + seen.length →
    (∃ C : Int → Prop, C v ∧ (∀ x ∈ seen, ¬ C x) ∧ ∀ e ∈ es, e ≠ mkE v fr → (C e.1 ↔ C e.2)) → ∃ t seen', wk es n f v fr seen = some (t, seen') ∧ WkIs es n v fr seen t seen' := by
  induction f with
  | zero =>
    intro v fr seen h0 h1 hn hr hf ⟨C, hC, hCs, _⟩
    have hv : v ∉ seen := fun h => hCs v h hC
    have := nodup_le n (v :: seen) (List.nodup_cons.2 ⟨hv, hn⟩) (fun x hx => by
      rcases List.mem_cons.1 hx with rfl | hx
      · exact ⟨h0, h1⟩
      · exact hr x hx)
    simp at this
    omega
  | succ f ih =>
    intro v fr seen0 h0 h1 hn hr hf ⟨C, hC, hCs, hCe⟩
    have hv : v ∉ seen0 := fun h => hCs v h hC
    have key : ∀ (rem k : Nat) (out seen : List Int), rem + k = n → GoIs es n v fr k seen0 out seen → ∃ t seen', wkGo (wk es n f) es n v fr rem out seen = some (t, seen') ∧ GoIs es n v fr n seen0 t seen' := by
      intro rem
      induction rem with
      | zero =>
        intro k out seen hk hg
        obtain rfl : k = n := by omega
        exact ⟨out, seen, rfl, hg⟩
      | succ rem ihr =>
        intro k out seen hk hg
        have ek : n - (rem + 1) = k := by omega
        by_cases hs : (k : Int) = fr ∨ mkE v (k : Int) ∉ es
        · rw [wkGo_skip ek hs]
          exact ihr (k + 1) out seen (by omega) hg.skip
        · have hkf : (k : Int) ≠ fr := fun e => hs (.inl e)
          have he : mkE v (k : Int) ∈ es := Classical.not_not.1 (fun e => hs (.inr e))
          have hkv : v ≠ (k : Int) := fun e => by
            have := hE _ he
            rw [← e] at this
            unfold mkE at this
            rw [if_neg (by omega)] at this
            simp at this
          obtain ⟨S, hS1, hS2, hS3⟩ := hBr.side he
          have hout : ∀ x ∈ out, ¬ S x := hg.least (fun x => ¬ S x) hS2 (fun e he2 _ h3 => not_congr (hS3 e he2 (h3 k (Nat.le_refl _) (by omega))))
          have hCk : C (k : Int) := by
            have h2 := hCe _ he (fun e => hkf (mkE_inj e))
            rcases mkE_ends v (k : Int) with e | e
            · rw [e] at h2; exact h2.1 hC
            · rw [e] at h2; exact h2.2 hC
          have hpre : ∀ x ∈ seen, ¬ (C x ∧ S x) := fun x hx h3 => by
            rcases (hg.mem x).1 hx with h4 | h4
            · exact hCs x h4 h3.1
            · exact hout x h4 h3.2
          have hks : (k : Int) ∉ seen := fun h3 => hpre _ h3 ⟨hCk, hS1⟩
          obtain ⟨p, seen', hp, hpi⟩ := ih (k : Int) v seen (by omega) (by omega) hg.nodup hg.rng (by have := hg.len; omega) ⟨fun x => C x ∧ S x, ⟨hCk, hS1⟩, hpre, fun e he2 hne => by
            rw [mkE_comm (fun e => hkv e.symm)] at hne
            by_cases h3 : e = mkE v fr
            · subst h3
              have := hS3 _ he2 hne
              rcases mkE_ends v fr with e | e
              · rw [e] at this ⊢; exact ⟨fun h5 => absurd h5.2 hS2, fun h5 => absurd (this.2 h5.2) hS2⟩
              · rw [e] at this ⊢; exact ⟨fun h5 => absurd (this.1 h5.2) hS2, fun h5 => absurd h5.2 hS2⟩
            · exact and_congr (hCe e he2 h3) (hS3 e he2 hne)⟩
          obtain ⟨t, sn, h5, h6⟩ := ihr (k + 1) (out ++ p ++ [v]) seen' (by omega) (hg.go hkf hkv he hS1 hS2 hS3 hpi)
          refine ⟨t, sn, ?_, h6⟩
          rw [wkGo, ek, if_neg hs, if_neg hks, hp]
          exact h5
    have hst : GoIs es n v fr 0 seen0 [v] (v :: seen0) := by
      refine ⟨rfl, List.nodup_cons.2 ⟨hv, hn⟩, fun x hx => ?_, fun x => by simp; exact or_comm, fun x hx => by simp at hx; rw [hx]; exact hv, fun W S hW hS => ?_, fun C hv _ x hx => by simp at hx; rw [hx]; exact hv, by simp⟩
      · rcases List.mem_cons.1 hx with rfl | hx
        · exact ⟨h0, h1⟩
        · exact hr x hx
      · have hvS : v ∉ S := hS v (by simp)
        have hup : isUp W v = false := by
          cases h : isUp W v with
          | false => rfl
          | true => exact absurd (hW _ (isUp_mem h)) hvS
        exact ⟨v :: S, by rw [trun_down hup hvS]; rfl⟩
    obtain ⟨t, sn, h2, h3⟩ := key n 0 [v] (v :: seen0) (by omega) hst
    exact ⟨t, sn, h2, h3.head, h3.nodup, h3.rng, h3.mem, h3.new, h3.run, fun C hv hCe2 => h3.least C hv fun e he hne _ => hCe2 e he hne, h3.len⟩

theorem mem_putE {es : List EdgeV} {e d : EdgeV} : d ∈ putE es e ↔ d ∈ es ∨ d = e := by
  unfold putE
  simp only [List.mem_append, List.mem_filter, List.mem_singleton]
  constructor
  · rintro ((h | h) | h)
    · exact .inl h.1
    · exact .inr h
    · exact .inl h.1
  · rintro (h | h)
    · by_cases he : d = e
      · exact .inl (.inr he)
      · cases hl : lt d e with
        | true => exact .inl (.inl ⟨h, rfl⟩)
        | false => exact .inr ⟨h, lt_total' hl he⟩
    · exact .inl (.inr h)
/-- edges of trees of the vertices below k -/
structure Forest (es : List EdgeV) (k : Nat) : Prop where
  ends : ∀ e ∈ es, 0 ≤ e.1 ∧ e.1 < e.2 ∧ e.2 < (k : Int)
  bridge : Bridge es
theorem Forest.nil (k : Nat) : Forest [] k := ⟨fun e h => by simp at h, fun e h => by simp at h⟩
theorem Forest.more {es : List EdgeV} {k : Nat} (h : Forest es k) : Forest es (k + 1) := ⟨fun e he => by have := h.ends e he; omega, h.bridge⟩
theorem Forest.put {es : List EdgeV} {k : Nat} (h : Forest es k) {x : Nat} (hx : x < k) : Forest (putE es ((x : Int), (k : Int))) (k + 1) := by
  have hnew : ((x : Int), (k : Int)) ∉ es := fun he => by have := h.ends _ he; simp at this
  refine ⟨fun e he => ?_, fun e he => ?_⟩
  · rcases mem_putE.1 he with h1 | h1
    · have := h.ends e h1; omega
    · subst h1; simp; omega
  · rcases mem_putE.1 he with h1 | h1
    · obtain ⟨S, a, b, c⟩ := h.bridge e h1
      have he1 := h.ends e h1
      refine ⟨fun y => if y = (k : Int) then S (x : Int) else S y, by simp only [if_neg (show ¬ e.2 = (k : Int) by omega)]; exact a, by simp only [if_neg (show ¬ e.1 = (k : Int) by omega)]; exact b, fun d hd hne => ?_⟩
      rcases mem_putE.1 hd with h2 | h2
      · have hd1 := h.ends d h2
        simp only [if_neg (show ¬ d.1 = (k : Int) by omega), if_neg (show ¬ d.2 = (k : Int) by omega)]
        exact c d h2 hne
      · subst h2
        simp only [if_neg (show ¬ (x : Int) = (k : Int) by omega), if_true]
    · subst h1
      refine ⟨fun y => y = (k : Int), rfl, by simp; omega, fun d hd hne => ?_⟩
      rcases mem_putE.1 hd with h2 | h2
      · have hd1 := h.ends d h2
        constructor
        · intro h3; omega
        · intro h3; omega
      · exact absurd h2 hne
/-- the tour of a tree of a forest -/
theorem forest_tour {es : List EdgeV} {n : Nat} (h : Forest es n) (hn : n ≤ 12) {r : Nat} (hr : r < n) : ∃ t sn, wk es n n (r : Int) (-1) [] = some (t, sn) ∧ tB t = true ∧ t[0]? = some (r : Int) := by
  obtain ⟨t, sn, h1, h2⟩ := wk_ok h.ends h.bridge n (r : Int) (-1) [] (by omega) (by omega) (by simp) (by simp) (by simp) ⟨fun _ => True, trivial, by simp, by simp⟩
  refine ⟨t, sn, h1, ?_, ?_⟩
  · obtain ⟨S', h3⟩ := h2.run [] [] (by simp) (by simp)
    refine (tB_iff t).2 ⟨fun x hx => ?_, (r : Int), S', h3⟩
    have := h2.rng x ((h2.mem x).2 (.inr hx))
    simp [vB]
    omega
  · rw [← List.head?_eq_getElem?]; exact h2.head
end Go.Proofs.YtgjngaaibcmgmabGreat
namespace Go.Proofs.YtgjngaaibcmgmabGreat
open Go.RowKit

def firstN (p : Nat → Bool) (n : Nat) : Int := match (List.range n).find? p with | some k => (k : Int) | none => -1
def lastN (p : Nat → Bool) : Nat → Int
  | 0 => -1
  | n + 1 => if p n = true then (n : Int) else lastN p n
theorem firstN_yes {p : Nat → Bool} {n k : Nat} (hk : k < n) (h : p k = true) (hn : ∀ j, j < k → p j = false) : firstN p n = (k : Int) := by
  have : (List.range n).find? p = some k := by
    rw [List.find?_range_eq_some]
    exact ⟨h, by simpa using hk, fun j hj => by simp [hn j hj]⟩
  unfold firstN
  rw [this]
theorem firstN_no {p : Nat → Bool} {n : Nat} (hn : ∀ j, j < n → p j = false) : firstN p n = -1 := by
  have : (List.range n).find? p = none := by
    rw [List.find?_range_eq_none]
    exact fun j hj => by simp [hn j hj]
  unfold firstN
  rw [this]
theorem firstN_cases (p : Nat → Bool) (n : Nat) : (∃ k, k < n ∧ p k = true ∧ (∀ j, j < k → p j = false) ∧ firstN p n = (k : Int)) ∨ ((∀ j, j < n → p j = false) ∧ firstN p n = -1) := by
  cases h : (List.range n).find? p with
  | none =>
    rw [List.find?_range_eq_none] at h
    exact .inr ⟨fun j hj => by simpa using h j hj, by unfold firstN; rw [show (List.range n).find? p = none by rw [List.find?_range_eq_none]; exact h]⟩
  | some k =>
    have h' := h
    rw [List.find?_range_eq_some] at h
    exact .inl ⟨k, by simpa using h.2.1, h.1, fun j hj => by simpa using h.2.2 j hj, by unfold firstN; rw [h']⟩
theorem lastN_cases (p : Nat → Bool) (n : Nat) : (∃ k, k < n ∧ p k = true ∧ (∀ j, k < j → j < n → p j = false) ∧ lastN p n = (k : Int)) ∨ ((∀ j, j < n → p j = false) ∧ lastN p n = -1) := by
  induction n with
  | zero => exact .inr ⟨fun j hj => by omega, rfl⟩
  | succ n ih =>
    by_cases h : p n = true
    · exact .inl ⟨n, by omega, h, fun j h1 h2 => by omega, by simp [lastN, h]⟩
    · have h' : p n = false := by simpa using h
      rcases ih with ⟨k, h1, h2, h3, h4⟩ | ⟨h1, h2⟩
      · refine .inl ⟨k, by omega, h2, fun j h5 h6 => ?_, by simp [lastN, h', h4]⟩
        by_cases h7 : j = n
        · rw [h7]; exact h'
        · exact h3 j h5 (by omega)
      · refine .inr ⟨fun j hj => ?_, by simp [lastN, h', h2]⟩
        by_cases h7 : j = n
        · rw [h7]; exact h'
        · exact h1 j (by omega)
theorem lastN_step {p : Nat → Bool} {n k : Nat} (h : lastN p n = lastN p (k + 1)) (hp : p k = false) : lastN p n = lastN p k := by rw [h]; simp [lastN, hp]
theorem lastN_hit {p : Nat → Bool} {n k : Nat} (h : lastN p n = lastN p (k + 1)) (hp : p k = true) : lastN p n = (k : Int) := by rw [h]; simp [lastN, hp]

/-- the number v stands at the place k -/
def atP (ls : List Int) (v : Int) (k : Nat) : Bool := ls[k]? == some v
/-- there the list goes from u to v -/
def goP (ls : List Int) (u v : Int) (k : Nat) : Bool := ls[k]? == some u && ls[k + 1]? == some v
def fstI (ls : List Int) (v : Int) : Int := firstN (atP ls v) ls.length
def lstI (ls : List Int) (v : Int) : Int := lastN (atP ls v) ls.length
def goI (ls : List Int) (u v : Int) : Int := firstN (goP ls u v) (ls.length - 1)
theorem atP_yes {ls : List Int} {v : Int} {k : Nat} (h : ls[k]? = some v) : atP ls v k = true := by simp [atP, h]
theorem atP_no {ls : List Int} {v f : Int} {k : Nat} (h : ls[k]? = some f) (hn : f ≠ v) : atP ls v k = false := by simp [atP, h, hn]
theorem fstI_mem (ls : List Int) (v : Int) : decide (fstI ls v < 0) = decide (v ∉ ls) := by
  rcases firstN_cases (atP ls v) ls.length with ⟨k, _, h, _, e⟩ | ⟨h, e⟩
  · have hm : v ∈ ls := List.mem_of_getElem? (by simpa [atP] using h)
    have e' : fstI ls v = (k : Int) := e
    rw [e', decide_eq_decide]
    simp [hm]
  · have hm : v ∉ ls := fun hm => by
      obtain ⟨k, hk⟩ := List.mem_iff_getElem?.1 hm
      have := h k (List.getElem?_eq_some_iff.1 hk).1
      rw [atP_yes hk] at this
      simp at this
    have e' : fstI ls v = -1 := e
    rw [e', decide_eq_decide]
    simp [hm]
theorem lstI_mem (ls : List Int) (v : Int) : decide (lstI ls v < 0) = decide (v ∉ ls) := by
  rcases lastN_cases (atP ls v) ls.length with ⟨k, _, h, _, e⟩ | ⟨h, e⟩
  · have hm : v ∈ ls := List.mem_of_getElem? (by simpa [atP] using h)
    have e' : lstI ls v = (k : Int) := e
    rw [e', decide_eq_decide]
    simp [hm]
  · have hm : v ∉ ls := fun hm => by
      obtain ⟨k, hk⟩ := List.mem_iff_getElem?.1 hm
      have := h k (List.getElem?_eq_some_iff.1 hk).1
      rw [atP_yes hk] at this
      simp at this
    have e' : lstI ls v = -1 := e
    rw [e', decide_eq_decide]
    simp [hm]
theorem mem_of_atP {ls : List Int} {v : Int} {n : Nat} (hn : ls.length = n) (h : ∀ j, j < n → atP ls v j = false) : v ∉ ls := fun hm => by
  obtain ⟨k, hk⟩ := List.mem_iff_getElem?.1 hm
  have := h k (by have := (List.getElem?_eq_some_iff.1 hk).1; omega)
  rw [atP_yes hk] at this
  simp at this
theorem all_step {p : Nat → Bool} {k : Nat} (h : ∀ j, j < k → p j = false) (hp : p k = false) : ∀ j, j < k + 1 → p j = false := fun j hj => by
  by_cases h7 : j = k
  · rw [h7]; exact hp
  · exact h j (by omega)

theorem retT {p : Prop} [Decidable p] (h : p) : Ending.returned (.bool true) = Ending.returned (.bool (decide p)) := by rw [decide_eq_true h]
theorem retF {p : Prop} [Decidable p] (h : ¬ p) : Ending.returned (.bool false) = Ending.returned (.bool (decide p)) := by rw [decide_eq_false h]
theorem retI {x y : Int} (h : y = x) : Ending.returned (.int .i64 x) = Ending.returned (.int .i64 y) := by rw [h]

set_option maxHeartbeats 1000000 in
theorem l05In_any (ls : List Int) (v : Int) (n : Nat) (a : Option Addr) (c : Nat) (hn : n ≤ 3000000) (w : World) (h : Is w w.heap.size a n ls) :
    Calls Tryz.prog 55 #[.slice a n c, .int .i64 v] w fun e w' => e = .returned (.bool (decide (v ∈ ls))) ∧ w' = w := by
  obtain ⟨hlen, hrow⟩ := h
  have HR := hideIt hrow
  clear hrow
  go_enter Tryz.func55, Tryz.ntmps55
  go_wp2
  go_loopw [5] (fun i wr => ∃ (k : Nat), k ≤ n ∧ i = .int .i64 (k : Int) ∧ Hid (∀ j, j < k → atP ls v j = false) ∧ wr = w) (fun i _ => n - (intOf i).toNat)
  case atStart => exact ⟨0, by omega, rfl, fun j hj => by omega, rfl⟩
  case round =>
    obtain ⟨k, hk, rfl, HF, hw⟩ := hrel
    have hw' := hw.symm
    subst hw'
    clear hw
    by_cases hlt : k < n
    · rcases HR.out with hz | ⟨b, off, rfl, hbl, hc⟩
      · omega
      · obtain ⟨f, hf⟩ : ∃ f, ls[k]? = some f := ⟨ls[k]'(by omega), List.getElem?_eq_getElem (by omega)⟩
        have e0 := hc k f hf
        have b1 : (0 : Int) ≤ (k : Int) := by omega
        have b2 : (k : Int) < (n : Int) := by omega
        by_cases hv : f = v
        · have d1 : (f == v) = true := by simpa using hv
          have hm := hideIt (show v ∈ ls from hv ▸ List.mem_of_getElem? hf)
          clear hc hf hv
          go_wp2
          go_ret
          exact ⟨retT hm.out, rfl⟩
        · have d1 : (f == v) = false := by simpa using hv
          have HF2 := hideIt (all_step HF.out (atP_no hf hv))
          clear hc hf hv HF
          go_wp2
          exact ⟨⟨k + 1, by omega, by go_num, HF2, by first | trivial | rfl⟩, by simp [intOf]; omega⟩
    · obtain rfl : k = n := by omega
      have hm := hideIt (mem_of_atP hlen HF.out)
      clear HF
      go_wp2
      go_ret
      exact ⟨retF hm.out, rfl⟩

set_option maxHeartbeats 1000000 in
theorem idxI_any (ls : List Int) (v : Int) (n : Nat) (a : Option Addr) (c : Nat) (hn : n ≤ 3000000) (w : World) (h : Is w w.heap.size a n ls) :
    Calls Tryz.prog 115 #[.slice a n c, .int .i64 v] w fun e w' => e = .returned (.int .i64 (fstI ls v)) ∧ w' = w := by
  obtain ⟨hlen, hrow⟩ := h
  have HR := hideIt hrow
  have HL := hideIt hlen
  clear hrow
  go_enter Tryz.func115, Tryz.ntmps115
  go_wp2
  go_loopw [8] (fun i wr => ∃ (k : Nat), k ≤ n ∧ i = .int .i64 (k : Int) ∧ Hid (∀ j, j < k → atP ls v j = false) ∧ wr = w) (fun i _ => n - (intOf i).toNat)
  case atStart => exact ⟨0, by omega, rfl, fun j hj => by omega, rfl⟩
  case round =>
    obtain ⟨k, hk, rfl, HF, hw⟩ := hrel
    have hw' := hw.symm
    subst hw'
    clear hw
    by_cases hlt : k < n
    · rcases HR.out with hz | ⟨b, off, rfl, hbl, hc⟩
      · omega
      · obtain ⟨f, hf⟩ : ∃ f, ls[k]? = some f := ⟨ls[k]'(by omega), List.getElem?_eq_getElem (by omega)⟩
        have e0 := hc k f hf
        have b1 : (0 : Int) ≤ (k : Int) := by omega
        have b2 : (k : Int) < (n : Int) := by omega
        by_cases hv : v = f
        · have d1 : (v == f) = true := by simpa using hv
          have hm := hideIt (show fstI ls v = (k : Int) from firstN_yes (by omega) (atP_yes (hv ▸ hf)) HF.out)
          clear hc hf hv HF
          go_wp2
          go_ret
          exact ⟨retI hm.out, rfl⟩
        · have d1 : (v == f) = false := by simpa using hv
          have HF2 := hideIt (all_step HF.out (atP_no hf (fun e => hv e.symm)))
          clear hc hf hv HF
          go_wp2
          exact ⟨⟨k + 1, by omega, by go_num, HF2, by first | trivial | rfl⟩, by simp [intOf]; omega⟩
    · obtain rfl : k = n := by omega
      have hm := hideIt (show fstI ls v = -1 from firstN_no (by rw [hlen]; exact HF.out))
      clear HF
      go_wp2
      go_ret
      exact ⟨retI hm.out, rfl⟩

theorem conI_any (ls : List Int) (v : Int) (n : Nat) (a : Option Addr) (c : Nat) (hn : n ≤ 3000000) (w : World) (h : Is w w.heap.size a n ls) :
    Calls Tryz.prog 100 #[.slice a n c, .int .i64 v] w fun e w' => e = .returned (.bool (decide (v ∈ ls))) ∧ w' = w := by
  have HI := hideIt (idxI_any ls v n a c hn w h)
  have HM := hideIt (fstI_mem ls v)
  clear h
  go_enter Tryz.func100, Tryz.ntmps100
  go_wp2_with (go_at_call 115; refine HI.out.mono ?_; rintro e w1 ⟨rfl, rfl⟩)
  go_ret
  refine ⟨?_, rfl⟩
  have := HM.out
  rw [decide_eq_decide] at this
  exact bret (by
    constructor
    · intro h0
      exact Classical.byContradiction fun hm => by have := this.2 hm; omega
    · intro hm
      exact Classical.byContradiction fun h0 => this.1 (by omega) hm)

end Go.Proofs.YtgjngaaibcmgmabGreat
