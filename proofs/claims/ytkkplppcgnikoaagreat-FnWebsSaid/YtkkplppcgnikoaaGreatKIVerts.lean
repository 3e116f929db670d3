/- Headers of rows that are only read. Right forests, put in order by their least vertices: pure. slices.Values over ints, and slices.Collect of it: each number, in order, in a list of its own. The program's TourOk. The library's contracts at this program, by the shelf's own laying in plain words: each body is held against the body of which its contract was proved. The program's VertsOf. -/
import Derived.Test.YtkkplppcgnikoaaGreatKFB7
import Derived.RangeFuncNested
import Derived.RangeFuncBound
import Derived.RangeFuncCalls
import Derived.RangeFuncLeaves
import Derived.RangeFuncBox
import Derived.Shelf.Abstract
import Derived.Shelf.RegionOpen
import Derived.WalkKit
import Derived.OwnWalkIn
import Derived.TacticsInMore
import Derived.LoopNIn
import Derived.LoopIn
import Derived.Maps.AppendAt
import Derived.Test.YtkkplppcgnikoaaGreatKTourP
import Derived.Shelf.SlicesE.Compact
import Derived.Shelf.SlicesE.DeleteFunc
import Derived.Shelf.SlicesE.IndexFunc
import Derived.Shelf.SortM.Plain
import Derived.Shelf.SortM.SortNone
import Derived.Test.YtkkplppcgnikoaaGreatProg
import Derived.Sort.OwnSortedInts
namespace Go.Proofs.YtkkplppcgnikoaaGreat
open Go.RowKit

end Go.Proofs.YtkkplppcgnikoaaGreat
namespace Go.Proofs.YtkkplppcgnikoaaGreat
open Go.RowKit

/-- nothing in common -/
def Apart (s t : List Int) : Prop := ∀ x ∈ s, x ∉ t
theorem Apart.symm {s t : List Int} (h : Apart s t) : Apart t s := fun x hx hs => h x hs hx
/-- how many vertices a list of tours has -/
def cnt (ts : List (List Int)) : Nat := (ts.map fun t => (vsL t).length).sum
theorem cntV_all (ts : List (List Int)) : cntV ts ts.length = cnt ts := by unfold cntV cnt; rw [List.take_length]
/-- tours side by side, in whatever order -/
def FQ (N : Int) (ts : List (List Int)) : Prop := (∀ t ∈ ts, tB t = true ∧ ∀ x ∈ t, x < N) ∧ ts.Pairwise Apart ∧ (cnt ts : Int) = N
theorem cnt_le {ts : List (List Int)} (h : ∀ t ∈ ts, tB t = true) : ts.length ≤ cnt ts := by
  induction ts with
  | nil => simp [cnt]
  | cons t r ih =>
    have h1 := vs_pos (h t (by simp))
    have h2 := ih fun s hs => h s (by simp [hs])
    simp only [cnt, List.map_cons, List.sum_cons, List.length_cons] at h2 ⊢
    omega
/-- neighbours ascend: all ascend -/
theorem asc_all {f : List Int → Int} {ts : List (List Int)} (h : ∀ i t j s, ts[i]? = some t → j + 1 = i → ts[j]? = some s → f s < f t) : ts.Pairwise fun s t => f s < f t := by
  rw [List.pairwise_iff_getElem]
  intro i j hi hj hij
  obtain ⟨d, rfl⟩ : ∃ d, j = i + d + 1 := ⟨j - i - 1, by omega⟩
  clear hij
  induction d with
  | zero => exact h (i + 1) _ i _ (List.getElem?_eq_getElem hj) rfl (List.getElem?_eq_getElem hi)
  | succ d ih =>
    have h1 := ih (by omega)
    have h2 := h (i + (d + 1) + 1) _ (i + d + 1) _ (List.getElem?_eq_getElem hj) rfl (List.getElem?_eq_getElem (by omega))
    omega
theorem FP_iff (N : Int) (ts : List (List Int)) : FP N ts ↔ 1 ≤ N ∧ N ≤ 12 ∧ FQ N ts ∧ ts.Pairwise fun s t => mnV s < mnV t := by
  constructor
  · rintro ⟨h1, h2, _, h4, h5⟩
    rw [cntV_all] at h5
    refine ⟨h1, h2, ⟨fun t ht => ?_, ?_, h5⟩, asc_all fun i t j s ht hj hs => (h4 i t ht).2.2.1 j s hj hs⟩
    · obtain ⟨i, hi⟩ := List.mem_iff_getElem?.1 ht
      exact ⟨(h4 i t hi).1, (h4 i t hi).2.1⟩
    · rw [List.pairwise_iff_getElem]
      intro i j hi hj hij
      exact Apart.symm fun x hx => (h4 j _ (List.getElem?_eq_getElem hj)).2.2.2 i _ hij (List.getElem?_eq_getElem hi) x hx
  · rintro ⟨h1, h2, ⟨h3, h4, h5⟩, h6⟩
    have h7 := cnt_le fun t ht => (h3 t ht).1
    refine ⟨h1, h2, by omega, fun i t ht => ?_, by rw [cntV_all]; exact h5⟩
    obtain ⟨hi, e⟩ := List.getElem?_eq_some_iff.1 ht
    have hm := h3 t (List.mem_of_getElem? ht)
    refine ⟨hm.1, hm.2, fun j s hj hs => ?_, fun k s hk hs x hx hxs => ?_⟩
    · obtain ⟨hj2, e2⟩ := List.getElem?_eq_some_iff.1 hs
      have := List.pairwise_iff_getElem.1 h6 j i hj2 hi (by omega)
      rw [e, e2] at this
      exact this
    · obtain ⟨hk2, e2⟩ := List.getElem?_eq_some_iff.1 hs
      have := List.pairwise_iff_getElem.1 h4 k i hk2 hi hk
      rw [e, e2] at this
      exact this x hxs hx
theorem mn_mem {t : List Int} (hB : tB t = true) : mnV t ∈ t := by
  have h := vs_pos hB
  have hx : (vsL t)[0]? = some ((vsL t)[0]'h) := List.getElem?_eq_getElem h
  rw [mn_first hx]
  exact (vs_mem_of hB).1 (List.getElem_mem h)
theorem mn_range {t : List Int} (hB : tB t = true) {N : Nat} (hx : ∀ x ∈ t, x < (N : Int)) : ∃ j, j < N ∧ mnV t = ((j : Nat) : Int) := by
  have h1 := mn_mem hB
  have h2 := hx _ h1
  have h3 := ((tB_iff t).1 hB).1 _ h1
  unfold vB at h3
  have h3 := of_decide_eq_true h3
  exact ⟨(mnV t).toNat, by omega, by omega⟩
end Go.Proofs.YtkkplppcgnikoaaGreat
namespace Go.Proofs.YtkkplppcgnikoaaGreat
open Go.RowKit Go.Shelf
attribute [local go_sem] Oper.semAt_some

/-- a number, as yield takes it -/
abbrev numV (x : Int) : Array Value := #[.int .i64 x]

set_option maxRecDepth 100000 in
set_option maxHeartbeats 2000000 in
theorem valIt_in (n l B n0 : Nat) (hn : 1 ≤ n) (ls : List Int) (m : Nat) (a : Option Addr) (c : Nat) (hm : m ≤ 3000000) (J Jx : List Int → World → Prop)
    (hY : ∀ pre x W1, J pre W1 → pre.length < m → YieldAt Fence.wide (n - 1) Tryz.prog l (numV x) W1 fun e W' =>
      (e = .returned (.bool true) ∧ J (pre ++ [x]) W' ∧ Below n0 W1 W') ∨ (e = .returned (.bool false) ∧ Jx (pre ++ [x]) W'))
    (W : World) (hBc : W.cell? ⟨B, 0, none⟩ = some (.slice a m c)) (hI : Is W n0 a m ls) (h0 : J [] W) :
    CallsIn Fence.wide n Tryz.prog 281 #[.func (.yield l) #[] #[], .pointer (some ⟨B, 0, none⟩)] W fun e W' => (∃ v, e = .returned v) ∧
      ((∃ ys, ys = ls ∧ J ys W') ∨ (∃ pre, True ∧ Jx pre W')) := by
  obtain ⟨hlen, hrow⟩ := hI
  have HR := hideIt hrow
  clear hrow
  refine callsIn_of_wp Tryz.func281 rfl trivial ?_ rfl
  simp only [Tryz.ntmps281, List.size_toArray, List.length_cons, List.length_nil, Nat.reduceAdd, Nat.reduceSub, Array.replicate_succ, Array.replicate_zero, List.push_toArray, List.append_toArray, List.nil_append, List.cons_append]
  gi_wp2
  gi_loopw [7] (fun i wr => ∃ (k : Nat) (pre : List Int), k ≤ m ∧ i = .int .i64 (k : Int) ∧ pre.length = k ∧ Hid (pre = ls.take k) ∧ Below n0 W wr ∧ J pre wr)
    (fun i _ => m - (intOf i).toNat)
  case atStart => exact ⟨0, [], by omega, rfl, rfl, by show _ = _; simp, Below.refl _ _, h0⟩
  case round =>
    obtain ⟨k, pre, hk, rfl, hpk, HP, hb, hJ⟩ := hrel
    by_cases hlt : k < m
    · rcases HR.out with hz | ⟨b, off, rfl, hbl, hc⟩
      · omega
      · obtain ⟨f, hf⟩ : ∃ f, ls[k]? = some f := ⟨ls[k]'(by omega), List.getElem?_eq_getElem (by omega)⟩
        have e0 : wr.cell? ⟨b, off + k, none⟩ = some (.int .i64 f) := by rw [hb.cell hbl]; exact hc k f hf
        have b1 : (0 : Int) ≤ (k : Int) := by omega
        have b2 : (k : Int) < (m : Int) := by omega
        have HP2 : Hid (pre ++ [f] = ls.take (k + 1)) := by show _ = _; rw [take_snocF ls k f hf, HP.out]
        obtain ⟨fn, tmps, assign, body, hy, hR⟩ := hY pre f wr hJ (by omega)
        dsimp only [numV] at hy
        clear hc hf HP
        gi_wp2
        refine hR.mono ?_
        rintro e W3 (⟨rfl, hJ3, hk3⟩ | ⟨rfl, hJx3⟩)
        · gi_wp2
          exact ⟨⟨k + 1, pre ++ [f], by omega, by go_num, by simp; omega, HP2, hb.trans hk3, hJ3⟩, by simp [intOf]; omega⟩
        · gi_wp2
          (try simp only [Exit.inBlock, Exit.then])
          refine bodyPost_ret (v := .tuple #[]) (results_none rfl _ _ _) rfl ?_
          exact ⟨⟨_, rfl⟩, .inr ⟨_, trivial, hJx3⟩⟩
    · obtain rfl : k = m := by omega
      have HP2 : Hid (pre = ls) := by show _ = _; rw [HP.out, List.take_of_length_le (by omega)]
      clear HP
      gi_wp2
      go_end0
      exact ⟨⟨_, rfl⟩, .inl ⟨pre, HP2.out, hJ⟩⟩

theorem val_stops (n B n0 : Nat) (hn : 1 ≤ n) (ls : List Int) (m : Nat) (a : Option Addr) (c : Nat) (hm : m ≤ 3000000) (w1 : World) (hB : B < w1.heap.size) (hn0 : n0 ≤ w1.heap.size) (hBc : w1.cell? ⟨B, 0, none⟩ = some (.slice a m c)) (hI : Is w1 n0 a m ls) :
    SeqStopsK Fence.wide n Tryz.prog 281 #[.pointer (some ⟨B, 0, none⟩)] numV (Below n0) (fun ys => ys = ls) (fun _ => True) m w1 := fun l J Jx W hW _ _ hY h0 =>
  valIt_in n l B n0 hn ls m a c hm J Jx hY W ((hW.cell (p := ⟨B, 0, none⟩) hB).trans hBc) (hI.below hW hn0) h0

theorem valuesI_any (a : Option Addr) (m c : Nat) (w : World) :
    Calls Tryz.prog 242 #[.slice a m c] w fun e w' => e = .returned (.func (.func 281) #[] #[.pointer (some ⟨w.heap.size, 0, none⟩)]) ∧ w' = w.alloc (.cells #[.slice a m c] 44) := by
  go_enter Tryz.func242, Tryz.ntmps242
  go_wp2
  go_ret
  exact ⟨rfl, rfl⟩

set_option maxRecDepth 100000 in
set_option maxHeartbeats 2000000 in
theorem appSeq_any (ls : List Int) (m : Nat) (a : Option Addr) (c B : Nat) (hm : m ≤ 3000000) (w : World) (hB : B < w.heap.size) (hBc : w.cell? ⟨B, 0, none⟩ = some (.slice a m c)) (h : Is w w.heap.size a m ls) :
    Calls Tryz.prog 318 #[.slice none 0 0, .func (.func 281) #[] #[.pointer (some ⟨B, 0, none⟩)]] w fun e w' => ∃ v, e = .returned v ∧ w'.ownsRow w.heap.size 3 1 v m (ic ls) ∧ Below w.heap.size w w' := by
  obtain ⟨i0, hi, hz0, hz1, hz2⟩ := info_parts info3i
  refine (callsIn_wide (n := 6)).1 ?_
  refine callsIn_of_wp_marks Tryz.func318 rfl trivial ?_ rfl
  simp only [Tryz.ntmps318, List.size_toArray, List.length_cons, List.length_nil, Nat.reduceAdd, Nat.reduceSub, Array.replicate_succ, Array.replicate_zero, List.push_toArray, List.append_toArray, List.nil_append, List.cons_append]
  gi_wp2
  have bS := Boxed.new w 44 (.slice none 0 0)
  have hB0 : Below w.heap.size w (w.alloc (.cells #[.slice none 0 0] 44)) := (Below.refl _ w).alloc (Nat.le_refl _) _
  have hlen := h.1
  have hc0 : (w.alloc (.cells #[.slice none 0 0] 44)).cell? ⟨B, 0, none⟩ = some (.slice a m c) := by rw [hB0.cell (p := ⟨B, 0, none⟩) hB]; exact hBc
  refine wpIn_rangeFunc_ownF rfl (by omega) (gf := 281) (lb := #[.pointer (some ⟨B, 0, none⟩)]) rfl trivial (enters_of Tryz.func281 (by kernel_rfl) rfl)
    (val_stops 5 B w.heap.size (by omega) ls m a c hm _ (by simp; omega) (by simp) hc0 (h.below hB0 (Nat.le_refl _))) belowK_t (belowK_b (by simp)) (Below.refl _ _) (fun _ => rfl)
    (fun pre W => (∃ v, Boxed W w.heap.size 44 v ∧ W.ownsRow w.heap.size 3 1 v pre.length (ic pre) ∧ (v = .slice none 0 0 ↔ pre = [])) ∧ Below w.heap.size w W)
    (fun _ _ _ => False)
    (OwnFrom.and (Own.from (holdsRow_own w.heap.size w.heap.size 44 3 1 (fun pre => pre.length) (fun pre => ic pre) (fun pre v => v = .slice none 0 0 ↔ pre = [])) _) (ownFrom_below (Nat.le_refl _) (by simp)))
    (fun _ _ _ _ _ hs _ _ => hs)
    ⟨⟨_, bS, World.ownsRow_nil _ _ _ _, by simp⟩, hB0⟩
    (fun x => { tmps := #[.slice none 0 0, .func (.func 281) #[] #[.pointer (some ⟨B, 0, none⟩)], .pointer (some ⟨w.heap.size, 0, none⟩), undef, .slice none 0 0, .int .i64 x, .func (.func 281) #[] #[.pointer (some ⟨B, 0, none⟩)], .int .i64 x, undef, undef, undef, undef, undef], defers := [] }) ?assign ?body ?done ?stop
  case assign =>
    intro l x W K hK
    gi_wp2
    exact hK
  case body =>
    rintro l pre x W ⟨⟨v, hv, hrow, hnil⟩, hB1⟩ hlt
    have hc := hv.cell
    have HB := hideIt hB1
    have z1 := hB1.size
    gi_wp2_with (gi_at_builtin; refine wpListIn_append_own _ rfl _ _ 44 rfl w.heap.size 3 i0 _ 1 8 Tryz.underlying44 hi hz0 hz1 hz2 rfl (by decide) _ _ _ rfl (hrow.alloc _) ⟨W.heap.size, 0, none⟩ 1 1 [.int .i64 x] rfl rfl (cell_one_new _ _ _) (by simp [Value.oneCell']) (by unfold maxLen; omega) (by omega) (by simp; omega) ?_; intro v' w1 hown' hgrow _; obtain ⟨g', cap', rfl⟩ := ownsRow_succ hown'; obtain ⟨hv1, hv2, hr2, hk2, hb2⟩ := hv.appended (by decide) hrow z1 (Nat.le_refl _) hown' hgrow; have hc1 := hv1.cell; have hf1 := hv1.frozen)
    exact ⟨hk2, hb2, ⟨_, hv2, by rw [ic_snoc]; simpa using hr2, by simp⟩, HB.out.trans hb2⟩
  case done =>
    rintro D ys W hD rfl ⟨⟨v, hv, hrow, hnil⟩, hB1⟩ hK
    have hc := hv.cell
    have HB := hideIt hB1
    gi_wp2
    refine ⟨by simp, .inl ⟨_, _, rfl, run_takeDeferred hK, ?_⟩⟩
    refine ⟨v, by simp [results, Tryz.results318, go_sem], v, rfl, ?_, ?_⟩
    · rw [← hlen]; exact ownsRow_putObj hrow _ hK rfl
    · exact HB.out.trans (belowK_b (w := w) (Nat.le_refl _) W D _ _ (by simp at hD; omega) hK rfl rfl)
  case stop =>
    rintro D cc pre W _ _ hh _
    exact hh.elim

set_option maxHeartbeats 1000000 in
theorem collect_any (ls : List Int) (m : Nat) (a : Option Addr) (c B : Nat) (hm : m ≤ 3000000) (w : World) (hB : B < w.heap.size) (hBc : w.cell? ⟨B, 0, none⟩ = some (.slice a m c)) (h : Is w w.heap.size a m ls) :
    Calls Tryz.prog 280 #[.func (.func 281) #[] #[.pointer (some ⟨B, 0, none⟩)]] w fun e w' => ∃ v, e = .returned v ∧ w'.ownsRow w.heap.size 3 1 v m (ic ls) ∧ Below w.heap.size w w' := by
  have HA := hideIt (appSeq_any ls m a c B hm w hB hBc h)
  clear h hBc
  go_enter Tryz.func280, Tryz.ntmps280
  go_wp2_with (go_at_call 318; refine HA.out.mono ?_; rintro e w1 ⟨v, rfl, ho, hb⟩)
  go_ret
  exact ⟨v, rfl, ho, hb⟩
end Go.Proofs.YtkkplppcgnikoaaGreat
namespace Go.Proofs.YtkkplppcgnikoaaGreat
open Go.RowKit

theorem openBad {t : List Int} (h : openB t = false) : tB t = false := by rw [tB_eq, h, Bool.and_false]

/-- the path in the making and the table of what was seen -/
structure PSt (wb : World) (g n c : Nat) (ls : List Int) (gs : Nat) (ss : List Int) (u : World) : Prop where
  own : u.ownsRow wb.heap.size 3 1 (.slice (some ⟨g, 0, none⟩) n c) n (ic ls)
  arr : ∀ j : Nat, j < 12 → u.cell? ⟨gs, j, none⟩ = some (.bool (decide ((j : Int) ∈ ss)))
  frz : ∀ j : Nat, u.frozen? ⟨gs, j, none⟩ = false
  ne : g ≠ gs
  lo : wb.heap.size ≤ gs
  hi : gs < u.heap.size
  bel : Below wb.heap.size wb u

theorem PSt.size {wb : World} {g n c gs : Nat} {ls ss : List Int} {u : World} (h : PSt wb g n c ls gs ss u) : wb.heap.size ≤ u.heap.size := h.bel.size
theorem PSt.len {wb : World} {g n c gs : Nat} {ls ss : List Int} {u : World} (h : PSt wb g n c ls gs ss u) : ls.length = n := by have := h.own.1; rw [ic_len] at this; omega
theorem PSt.cut {wb : World} {g n c gs m : Nat} {ls ss : List Int} {u : World} (h : PSt wb g n c ls gs ss u) (hm : m ≤ n) : PSt wb g m c (ls.take m) gs ss u :=
  ⟨by have := own_cut h.own hm; rw [ic, ← List.map_take] at this; exact this, h.arr, h.frz, h.ne, h.lo, h.hi, h.bel⟩
theorem PSt.cell {wb : World} {g n c gs : Nat} {ls ss : List Int} {u : World} (h : PSt wb g n c ls gs ss u) {j : Nat} {x : Int} (hx : ls[j]? = some x) : u.cell? ⟨g, j, none⟩ = some (.int .i64 x) := by
  have hj := (List.getElem?_eq_some_iff.1 hx).1
  have := h.len
  rw [h.own.cellAt j (by omega)]
  exact ic_at hx
theorem PSt.cap {wb : World} {g n c gs : Nat} {ls ss : List Int} {u : World} (h : PSt wb g n c ls gs ss u) : n ≤ c := by
  rcases h.own.2 with ⟨hv, _⟩ | ⟨g2, cap, cur, hv, hb, hg, hnc, _⟩
  · simp at hv
  · simp only [Value.slice.injEq, Option.some.injEq, Addr.mk.injEq, and_true, true_and] at hv
    obtain ⟨rfl, rfl⟩ := hv
    exact hnc
theorem PSt.app {wb : World} {g n c gs : Nat} {ls ss : List Int} {u : World} (h : PSt wb g n c ls gs ss u) {x : Int} {o : Obj} {G cap : Nat} {u' : World}
    (ho : u'.ownsRow wb.heap.size 3 1 (.slice (some ⟨G, 0, none⟩) (n + 1) cap) (n + 1) (ic ls ++ [.int .i64 x])) (hg : (u.alloc o).grownBy u' (some g)) (hG : (some g : Option Nat) = some G ∨ G = u.heap.size + 1) :
    PSt wb G (n + 1) cap (ls ++ [x]) gs ss u' := by
  have hhi := h.hi
  have hb : u'.heap[gs]? = u.heap[gs]? := by
    rw [hg.block gs (by simp; omega) (by simp; exact fun e => h.ne e.symm)]
    exact Below.heap_alloc u o gs hhi
  refine ⟨by rw [ic_snoc]; exact ho, fun j hj => ?_, fun j => ?_, ?_, h.lo, by have := hg.size; simp at this; omega, ?_⟩
  · rw [World.cell?_of_block (w := u) (a := ⟨gs, j, none⟩) hb]; exact h.arr j hj
  · rw [World.frozen?_of_block (w := u) (a := ⟨gs, j, none⟩) hb]; exact h.frz j
  · rcases hG with hG | hG
    · simp at hG; rw [← hG]; exact h.ne
    · omega
  · exact (h.bel.alloc h.size _).grown hg (by have := h.size; simp; omega) (fun j hj => by simp at hj; subst hj; exact (h.own.lt g rfl).1)
theorem PSt.put {wb : World} {g n c gs : Nat} {ls ss : List Int} {u : World} (h : PSt wb g n c ls gs ss u) (x : Nat) (hx : x < 12) : PSt wb g n c ls gs ((x : Int) :: ss) (u.setCell ⟨gs, x, none⟩ (.bool true)) := by
  refine ⟨own_setOther h.own gs x _ h.ne, fun j hj => ?_, fun j => ?_, h.ne, h.lo, by simp [World.setCell]; exact h.hi, h.bel.setCell (p := ⟨gs, x, none⟩) h.lo _⟩
  · by_cases hjx : j = x
    · subst hjx
      rw [World.cell?_setCell_same u ⟨gs, j, none⟩ _ (h.arr j hj)]
      simp
    · rw [World.cell?_setCell_other]
      · rw [h.arr j hj]
        have : ¬ ((j : Int) = (x : Int)) := by omega
        simp [this]
      · exact fun e => hjx (by simpa using e.symm)
  · rw [World.frozen?_setCell]; exact h.frz j
theorem PSt.start (wb : World) (o : Array Value) (ho : o = #[.bool false, .bool false, .bool false, .bool false, .bool false, .bool false, .bool false, .bool false, .bool false, .bool false, .bool false, .bool false]) :
    PSt wb wb.heap.size 0 0 [] (wb.heap.size + 1) [] ((wb.alloc (.cells #[] 3)).alloc (.cells o 336)) := by
  have hs : (wb.alloc (.cells #[] 3)).heap.size = wb.heap.size + 1 := by simp
  have hb : ((wb.alloc (.cells #[] 3)).alloc (.cells o 336)).heap[wb.heap.size + 1]? = some (.cells o 336 (0, 0)) := by
    have := heap_alloc_new (wb.alloc (.cells #[] 3)) (.cells o 336)
    rw [hs] at this
    exact this
  have h0 := World.ownsRow_lit (base := wb.heap.size) (e := 3) (size := 1) wb #[] 0 (Nat.le_refl _) (by unfold maxLen; omega) (by simp)
  refine ⟨by simpa [ic] using h0.alloc _, fun j hj => ?_, fun j => frozen_of_row _ _ j _ _ hb, by omega, by omega, by simp, ((Below.refl _ _).alloc (Nat.le_refl _) _).alloc (by simp) _⟩
  rw [cell_of_row _ _ j _ _ _ hb, ho]
  rcases (show j = 0 ∨ j = 1 ∨ j = 2 ∨ j = 3 ∨ j = 4 ∨ j = 5 ∨ j = 6 ∨ j = 7 ∨ j = 8 ∨ j = 9 ∨ j = 10 ∨ j = 11 by omega) with h | h | h | h | h | h | h | h | h | h | h | h <;> subst h <;> rfl

theorem beyond_no (f : Int) (h : vB f = true) (w : World) : Calls Tryz.prog 243 #[.int .i64 f] w fun e w' => e = .returned (.bool false) ∧ w' = w := by
  simp [vB] at h
  have d1 : decide (f < 0) = false := decide_eq_false (by omega)
  have d2 : decide (12 ≤ f) = false := decide_eq_false (by omega)
  go_enter Tryz.func243, Tryz.ntmps243
  go_wp2
  go_ret
  exact ⟨rfl, rfl⟩
theorem beyond_yes (f : Int) (h : vB f = false) (w : World) : Calls Tryz.prog 243 #[.int .i64 f] w fun e w' => e = .returned (.bool true) ∧ w' = w := by
  simp [vB] at h
  by_cases h0 : f < 0
  · have d1 : decide (f < 0) = true := decide_eq_true h0
    go_enter Tryz.func243, Tryz.ntmps243
    go_wp2
    go_ret
    exact ⟨rfl, rfl⟩
  · have d1 : decide (f < 0) = false := decide_eq_false h0
    have d2 : decide (12 ≤ f) = true := decide_eq_true (by omega)
    go_enter Tryz.func243, Tryz.ntmps243
    go_wp2
    go_ret
    exact ⟨rfl, rfl⟩

set_option maxRecDepth 100000 in
set_option maxHeartbeats 4000000 in
theorem iTourOk_any (t : List Int) (n : Nat) (a : Option Addr) (c : Nat) (hn : n ≤ 3000000) (w : World) (h : Is w w.heap.size a n t) :
    Calls Tryz.prog 274 #[.slice a n c] w fun e w' => e = .returned (.bool (tB t)) ∧ Below w.heap.size w w' := by
  obtain ⟨i0, hi, hz0, hz1, hz2⟩ := info_parts info3i
  obtain ⟨hlen, hrow⟩ := h
  have HR := hideIt hrow
  clear hrow
  have hst0 := PSt.start w _ rfl
  go_enter Tryz.func274, Tryz.ntmps274
  go_wp2
  go_loopw [3, 12] (fun r i wr => ∃ (k n1 g1 c1 : Nat) (wy sn : List Int), k ≤ n ∧ i = .int .i64 (k : Int) ∧ r = .slice (some ⟨g1, 0, none⟩) n1 c1 ∧ n1 ≤ k ∧ Hid (trun [] [] (t.take k) = some (wy, sn)) ∧ Hid (∀ (j : Nat) (f : Int), j < k → t[j]? = some f → vB f = true) ∧ PSt w g1 n1 c1 wy.reverse (w.heap.size + 1) sn wr) (fun _ i _ => n - (intOf i).toNat)
  case atStart => exact ⟨0, 0, _, 0, [], [], by omega, rfl, rfl, by omega, by show _ = _; rfl, fun j _ hj => by omega, hst0⟩
  case round =>
    obtain ⟨k, n1, g1, c1, wy, sn, hk, rfl, rfl, hn1, HT, HV, hst⟩ := hrel
    clear hst0
    by_cases hlt : k < n
    · rcases HR.out with hz | ⟨b, off, rfl, hbl, hc⟩
      · omega
      · obtain ⟨f, hf⟩ : ∃ f, t[k]? = some f := ⟨t[k]'(by omega), List.getElem?_eq_getElem (by omega)⟩
        have e0 : wr.cell? ⟨b, off + k, none⟩ = some (.int .i64 f) := by rw [hst.bel.cell hbl]; exact hc k f hf
        have b1 : (0 : Int) ≤ (k : Int) := by omega
        have b2 : (k : Int) < (n : Int) := by omega
        cases hv : vB f with
        | false =>
          have HB := hideIt (tB_bad hf hv)
          have HW := hideIt hst.bel
          have HY := hideIt (beyond_yes f hv wr)
          clear hc hf HT HV hst hv
          go_wp2_with (go_at_call 243; refine HY.out.mono ?_; rintro e w1 ⟨rfl, hw⟩; have hw' := hw.symm; subst hw'; clear hw)
          go_ret
          exact ⟨by rw [HB.out]; rfl, HW.out⟩
        | true =>
          have hv' := hv
          simp [vB] at hv'
          obtain ⟨vn, rfl⟩ : ∃ vn : Nat, f = (vn : Int) := ⟨f.toNat, by omega⟩
          have hvn : vn < 12 := by omega
          have HV2 : Hid (∀ (j : Nat) (x : Int), j < k + 1 → t[j]? = some x → vB x = true) := fun j x hj hx => by
            by_cases h7 : j = k
            · rw [h7, hf] at hx; simp at hx; rw [← hx]; exact hv
            · exact HV.out j x (by omega) hx
          have HS := hideIt (show trun [] [] (t.take (k + 1)) = tstep wy sn (vn : Int) by rw [take_snocF t k _ hf, trun_snoc, HT.out]; rfl)
          have d1 : decide ((vn : Int) < 0) = false := decide_eq_false (by omega)
          have d2 : decide (12 ≤ (vn : Int)) = false := decide_eq_false (by omega)
          have v1 : (0 : Int) ≤ (vn : Int) := by omega
          have v2 : (vn : Int) < 12 := by omega
          have HY := hideIt (beyond_no (vn : Int) hv wr)
          clear hv hv' HV hc
          go_wp2_with (go_at_call 243; refine HY.out.mono ?_; rintro e w1 ⟨rfl, hw⟩; have hw' := hw.symm; subst hw'; clear hw; refine Hid.out ?_)
          refine (show ∀ {p : Prop}, p → Hid p from fun h => h) ?_
          clear HY
          by_cases hw1 : wy.length ≤ 1
          · have hl1 := hst.len
            rw [List.length_reverse] at hl1
            have d0 : decide (0 < (n1 : Int) - 1) = false := decide_eq_false (by omega)
            obtain ⟨lw, hlw⟩ : ∃ l, l = wy.reverse := ⟨_, rfl⟩
            rw [← hlw] at hst
            have HLW := hideIt hlw
            clear hlw
            have ha := hst.arr vn (by omega)
            by_cases hs : (vn : Int) ∈ sn
            · have HS2 := hideIt (openBad (trun_none (HS.out.trans (tstep_bad1 hw1 hs))))
              rw [decide_eq_true hs] at ha
              have HB := hideIt hst.bel
              clear HS HT hf hst hs
              go_wp2
              go_ret
              exact ⟨by rw [HS2.out]; rfl, HB.out⟩
            · have HS2 := hideIt (HS.out.trans (tstep_down1 hw1 hs))
              rw [decide_eq_false hs] at ha
              have z1 := hst.size
              have HST := hideIt hst
              have HA := hideIt (fun g3 c3 u' (ho : u'.ownsRow w.heap.size 3 1 (.slice (some ⟨g3, 0, none⟩) (n1 + 1) c3) (n1 + 1) (ic lw ++ [.int .i64 (vn : Int)])) (hg : (wr.alloc (.cells #[.int .i64 (vn : Int)] 3)).grownBy u' (some g1)) hG => hst.app ho hg hG)
              clear HS HT hf hst hs
              go_wp2_with (at_builtin; refine wpList_append_lies _ rfl _ _ 44 rfl w.heap.size 3 i0 _ 1 8 Tryz.underlying44 hi hz0 hz1 hz2 rfl (by decide) _ _ _ rfl (HST.out.own.alloc _) ⟨wr.heap.size, 0, none⟩ 1 1 [.int .i64 (vn : Int)] rfl rfl (newsI wr (vn : Int)) (by intro u hu; simp at hu; subst hu; rfl) (by omega) (by unfold maxLen; omega) (by omega) (by simp; omega) (wr.heap.size + 1) (by simp) ?_)
              intro g3 c3 w3 hown3 hg3 hG3 _
              have S3 := HA.out g3 c3 w3 hown3 hg3 hG3
              clear hown3 hg3 hG3 HST HA z1 ha
              have q0 := S3.arr vn (by omega)
              have q1 := S3.frz vn
              have HS4 := hideIt (S3.put vn (by omega))
              clear S3
              go_wp2
              exact ⟨⟨k + 1, n1 + 1, g3, c3, (vn : Int) :: wy, (vn : Int) :: sn, by omega, by go_num, rfl, by omega, HS2, HV2, by rw [List.reverse_cons, ← HLW.out]; exact HS4.out⟩, by simp [intOf]; omega⟩
          · match wy, hst, HS, hw1 with
            | [], _, _, hw1 => exact absurd (by simp) hw1
            | [_], _, _, hw1 => exact absurd (by simp) hw1
            | c0 :: p :: q, hst, HS, _ =>
              have hl1 := hst.len
              simp only [List.length_reverse, List.length_cons] at hl1
              have m1 : wr.cell? ⟨g1, n1 - 2, none⟩ = some (.int .i64 p) := hst.cell (by rw [show n1 - 2 = q.length by omega]; exact rev_at2 q c0 p)
              have e1 : (((n1 : Int) - 1 - 1).toNat) = n1 - 2 := by omega
              have d0 : decide (0 < (n1 : Int) - 1) = true := decide_eq_true (by omega)
              have b3 : (0 : Int) ≤ (n1 : Int) - 1 - 1 := by omega
              have b4 : (n1 : Int) - 1 - 1 < (n1 : Int) := by omega
              by_cases hp : (vn : Int) = p
              · have d3 : (p == (vn : Int)) = true := by simpa using hp.symm
                have hcap := hst.cap
                have b5 : (0 : Int) ≤ (n1 : Int) - 1 := by omega
                have b6 : (n1 : Int) - 1 ≤ (c1 : Int) := by omega
                have e2 : (((n1 : Int) - 1).toNat) = n1 - 1 := by omega
                have HS2 := hideIt (HS.out.trans (tstep_up hp))
                have HST := hideIt (hst.cut (m := n1 - 1) (by omega))
                rw [show (c0 :: p :: q).reverse.take (n1 - 1) = (p :: q).reverse by rw [show n1 - 1 = q.length + 1 by omega]; exact rev_take1 q c0 p] at HST
                clear HS HT hf hst hp
                go_wp2
                exact ⟨⟨k + 1, n1 - 1, g1, c1, p :: q, sn, by omega, by go_num, rfl, by omega, HS2, HV2, HST.out⟩, by simp [intOf]; omega⟩
              · have d3 : (p == (vn : Int)) = false := by simpa using Ne.symm hp
                obtain ⟨lw, hlw⟩ : ∃ l, l = (c0 :: p :: q).reverse := ⟨_, rfl⟩
                rw [← hlw] at hst
                have HLW := hideIt hlw
                clear hlw
                have ha := hst.arr vn (by omega)
                by_cases hs : (vn : Int) ∈ sn
                · have HS2 := hideIt (openBad (trun_none (HS.out.trans (tstep_bad2 hp hs))))
                  rw [decide_eq_true hs] at ha
                  have HB := hideIt hst.bel
                  clear HS HT hf hst hs
                  go_wp2
                  go_ret
                  exact ⟨by rw [HS2.out]; rfl, HB.out⟩
                · have HS2 := hideIt (HS.out.trans (tstep_down2 hp hs))
                  rw [decide_eq_false hs] at ha
                  have z1 := hst.size
                  have HST := hideIt hst
                  have HA := hideIt (fun g3 c3 u' (ho : u'.ownsRow w.heap.size 3 1 (.slice (some ⟨g3, 0, none⟩) (n1 + 1) c3) (n1 + 1) (ic lw ++ [.int .i64 (vn : Int)])) (hg : (wr.alloc (.cells #[.int .i64 (vn : Int)] 3)).grownBy u' (some g1)) hG => hst.app ho hg hG)
                  clear HS HT hf hst hs
                  go_wp2_with (at_builtin; refine wpList_append_lies _ rfl _ _ 44 rfl w.heap.size 3 i0 _ 1 8 Tryz.underlying44 hi hz0 hz1 hz2 rfl (by decide) _ _ _ rfl (HST.out.own.alloc _) ⟨wr.heap.size, 0, none⟩ 1 1 [.int .i64 (vn : Int)] rfl rfl (newsI wr (vn : Int)) (by intro u hu; simp at hu; subst hu; rfl) (by omega) (by unfold maxLen; omega) (by omega) (by simp; omega) (wr.heap.size + 1) (by simp) ?_)
                  intro g3 c3 w3 hown3 hg3 hG3 _
                  have S3 := HA.out g3 c3 w3 hown3 hg3 hG3
                  clear hown3 hg3 hG3 HST HA z1 ha
                  have q0 := S3.arr vn (by omega)
                  have q1 := S3.frz vn
                  have HS4 := hideIt (S3.put vn (by omega))
                  clear S3
                  go_wp2
                  exact ⟨⟨k + 1, n1 + 1, g3, c3, (vn : Int) :: (c0 :: p :: q), (vn : Int) :: sn, by omega, by go_num, rfl, by omega, HS2, HV2, by rw [List.reverse_cons, ← HLW.out]; exact HS4.out⟩, by simp [intOf]; omega⟩
    · obtain rfl : k = n := by omega
      have HO : Hid (tB t = ((n1 : Int) == 1)) := by
        show _ = _
        have h1 := HT.out
        rw [List.take_of_length_le (by omega)] at h1
        have h2 := hst.len
        simp only [List.length_reverse] at h2
        rw [tB_eq, all_of_at (fun j f hf => HV.out j f (by have := (List.getElem?_eq_some_iff.1 hf).1; omega) hf), Bool.true_and]
        unfold openB
        rw [h1]
        show (wy.length == 1) = _
        rw [h2, Bool.eq_iff_iff]
        simp
        omega
      have HB := hideIt hst.bel
      clear HT HV hst
      go_wp2
      go_ret
      exact ⟨by rw [HO.out]; rfl, HB.out⟩
end Go.Proofs.YtkkplppcgnikoaaGreat
namespace Go.Proofs
open Go.Shelf
def Tryz.laysSlE43_f240_ren : Go.Shelf.Ren := ⟨fun | 43 => 240 | n => n, fun | 22 => 44 | 23 => 3 | 3 => 3 | 4 => 4 | 0 => 0 | n => n, fun | n => n⟩
theorem Tryz.laysSlE43_f240 : Go.Proofs.SlLaysE.n43 Tryz.prog Tryz.laysSlE43_f240_ren := {
  mixed := by kernel_rfl
  f43 := ⟨Tryz.f240.name, by decide, Tryz.func240.trans (congrArg some (by kernel_rfl))⟩
  t0 := Tryz.underlying0
  a0 := Tryz.isAgg0
  z0 := Tryz.sizeOf0
  v0 := Tryz.zeroValue0
  t3 := Tryz.underlying3
  a3 := Tryz.isAgg3
  z3 := Tryz.sizeOf3
  v3 := Tryz.zeroValue3
  t4 := Tryz.underlying4
  a4 := Tryz.isAgg4
  z4 := Tryz.sizeOf4
  v4 := Tryz.zeroValue4
  t22 := Tryz.underlying44
  a22 := Tryz.isAgg44
  z22 := Tryz.sizeOf44
  v22 := Tryz.zeroValue44
  a23 := Tryz.isAgg3
  z23 := Tryz.sizeOf3 }
open Go.RowKit Go.Lib Go.Sort in
theorem Tryz.slices_Compact {α : Type} [Inhabited α] [DecidableEq α] (enc : α → Value) (hO : OneCell enc) (heq : EqlAt Tryz.prog 3 enc (fun x y => decide (x = y))) (hne : NeqAt Tryz.prog 3 enc (fun x y => decide (x = y))) (zr : α) (v23 : ∀ w, (zeroValue 3).run Tryz.prog w = .ok (enc zr) w) (blk off cap : Nat) (d : Array α) (w : World) (hH : Holds enc w blk off d) (hsz : d.size ≤ 9223372036854775807) (hcap : d.size ≤ cap) :
    Calls Tryz.prog 240 #[.slice (some ⟨blk, off, none⟩) d.size cap] w fun e w' => e = .returned (.slice (some ⟨blk, off, none⟩) (compactUpTo d d.size).length cap) ∧ ∃ q, w' = putRow enc (Sort.ahead w q) blk off (compactUpTo d d.size ++ List.replicate (d.size - (compactUpTo d d.size).length) zr).toArray := AnyE.slices_Compact Tryz.laysSlE43_f240 enc hO heq hne zr v23 blk off cap d w hH hsz hcap
def Tryz.laysSlH6_f279_ren : Go.Shelf.Ren := ⟨fun | 6 => 279 | n => n, fun | 22 => 44 | 23 => 3 | 25 => 158 | 3 => 3 | 0 => 0 | 4 => 4 | n => n, fun | n => n⟩
theorem Tryz.laysSlH6_f279 : Go.Proofs.SlLaysH.n6 Tryz.prog Tryz.laysSlH6_f279_ren := {
  mixed := by kernel_rfl
  f6 := ⟨Tryz.f279.name, by decide, Tryz.func279.trans (congrArg some (by kernel_rfl))⟩
  t0 := Tryz.underlying0
  a0 := Tryz.isAgg0
  z0 := Tryz.sizeOf0
  v0 := Tryz.zeroValue0
  t3 := Tryz.underlying3
  a3 := Tryz.isAgg3
  z3 := Tryz.sizeOf3
  v3 := Tryz.zeroValue3
  t4 := Tryz.underlying4
  a4 := Tryz.isAgg4
  z4 := Tryz.sizeOf4
  v4 := Tryz.zeroValue4
  t22 := Tryz.underlying44
  a22 := Tryz.isAgg44
  z22 := Tryz.sizeOf44
  v22 := Tryz.zeroValue44
  a23 := Tryz.isAgg3
  z23 := Tryz.sizeOf3
  t25 := Tryz.underlying158
  a25 := Tryz.isAgg158
  z25 := Tryz.sizeOf158
  v25 := Tryz.zeroValue158 }
open Go.RowKit Go.Lib in
theorem Tryz.slices_IndexFunc_empty {α : Type} [Inhabited α] (a : Option Addr) (c : Nat) (fv : Value) (w : World) :
    Calls Tryz.prog 279 #[.slice a 0 c, fv] w fun e w' => e = .returned (.int .i64 (-1)) ∧ w' = w := AnyE.slices_IndexFunc_empty Tryz.laysSlH6_f279 a c fv w
def Tryz.laysSlH10_f239_ren : Go.Shelf.Ren := ⟨fun | 10 => 239 | 6 => 279 | n => n, fun | 22 => 44 | 23 => 3 | 25 => 158 | 3 => 3 | 4 => 4 | 0 => 0 | n => n, fun | n => n⟩
theorem Tryz.laysSlH10_f239 : Go.Proofs.SlLaysH.n10 Tryz.prog Tryz.laysSlH10_f239_ren := {
  mixed := by kernel_rfl
  f6 := ⟨Tryz.f279.name, by decide, Tryz.func279.trans (congrArg some (by kernel_rfl))⟩
  f10 := ⟨Tryz.f239.name, by decide, Tryz.func239.trans (congrArg some (by kernel_rfl))⟩
  t0 := Tryz.underlying0
  a0 := Tryz.isAgg0
  z0 := Tryz.sizeOf0
  v0 := Tryz.zeroValue0
  t3 := Tryz.underlying3
  a3 := Tryz.isAgg3
  z3 := Tryz.sizeOf3
  v3 := Tryz.zeroValue3
  t4 := Tryz.underlying4
  a4 := Tryz.isAgg4
  z4 := Tryz.sizeOf4
  v4 := Tryz.zeroValue4
  t22 := Tryz.underlying44
  a22 := Tryz.isAgg44
  z22 := Tryz.sizeOf44
  v22 := Tryz.zeroValue44
  a23 := Tryz.isAgg3
  z23 := Tryz.sizeOf3
  t25 := Tryz.underlying158
  a25 := Tryz.isAgg158
  z25 := Tryz.sizeOf158
  v25 := Tryz.zeroValue158 }
open Go.RowKit Go.Lib Go.Sort in
theorem Tryz.slices_DeleteFunc {α : Type} [Inhabited α] (enc : α → Value) (hO : OneCell enc) (p : α → Bool) (g : Nat) (lb : Array Value) (eg : ∀ args w, (callFunc g args).run Tryz.prog w = .ok (.enter g args) w) (zr : α) (v23 : ∀ w, (zeroValue 3).run Tryz.prog w = .ok (enc zr) w) (blk off cap : Nat) (d : Array α) (w : World) (hp : PredAt Tryz.prog g lb enc p w) (hpo : PredOver Tryz.prog g lb enc p blk off d.size w) (hH : Holds enc w blk off d) (hsz : d.size ≤ 9223372036854775807) (hcap : d.size ≤ cap) :
    Calls Tryz.prog 239 #[.slice (some ⟨blk, off, none⟩) d.size cap, .func (.func g) #[] lb] w fun e w' => e = .returned (.slice (some ⟨blk, off, none⟩) (d.toList.filter fun x => !p x).length cap) ∧ ∃ q, w' = putRow enc (Sort.ahead w q) blk off ((d.toList.filter fun x => !p x) ++ List.replicate (d.size - (d.toList.filter fun x => !p x).length) zr).toArray := AnyE.slices_DeleteFunc Tryz.laysSlH10_f239 enc hO p g lb eg zr v23 blk off cap d w hp hpo hH hsz hcap
def Tryz.laysSlM5_f276_ren : Go.Shelf.Ren := ⟨fun | 5 => 276 | 8 => 254 | 7 => 317 | 19 => 301 | 20 => 302 | 10 => 333 | 11 => 334 | 12 => 335 | 13 => 336 | 14 => 337 | 15 => 338 | 16 => 339 | 17 => 340 | 18 => 341 | 30 => 343 | 31 => 327 | 32 => 328 | 33 => 344 | 34 => 345 | 35 => 255 | 40 => 346 | n => n, fun | 23 => 44 | 25 => 3 | 3 => 3 | 32 => 235 | 22 => 44 | 0 => 0 | 44 => 147 | 46 => 320 | 4 => 4 | 36 => 313 | 35 => 312 | 41 => 88 | 5 => 5 | 9 => 9 | 53 => 344 | 57 => 348 | 63 => 358 | 64 => 359 | n => n, fun | n => n⟩
theorem Tryz.laysSlM5_f276 : Go.Proofs.SlLaysM.n5 Tryz.prog Tryz.laysSlM5_f276_ren := {
  mixed := by kernel_rfl
  f5 := ⟨Tryz.f276.name, by decide, Tryz.func276.trans (congrArg some (by kernel_rfl))⟩
  f7 := ⟨Tryz.f317.name, by decide, Tryz.func317.trans (congrArg some (by kernel_rfl))⟩
  f8 := Tryz.func254.trans (congrArg some (by kernel_rfl))
  f10 := ⟨Tryz.f333.name, by decide, Tryz.func333.trans (congrArg some (by kernel_rfl))⟩
  f11 := ⟨Tryz.f334.name, by decide, Tryz.func334.trans (congrArg some (by kernel_rfl))⟩
  f12 := ⟨Tryz.f335.name, by decide, Tryz.func335.trans (congrArg some (by kernel_rfl))⟩
  f13 := ⟨Tryz.f336.name, by decide, Tryz.func336.trans (congrArg some (by kernel_rfl))⟩
  f14 := ⟨Tryz.f337.name, by decide, Tryz.func337.trans (congrArg some (by kernel_rfl))⟩
  f15 := ⟨Tryz.f338.name, by decide, Tryz.func338.trans (congrArg some (by kernel_rfl))⟩
  f16 := ⟨Tryz.f339.name, by decide, Tryz.func339.trans (congrArg some (by kernel_rfl))⟩
  f17 := ⟨Tryz.f340.name, by decide, Tryz.func340.trans (congrArg some (by kernel_rfl))⟩
  f18 := ⟨Tryz.f341.name, by decide, Tryz.func341.trans (congrArg some (by kernel_rfl))⟩
  f19 := Tryz.func301.trans (congrArg some (by kernel_rfl))
  f20 := Tryz.func302.trans (congrArg some (by kernel_rfl))
  f30 := ⟨Tryz.f343.name, by decide, Tryz.func343.trans (congrArg some (by kernel_rfl))⟩
  f31 := Tryz.func327.trans (congrArg some (by kernel_rfl))
  f32 := Tryz.func328.trans (congrArg some (by kernel_rfl))
  f33 := ⟨Tryz.f344.name, by decide, Tryz.func344.trans (congrArg some (by kernel_rfl))⟩
  f34 := ⟨Tryz.f345.name, by decide, Tryz.func345.trans (congrArg some (by kernel_rfl))⟩
  f35 := ⟨Tryz.f255.name, by decide, Tryz.func255.trans (congrArg some (by kernel_rfl))⟩
  f40 := ⟨Tryz.f346.name, by decide, Tryz.func346.trans (congrArg some (by kernel_rfl))⟩
  t0 := Tryz.underlying0
  a0 := Tryz.isAgg0
  z0 := Tryz.sizeOf0
  v0 := Tryz.zeroValue0
  t3 := Tryz.underlying3
  a3 := Tryz.isAgg3
  z3 := Tryz.sizeOf3
  v3 := Tryz.zeroValue3
  t4 := Tryz.underlying4
  a4 := Tryz.isAgg4
  z4 := Tryz.sizeOf4
  v4 := Tryz.zeroValue4
  t5 := Tryz.underlying5
  a5 := Tryz.isAgg5
  z5 := Tryz.sizeOf5
  v5 := Tryz.zeroValue5
  t9 := Tryz.underlying9
  a9 := Tryz.isAgg9
  z9 := Tryz.sizeOf9
  v9 := Tryz.zeroValue9
  t22 := Tryz.underlying44
  a22 := Tryz.isAgg44
  z22 := Tryz.sizeOf44
  v22 := Tryz.zeroValue44
  t23 := Tryz.underlying44
  a23 := Tryz.isAgg44
  z23 := Tryz.sizeOf44
  v23 := Tryz.zeroValue44
  t25 := Tryz.underlying3
  a25 := Tryz.isAgg3
  z25 := Tryz.sizeOf3
  v25 := Tryz.zeroValue3
  t32 := Tryz.underlying235
  a32 := Tryz.isAgg235
  z32 := Tryz.sizeOf235
  v32 := Tryz.zeroValue235
  t35 := Tryz.underlying312
  a35 := Tryz.isAgg312
  z35 := Tryz.sizeOf312
  v35 := Tryz.zeroValue312
  t36 := Tryz.underlying313
  a36 := Tryz.isAgg313
  z36 := Tryz.sizeOf313
  v36 := Tryz.zeroValue313
  t41 := Tryz.underlying88
  a41 := Tryz.isAgg88
  z41 := Tryz.sizeOf88
  v41 := Tryz.zeroValue88
  t44 := Tryz.underlying147
  a44 := Tryz.isAgg147
  z44 := Tryz.sizeOf147
  v44 := Tryz.zeroValue147
  t46 := Tryz.underlying320
  a46 := Tryz.isAgg320
  z46 := Tryz.sizeOf320
  v46 := Tryz.zeroValue320
  t53 := Tryz.underlying344
  a53 := Tryz.isAgg344
  z53 := Tryz.sizeOf344
  v53 := Tryz.zeroValue344
  t57 := Tryz.underlying348
  a57 := Tryz.isAgg348
  z57 := Tryz.sizeOf348
  v57 := Tryz.zeroValue348
  t63 := Tryz.underlying358
  a63 := Tryz.isAgg358
  z63 := Tryz.sizeOf358
  v63 := Tryz.zeroValue358
  t64 := Tryz.underlying359
  a64 := Tryz.isAgg359
  z64 := Tryz.sizeOf359
  v64 := Tryz.zeroValue359 }
open Go.Sort Go.RowKit in
theorem Tryz.slices_Sort_int (blk off cap : Nat) (zs : List Int) (w : World) (hH : Holds (Value.int .i64) w blk off zs.toArray) (hblk : blk < w.heap.size) (hsz : zs.length < 4611686018427387904) :
    Calls Tryz.prog 276 #[.slice (some ⟨blk, off, none⟩) zs.length cap] w fun e w' =>
      e = .returned (.tuple #[]) ∧ ∃ n os, w' = grow (putRow (Value.int .i64) (Sort.ahead w n) blk off (zs.mergeSort fun x y => decide (x ≤ y)).toArray) os := AnyM.slices_Sort_int Tryz.laysSlM5_f276 blk off cap zs w hH hblk hsz
open Go.RowKit Go.Sort in
theorem Tryz.slices_Sort_int_none (p : Option Addr) (cap : Nat) (w : World) :
    Calls Tryz.prog 276 #[.slice p 0 cap] w fun e w' => e = .returned (.tuple #[]) ∧ w' = w := AnyM.slices_Sort_int_none Tryz.laysSlM5_f276 p cap w
end Go.Proofs
namespace Go.Proofs.YtkkplppcgnikoaaGreat
open Go.RowKit Go.Sort Go.Lib

/-- a row of ints over which another list is laid, and which is cut -/
theorem own_put {w : World} {base g cap n k : Nat} {os : Array Obj} {cur : Array Value} {ts : List Int} (hbase : base ≤ g) (hb : w.heap[g]? = some (.cells cur 3 (0, 0))) (hl : ts.length ≤ cap) (hcap : cap ≤ maxLen) (hcur : cur.size = cap * 1) (hk : k ≤ ts.length) :
    (grow (putRow (Value.int .i64) (Sort.ahead w n) g 0 ts.toArray) os).ownsRow base 3 1 (.slice (some ⟨g, 0, none⟩) k cap) k (ic (ts.take k)) := by
  refine ⟨by rw [ic_len, List.length_take]; omega, .inr ⟨g, cap, _, rfl, hbase, heap_sortedI _ hb, by omega, hcap, by simp [putCells, hcur], ?_⟩⟩
  have h := take_putCellsI cur ts (by omega)
  have h2 := congrArg (List.take k) h
  rw [List.take_take, Nat.min_eq_left hk] at h2
  rw [Nat.mul_one, h2, ic, List.map_take]
theorem own_put0 {w : World} {base g cap n k : Nat} {cur : Array Value} {ts : List Int} (hbase : base ≤ g) (hb : w.heap[g]? = some (.cells cur 3 (0, 0))) (hl : ts.length ≤ cap) (hcap : cap ≤ maxLen) (hcur : cur.size = cap * 1) (hk : k ≤ ts.length) :
    (putRow (Value.int .i64) (Sort.ahead w n) g 0 ts.toArray).ownsRow base 3 1 (.slice (some ⟨g, 0, none⟩) k cap) k (ic (ts.take k)) := by
  have h := own_put (n := n) (os := #[]) hbase hb hl hcap hcur hk
  rw [grow_empty] at h
  exact h
theorem put_grown {w : World} {g n : Nat} (d : Array Int) : w.grownBy (putRow (Value.int .i64) (Sort.ahead w n) g 0 d) (some g) := by
  have h := grownBy_sortedI (w := w) (g := g) (n := n) (os := #[]) d
  rw [grow_empty] at h
  exact h

set_option maxHeartbeats 1000000 in
theorem sorted_any (ls : List Int) (m : Nat) (a : Option Addr) (c B : Nat) (hm : m ≤ 3000000) (w : World) (hB : B < w.heap.size) (hBc : w.cell? ⟨B, 0, none⟩ = some (.slice a m c)) (h : Is w w.heap.size a m ls) :
    Calls Tryz.prog 241 #[.func (.func 281) #[] #[.pointer (some ⟨B, 0, none⟩)]] w fun e w' => ∃ v, e = .returned v ∧ w'.ownsRow w.heap.size 3 1 v m (ic (ls.mergeSort fun x y => decide (x ≤ y))) ∧ Below w.heap.size w w' := by
  have HA := hideIt (collect_any ls m a c B hm w hB hBc h)
  have HL := hideIt h.1
  clear h hBc
  go_enter Tryz.func241, Tryz.ntmps241
  go_wp2_with (go_at_call 280; refine HA.out.mono ?_; rintro e w1 ⟨v, rfl, ho, hb⟩; refine Hid.out ?_)
  refine (show ∀ {p : Prop}, p → Hid p from fun h => h) ?_
  rcases ho.2 with ⟨rfl, h0⟩ | ⟨g, cap, cur, rfl, hg, hgb, r1, r2, r3, r4⟩
  · have HS := hideIt (Tryz.slices_Sort_int_none none 0 w1)
    have HO : Hid (w1.ownsRow w.heap.size 3 1 (.slice none 0 0) m (ic (ls.mergeSort fun x y => decide (x ≤ y)))) := by
      have e : ls = [] := List.eq_nil_of_length_eq_zero (by rw [HL.out, h0])
      subst e
      rw [List.mergeSort_nil]
      exact ho
    clear ho HA
    go_wp2_with (go_at_call 276; refine HS.out.mono ?_; rintro e w2 ⟨rfl, hw⟩; have hw' := hw.symm; subst hw'; clear hw)
    go_ret
    exact ⟨_, rfl, HO.out, hb⟩
  · have hgl : g < w1.heap.size := (Array.getElem?_eq_some_iff.1 hgb).1
    have HS := Tryz.slices_Sort_int g 0 cap ls w1 (holds_of_blockI hgb (by have := HL.out; rw [this]; rw [Nat.mul_one] at r4; exact r4)) hgl (by have := HL.out; omega)
    rw [HL.out] at HS
    have HS := hideIt HS
    have HO : Hid (∀ n os, (grow (putRow (Value.int .i64) (Sort.ahead w1 n) g 0 (ls.mergeSort fun x y => decide (x ≤ y)).toArray) os).ownsRow w.heap.size 3 1 (.slice (some ⟨g, 0, none⟩) m cap) m (ic (ls.mergeSort fun x y => decide (x ≤ y)))) := fun n os => by
      have := ownsRow_sortedI (n := n) (os := os) (ss := ls) (ts := ls.mergeSort fun x y => decide (x ≤ y)) (by rw [List.length_mergeSort]) hg hgb (by rw [HL.out]; exact r1) r2 r3
      rw [HL.out] at this
      exact this
    have HB : Hid (∀ n os, Below w.heap.size w (grow (putRow (Value.int .i64) (Sort.ahead w1 n) g 0 (ls.mergeSort fun x y => decide (x ≤ y)).toArray) os)) := fun n os => hb.grown (grownBy_sortedI _) hb.size (fun j e => by cases e; exact hg)
    obtain ⟨ss, hss⟩ : ∃ ss, (ls.mergeSort fun x y => decide (x ≤ y)) = ss := ⟨_, rfl⟩
    rw [hss] at HS HO HB
    have HSS := hideIt hss
    clear hss
    clear ho HA hgb r1 r2 r3 r4
    go_wp2_with (go_at_call 276; refine HS.out.mono ?_; rintro e w2 ⟨rfl, n, os, rfl⟩)
    go_ret
    exact ⟨_, rfl, by rw [HSS.out]; exact HO.out n os, HB.out n os⟩

theorem comp_nil (w : World) : Calls Tryz.prog 240 #[.slice none 0 0] w fun e w' => e = .returned (.slice none 0 0) ∧ w' = w := by
  go_enter Tryz.func240, Tryz.ntmps240
  go_wp2
  go_ret
  exact ⟨rfl, rfl⟩
set_option maxHeartbeats 1000000 in
theorem comp_any (ls : List Int) (m : Nat) (v : Value) (B : Nat) (hm : m ≤ 3000000) (w : World) (h : w.ownsRow B 3 1 v m (ic ls)) :
    Calls Tryz.prog 240 #[v] w fun e w' => ∃ v' k, e = .returned v' ∧ w'.ownsRow B 3 1 v' k (ic (compactUpTo ls.toArray ls.toArray.size)) ∧ k ≤ m ∧ (B ≤ w.heap.size → Below B w w') := by
  have hl := h.1
  rw [ic_len, Nat.mul_one] at hl
  rcases h.2 with ⟨rfl, h0⟩ | ⟨g, cap, cur, rfl, hg, hgb, r1, r2, r3, r4⟩
  · refine (comp_nil w).mono ?_
    rintro e w' ⟨rfl, rfl⟩
    have e : ls = [] := List.eq_nil_of_length_eq_zero (by omega)
    subst e
    exact ⟨_, 0, rfl, by simpa [compactUpTo, ic] using World.ownsRow_nil _ _ _ _, by omega, fun _ => Below.refl _ _⟩
  · have hc := Tryz.slices_Compact (Value.int .i64) (fun _ => rfl) (EqlAt.intD _ _ _) (NeqAt.intD _ _ _) (0 : Int) Tryz.zeroValue3 g 0 cap ls.toArray w (holds_of_blockI hgb (by rw [hl]; rw [Nat.mul_one] at r4; exact r4)) (by simp; omega) (by simp; omega)
    rw [show ls.toArray.size = m by simpa using hl] at hc ⊢
    refine hc.mono ?_
    rintro e w' ⟨rfl, q, rfl⟩
    have hle : (compactUpTo ls.toArray m).length ≤ m := by
      have := List.length_filter_le (keeps ls.toArray) (List.range m)
      simpa [compactUpTo] using this
    refine ⟨_, _, rfl, ?_, hle, fun hB => (Below.refl _ w).grown (put_grown _) hB (fun j e => by cases e; exact hg)⟩
    have := own_put0 (n := q) (k := (compactUpTo ls.toArray m).length) (ts := compactUpTo ls.toArray m ++ List.replicate (m - (compactUpTo ls.toArray m).length) 0) hg hgb (by simp; omega) r2 r3 (by simp)
    rw [List.take_left' rfl] at this
    exact this

theorem by_gives (x : Int) (W : World) : FnGives Tryz.prog 243 #[] #[.int .i64 x] (.bool (!vB x)) W := by
  show Calls Tryz.prog 243 #[.int .i64 x] W _
  cases h : vB x with
  | true => exact (beyond_no x h W).mono fun e w' ⟨h1, h2⟩ => ⟨h1, 0, h2⟩
  | false => exact (beyond_yes x h W).mono fun e w' ⟨h1, h2⟩ => ⟨h1, 0, h2⟩
theorem del_nil (w : World) : Calls Tryz.prog 239 #[.slice none 0 0, .func (.func 243) #[] #[]] w fun e w' => e = .returned (.slice none 0 0) ∧ w' = w := by
  have H := hideIt (Tryz.slices_IndexFunc_empty (α := Int) none 0 (.func (.func 243) #[] #[]) w)
  go_enter Tryz.func239, Tryz.ntmps239
  go_wp2_with (go_at_call 279; refine H.out.mono ?_; rintro e w' ⟨rfl, hw⟩; have hw' := hw.symm; subst hw'; clear hw)
  go_ret
  exact ⟨rfl, rfl⟩
set_option maxHeartbeats 1000000 in
theorem del_any (ls : List Int) (m : Nat) (v : Value) (B : Nat) (hm : m ≤ 3000000) (w : World) (h : w.ownsRow B 3 1 v m (ic ls)) :
    Calls Tryz.prog 239 #[v, .func (.func 243) #[] #[]] w fun e w' => ∃ v' k, e = .returned v' ∧ w'.ownsRow B 3 1 v' k (ic (ls.filter fun x => !(!vB x))) ∧ k ≤ m ∧ (B ≤ w.heap.size → Below B w w') := by
  have hl := h.1
  rw [ic_len, Nat.mul_one] at hl
  rcases h.2 with ⟨rfl, h0⟩ | ⟨g, cap, cur, rfl, hg, hgb, r1, r2, r3, r4⟩
  · refine (del_nil w).mono ?_
    rintro e w' ⟨rfl, rfl⟩
    have e : ls = [] := List.eq_nil_of_length_eq_zero (by omega)
    subst e
    exact ⟨_, 0, rfl, by simpa [ic] using World.ownsRow_nil _ _ _ _, by omega, fun _ => Below.refl _ _⟩
  · have hc := Tryz.slices_DeleteFunc (Value.int .i64) (fun _ => rfl) (fun x => !vB x) 243 #[] (enters_of Tryz.func243 (by kernel_rfl) rfl) (0 : Int) Tryz.zeroValue3 g 0 cap ls.toArray w
      (fun W x _ => by_gives x W) (fun n os dk x _ => by_gives x _) (holds_of_blockI hgb (by rw [hl]; rw [Nat.mul_one] at r4; exact r4)) (by simp; omega) (by simp; omega)
    rw [show ls.toArray.size = m by simpa using hl] at hc
    refine hc.mono ?_
    rintro e w' ⟨rfl, q, rfl⟩
    have hle : (ls.filter fun x => !(!vB x)).length ≤ m := by
      have := List.length_filter_le (fun x => !(!vB x)) ls
      omega
    refine ⟨_, _, rfl, ?_, hle, fun hB => (Below.refl _ w).grown (put_grown _) hB (fun j e => by cases e; exact hg)⟩
    have := own_put0 (n := q) (k := (ls.filter fun x => !(!vB x)).length) (ts := (ls.filter fun x => !(!vB x)) ++ List.replicate (m - (ls.filter fun x => !(!vB x)).length) 0) hg hgb (by simp; simp at hle; omega) r2 r3 (by simp)
    rw [List.take_left' rfl] at this
    exact this

set_option maxHeartbeats 2000000 in
theorem iVertsOf_any (t : List Int) (n : Nat) (a : Option Addr) (c : Nat) (hn : n ≤ 3000000) (w : World) (h : Is w w.heap.size a n t) :
    Calls Tryz.prog 169 #[.slice a n c] w fun e w' => ∃ a' m c', e = .returned (.slice a' m c') ∧ w'.ownsRow w.heap.size 3 1 (.slice a' m c') m (ic (vsL t)) ∧ Below w.heap.size w w' := by
  have b0 : Below w.heap.size w (w.alloc (.cells #[.slice a n c] 44)) := (Below.refl _ w).alloc (Nat.le_refl _) _
  have HV := hideIt (valuesI_any a n c w)
  have HS := hideIt (sorted_any t n a c w.heap.size hn (w.alloc (.cells #[.slice a n c] 44)) (by simp) (by simp) (h.up b0))
  have HB0 := hideIt b0
  have HE := hideIt (vsI_eq t)
  unfold vsI at HE
  clear h b0
  generalize (t.mergeSort fun x y => decide (x ≤ y)) = ss at HS HE
  go_enter Tryz.func169, Tryz.ntmps169
  go_wp2_with (first | (go_at_call 242; refine HV.out.mono ?_; rintro e w1 ⟨rfl, rfl⟩) | (go_at_call 241; refine HS.out.mono ?_; rintro e w2 ⟨v, rfl, ho, hb⟩; refine Hid.out ?_))
  refine (show ∀ {p : Prop}, p → Hid p from fun h => h) ?_
  have HC := hideIt (comp_any ss n v w.heap.size hn w2 (own_mono ho (by simp)))
  have B2 := HB0.out.trans (hb.mono (by simp))
  clear HV HS ho hb
  go_wp2_with (go_at_call 240; refine HC.out.mono ?_; rintro e w3 ⟨v3, k3, rfl, ho3, hk3, hb3⟩; refine Hid.out ?_)
  refine (show ∀ {p : Prop}, p → Hid p from fun h => h) ?_
  have HD := hideIt (del_any _ k3 v3 w.heap.size (by omega) w3 ho3)
  have B3 := B2.trans (hb3 B2.size)
  rw [HE.out] at HD
  clear HC ho3 hb3
  go_wp2_with (go_at_call 239; refine HD.out.mono ?_; rintro e w4 ⟨v4, k4, rfl, ho4, hk4, hb4⟩)
  have B4 := B3.trans (hb4 B3.size)
  obtain ⟨a4, c4, rfl⟩ := own_form ho4
  go_ret
  exact ⟨a4, k4, c4, rfl, ho4, B4⟩
end Go.Proofs.YtkkplppcgnikoaaGreat
