/- slices.Values over edges, and slices.Collect of it: each edge, in order, in a list of its own. The library's sorting by a comparison, at this program, by the shelf's own laying in plain words. slices.SortedFunc of a list of edges by compareEdges: the edges ascending, in a list of their own. A graph in a box of its own. What is around a vertex: by the program's way and by the specification's. (No walk.). The program's Around. -/
import Derived.RangeFuncNested
import Derived.RangeFuncBound
import Derived.RangeFuncCalls
import Derived.RangeFuncLeaves
import Derived.RangeFuncBox
import Derived.Shelf.Abstract
import Derived.Shelf.RegionOpen
import Derived.WalkKit
import Derived.OwnWalkIn
import Derived.TacticsInMore
import Derived.LoopNIn
import Derived.LoopIn
import Derived.Maps.AppendAt
import Derived.Test.YtkkplppcgnikoaaGreatKSAdd9
import Derived.Shelf.SlSortCmp.NoneTotal
import Derived.Test.YtkkplppcgnikoaaGreatProg
import Derived.Test.YtkkplppcgnikoaaGreatKCon9
import Derived.Test.YtkkplppcgnikoaaGreatKTourP
import Derived.Test.YtkkplppcgnikoaaGreatKITrees
namespace Go.Proofs.YtkkplppcgnikoaaGreat
open Go.RowKit Go.Shelf
attribute [local go_sem] Oper.semAt_some

/-- an edge, as yield takes it -/
abbrev edgV (x : EdgeV) : Array Value := #[.agg #[.int .i64 x.1, .int .i64 x.2]]

set_option maxRecDepth 100000 in
set_option maxHeartbeats 2000000 in
theorem valItE_in (n l B n0 : Nat) (hn : 1 ≤ n) (ls : List EdgeV) (m : Nat) (a : Option Addr) (c : Nat) (hm : m ≤ 3000000) (J Jx : List EdgeV → World → Prop) (W : World) (hn0 : n0 ≤ W.heap.size) (hJa : AbidesFrom W.heap.size J)
    (hY : ∀ pre x W1, J pre W1 → pre.length < m → YieldAt Fence.wide (n - 1) Tryz.prog l (edgV x) W1 fun e W' =>
      (e = .returned (.bool true) ∧ J (pre ++ [x]) W' ∧ Below n0 W1 W') ∨ (e = .returned (.bool false) ∧ Jx (pre ++ [x]) W'))
    (hBc : W.cell? ⟨B, 0, none⟩ = some (.slice a m c)) (hI : Es W n0 a m ls) (h0 : J [] W) :
    CallsIn Fence.wide n Tryz.prog 191 #[.func (.yield l) #[] #[], .pointer (some ⟨B, 0, none⟩)] W fun e W' => (∃ v, e = .returned v) ∧
      ((∃ ys, ys = ls ∧ J ys W') ∨ (∃ pre, True ∧ Jx pre W')) := by
  obtain ⟨hlen, hrow⟩ := hI
  have HR := hideIt hrow
  clear hrow
  have HJ := hideIt (fun s X o (hs : J s X) => hJa s X (X.alloc o) none hs (World.grownBy_alloc X o none) (fun r e => by cases e))
  refine callsIn_of_wp Tryz.func191 rfl trivial ?_ rfl
  simp only [Tryz.ntmps191, List.size_toArray, List.length_cons, List.length_nil, Nat.reduceAdd, Nat.reduceSub, Array.replicate_succ, Array.replicate_zero, List.push_toArray, List.append_toArray, List.nil_append, List.cons_append]
  gi_wp2
  gi_loopw [7] (fun i wr => ∃ (k : Nat) (pre : List EdgeV), k ≤ m ∧ i = .int .i64 (k : Int) ∧ pre.length = k ∧ Hid (pre = ls.take k) ∧ Below n0 W wr ∧ J pre wr)
    (fun i _ => m - (intOf i).toNat)
  case atStart => exact ⟨0, [], by omega, rfl, rfl, by show _ = _; simp, Below.refl _ _, h0⟩
  case round =>
    obtain ⟨k, pre, hk, rfl, hpk, HP, hb, hJ⟩ := hrel
    by_cases hlt : k < m
    · rcases HR.out with hz | ⟨b, off, rfl, hbl, hc⟩
      · omega
      · obtain ⟨f, hf⟩ : ∃ f, ls[k]? = some f := ⟨ls[k]'(by omega), List.getElem?_eq_getElem (by omega)⟩
        have e0 : wr.cell? ⟨b, off + k * 2, none⟩ = some (.int .i64 f.1) := by rw [hb.cell hbl]; exact (hc k f hf).1
        have e1 : wr.cell? ⟨b, off + k * 2 + 1, none⟩ = some (.int .i64 f.2) := by rw [hb.cell hbl]; exact (hc k f hf).2
        have b1 : (0 : Int) ≤ (k : Int) := by omega
        have b2 : (k : Int) < (m : Int) := by omega
        have HP2 : Hid (pre ++ [f] = ls.take (k + 1)) := by show _ = _; rw [take_snocF ls k f hf, HP.out]
        have hsz := hb.size
        obtain ⟨fn, tmps, assign, body, hy, hR⟩ := hY pre f (wr.alloc (.cells #[.int .i64 f.1, .int .i64 f.2] 28)) (HJ.out pre wr _ hJ) (by omega)
        dsimp only [edgV] at hy
        have HBa := hideIt (hb.alloc (by omega) (.cells #[.int .i64 f.1, .int .i64 f.2] 28))
        clear hc hf HP hJ hb
        gi_wp2
        refine hR.mono ?_
        rintro e W3 (⟨rfl, hJ3, hk3⟩ | ⟨rfl, hJx3⟩)
        · gi_wp2
          exact ⟨⟨k + 1, pre ++ [f], by omega, by go_num, by simp; omega, HP2, HBa.out.trans hk3, hJ3⟩, by simp [intOf]; omega⟩
        · gi_wp2
          (try simp only [Exit.inBlock, Exit.then])
          refine bodyPost_ret (v := .tuple #[]) (results_none rfl _ _ _) rfl ?_
          exact ⟨⟨_, rfl⟩, .inr ⟨_, trivial, hJx3⟩⟩
    · obtain rfl : k = m := by omega
      have HP2 : Hid (pre = ls) := by show _ = _; rw [HP.out, List.take_of_length_le (by omega)]
      clear HP
      gi_wp2
      go_end0
      exact ⟨⟨_, rfl⟩, .inl ⟨pre, HP2.out, hJ⟩⟩

theorem valE_stops (n B n0 : Nat) (hn : 1 ≤ n) (ls : List EdgeV) (m : Nat) (a : Option Addr) (c : Nat) (hm : m ≤ 3000000) (w1 : World) (hB : B < w1.heap.size) (hn0 : n0 ≤ w1.heap.size) (hBc : w1.cell? ⟨B, 0, none⟩ = some (.slice a m c)) (hI : Es w1 n0 a m ls) :
    SeqStopsK Fence.wide n Tryz.prog 191 #[.pointer (some ⟨B, 0, none⟩)] edgV (Below n0) (fun ys => ys = ls) (fun _ => True) m w1 := fun l J Jx W hW hJ _ hY h0 =>
  valItE_in n l B n0 hn ls m a c hm J Jx W (Nat.le_trans hn0 hW.size) hJ hY ((hW.cell (p := ⟨B, 0, none⟩) hB).trans hBc) (hI.below hW hn0) h0

theorem valuesE_any (a : Option Addr) (m c : Nat) (w : World) :
    Calls Tryz.prog 103 #[.slice a m c] w fun e w' => e = .returned (.func (.func 191) #[] #[.pointer (some ⟨w.heap.size, 0, none⟩)]) ∧ w' = w.alloc (.cells #[.slice a m c] 31) := by
  go_enter Tryz.func103, Tryz.ntmps103
  go_wp2
  go_ret
  exact ⟨rfl, rfl⟩

set_option maxRecDepth 100000 in
set_option maxHeartbeats 2000000 in
theorem appSeqE_any (ls : List EdgeV) (m : Nat) (a : Option Addr) (c B : Nat) (hm : m ≤ 3000000) (w : World) (hB : B < w.heap.size) (hBc : w.cell? ⟨B, 0, none⟩ = some (.slice a m c)) (h : Es w w.heap.size a m ls) :
    Calls Tryz.prog 252 #[.slice none 0 0, .func (.func 191) #[] #[.pointer (some ⟨B, 0, none⟩)]] w fun e w' => ∃ v, e = .returned v ∧ w'.ownsRow w.heap.size 28 2 v m (ecells ls) ∧ Below w.heap.size w w' := by
  obtain ⟨i0, hi, hz0, hz1, hz2⟩ := info_parts infoIE
  refine (callsIn_wide (n := 6)).1 ?_
  refine callsIn_of_wp_marks Tryz.func252 rfl trivial ?_ rfl
  simp only [Tryz.ntmps252, List.size_toArray, List.length_cons, List.length_nil, Nat.reduceAdd, Nat.reduceSub, Array.replicate_succ, Array.replicate_zero, List.push_toArray, List.append_toArray, List.nil_append, List.cons_append]
  gi_wp2
  have bS := Boxed.new w 31 (.slice none 0 0)
  have hB0 : Below w.heap.size w (w.alloc (.cells #[.slice none 0 0] 31)) := (Below.refl _ w).alloc (Nat.le_refl _) _
  have hlen := h.1
  have hc0 : (w.alloc (.cells #[.slice none 0 0] 31)).cell? ⟨B, 0, none⟩ = some (.slice a m c) := by rw [hB0.cell (p := ⟨B, 0, none⟩) hB]; exact hBc
  refine wpIn_rangeFunc_ownH rfl (by omega) (gf := 191) (lb := #[.pointer (some ⟨B, 0, none⟩)]) rfl trivial (enters_of Tryz.func191 (by kernel_rfl) rfl)
    (valE_stops 5 B w.heap.size (by omega) ls m a c hm _ (by simp; omega) (by simp) hc0 (h.below hB0 (Nat.le_refl _))) belowK_t (belowK_b (by simp)) (Below.refl _ _) (fun _ => rfl)
    (fun pre W => (∃ v, Boxed W w.heap.size 31 v ∧ W.ownsRow w.heap.size 28 2 v pre.length (ecells pre) ∧ (v = .slice none 0 0 ↔ pre = [])) ∧ Below w.heap.size w W)
    (fun _ _ _ => False)
    (OwnFrom.and (Own.from (holdsRow_own w.heap.size w.heap.size 31 28 2 (fun pre => pre.length) (fun pre => ecells pre) (fun pre v => v = .slice none 0 0 ↔ pre = [])) _) (ownFrom_below (Nat.le_refl _) (by simp)))
    (fun _ _ _ _ _ hs _ _ => hs)
    ⟨⟨_, bS, World.ownsRow_nil _ _ _ _, by simp⟩, hB0⟩
    (fun x a' W => ∃ Bx, w.heap.size < Bx ∧ W.heap[Bx]? = some (.cells #[.int .i64 x.1, .int .i64 x.2] 28 (0, 0)) ∧ a' = { tmps := #[.slice none 0 0, .func (.func 191) #[] #[.pointer (some ⟨B, 0, none⟩)], .pointer (some ⟨w.heap.size, 0, none⟩), undef, .slice none 0 0, .pointer (some ⟨Bx, 0, none⟩), .func (.func 191) #[] #[.pointer (some ⟨B, 0, none⟩)], .agg #[.int .i64 x.1, .int .i64 x.2], undef, undef, undef, undef, undef], defers := [] })
    ?hAx ?assign ?body ?done ?stop
  case hAx =>
    rintro x a' _ X Y row ⟨Bx, h1, h2, h3⟩ hg hr
    refine ⟨Bx, h1, ?_, h3⟩
    rw [hg.block Bx (Array.getElem?_eq_some_iff.1 h2).1 (fun e' => by obtain ⟨_, o, ho, hc⟩ := hr Bx e'.symm; rw [h2] at ho; cases ho; cases hc)]
    exact h2
  case assign =>
    rintro l pre x W K ⟨⟨v, hv, hrow, hnil⟩, hB1⟩ hK
    have hlt := hv.lt
    gi_wp2
    exact hK _ _ ((KeepsOthers.alloc _ _).from _) ((Below.refl _ W).alloc hB1.size _) ⟨⟨v, hv.alloc _, hrow.alloc _, hnil⟩, hB1.alloc hB1.size _⟩ ⟨W.heap.size, hlt, heap_alloc_new W _, rfl⟩
  case body =>
    rintro l pre x a' W hl ⟨r, hr⟩ ⟨⟨v, hv, hrow, hnil⟩, hB1⟩ ⟨Bx, hBx, bX, rfl⟩ hlt
    have hc := hv.cell
    have x0 : W.cell? ⟨Bx, 0, none⟩ = some (.int .i64 x.1) := by rw [cell_of_row W Bx 0 _ _ _ bX]; rfl
    have x1 : W.cell? ⟨Bx, 1, none⟩ = some (.int .i64 x.2) := by rw [cell_of_row W Bx 1 _ _ _ bX]; rfl
    have HB := hideIt hB1
    have z1 := hB1.size
    clear hr bX
    gi_wp2_with (gi_at_builtin; refine wpListIn_append_own _ rfl _ _ 31 rfl w.heap.size 28 i0 _ 2 16 Tryz.underlying31 hi hz0 hz1 hz2 rfl (by decide) _ _ _ rfl (hrow.alloc _) ⟨W.heap.size, 0, none⟩ 1 1 [.int .i64 x.1, .int .i64 x.2] rfl rfl (news1 _ _) (by intro u hu; simp at hu; rcases hu with rfl | rfl <;> rfl) (by unfold maxLen; omega) (by omega) (by simp; omega) ?_; intro v' w1 hown' hgrow _; obtain ⟨g', cap', rfl⟩ := ownsRow_succ hown'; obtain ⟨hv1, hv2, hr2, hk2, hb2⟩ := hv.appended (by decide) hrow z1 (Nat.le_refl _) hown' hgrow; have hc1 := hv1.cell; have hf1 := hv1.frozen)
    exact ⟨hk2.from _, hb2, ⟨_, hv2, by rw [ecells_snoc]; simpa using hr2, by simp⟩, HB.out.trans hb2⟩
  case done =>
    rintro D ys W hD rfl ⟨⟨v, hv, hrow, hnil⟩, hB1⟩ hK
    have hc := hv.cell
    have HB := hideIt hB1
    gi_wp2
    refine ⟨by simp, .inl ⟨_, _, rfl, run_takeDeferred hK, ?_⟩⟩
    refine ⟨v, by simp [results, Tryz.results252, go_sem], v, rfl, ?_, ?_⟩
    · rw [← hlen]; exact ownsRow_putObj hrow _ hK rfl
    · exact HB.out.trans (belowK_b (w := w) (Nat.le_refl _) W D _ _ (by simp at hD; omega) hK rfl rfl)
  case stop =>
    rintro D cc pre W _ _ hh _
    exact hh.elim

set_option maxHeartbeats 1000000 in
theorem collectE_any (ls : List EdgeV) (m : Nat) (a : Option Addr) (c B : Nat) (hm : m ≤ 3000000) (w : World) (hB : B < w.heap.size) (hBc : w.cell? ⟨B, 0, none⟩ = some (.slice a m c)) (h : Es w w.heap.size a m ls) :
    Calls Tryz.prog 189 #[.func (.func 191) #[] #[.pointer (some ⟨B, 0, none⟩)]] w fun e w' => ∃ v, e = .returned v ∧ w'.ownsRow w.heap.size 28 2 v m (ecells ls) ∧ Below w.heap.size w w' := by
  have HA := hideIt (appSeqE_any ls m a c B hm w hB hBc h)
  clear h hBc
  go_enter Tryz.func189, Tryz.ntmps189
  go_wp2_with (go_at_call 252; refine HA.out.mono ?_; rintro e w1 ⟨v, rfl, ho, hb⟩)
  go_ret
  exact ⟨v, rfl, ho, hb⟩
end Go.Proofs.YtkkplppcgnikoaaGreat
namespace Go.Proofs
open Go.Shelf
def Tryz.laysSF_ren : Go.Shelf.Ren := ⟨fun | 6 => 190 | 15 => 254 | 14 => 253 | 28 => 301 | 29 => 302 | 20 => 293 | 21 => 294 | 22 => 295 | 23 => 296 | 24 => 297 | 25 => 298 | 26 => 299 | 27 => 300 | 46 => 326 | 47 => 327 | 48 => 328 | 49 => 329 | 50 => 330 | 57 => 342 | n => n, fun | 22 => 31 | 24 => 28 | 25 => 166 | 3 => 3 | 39 => 235 | 0 => 0 | 53 => 147 | 55 => 320 | 4 => 4 | 46 => 313 | 45 => 312 | 50 => 88 | 5 => 5 | 9 => 9 | 66 => 344 | 70 => 348 | 76 => 358 | 77 => 359 | n => n, fun | n => n⟩
theorem Tryz.laysSF : Go.Proofs.SlLaysF0.n6 Tryz.prog Tryz.laysSF_ren := {
  mixed := by kernel_rfl
  f6 := ⟨Tryz.f190.name, by decide, Tryz.func190.trans (congrArg some (by kernel_rfl))⟩
  f14 := ⟨Tryz.f253.name, by decide, Tryz.func253.trans (congrArg some (by kernel_rfl))⟩
  f15 := Tryz.func254.trans (congrArg some (by kernel_rfl))
  f20 := ⟨Tryz.f293.name, by decide, Tryz.func293.trans (congrArg some (by kernel_rfl))⟩
  f21 := ⟨Tryz.f294.name, by decide, Tryz.func294.trans (congrArg some (by kernel_rfl))⟩
  f22 := ⟨Tryz.f295.name, by decide, Tryz.func295.trans (congrArg some (by kernel_rfl))⟩
  f23 := ⟨Tryz.f296.name, by decide, Tryz.func296.trans (congrArg some (by kernel_rfl))⟩
  f24 := ⟨Tryz.f297.name, by decide, Tryz.func297.trans (congrArg some (by kernel_rfl))⟩
  f25 := ⟨Tryz.f298.name, by decide, Tryz.func298.trans (congrArg some (by kernel_rfl))⟩
  f26 := ⟨Tryz.f299.name, by decide, Tryz.func299.trans (congrArg some (by kernel_rfl))⟩
  f27 := ⟨Tryz.f300.name, by decide, Tryz.func300.trans (congrArg some (by kernel_rfl))⟩
  f28 := Tryz.func301.trans (congrArg some (by kernel_rfl))
  f29 := Tryz.func302.trans (congrArg some (by kernel_rfl))
  f46 := ⟨Tryz.f326.name, by decide, Tryz.func326.trans (congrArg some (by kernel_rfl))⟩
  f47 := Tryz.func327.trans (congrArg some (by kernel_rfl))
  f48 := Tryz.func328.trans (congrArg some (by kernel_rfl))
  f49 := ⟨Tryz.f329.name, by decide, Tryz.func329.trans (congrArg some (by kernel_rfl))⟩
  f50 := ⟨Tryz.f330.name, by decide, Tryz.func330.trans (congrArg some (by kernel_rfl))⟩
  f57 := ⟨Tryz.f342.name, by decide, Tryz.func342.trans (congrArg some (by kernel_rfl))⟩
  t0 := Tryz.underlying0
  a0 := Tryz.isAgg0
  z0 := Tryz.sizeOf0
  v0 := Tryz.zeroValue0
  t3 := Tryz.underlying3
  a3 := Tryz.isAgg3
  z3 := Tryz.sizeOf3
  v3 := Tryz.zeroValue3
  t4 := Tryz.underlying4
  a4 := Tryz.isAgg4
  z4 := Tryz.sizeOf4
  v4 := Tryz.zeroValue4
  t5 := Tryz.underlying5
  a5 := Tryz.isAgg5
  z5 := Tryz.sizeOf5
  v5 := Tryz.zeroValue5
  t9 := Tryz.underlying9
  a9 := Tryz.isAgg9
  z9 := Tryz.sizeOf9
  v9 := Tryz.zeroValue9
  t22 := Tryz.underlying31
  a22 := Tryz.isAgg31
  z22 := Tryz.sizeOf31
  v22 := Tryz.zeroValue31
  t25 := Tryz.underlying166
  a25 := Tryz.isAgg166
  z25 := Tryz.sizeOf166
  v25 := Tryz.zeroValue166
  t39 := Tryz.underlying235
  a39 := Tryz.isAgg235
  z39 := Tryz.sizeOf235
  v39 := Tryz.zeroValue235
  t45 := Tryz.underlying312
  a45 := Tryz.isAgg312
  z45 := Tryz.sizeOf312
  v45 := Tryz.zeroValue312
  t46 := Tryz.underlying313
  a46 := Tryz.isAgg313
  z46 := Tryz.sizeOf313
  v46 := Tryz.zeroValue313
  t50 := Tryz.underlying88
  a50 := Tryz.isAgg88
  z50 := Tryz.sizeOf88
  v50 := Tryz.zeroValue88
  t53 := Tryz.underlying147
  a53 := Tryz.isAgg147
  z53 := Tryz.sizeOf147
  v53 := Tryz.zeroValue147
  t55 := Tryz.underlying320
  a55 := Tryz.isAgg320
  z55 := Tryz.sizeOf320
  v55 := Tryz.zeroValue320
  t66 := Tryz.underlying344
  a66 := Tryz.isAgg344
  z66 := Tryz.sizeOf344
  v66 := Tryz.zeroValue344
  t70 := Tryz.underlying348
  a70 := Tryz.isAgg348
  z70 := Tryz.sizeOf348
  v70 := Tryz.zeroValue348
  t76 := Tryz.underlying358
  a76 := Tryz.isAgg358
  z76 := Tryz.sizeOf358
  v76 := Tryz.zeroValue358
  t77 := Tryz.underlying359
  a77 := Tryz.isAgg359
  z77 := Tryz.sizeOf359
  v77 := Tryz.zeroValue359 }
end Go.Proofs
namespace Go.Proofs.YtkkplppcgnikoaaGreat
open Go.RowKit Go.Sort Go.Lib

set_option maxHeartbeats 1000000 in
theorem compareEdges_grow (d e : EdgeV) (w : World) :
    Calls Tryz.prog 104 #[.agg #[.int .i64 d.1, .int .i64 d.2], .agg #[.int .i64 e.1, .int .i64 e.2]] w fun x w' => x = .returned (.int .i64 (cmpE d e)) ∧ ∃ q os', w' = grow (w.drewN q) os' := by
  obtain ⟨a, b⟩ := d
  obtain ⟨c, f⟩ := e
  dsimp only
  have HC := hideIt cmpCompare_any
  have HO : Hid (Calls Tryz.prog 192 #[.slice (some ⟨w.heap.size + 1 + 1, 0, none⟩) 2 2] (((w.alloc (.cells #[.int .i64 a, .int .i64 b] 28)).alloc (.cells #[.int .i64 c, .int .i64 f] 28)).alloc (.cells #[.int .i64 (cmpI a c), .int .i64 (cmpI b f)] 3)).drew
      fun e w' => e = .returned (.int .i64 (cmpE (a, b) (c, f))) ∧ w' = (((w.alloc (.cells #[.int .i64 a, .int .i64 b] 28)).alloc (.cells #[.int .i64 c, .int .i64 f] 28)).alloc (.cells #[.int .i64 (cmpI a c), .int .i64 (cmpI b f)] 3)).drew) :=
    cmpOr_any (cmpI a c) (cmpI b f) (w.heap.size + 1 + 1) _ (by simp [go_sem]) (by simp [go_sem])
  go_enter Tryz.func104, Tryz.ntmps104
  go_wp2
  go_region_held3 (fun u => (u.cell? ⟨w.heap.size, 0, none⟩ = some (.int .i64 a) ∧ u.cell? ⟨w.heap.size, 1, none⟩ = some (.int .i64 b)) ∧ u.cell? ⟨w.heap.size + 1, 0, none⟩ = some (.int .i64 c) ∧ u.cell? ⟨w.heap.size + 1, 1, none⟩ = some (.int .i64 f))
    (go_keep)
    (first
      | (go_at_call 193; refine (HC.out _ _ _).mono ?_; rintro e w1 ⟨rfl, rfl⟩)
      | (go_at_call 192; refine HO.out.mono ?_; rintro e w1 ⟨rfl, rfl⟩))
  all_goals
    go_wp2
    go_ret
    exact ⟨rfl, 1, _, by rw [alloc_eq_grow, alloc_eq_grow, alloc_eq_grow, grow_grow, grow_grow]; rfl⟩

theorem ltE (x y : EdgeV) : ltOf cmpE x y = lt x y := by
  unfold ltOf
  rw [Bool.eq_iff_iff, decide_eq_true_iff, cmpE_neg]
theorem swoE : SWO (ltOf cmpE) where
  irrefl x := by rw [ltE]; exact lt_irrefl' x
  trans x y z h1 h2 := by rw [ltE] at *; exact lt_trans' h1 h2
  ntrans x y z h1 h2 := by
    rw [ltE] at *
    cases h : lt x z with
    | false => rfl
    | true =>
      rw [lt_iff] at h
      have a1 : ¬ (lt x y = true) := by rw [h1]; simp
      have a2 : ¬ (lt y z = true) := by rw [h2]; simp
      rw [lt_iff] at a1 a2
      omega
/-- the edges, ascending -/
def srtE (es : List EdgeV) : List EdgeV := es.mergeSort fun x y => !(lt y x)
theorem srtE_eq (es : List EdgeV) : (es.mergeSort fun x y => !(ltOf cmpE) y x) = srtE es := by
  unfold srtE
  congr 1
  funext x y
  rw [ltE]
theorem srtE_perm (es : List EdgeV) : (srtE es).Perm es := List.mergeSort_perm _ _
theorem srtE_mem (es : List EdgeV) (e : EdgeV) : e ∈ srtE es ↔ e ∈ es := (srtE_perm es).mem_iff
theorem srtE_len (es : List EdgeV) : (srtE es).length = es.length := (srtE_perm es).length_eq
theorem srtE_asc {es : List EdgeV} (hn : es.Nodup) : Asc (srtE es) := by
  have hp : (srtE es).Pairwise (fun x y => (!(lt y x)) = true) := List.pairwise_mergeSort (fun a b c h1 h2 => by
      simp only [Bool.not_eq_true'] at h1 h2 ⊢
      have a1 : ¬ (lt b a = true) := by rw [h1]; simp
      have a2 : ¬ (lt c b = true) := by rw [h2]; simp
      cases h : lt c a with
      | false => rfl
      | true =>
        rw [lt_iff] at h a1 a2
        omega) (fun a b => by
      cases h : lt b a with
      | false => simp
      | true => simp [lt_asymm' h]) es
  have hn2 : (srtE es).Nodup := (srtE_perm es).nodup_iff.2 hn
  intro i j d e hij hd he
  obtain ⟨q0, q1⟩ := List.getElem?_eq_some_iff.1 hd
  obtain ⟨q2, q3⟩ := List.getElem?_eq_some_iff.1 he
  have h1 := List.pairwise_iff_getElem.1 hp i j q0 q2 hij
  have h2 := List.pairwise_iff_getElem.1 hn2 i j q0 q2 hij
  rw [q1, q3] at h1 h2
  simp only [Bool.not_eq_true'] at h1
  exact lt_total' h1 (fun e => h2 e.symm)

theorem flat_cells (es : List EdgeV) : flatK ecell 2 es.toArray = (ecells es).toArray := by
  refine ext_get! (by simp [ecells_length]) fun t ht => ?_
  have ht' : t < es.length * 2 := by simpa using ht
  rw [get_flatK _ _ _ t (by simpa using ht')]
  obtain ⟨f, hf⟩ : ∃ f, es[t / 2]? = some f := ⟨es[t / 2]'(by omega), List.getElem?_eq_getElem (by omega)⟩
  have hfe : es.toArray[t / 2]! = f := by
    rw [getElem!_pos _ _ (by simp; omega)]
    obtain ⟨q, e⟩ := List.getElem?_eq_some_iff.1 hf
    simpa using e
  rw [hfe]
  obtain ⟨h0, h1⟩ := ecells_at es (t / 2) f hf
  have hl : t < (ecells es).length := by rw [ecells_length]; exact ht'
  rw [getElem!_pos _ t (by simpa using hl)]
  rcases Nat.mod_two_eq_zero_or_one t with h | h
  · have et : t / 2 * 2 = t := by omega
    rw [et] at h0
    obtain ⟨q, e⟩ := List.getElem?_eq_some_iff.1 h0
    rw [h]
    simpa [ecell] using e.symm
  · have et : t / 2 * 2 + 1 = t := by omega
    rw [et] at h1
    obtain ⟨q, e⟩ := List.getElem?_eq_some_iff.1 h1
    rw [h]
    simpa [ecell] using e.symm
theorem take_putId (cur F : Array Value) (h : F.size ≤ cur.size) : (putCells id 0 F cur).toList.take F.size = F.toList := by
  apply List.ext_getElem?
  intro j
  by_cases hj : j < F.size
  · rw [List.getElem?_take_of_lt hj, Array.getElem?_toList]
    simp [putCells, hj, show j < cur.size by omega]
  · rw [List.getElem?_take_eq_none (by omega), List.getElem?_eq_none (by simp; omega)]
theorem heap_putId {w : World} {g n : Nat} {os : Array Obj} {cur : Array Value} {e : TypeId} {fr : Nat × Nat} (F : Array Value) (hb : w.heap[g]? = some (.cells cur e fr)) :
    (grow (putRow id (Sort.ahead w n) g 0 F) os).heap[g]? = some (.cells (putCells id 0 F cur) e fr) := by
  have hg : g < w.heap.size := (Array.getElem?_eq_some_iff.1 hb).1
  rw [heap_grow_old _ _ (by simpa using hg)]
  simp [putRow, mapBlock, Sort.ahead, Array.getElem?_modify, hb, onCells]
theorem grown_putId {w : World} {g n : Nat} {os : Array Obj} (F : Array Value) : w.grownBy (grow (putRow id (Sort.ahead w n) g 0 F) os) (some g) := by
  refine ⟨rfl, rfl, rfl, by simp, fun k hk hne => ?_⟩
  rw [heap_grow_old _ _ (by simpa using hk)]
  have : g ≠ k := fun e => hne (by rw [e])
  simp [putRow, mapBlock, Sort.ahead, Array.getElem?_modify, this]

set_option maxHeartbeats 1000000 in
theorem sortFE_any (es : List EdgeV) (m : Nat) (v : Value) (B : Nat) (hm : m ≤ 3000000) (w : World) (h : w.ownsRow B 28 2 v m (ecells es)) :
    Calls Tryz.prog 190 #[v, .func (.func 104) #[] #[]] w fun e w' => e = .returned (.tuple #[]) ∧ w'.ownsRow B 28 2 v m (ecells (srtE es)) ∧ (B ≤ w.heap.size → Below B w w') := by
  have hl := h.1
  rw [ecells_length] at hl
  rcases h.2 with ⟨rfl, h0⟩ | ⟨g, cap, cur, rfl, hg, hgb, r1, r2, r3, r4⟩
  · have hc := AnyF.slices_SortFunc_none Tryz.laysSF none 0 (.func (.func 104) #[] #[]) w
    change Calls Tryz.prog 190 _ _ _ at hc
    refine hc.mono ?_
    rintro e w' ⟨rfl, rfl⟩
    have e : es = [] := List.eq_nil_of_length_eq_zero (by omega)
    subst e
    exact ⟨rfl, by simpa [srtE] using h, fun _ => Below.refl _ _⟩
  · have hgl : g < w.heap.size := (Array.getElem?_eq_some_iff.1 hgb).1
    have hH : HoldsK ecell 2 w g 0 es.toArray := by
      unfold HoldsK
      rw [flat_cells]
      intro j hj
      have hj' : j < (ecells es).length := by simpa using hj
      refine ⟨?_, h.frozenAt (0 + j)⟩
      rw [Nat.zero_add, h.cellAt j (by rw [ecells_length] at hj'; omega), getElem!_pos _ j hj]
      simp [hj']
    have hc := AnyQ.slices_SortFunc_total Tryz.laysSF 2 Tryz.isAgg28 Tryz.sizeOf28 ecell (fun _ => rfl) (fun x u hu => by simp [ecell] at hu; rcases hu with rfl | rfl <;> rfl) cmpE swoE 104 #[] g 0 cap es.toArray w
      (enters_of Tryz.func104 (by kernel_rfl) rfl) (fun _ _ _ _ x y => compareEdges_grow x y _) hH hgl (by simp; omega) (fun x y h1 h2 => by
        rw [ltE] at h1 h2
        exact Classical.byContradiction fun hne => by have := lt_total' h1 hne; rw [h2] at this; simp at this)
    change Calls Tryz.prog 190 _ _ _ at hc
    rw [show es.toArray.size = m by simp; omega] at hc
    refine hc.mono ?_
    rintro e w' ⟨rfl, n, os, rfl⟩
    rw [show es.toArray.toList = es by simp, srtE_eq]
    unfold sortWorldK putRowK
    rw [flat_cells]
    have hsl : (ecells (srtE es)).toArray.size = m * 2 := by simp [ecells_length, srtE_len]; omega
    refine ⟨rfl, ⟨by rw [ecells_length, srtE_len]; omega, .inr ⟨g, cap, _, rfl, hg, heap_putId _ hgb, r1, r2, by simp [putCells, r3], ?_⟩⟩, fun hB => (Below.refl _ w).grown (grown_putId _) hB (fun j e => by cases e; exact hg)⟩
    have := take_putId cur (ecells (srtE es)).toArray (by rw [hsl, r3]; omega)
    rw [hsl] at this
    simpa using this

set_option maxHeartbeats 1000000 in
theorem sortedFE_any (es : List EdgeV) (m : Nat) (a : Option Addr) (c B : Nat) (hm : m ≤ 3000000) (w : World) (hB : B < w.heap.size) (hBc : w.cell? ⟨B, 0, none⟩ = some (.slice a m c)) (h : Es w w.heap.size a m es) :
    Calls Tryz.prog 102 #[.func (.func 191) #[] #[.pointer (some ⟨B, 0, none⟩)], .func (.func 104) #[] #[]] w fun e w' => ∃ a' c', e = .returned (.slice a' m c') ∧ w'.ownsRow w.heap.size 28 2 (.slice a' m c') m (ecells (srtE es)) ∧ Below w.heap.size w w' := by
  have HA := hideIt (collectE_any es m a c B hm w hB hBc h)
  clear h hBc
  go_enter Tryz.func102, Tryz.ntmps102
  go_wp2_with (go_at_call 189; refine HA.out.mono ?_; rintro e w1 ⟨v, rfl, ho, hb⟩; refine Hid.out ?_)
  refine (show ∀ {p : Prop}, p → Hid p from fun h => h) ?_
  obtain ⟨a1, c1, rfl⟩ := own_form ho
  have HS := hideIt (sortFE_any es m _ w.heap.size hm w1 ho)
  clear HA ho
  go_wp2_with (go_at_call 190; refine HS.out.mono ?_; rintro e w2 ⟨rfl, ho2, hb2⟩)
  go_ret
  exact ⟨a1, c1, rfl, ho2, hb.trans (hb2 hb.size)⟩
end Go.Proofs.YtkkplppcgnikoaaGreat
namespace Go.Proofs.YtkkplppcgnikoaaGreat
open Go.RowKit

/-- the world behind a graph's box -/
def wG (w : World) (N : Int) (a : Option Addr) (n c : Nat) : World := w.alloc (.cells #[.int .i64 N, .slice a n c] 33)

theorem wG_size (w : World) (N : Int) (a : Option Addr) (n c : Nat) : (wG w N a n c).heap.size = w.heap.size + 1 := by simp [wG]

theorem wG_below (w : World) (N : Int) (a : Option Addr) (n c : Nat) : Below w.heap.size w (wG w N a n c) := (Below.refl _ _).alloc (Nat.le_refl _) _

/-- nothing of it has turned -/
def InG (w : World) (N : Int) (a : Option Addr) (n c : Nat) (u : World) : Prop := Good (wG w N a n c) u

theorem InG.start (w : World) (N : Int) (a : Option Addr) (n c : Nat) : InG w N a n c (wG w N a n c) := Good.refl _

theorem InG.up {w : World} {N : Int} {a : Option Addr} {n c : Nat} {u v : World} (h : InG w N a n c u) (hb : Below u.heap.size u v) : InG w N a n c v := Good.up h hb

theorem InG.below {w : World} {N : Int} {a : Option Addr} {n c : Nat} {u : World} (h : InG w N a n c u) : Below w.heap.size w u := (wG_below w N a n c).trans (Below.mono h (by rw [wG_size]; omega))

theorem InG.size {w : World} {N : Int} {a : Option Addr} {n c : Nat} {u : World} (h : InG w N a n c u) : w.heap.size + 1 ≤ u.heap.size := by have := Good.size h; rw [wG_size] at this; exact this

theorem InG.cells {w : World} {N : Int} {a : Option Addr} {n c : Nat} {u : World} (h : InG w N a n c u) : u.cell? ⟨w.heap.size, 0, none⟩ = some (.int .i64 N) ∧ u.cell? ⟨w.heap.size, 1, none⟩ = some (.slice a n c) := by
  have hs := wG_size w N a n c
  refine ⟨?_, ?_⟩
  · rw [Good.cell h (by omega)]; simp [wG]
  · rw [Good.cell h (by omega)]; simp [wG]

/-- a row made since u0 stands in a world since w -/
theorem ISt.inG {w : World} {N : Int} {a : Option Addr} {n c : Nat} {u0 : World} (h0 : InG w N a n c u0) {a' : Option Addr} {m c' : Nat} {ls : List Int} {u : World} (h : ISt u0 a' m c' ls u) : InG w N a n c u := h0.up h.bel

theorem ISt.ans {w : World} {N : Int} {a : Option Addr} {n c : Nat} {u0 : World} (h0 : InG w N a n c u0) {a' : Option Addr} {m c' : Nat} {ls : List Int} {u : World} (h : ISt u0 a' m c' ls u) : IAns w ls (.returned (.slice a' m c')) u :=
  ⟨a', m, c', rfl, own_mono h.own (by have := h0.size; omega), (h.inG h0).below⟩

end Go.Proofs.YtkkplppcgnikoaaGreat
namespace Go.Proofs.YtkkplppcgnikoaaGreat

/-- the other end, where the edge has v -/
def otherE (v : Int) (e : EdgeV) : Option Int := if v = e.1 then some e.2 else if v = e.2 then some e.1 else none
/-- the program's way -/
def arI (es : List EdgeV) (v : Int) : List Int := es.filterMap (otherE v)
/-- the specification's way, of n vertices -/
def arS (es : List EdgeV) (v : Int) (n : Nat) : List Int := ((List.range n).map fun (u : Nat) => (u : Int)).filter fun u => hasB es (u, v) || hasB es (v, u)
theorem arI_snoc (es : List EdgeV) (v : Int) (e : EdgeV) : arI (es ++ [e]) v = arI es v ++ (otherE v e).toList := by
  unfold arI
  rw [List.filterMap_append]
  cases h : otherE v e <;> simp [h]
theorem arS_len (es : List EdgeV) (v : Int) (n : Nat) : (arS es v n).length ≤ n := by
  unfold arS
  exact Nat.le_trans (List.length_filter_le _ _) (by simp)

theorem sorted_ext : ∀ {l1 l2 : List Int}, l1.Pairwise (· < ·) → l2.Pairwise (· < ·) → (∀ x, x ∈ l1 ↔ x ∈ l2) → l1 = l2 := by
  intro l1
  induction l1 with
  | nil =>
    intro l2 _ _ h
    cases l2 with
    | nil => rfl
    | cons y l2 => exact absurd ((h y).2 (by simp)) (by simp)
  | cons x l1 ih =>
    intro l2 h1 h2 h
    cases l2 with
    | nil => exact absurd ((h x).1 (by simp)) (by simp)
    | cons y l2 =>
      obtain ⟨a1, b1⟩ := List.pairwise_cons.1 h1
      obtain ⟨a2, b2⟩ := List.pairwise_cons.1 h2
      have hxy : x = y := by
        have hx := (h x).1 (by simp)
        have hy := (h y).2 (by simp)
        rcases List.mem_cons.1 hx with e | hx
        · exact e
        · rcases List.mem_cons.1 hy with e | hy
          · exact e.symm
          · have := a2 x hx
            have := a1 y hy
            omega
      subst hxy
      rw [ih b1 b2 fun z => ?_]
      constructor
      · intro hz
        rcases List.mem_cons.1 ((h z).1 (by simp [hz])) with e | hz'
        · have := a1 z hz; omega
        · exact hz'
      · intro hz
        rcases List.mem_cons.1 ((h z).2 (by simp [hz])) with e | hz'
        · have := a2 z hz; omega
        · exact hz'

theorem eB_iff (n : Int) (e : EdgeV) : eB n e = true ↔ (1 ≤ n ∧ n ≤ 12 ∧ 0 ≤ e.1 ∧ e.1 < e.2 ∧ e.2 < n) := by unfold eB; rw [decide_eq_true_iff]

theorem pairwise_asc {es : List EdgeV} (h : Asc es) : es.Pairwise fun d e => lt d e = true := by
  rw [List.pairwise_iff_getElem]
  exact fun i j hi hj hij => h i j _ _ hij (List.getElem?_eq_getElem hi) (List.getElem?_eq_getElem hj)

theorem ar_same {N : Int} {es : List EdgeV} (v : Int) (hg : gB N es = true) : arI es v = arS es v N.toNat := by
  obtain ⟨⟨hN1, hN2⟩, hck, _⟩ := gB_chk hg
  have hE : ∀ e ∈ es, 0 ≤ e.1 ∧ e.1 < e.2 ∧ e.2 < N := fun e he => by have := (eB_iff N e).1 (chk_eB hck he); omega
  refine sorted_ext ?_ ?_ ?_
  · unfold arI
    rw [List.pairwise_filterMap]
    refine List.Pairwise.imp_of_mem ?_ (pairwise_asc (asc_of_chk hck))
    intro d e hd he hlt b hb b' hb'
    rw [lt_iff] at hlt
    have h1 := hE d hd
    have h2 := hE e he
    unfold otherE at hb hb'
    split at hb
    · split at hb'
      · simp at hb hb'; omega
      · split at hb'
        · simp at hb hb'; omega
        · cases hb'
    · split at hb
      · split at hb'
        · simp at hb hb'; omega
        · split at hb'
          · simp at hb hb'; omega
          · cases hb'
      · cases hb
  · unfold arS
    refine List.Pairwise.filter _ ?_
    rw [List.pairwise_map]
    exact List.Pairwise.imp (fun h => by omega) List.pairwise_lt_range
  · intro x
    unfold arI arS
    rw [List.mem_filterMap, List.mem_filter, List.mem_map]
    constructor
    · rintro ⟨e, he, hx⟩
      have h1 := hE e he
      unfold otherE at hx
      split at hx
      · rename_i hv
        simp at hx
        subst hv hx
        refine ⟨⟨e.2.toNat, by rw [List.mem_range]; omega, by omega⟩, ?_⟩
        rw [Bool.or_eq_true]
        exact .inr (decide_eq_true he)
      · split at hx
        · rename_i hv
          simp at hx
          subst hv hx
          refine ⟨⟨e.1.toNat, by rw [List.mem_range]; omega, by omega⟩, ?_⟩
          rw [Bool.or_eq_true]
          exact .inl (decide_eq_true he)
        · cases hx
    · rintro ⟨_, hx⟩
      rw [Bool.or_eq_true] at hx
      rcases hx with hx | hx
      · have hm : (x, v) ∈ es := of_decide_eq_true hx
        have h1 := hE _ hm
        refine ⟨_, hm, ?_⟩
        unfold otherE
        rw [if_neg (by dsimp only at h1 ⊢; omega), if_pos rfl]
      · have hm : (v, x) ∈ es := of_decide_eq_true hx
        refine ⟨_, hm, ?_⟩
        unfold otherE
        rw [if_pos rfl]

/-- Around -/
def arE (N : Int) (es : List EdgeV) (v : Int) : List Int := if gB N es = true then arS es v N.toNat else []
end Go.Proofs.YtkkplppcgnikoaaGreat
namespace Go.Proofs.YtkkplppcgnikoaaGreat
open Go.RowKit

set_option maxRecDepth 100000 in
set_option maxHeartbeats 4000000 in
theorem iAround_any (N : Int) (es : List EdgeV) (v : Int) (n : Nat) (a : Option Addr) (c : Nat) (hn : n ≤ 1048576) (w : World) (h : Es w w.heap.size a n es) :
    Calls Tryz.prog 314 #[.agg #[.int .i64 N, .slice a n c], .int .i64 v] w fun e w' => IAns w (arE N es v) e w' := by
  obtain ⟨i0, hi, hz0, hz1, hz2⟩ := info_parts info3i
  have HGO : Hid (∀ u, InG w N a n c u → Calls Tryz.prog 79 #[.agg #[.int .i64 N, .slice a n c]] u fun e v => e = .returned (.bool (gB N es)) ∧ InG w N a n c v) := fun u hu =>
    (iGraphOk_any N es n a c hn u (h.up hu.below)).mono fun _ _ ⟨he, hb⟩ => ⟨he, hu.up hb⟩
  have S1 := InG.start w N a n c
  cases hG : gB N es with
  | false =>
    rw [hG] at HGO
    have HO := hideIt (show arE N es v = [] by unfold arE; rw [hG, if_neg (by simp)])
    clear hG h
    go_enter Tryz.func314, Tryz.ntmps314
    go_wp2_with (go_at_call 79; refine (HGO.out _ S1).mono ?_; rintro e w4 ⟨rfl, S4⟩; refine Hid.out ?_)
    refine (show ∀ {p : Prop}, p → Hid p from fun h => h) ?_
    go_wp2
    go_ret
    rw [HO.out]
    exact ians_nil S4.below
  | true =>
    rw [hG] at HGO
    have HO := hideIt (show arE N es v = arI es v by unfold arE; rw [hG, if_pos rfl, ar_same v hG])
    have HR := hideIt h
    have hlen := h.1
    clear hG h
    go_enter Tryz.func314, Tryz.ntmps314
    go_wp2_with (go_at_call 79; refine (HGO.out _ S1).mono ?_; rintro e w4 ⟨rfl, S4⟩; refine Hid.out ?_)
    refine (show ∀ {p : Prop}, p → Hid p from fun h => h) ?_
    obtain ⟨k0, k1⟩ := S4.cells
    have z4 := S4.size
    have hq0 : (w4.alloc (.cells #[] 3)).cell? ⟨w.heap.size, 1, none⟩ = some (.slice a n c) := by rw [World.cell?_of_block (w := w4) (Below.heap_alloc w4 _ w.heap.size (by omega))]; exact k1
    go_wp2
    go_loopw [5, 15] (fun r i wr => ∃ (k m' : Nat) (a' : Option Addr) (c' : Nat) (gs : List Int), k ≤ n ∧ i = .int .i64 (k : Int) ∧ r = .slice a' m' c' ∧ m' ≤ k ∧ Hid (gs = arI (es.take k) v) ∧ ISt w4 a' m' c' gs wr) (fun _ i _ => n - (intOf i).toNat)
    case atStart => exact ⟨0, 0, _, _, [], by omega, rfl, rfl, by omega, by show _ = _; simp [arI], ISt.start w4⟩
    case round =>
      obtain ⟨k, m', a', c', gs, hk, rfl, rfl, hm, hgs, hst⟩ := hrel
      by_cases hlt : k < n
      · rcases HR.out.2 with hz | ⟨b, off, rfl, hbl, hc⟩
        · omega
        · obtain ⟨f, hf⟩ : ∃ f, es[k]? = some f := ⟨es[k]'(by omega), List.getElem?_eq_getElem (by omega)⟩
          obtain ⟨c0, c1⟩ := hc k f hf
          have b1 : (0 : Int) ≤ (k : Int) := by omega
          have b2 : (k : Int) < (n : Int) := by omega
          have hbw := (hst.inG S4).below
          have e0 : wr.cell? ⟨b, off + k * 2, none⟩ = some (.int .i64 f.1) := by rw [hbw.cell hbl]; exact c0
          have e1 : wr.cell? ⟨b, off + k * 2 + 1, none⟩ = some (.int .i64 f.2) := by rw [hbw.cell hbl]; exact c1
          have zr := hst.size
          have hst1 := hst.up ((Below.refl wr.heap.size wr).alloc (Nat.le_refl _) (.cells #[.int .i64 f.1, .int .i64 f.2] 28))
          by_cases h1 : v = f.1
          · have HG : Hid (gs ++ [f.2] = arI (es.take (k + 1)) v) := by
              show _ = _
              rw [take_snocF es k f hf, arI_snoc, hgs.out]
              simp [otherE, h1]
            have d1 : (v == f.1) = true := by simpa using h1
            clear hc hf c0 c1 hgs hbw h1
            go_wp2_with (at_builtin; refine wpList_append_own _ rfl _ _ 44 rfl w4.heap.size 3 i0 _ 1 8 Tryz.underlying44 hi hz0 hz1 hz2 rfl (by decide) _ _ _ rfl (hst1.own.alloc _) ⟨wr.heap.size + 1, 0, none⟩ 1 1 [.int .i64 f.2] rfl rfl (by have := newsI (wr.alloc (.cells #[.int .i64 f.1, .int .i64 f.2] 28)) f.2; simpa using this) (by intro u hu; simp at hu; subst hu; rfl) (by unfold maxLen; omega) (by omega) (by simp; omega) ?_)
            intro v2 w2 hown2 hg2 hn2
            obtain ⟨a2, c2, rfl, hst2⟩ := hst1.app hown2 hg2
            clear hown2 hg2 hn2 hst hst1 e0 e1
            go_wp2
            exact ⟨⟨k + 1, m' + 1, a2, c2, gs ++ [f.2], by omega, by go_num, rfl, by omega, HG, hst2⟩, by simp [intOf]; omega⟩
          · have d1 : (v == f.1) = false := by simpa using h1
            by_cases h2 : v = f.2
            · have HG : Hid (gs ++ [f.1] = arI (es.take (k + 1)) v) := by
                show _ = _
                rw [take_snocF es k f hf, arI_snoc, hgs.out]
                simp [otherE, h2]
                rw [if_neg (fun h3 => h1 (h2.trans h3))]
                rfl
              have d2 : (v == f.2) = true := by simpa using h2
              clear hc hf c0 c1 hgs hbw h1 h2
              go_wp2_with (at_builtin; refine wpList_append_own _ rfl _ _ 44 rfl w4.heap.size 3 i0 _ 1 8 Tryz.underlying44 hi hz0 hz1 hz2 rfl (by decide) _ _ _ rfl (hst1.own.alloc _) ⟨wr.heap.size + 1, 0, none⟩ 1 1 [.int .i64 f.1] rfl rfl (by have := newsI (wr.alloc (.cells #[.int .i64 f.1, .int .i64 f.2] 28)) f.1; simpa using this) (by intro u hu; simp at hu; subst hu; rfl) (by unfold maxLen; omega) (by omega) (by simp; omega) ?_)
              intro v2 w2 hown2 hg2 hn2
              obtain ⟨a2, c2, rfl, hst2⟩ := hst1.app hown2 hg2
              clear hown2 hg2 hn2 hst hst1 e0 e1
              go_wp2
              exact ⟨⟨k + 1, m' + 1, a2, c2, gs ++ [f.1], by omega, by go_num, rfl, by omega, HG, hst2⟩, by simp [intOf]; omega⟩
            · have HG : Hid (gs = arI (es.take (k + 1)) v) := by
                show _ = _
                rw [take_snocF es k f hf, arI_snoc, hgs.out]
                simp [otherE, h1, h2]
              have d2 : (v == f.2) = false := by simpa using h2
              clear hc hf c0 c1 hgs hbw h1 h2
              go_wp2
              exact ⟨⟨k + 1, m', a', c', gs, by omega, by go_num, rfl, by omega, HG, hst1⟩, by simp [intOf]; omega⟩
      · obtain rfl : k = n := by omega
        have HF : Hid (gs = arI es v) := by show _ = _; rw [hgs.out, List.take_of_length_le (by omega)]
        have HA := hideIt (hst.ans S4)
        clear hgs hst
        go_wp2
        go_ret
        rw [HO.out, ← HF.out]
        exact HA.out
end Go.Proofs.YtkkplppcgnikoaaGreat
