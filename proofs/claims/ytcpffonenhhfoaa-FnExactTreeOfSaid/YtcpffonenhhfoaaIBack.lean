/- slices.Backward over ints: it yields each place with its number, the last one first; the program's lastPlace, which ranges over it. -/
import Derived.RangeFuncNested
import Derived.RangeFuncBound
import Derived.RangeFuncCalls
import Derived.RangeFuncLeaves
import Derived.RangeFuncBox
import Derived.Shelf.Abstract
import Derived.Shelf.RegionOpen
import Derived.WalkKit
import Derived.OwnWalkIn
import Derived.TacticsInMore
import Derived.LoopNIn
import Derived.LoopIn
import Derived.Maps.AppendAt
import Derived.Test.YtcpffonenhhfoaaFind6
namespace Go.Proofs.Ytcpffonenhhfoaa
open Go.RowKit Go.Shelf
attribute [local go_sem] Oper.semAt_some

/-- a place and what stands there, as yield takes it -/
abbrev plV (x : Int × Int) : Array Value := #[.int .i64 x.1, .int .i64 x.2]
/-- what has come: the places from the last one down -/
def Bw (ls : List Int) (pre : List (Int × Int)) : Prop := pre.length ≤ ls.length ∧ ∀ (j : Nat) (x : Int × Int), pre[j]? = some x → x.1 = (ls.length : Int) - 1 - (j : Int) ∧ ls[ls.length - 1 - j]? = some x.2
theorem Bw.nil (ls : List Int) : Bw ls [] := ⟨by simp, fun j x h => by simp at h⟩
theorem Bw.snoc {ls : List Int} {pre : List (Int × Int)} (h : Bw ls pre) {k : Nat} {f : Int} (hk : pre.length + (k + 1) = ls.length) (hf : ls[k]? = some f) : Bw ls (pre ++ [((k : Int), f)]) := by
  refine ⟨by simp; omega, fun j x hx => ?_⟩
  by_cases hj : j < pre.length
  · rw [List.getElem?_append_left hj] at hx
    exact h.2 j x hx
  · rw [List.getElem?_append_right (by omega)] at hx
    have h0 : j - pre.length = 0 := by
      have := (List.getElem?_eq_some_iff.1 hx).1
      simp at this
      omega
    rw [h0] at hx
    simp at hx
    subst hx
    refine ⟨by show (k : Int) = _; omega, ?_⟩
    rw [show ls.length - 1 - j = k by omega]
    exact hf

set_option maxRecDepth 100000 in
set_option maxHeartbeats 2000000 in
theorem backIt_in (n l B n0 : Nat) (hn : 1 ≤ n) (ls : List Int) (m : Nat) (a : Option Addr) (c : Nat) (hm : m ≤ 3000000) (hB : B < n0) (J Jx : List (Int × Int) → World → Prop)
    (hY : ∀ pre x W1, J pre W1 → pre.length < m → YieldAt Fence.wide (n - 1) Try.prog l (plV x) W1 fun e W' =>
      (e = .returned (.bool true) ∧ J (pre ++ [x]) W' ∧ Below n0 W1 W') ∨ (e = .returned (.bool false) ∧ Jx (pre ++ [x]) W'))
    (W : World) (hBc : W.cell? ⟨B, 0, none⟩ = some (.slice a m c)) (hI : Is W n0 a m ls) (h0 : J [] W) :
    CallsIn Fence.wide n Try.prog 119 #[.func (.yield l) #[] #[], .pointer (some ⟨B, 0, none⟩)] W fun e W' => (∃ v, e = .returned v) ∧
      ((∃ ys, (Bw ls ys ∧ ys.length = m) ∧ J ys W') ∨ (∃ pre, Bw ls pre ∧ Jx pre W')) := by
  obtain ⟨hlen, hrow⟩ := hI
  have HR := hideIt hrow
  clear hrow
  refine callsIn_of_wp Try.func119 rfl trivial ?_ rfl
  simp only [Try.ntmps119, List.size_toArray, List.length_cons, List.length_nil, Nat.reduceAdd, Nat.reduceSub, Array.replicate_succ, Array.replicate_zero, List.push_toArray, List.append_toArray, List.nil_append, List.cons_append]
  gi_wp2
  gi_loopw [3] (fun i wr => ∃ (k : Nat) (pre : List (Int × Int)), k ≤ m ∧ i = .int .i64 ((k : Int) - 1) ∧ pre.length + k = m ∧ Hid (Bw ls pre) ∧ Below n0 W wr ∧ J pre wr)
    (fun i _ => (intOf i + 1).toNat)
  case atStart => exact ⟨m, [], by omega, rfl, by simp, Bw.nil ls, Below.refl _ _, h0⟩
  case round =>
    obtain ⟨k, pre, hk, rfl, hpk, HBw, hb, hJ⟩ := hrel
    rcases k with _ | k
    · have d0 : decide ((0 : Int) ≤ ((0 : Nat) : Int) - 1) = false := decide_eq_false (by omega)
      gi_wp2
      go_end0
      exact ⟨⟨_, rfl⟩, .inl ⟨pre, ⟨HBw.out, by omega⟩, hJ⟩⟩
    · rcases HR.out with hz | ⟨b, off, rfl, hbl, hc⟩
      · omega
      · obtain ⟨f, hf⟩ : ∃ f, ls[k]? = some f := ⟨ls[k]'(by omega), List.getElem?_eq_getElem (by omega)⟩
        have e0 : wr.cell? ⟨b, off + k, none⟩ = some (.int .i64 f) := by rw [hb.cell hbl]; exact hc k f hf
        have eB : wr.cell? ⟨B, 0, none⟩ = some (.slice (some ⟨b, off, none⟩) m c) := by rw [hb.cell hB]; exact hBc
        have ek : ((k + 1 : Nat) : Int) - 1 = (k : Int) := by omega
        rw [ek]
        have b1 : (0 : Int) ≤ (k : Int) := by omega
        have b2 : (k : Int) < (m : Int) := by omega
        have d0 : decide ((0 : Int) ≤ (k : Int)) = true := decide_eq_true (by omega)
        have HB2 := hideIt (HBw.out.snoc (by omega) hf)
        obtain ⟨fn, tmps, assign, body, hy, hR⟩ := hY pre ((k : Int), f) wr hJ (by omega)
        dsimp only [plV] at hy
        clear hc hf ek HBw
        gi_wp2
        refine hR.mono ?_
        rintro e W3 (⟨rfl, hJ3, hk3⟩ | ⟨rfl, hJx3⟩)
        · gi_wp2
          exact ⟨⟨k, pre ++ [((k : Int), f)], by omega, rfl, by simp; omega, HB2, hb.trans hk3, hJ3⟩, by simp [intOf]⟩
        · gi_wp2
          (try simp only [Exit.inBlock, Exit.then])
          refine bodyPost_ret (v := .tuple #[]) (results_none rfl _ _ _) rfl ?_
          exact ⟨⟨_, rfl⟩, .inr ⟨_, HB2.out, hJx3⟩⟩

theorem back_stops (n B n0 : Nat) (hn : 1 ≤ n) (ls : List Int) (m : Nat) (a : Option Addr) (c : Nat) (hm : m ≤ 3000000) (hB : B < n0) (w1 : World) (hn0 : n0 ≤ w1.heap.size) (hBc : w1.cell? ⟨B, 0, none⟩ = some (.slice a m c)) (hI : Is w1 n0 a m ls) :
    SeqStopsK Fence.wide n Try.prog 119 #[.pointer (some ⟨B, 0, none⟩)] plV (Below n0) (fun ys => Bw ls ys ∧ ys.length = m) (fun pre => Bw ls pre) m w1 := fun l J Jx W hW _ _ hY h0 =>
  backIt_in n l B n0 hn ls m a c hm hB J Jx hY W ((hW.cell (p := ⟨B, 0, none⟩) (by show B < _; omega)).trans hBc) (hI.below hW hn0) h0

theorem backI_in (n : Nat) (a : Option Addr) (m c : Nat) (w : World) :
    CallsIn Fence.wide n Try.prog 101 #[.slice a m c] w fun e w' => e = .returned (.func (.func 119) #[] #[.pointer (some ⟨w.heap.size, 0, none⟩)]) ∧ w' = w.alloc (.cells #[.slice a m c] 50) := by
  refine callsIn_of_wp Try.func101 rfl trivial ?_ rfl
  simp only [Try.ntmps101, List.size_toArray, List.length_cons, List.length_nil, Nat.reduceAdd, Nat.reduceSub, Array.replicate_succ, Array.replicate_zero, List.push_toArray, List.append_toArray, List.nil_append, List.cons_append]
  gi_wp2
  go_ret
  exact ⟨rfl, rfl⟩

theorem lst_at {ls : List Int} {v : Int} {p : Nat} (hp : ls[p]? = some v) (hn : ∀ j, p < j → j < ls.length → ls[j]? ≠ some v) : lstI ls v = (p : Int) := by
  rcases lastN_cases (atP ls v) ls.length with ⟨k, h1, h2, h3, h4⟩ | ⟨h1, _⟩
  · have hk : ls[k]? = some v := by simpa [atP] using h2
    have hpl := (List.getElem?_eq_some_iff.1 hp).1
    rcases Nat.lt_trichotomy k p with h | h | h
    · have := h3 p h hpl
      rw [atP_yes hp] at this
      simp at this
    · rw [← h]; exact h4
    · exact absurd hk (hn k h h1)
  · have := h1 p (List.getElem?_eq_some_iff.1 hp).1
    rw [atP_yes hp] at this
    simp at this
theorem lst_none {ls : List Int} {v : Int} (hn : ∀ j, j < ls.length → ls[j]? ≠ some v) : lstI ls v = -1 := by
  rcases lastN_cases (atP ls v) ls.length with ⟨k, h1, h2, h3, h4⟩ | ⟨_, h2⟩
  · exact absurd (by simpa [atP] using h2) (hn k h1)
  · exact h2
theorem bw_stop {ls : List Int} {v : Int} {pre : List (Int × Int)} {x : Int × Int} (h : Bw ls (pre ++ [x])) (hx : x.2 = v) (hn : ∀ y ∈ pre, y.2 ≠ v) : lstI ls v = x.1 := by
  have hl := h.1
  simp at hl
  obtain ⟨h1, h2⟩ := h.2 pre.length x (by simp)
  rw [h1, show (ls.length : Int) - 1 - (pre.length : Int) = ((ls.length - 1 - pre.length : Nat) : Int) by omega]
  refine lst_at (by rw [h2, hx]) fun j hj hjl e => ?_
  obtain ⟨y, hy⟩ : ∃ y, pre[ls.length - 1 - j]? = some y := ⟨pre[ls.length - 1 - j]'(by omega), List.getElem?_eq_getElem (by omega)⟩
  obtain ⟨_, h4⟩ := h.2 (ls.length - 1 - j) y (by rw [List.getElem?_append_left (by omega)]; exact hy)
  rw [show ls.length - 1 - (ls.length - 1 - j) = j by omega, e] at h4
  exact hn y (List.mem_of_getElem? hy) (by simpa using h4.symm)
theorem bw_done {ls : List Int} {v : Int} {pre : List (Int × Int)} (h : Bw ls pre) (hl : pre.length = ls.length) (hn : ∀ y ∈ pre, y.2 ≠ v) : lstI ls v = -1 := by
  refine lst_none fun j hj e => ?_
  obtain ⟨y, hy⟩ : ∃ y, pre[ls.length - 1 - j]? = some y := ⟨pre[ls.length - 1 - j]'(by omega), List.getElem?_eq_getElem (by omega)⟩
  obtain ⟨_, h4⟩ := h.2 (ls.length - 1 - j) y hy
  rw [show ls.length - 1 - (ls.length - 1 - j) = j by omega, e] at h4
  exact hn y (List.mem_of_getElem? hy) (by simpa using h4.symm)

set_option maxRecDepth 100000 in
set_option maxHeartbeats 2000000 in
theorem lastPlace_any (ls : List Int) (v : Int) (m : Nat) (a : Option Addr) (c : Nat) (hm : m ≤ 3000000) (w : World) (h : Is w w.heap.size a m ls) :
    Calls Try.prog 77 #[.slice a m c, .int .i64 v] w fun e w' => e = .returned (.int .i64 (lstI ls v)) ∧ Below w.heap.size w w' := by
  refine (callsIn_wide (n := 6)).1 ?_
  refine callsIn_of_wp_marks Try.func77 rfl trivial ?_ rfl
  simp only [Try.ntmps77, List.size_toArray, List.length_cons, List.length_nil, Nat.reduceAdd, Nat.reduceSub, Array.replicate_succ, Array.replicate_zero, List.push_toArray, List.append_toArray, List.nil_append, List.cons_append]
  gi_wp2_with (refine ⟨trivial, ?_⟩; gi_at_call 101; refine (backI_in _ _ _ _ _).mono ?_; rintro e w' ⟨rfl, rfl⟩)
  have bV0 := Boxed.new w 3 (.int .i64 v)
  have bR0 := Boxed.new (w.alloc (.cells #[.int .i64 v] 3)) 3 (.int .i64 0)
  rw [World.size_alloc] at bR0
  have bS := Boxed.new ((w.alloc (.cells #[.int .i64 v] 3)).alloc (.cells #[.int .i64 0] 3)) 50 (.slice a m c)
  rw [World.size_alloc, World.size_alloc] at bS
  have bR := bR0.alloc (.cells #[.slice a m c] 50)
  have bV := (bV0.alloc (.cells #[.int .i64 0] 3)).alloc (.cells #[.slice a m c] 50)
  have hB0 : Below w.heap.size w (((w.alloc (.cells #[.int .i64 v] 3)).alloc (.cells #[.int .i64 0] 3)).alloc (.cells #[.slice a m c] 50)) := (((Below.refl _ w).alloc (Nat.le_refl _) _).alloc (by simp) _).alloc (by simp; omega) _
  have hlen := h.1
  have hI0 := (h.up hB0)
  simp only [World.size_alloc] at hI0
  refine wpIn_rangeFunc_ownF rfl (by omega) (gf := 119) (lb := #[.pointer (some ⟨w.heap.size + 1 + 1, 0, none⟩)]) rfl trivial (enters_of Try.func119 (by kernel_rfl) rfl)
    (back_stops 5 (w.heap.size + 1 + 1) (w.heap.size + 1 + 1 + 1) (by omega) ls m a c hm (by omega) _ (by simp) bS.cell hI0) belowK_t (belowK_b (by simp)) (Below.refl _ _) (fun _ => rfl)
    (fun pre W => ((Boxed W w.heap.size 3 (.int .i64 v) ∧ Boxed W (w.heap.size + 1) 3 (.int .i64 0)) ∧ Below w.heap.size w W) ∧ ∀ y ∈ pre, y.2 ≠ v)
    (fun cc pre W => ((∃ x, Boxed W (w.heap.size + 1) 3 (.int .i64 x) ∧ (Bw ls pre → lstI ls v = x)) ∧ Below w.heap.size w W) ∧ cc = .ret)
    ?hI ?hIx ⟨⟨⟨bV, bR⟩, hB0⟩, by simp⟩
    (fun x => { tmps := #[.slice a m c, .int .i64 v, undef, .pointer (some ⟨w.heap.size, 0, none⟩), .pointer (some ⟨w.heap.size + 1, 0, none⟩), .int .i64 x.1, .int .i64 x.2, .slice a m c, .func (.func 119) #[] #[.pointer (some ⟨w.heap.size + 1 + 1, 0, none⟩)], .int .i64 x.1, .int .i64 x.2, undef, undef, undef, undef], defers := [] }) ?assign ?body ?done ?stop
  case hI => exact OwnFrom.and (OwnFrom.and (OwnFrom.and (Own.from (boxed_own _ _ _) _) (Own.from (boxed_own _ _ _) _)) (ownFrom_below (Nat.le_refl _) (by simp; omega))) (fun _ _ _ _ hs _ _ => hs)
  case hIx =>
    intro cc
    refine OwnFrom.and (OwnFrom.and ?_ (ownFrom_below (Nat.le_refl _) (by simp; omega))) (fun _ _ _ _ hs _ _ => hs)
    rintro s X Y row ⟨x, hb, hx⟩ hg hr
    exact ⟨x, hb.kept hg (fun e' => by obtain ⟨_, o, ho, hc⟩ := hr _ e'.symm; rw [show X.heap[_]? = _ from hb] at ho; cases ho; cases hc), hx⟩
  case assign =>
    intro l x W K hK
    gi_wp2
    exact hK
  case body =>
    rintro l pre x W ⟨⟨⟨hV, hR⟩, hB⟩, hn⟩ hlt
    have hc := hV.cell
    have hf := hR.frozen
    have hc2 := hR.cell
    by_cases hx : x.2 = v
    · have d1 : (x.2 == v) = true := by simpa using hx
      gi_wp2
      exact ⟨KeepsOthers.setCell _ _ _, ⟨⟨x.1, hR.set _, fun h => bw_stop h hx hn⟩, hB.setCell (p := ⟨w.heap.size + 1, 0, none⟩) (by show w.heap.size ≤ w.heap.size + 1; omega) _⟩, rfl⟩
    · have d1 : (x.2 == v) = false := by simpa using hx
      gi_wp2
      refine ⟨KeepsOthers.refl _, Below.refl _ _, ⟨⟨hV, hR⟩, hB⟩, fun y hy => ?_⟩
      rcases List.mem_append.1 hy with h | h
      · exact hn y h
      · simp at h; rw [h]; exact hx
  case done =>
    rintro D ys W hD ⟨hbw, hl⟩ ⟨⟨⟨hV, hR⟩, hB⟩, hn⟩ hK
    have hc2 := hR.cell
    have hf := hR.frozen
    have hlst := hideIt (bw_done hbw (by omega) hn)
    have HRb := hideIt (hR.set (.int .i64 (-1)))
    have HBb := hideIt (hB.setCell (p := ⟨w.heap.size + 1, 0, none⟩) (by show w.heap.size ≤ w.heap.size + 1; omega) (.int .i64 (-1)))
    clear hn hbw
    gi_wp2
    have hK2 := (KeepsOthers.setCell W ⟨w.heap.size + 1, 0, none⟩ (.int .i64 (-1))).same D _ hK rfl
    refine ⟨by simp, .inl ⟨_, _, rfl, run_takeDeferred hK2, ?_⟩⟩
    simp only [World.size_alloc] at hD
    have hc3 := (HRb.out.kept (grownBy_putObj' _ D (.deferred none)) (fun e => by simp at e; omega)).cell
    refine ⟨.int .i64 (-1), by simp [results, Try.results77, go_sem, hc3], by rw [hlst.out], ?_⟩
    exact HBb.out.trans (belowK_b (w := w) (Nat.le_refl _) _ D _ _ (by omega) hK2 rfl rfl)
  case stop =>
    rintro D cc pre W hD hbw ⟨⟨⟨x, hR, hx⟩, hB⟩, rfl⟩ hK
    have hlst := hideIt (hx hbw)
    clear hx hbw
    gi_wp2
    refine ⟨by simp, .inl ⟨_, _, rfl, run_takeDeferred hK, ?_⟩⟩
    simp only [World.size_alloc] at hD
    have hc3 := (hR.kept (grownBy_putObj' _ D (.deferred none)) (fun e => by simp at e; omega)).cell
    refine ⟨.int .i64 x, by simp [results, Try.results77, go_sem, hc3], by rw [hlst.out], ?_⟩
    exact hB.trans (belowK_b (w := w) (Nat.le_refl _) _ D _ _ (by omega) hK rfl rfl)
end Go.Proofs.Ytcpffonenhhfoaa
