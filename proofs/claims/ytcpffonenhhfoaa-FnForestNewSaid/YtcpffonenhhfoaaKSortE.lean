/- ForestNew: what it answers, the program's and the specification's. An edge is put into a list of edges. slices.Values over edges, and slices.Collect of it: each edge, in order, in a list of its own. The library's comparisons; the program's compareEdges. The library's sorting by a comparison, at this program, by the shelf's own laying in plain words. slices.SortedFunc of a list of edges by compareEdges: the edges ascending, in a list of their own. -/
import Derived.Test.YtcpffonenhhfoaaKEdgeI6
import Derived.Test.YtcpffonenhhfoaaKTourE
import Derived.Deep.AppendLies
import Derived.RangeFuncNested
import Derived.RangeFuncBound
import Derived.RangeFuncCalls
import Derived.RangeFuncLeaves
import Derived.RangeFuncBox
import Derived.Shelf.Abstract
import Derived.Shelf.RegionOpen
import Derived.WalkKit
import Derived.OwnWalkIn
import Derived.TacticsInMore
import Derived.LoopNIn
import Derived.LoopIn
import Derived.Maps.AppendAt
import Derived.Shelf.SlSortCmp.NoneTotal
import Derived.Test.YtcpffonenhhfoaaProg
namespace Go.Proofs.Ytcpffonenhhfoaa
open Go.RowKit

/-- each vertex alone -/
def newT (n : Nat) : List (List Int) := (List.range n).map fun j : Nat => [(j : Int)]
theorem newT_len (n : Nat) : (newT n).length = n := by simp [newT]
theorem newT_succ (n : Nat) : newT (n + 1) = newT n ++ [[(n : Int)]] := by simp [newT, List.range_succ]
theorem newT_at {n k : Nat} (h : k < n) : (newT n)[k]? = some [(k : Int)] := by simp [newT, h]
def newO (n : Int) : Option (List (List Int)) := if 1 ≤ n ∧ n ≤ 12 then some (newT n.toNat) else none
theorem newO_yes {n : Nat} (h1 : 1 ≤ n) (h2 : n ≤ 12) : newO (n : Int) = some (newT n) := by unfold newO; rw [if_pos (by omega)]; simp
theorem newO_no {n : Int} (h : ¬ (1 ≤ n ∧ n ≤ 12)) : newO n = none := by unfold newO; rw [if_neg h]

theorem row_new (u : World) (x : Int) : RwB (u.alloc (.cells #[.int .i64 x] 3)) ⟨u.heap.size, 1, [x]⟩ := by
  have h0 := World.ownsRow_lit (base := u.heap.size) (e := 3) (size := 1) u #[.int .i64 x] 1 (Nat.le_refl _) (by unfold maxLen; omega) (by simp)
  exact RwB.of_own (t := [x]) h0

set_option maxHeartbeats 2000000 in
theorem iForestNew_any (n : Int) (w : World) : Calls Try.prog 10 #[.int .i64 n] w fun e w' => FAns w n (newO n) e w' := by
  have HI := hideIt vertsOk_any
  have W1 := Box7.new w 27 (.int .i64 0) (.slice none 0 0) _ rfl
  by_cases h1 : 1 ≤ n ∧ n ≤ 12
  · obtain ⟨N, rfl⟩ : ∃ N : Nat, n = (N : Int) := ⟨n.toNat, by omega⟩
    have r1 : decide (1 ≤ (N : Int) ∧ (N : Int) ≤ 12) = true := decide_eq_true h1
    have HO := hideIt (newO_yes (n := N) (by omega) (by omega))
    obtain ⟨i0, hi, hz0, hz1, hz2⟩ := info_parts infoIT
    have hmk : ∀ u : World, (Instr.makeSlice 25 (.int .i64 (N : Int)) (.int .i64 (N : Int))).run Try.prog u =
        .ok (.slice (some ⟨u.heap.size, 0, none⟩) N N) (u.alloc (.cells (madeCells #[.slice none 0 0] N) 50)) := fun u => by
      have h := run_make (P := Try.prog) u 25 50 i0 _ Try.underlying25 hi hz0 .i64 .i64 (N : Int) (N : Int) (by omega) (by omega) (by rw [hz2]; omega) (by omega)
      rw [Int.toNat_natCast] at h
      simpa [hz1, Value.cells] using h
    have F0 : FMk (w.alloc (.cells #[.int .i64 0, .slice none 0 0] 27)) N [] ((w.alloc (.cells #[.int .i64 0, .slice none 0 0] 27)).alloc (.cells (madeCells #[.slice none 0 0] N) 50)) :=
      ⟨⟨_, World.ownsRow_lit (base := (w.alloc (.cells #[.int .i64 0, .slice none 0 0] 27)).heap.size) (e := 50) (size := 1) _ (madeCells #[.slice none 0 0] N) N (Nat.le_refl _) (by unfold maxLen; omega) (by simp [madeCells]), by simp [rhs]⟩, by simp, List.Pairwise.nil, (Below.refl _ _).alloc (Nat.le_refl _) _⟩
    obtain ⟨V, hV⟩ : ∃ V, V = w.alloc (.cells #[.int .i64 0, .slice none 0 0] 27) := ⟨_, rfl⟩
    have hVs : V.heap.size = w.heap.size + 1 := by rw [hV]; simp
    have gV : Good w V := by rw [hV]; exact (Good.refl w).alloc _
    rw [← hV] at F0 W1
    rw [hV] at F0
    have hN12 : N ≤ 12 := by omega
    clear h1
    go_enter Try.func10, Try.ntmps10
    go_wp2_with (go_at_call 28; refine (HI.out _ _).mono ?_; rintro e w1 ⟨rfl, rfl⟩)
    go_loopw [13] (fun i wr => ∃ (k : Nat) (R : List Rw), k ≤ N ∧ i = .int .i64 (k : Int) ∧ Hid (R.length = k) ∧ Hid (rts R = newT k) ∧ FMk V N R wr) (fun i _ => N - (intOf i).toNat)
    case atStart => exact ⟨0, [], by omega, rfl, by show _ = _; rfl, by show _ = _; rfl, by rw [hV]; exact F0⟩
    case round =>
      obtain ⟨k, R, hk, rfl, HK, HR, hF⟩ := hrel
      clear F0 hmk hV
      have HF := hideIt hF
      obtain ⟨xs, hown, hxs⟩ := hF.xs
      have hl3 : xs.length = N * 1 := hown.1
      have hwz := (hown.lt V.heap.size rfl).2
      rw [hVs] at hown
      by_cases hlt : k < N
      · have b1 : (0 : Int) ≤ (k : Int) := by omega
        have b2 : (k : Int) < (N : Int) := by omega
        have hb : Below wr.heap.size wr (wr.alloc (.cells #[.int .i64 (k : Int)] 3)) := (Below.refl _ _).alloc (Nat.le_refl _) _
        have ho2 := hown.alloc (.cells #[.int .i64 (k : Int)] 3)
        have f0 := ho2.frozenAt k
        have x0 : (wr.alloc (.cells #[.int .i64 (k : Int)] 3)).cell? ⟨w.heap.size + 1, k, none⟩ = some (xs[k]'(by omega)) := by rw [ho2.cellAt k (by omega)]; exact List.getElem?_eq_getElem (by omega)
        have hA := HF.out.add (r := ⟨wr.heap.size, 1, [(k : Int)]⟩) (by have := HK.out; omega) hb (row_new wr _) (Nat.le_refl _)
        rw [HK.out, hVs] at hA
        have HA := hideIt hA
        have HR2 : Hid (rts (R ++ [⟨wr.heap.size, 1, [(k : Int)]⟩]) = newT (k + 1)) := by show _ = _; rw [rts_snoc, HR.out, newT_succ]
        clear ho2 hA hown hb hF hxs HR
        go_wp2
        exact ⟨⟨k + 1, _, by omega, by go_num, by show _ = _; rw [List.length_append, HK.out]; rfl, HR2, HA.out⟩, by simp [intOf]; omega⟩
      · obtain rfl : k = N := by omega
        have hFB := HF.out.fb HK.out
        rw [hVs] at hFB
        have bx := W1.up HF.out.bel
        have c0 := bx.cell0
        have c1 := bx.cell1
        have f0 := bx.frozen 0
        have f1 := bx.frozen 1
        have HF5 := hideIt ((hFB.setLow (x := w.heap.size) (by omega) 0 (.int .i64 (k : Int))).setLow (x := w.heap.size) (by omega) 1 (.slice (some ⟨w.heap.size + 1, 0, none⟩) k k))
        have HB5 : Hid (Below w.heap.size w ((wr.setCell ⟨w.heap.size, 0, none⟩ (.int .i64 (k : Int))).setCell ⟨w.heap.size, 1, none⟩ (.slice (some ⟨w.heap.size + 1, 0, none⟩) k k))) := ((gV.up HF.out.bel).setCell (p := ⟨w.heap.size, 0, none⟩) (Nat.le_refl _) _).setCell (p := ⟨w.heap.size, 1, none⟩) (Nat.le_refl _) _
        clear hF hown hxs hFB bx
        go_wp2
        exact bodyPost_ret (v := .tuple #[.agg #[.int .i64 (k : Int), .slice (some ⟨w.heap.size + 1, 0, none⟩) k k], .bool true]) (by simp [results, Try.results10, go_sem, c0, c1]) rfl ⟨_, k, k, R, by rw [HO.out]; rfl, (HF5.out.lo (by omega)).hi (by simp [World.setCell]) (by simp [World.setCell]), by rw [HO.out, HR.out]; rfl, HB5.out⟩
  · have r1 : decide (1 ≤ n ∧ n ≤ 12) = false := decide_eq_false h1
    have HO := hideIt (newO_no h1)
    have HB : Hid (Below w.heap.size w (((w.alloc (.cells #[.int .i64 0, .slice none 0 0] 27)).setCell ⟨w.heap.size, 0, none⟩ (.int .i64 0)).setCell ⟨w.heap.size, 1, none⟩ (.slice none 0 0))) := (((Below.refl _ w).alloc (Nat.le_refl _) _).setCell (p := ⟨w.heap.size, 0, none⟩) (Nat.le_refl _) _).setCell (p := ⟨w.heap.size, 1, none⟩) (Nat.le_refl _) _
    clear h1 W1
    go_enter Try.func10, Try.ntmps10
    go_wp2_with (go_at_call 28; refine (HI.out _ _).mono ?_; rintro e w1 ⟨rfl, rfl⟩)
    refine bodyPost_ret (v := .tuple #[.agg #[.int .i64 0, .slice none 0 0], .bool false]) (by simp [results, Try.results10, go_sem]) rfl (fans_no HO.out ?_)
    first | exact HB.out | exact (Below.refl _ w).alloc (Nat.le_refl _) _
end Go.Proofs.Ytcpffonenhhfoaa
namespace Go.Proofs.Ytcpffonenhhfoaa
open Go.RowKit

/-- the world behind the edge's box -/
def wE (w : World) (e : EdgeV) : World := w.alloc (.cells #[.int .i64 e.1, .int .i64 e.2] 44)

theorem wE_size (w : World) (e : EdgeV) : (wE w e).heap.size = w.heap.size + 1 := by simp [wE]

/-- nothing of it has turned, and the row is ours -/
structure PutSt (w : World) (e : EdgeV) (a : Option Addr) (m c : Nat) (gs : List EdgeV) (u : World) : Prop where
  own : u.ownsRow (w.heap.size + 1) 44 2 (.slice a m c) m (ecells gs)
  bel : Below (w.heap.size + 1) (wE w e) u

theorem PutSt.size {w : World} {e : EdgeV} {a : Option Addr} {m c : Nat} {gs : List EdgeV} {u : World} (h : PutSt w e a m c gs u) : w.heap.size + 1 ≤ u.heap.size := by have := h.bel.size; rw [wE_size] at this; exact this

theorem PutSt.len {w : World} {e : EdgeV} {a : Option Addr} {m c : Nat} {gs : List EdgeV} {u : World} (h : PutSt w e a m c gs u) : gs.length = m := by have := h.own.1; rw [ecells_length] at this; omega

theorem PutSt.below {w : World} {e : EdgeV} {a : Option Addr} {m c : Nat} {gs : List EdgeV} {u : World} (h : PutSt w e a m c gs u) : Below w.heap.size w u :=
  ((Below.refl w.heap.size w).alloc (Nat.le_refl _) _).trans (h.bel.mono (by omega))

theorem PutSt.up {w : World} {e : EdgeV} {a : Option Addr} {m c : Nat} {gs : List EdgeV} {u v : World} (h : PutSt w e a m c gs u) (hb : Below u.heap.size u v) : PutSt w e a m c gs v :=
  ⟨World.ownsRow.kept h.own (show u.grownBy v none from ⟨hb.os, hb.tape, hb.output, hb.size, fun k hk _ => hb.block k hk⟩) (by cases hv : (Value.slice a m c).ownBlock <;> simp), h.bel.trans (hb.mono h.size)⟩

theorem PutSt.box {w : World} {e : EdgeV} {a : Option Addr} {m c : Nat} {gs : List EdgeV} {u : World} (h : PutSt w e a m c gs u) : u.cell? ⟨w.heap.size, 0, none⟩ = some (.int .i64 e.1) ∧ u.cell? ⟨w.heap.size, 1, none⟩ = some (.int .i64 e.2) := by
  refine ⟨?_, ?_⟩
  · rw [h.bel.cell (by show w.heap.size < _; omega)]; simp [wE]
  · rw [h.bel.cell (by show w.heap.size < _; omega)]; simp [wE]

/-- behind an append of one edge -/
theorem PutSt.app {w : World} {e : EdgeV} {a : Option Addr} {m c : Nat} {gs : List EdgeV} {u : World} (h : PutSt w e a m c gs u) {g : EdgeV} {o : Obj} {v : Value} {u' : World}
    (ho : u'.ownsRow (w.heap.size + 1) 44 2 v (m + 1) (ecells gs ++ [.int .i64 g.1, .int .i64 g.2])) (hg : (u.alloc o).grownBy u' (Value.slice a m c).ownBlock) :
    ∃ a' c', v = .slice a' (m + 1) c' ∧ PutSt w e a' (m + 1) c' (gs ++ [g]) u' := by
  obtain ⟨a', c', rfl⟩ := own_form ho
  rw [← ecells_snoc] at ho
  refine ⟨a', c', rfl, ho, ?_⟩
  exact (h.bel.alloc h.size _).grown hg (by have := h.size; simp; omega) (fun j hj => (h.own.lt j hj).1)

theorem news1 (w : World) (g : EdgeV) : ∀ j u, ([Value.int .i64 g.1, Value.int .i64 g.2] : List Value)[j]? = some u → (w.alloc (.cells #[.int .i64 g.1, .int .i64 g.2] 44)).cell? ((⟨w.heap.size, 0, none⟩ : Addr).add j) = some u := by
  intro j u hj
  rcases j with _ | _ | j
  · simp at hj; subst hj; simp [Addr.add]
  · simp at hj; subst hj; simp [Addr.add]
  · simp at hj

end Go.Proofs.Ytcpffonenhhfoaa
namespace Go.Proofs.Ytcpffonenhhfoaa
open Go.RowKit Go.Shelf
attribute [local go_sem] Oper.semAt_some

/-- an edge, as yield takes it -/
abbrev edgV (x : EdgeV) : Array Value := #[.agg #[.int .i64 x.1, .int .i64 x.2]]

end Go.Proofs.Ytcpffonenhhfoaa
namespace Go.Proofs.Ytcpffonenhhfoaa
open Go.RowKit

/-- -1, 0 or 1 -/
def cmpI (x y : Int) : Int := if x < y then -1 else if y < x then 1 else 0
/-- the comparison of two edges -/
def cmpE (d e : EdgeV) : Int := if cmpI d.1 e.1 ≠ 0 then cmpI d.1 e.1 else cmpI d.2 e.2

theorem cmpI_zero (x y : Int) : cmpI x y = 0 ↔ x = y := by unfold cmpI; split <;> (try split) <;> omega
theorem cmpI_neg (x y : Int) : cmpI x y < 0 ↔ x < y := by unfold cmpI; split <;> (try split) <;> omega
theorem cmpE_neg (d e : EdgeV) : cmpE d e < 0 ↔ lt d e = true := by
  unfold cmpE lt
  rw [decide_eq_true_iff]
  by_cases h : cmpI d.1 e.1 = 0
  · rw [if_neg (by simpa using h), cmpI_neg]
    have := (cmpI_zero d.1 e.1).1 h
    omega
  · rw [if_pos h, cmpI_neg]
    have := mt (cmpI_zero d.1 e.1).2 h
    omega
theorem cmpE_zero (d e : EdgeV) : cmpE d e = 0 ↔ d = e := by
  unfold cmpE
  by_cases h : cmpI d.1 e.1 = 0
  · rw [if_neg (by simpa using h), cmpI_zero]
    exact ⟨fun h2 => Prod.ext ((cmpI_zero _ _).1 h) h2, fun h2 => by rw [h2]⟩
  · rw [if_pos h]
    exact ⟨fun h2 => absurd h2 h, fun h2 => absurd ((cmpI_zero _ _).2 (by rw [h2])) h⟩

theorem cmpCompare_any (x y : Int) (w : World) : Calls Try.prog 64 #[.int .i64 x, .int .i64 y] w fun e w' => e = .returned (.int .i64 (cmpI x y)) ∧ w' = w := by
  unfold cmpI
  by_cases h1 : x < y
  · rw [if_pos h1]
    have d1 : decide (x < y) = true := decide_eq_true h1
    go_enter Try.func64, Try.ntmps64
    go_wp2
    go_ret
    exact ⟨rfl, rfl⟩
  · rw [if_neg h1]
    have d1 : decide (x < y) = false := decide_eq_false h1
    by_cases h2 : y < x
    · rw [if_pos h2]
      have d2 : decide (y < x) = true := decide_eq_true h2
      go_enter Try.func64, Try.ntmps64
      go_wp2
      go_ret
      exact ⟨rfl, rfl⟩
    · rw [if_neg h2]
      have d2 : decide (y < x) = false := decide_eq_false h2
      go_enter Try.func64, Try.ntmps64
      go_wp2
      go_ret
      exact ⟨rfl, rfl⟩

theorem cmpOr_any (x y : Int) (b : Nat) (w : World) (h0 : w.cell? ⟨b, 0, none⟩ = some (.int .i64 x)) (h1 : w.cell? ⟨b, 1, none⟩ = some (.int .i64 y)) :
    Calls Try.prog 63 #[.slice (some ⟨b, 0, none⟩) 2 2] w fun e w' => e = .returned (.int .i64 (if x ≠ 0 then x else y)) ∧ w' = w := by
  go_enter Try.func63, Try.ntmps63
  go_wp2
  go_loopw [8] (fun i wr => ∃ k : Nat, k ≤ 2 ∧ i = .int .i64 (k : Int) ∧ wr = w ∧ Hid (1 ≤ k → x = 0) ∧ Hid (2 ≤ k → y = 0)) (fun i _ => 2 - (intOf i).toNat)
  case atStart => exact ⟨0, by omega, rfl, rfl, fun h => by omega, fun h => by omega⟩
  case round =>
    obtain ⟨k, hk, rfl, rfl, hx, hy⟩ := hrel
    rcases k with _ | _ | k
    · by_cases g : x = 0
      · subst g
        go_wp2
        exact ⟨⟨1, by omega, by go_num, by first | trivial | rfl, by first | exact fun _ => True.intro | exact fun _ => rfl, by first | exact True.intro | exact fun h => by omega⟩, by simp [intOf]⟩
      · have d : (x != 0) = true := by simpa using g
        go_wp2
        go_ret
        exact ⟨rfl, rfl⟩
    · have g := hx.out (by omega)
      subst g
      clear hx hy
      by_cases g : y = 0
      · subst g
        go_wp2
        exact ⟨⟨2, by omega, by go_num, by first | trivial | rfl, by first | exact fun _ => True.intro | exact fun _ => rfl, by first | exact fun _ => True.intro | exact fun _ => rfl⟩, by simp [intOf]⟩
      · have d : (y != 0) = true := by simpa using g
        go_wp2
        go_ret
        exact ⟨rfl, rfl⟩
    · obtain rfl : k = 0 := by omega
      have g := hx.out (by omega)
      have g2 := hy.out (by omega)
      subst g g2
      clear hx hy
      go_wp2
      go_ret
      exact ⟨rfl, rfl⟩

set_option maxHeartbeats 1000000 in
theorem compareEdges_any (d e : EdgeV) (w : World) :
    Calls Try.prog 35 #[.agg #[.int .i64 d.1, .int .i64 d.2], .agg #[.int .i64 e.1, .int .i64 e.2]] w fun x w' => x = .returned (.int .i64 (cmpE d e)) ∧ Below w.heap.size w w' := by
  obtain ⟨a, b⟩ := d
  obtain ⟨c, f⟩ := e
  dsimp only
  have HC := hideIt cmpCompare_any
  have HO : Hid (Calls Try.prog 63 #[.slice (some ⟨w.heap.size + 1 + 1, 0, none⟩) 2 2] (((w.alloc (.cells #[.int .i64 a, .int .i64 b] 44)).alloc (.cells #[.int .i64 c, .int .i64 f] 44)).alloc (.cells #[.int .i64 (cmpI a c), .int .i64 (cmpI b f)] 3)).drew
      fun e w' => e = .returned (.int .i64 (cmpE (a, b) (c, f))) ∧ w' = (((w.alloc (.cells #[.int .i64 a, .int .i64 b] 44)).alloc (.cells #[.int .i64 c, .int .i64 f] 44)).alloc (.cells #[.int .i64 (cmpI a c), .int .i64 (cmpI b f)] 3)).drew) :=
    cmpOr_any (cmpI a c) (cmpI b f) (w.heap.size + 1 + 1) _ (by simp [go_sem]) (by simp [go_sem])
  go_enter Try.func35, Try.ntmps35
  go_wp2
  go_region_held3 (fun u => (u.cell? ⟨w.heap.size, 0, none⟩ = some (.int .i64 a) ∧ u.cell? ⟨w.heap.size, 1, none⟩ = some (.int .i64 b)) ∧ u.cell? ⟨w.heap.size + 1, 0, none⟩ = some (.int .i64 c) ∧ u.cell? ⟨w.heap.size + 1, 1, none⟩ = some (.int .i64 f))
    (go_keep)
    (first
      | (go_at_call 64; refine (HC.out _ _ _).mono ?_; rintro e w1 ⟨rfl, rfl⟩)
      | (go_at_call 63; refine HO.out.mono ?_; rintro e w1 ⟨rfl, rfl⟩))
  all_goals
    go_wp2
    go_ret
    exact ⟨rfl, ((((Below.refl _ _).alloc (Nat.le_refl _) _).alloc (by simp) _).alloc (by simp; omega) _).drew⟩
end Go.Proofs.Ytcpffonenhhfoaa
namespace Go.Proofs
open Go.Shelf
def Try.laysSF_ren : Go.Shelf.Ren := ⟨fun | 6 => 34 | 15 => 62 | 14 => 61 | 28 => 96 | 29 => 97 | 20 => 88 | 21 => 89 | 22 => 90 | 23 => 91 | 24 => 92 | 25 => 93 | 26 => 94 | 27 => 95 | 46 => 105 | 47 => 106 | 48 => 107 | 49 => 108 | 50 => 109 | 57 => 128 | n => n, fun | 22 => 31 | 24 => 44 | 25 => 58 | 3 => 3 | 39 => 82 | 0 => 0 | 53 => 103 | 55 => 105 | 4 => 4 | 46 => 96 | 45 => 95 | 50 => 100 | 5 => 5 | 9 => 9 | 66 => 114 | 70 => 118 | 76 => 131 | 77 => 132 | n => n, fun | n => n⟩
theorem Try.laysSF : Go.Proofs.SlLaysF0.n6 Try.prog Try.laysSF_ren := {
  mixed := by kernel_rfl
  f6 := ⟨Try.f34.name, by decide, Try.func34.trans (congrArg some (by kernel_rfl))⟩
  f14 := ⟨Try.f61.name, by decide, Try.func61.trans (congrArg some (by kernel_rfl))⟩
  f15 := Try.func62.trans (congrArg some (by kernel_rfl))
  f20 := ⟨Try.f88.name, by decide, Try.func88.trans (congrArg some (by kernel_rfl))⟩
  f21 := ⟨Try.f89.name, by decide, Try.func89.trans (congrArg some (by kernel_rfl))⟩
  f22 := ⟨Try.f90.name, by decide, Try.func90.trans (congrArg some (by kernel_rfl))⟩
  f23 := ⟨Try.f91.name, by decide, Try.func91.trans (congrArg some (by kernel_rfl))⟩
  f24 := ⟨Try.f92.name, by decide, Try.func92.trans (congrArg some (by kernel_rfl))⟩
  f25 := ⟨Try.f93.name, by decide, Try.func93.trans (congrArg some (by kernel_rfl))⟩
  f26 := ⟨Try.f94.name, by decide, Try.func94.trans (congrArg some (by kernel_rfl))⟩
  f27 := ⟨Try.f95.name, by decide, Try.func95.trans (congrArg some (by kernel_rfl))⟩
  f28 := Try.func96.trans (congrArg some (by kernel_rfl))
  f29 := Try.func97.trans (congrArg some (by kernel_rfl))
  f46 := ⟨Try.f105.name, by decide, Try.func105.trans (congrArg some (by kernel_rfl))⟩
  f47 := Try.func106.trans (congrArg some (by kernel_rfl))
  f48 := Try.func107.trans (congrArg some (by kernel_rfl))
  f49 := ⟨Try.f108.name, by decide, Try.func108.trans (congrArg some (by kernel_rfl))⟩
  f50 := ⟨Try.f109.name, by decide, Try.func109.trans (congrArg some (by kernel_rfl))⟩
  f57 := ⟨Try.f128.name, by decide, Try.func128.trans (congrArg some (by kernel_rfl))⟩
  t0 := Try.underlying0
  a0 := Try.isAgg0
  z0 := Try.sizeOf0
  v0 := Try.zeroValue0
  t3 := Try.underlying3
  a3 := Try.isAgg3
  z3 := Try.sizeOf3
  v3 := Try.zeroValue3
  t4 := Try.underlying4
  a4 := Try.isAgg4
  z4 := Try.sizeOf4
  v4 := Try.zeroValue4
  t5 := Try.underlying5
  a5 := Try.isAgg5
  z5 := Try.sizeOf5
  v5 := Try.zeroValue5
  t9 := Try.underlying9
  a9 := Try.isAgg9
  z9 := Try.sizeOf9
  v9 := Try.zeroValue9
  t22 := Try.underlying31
  a22 := Try.isAgg31
  z22 := Try.sizeOf31
  v22 := Try.zeroValue31
  t25 := Try.underlying58
  a25 := Try.isAgg58
  z25 := Try.sizeOf58
  v25 := Try.zeroValue58
  t39 := Try.underlying82
  a39 := Try.isAgg82
  z39 := Try.sizeOf82
  v39 := Try.zeroValue82
  t45 := Try.underlying95
  a45 := Try.isAgg95
  z45 := Try.sizeOf95
  v45 := Try.zeroValue95
  t46 := Try.underlying96
  a46 := Try.isAgg96
  z46 := Try.sizeOf96
  v46 := Try.zeroValue96
  t50 := Try.underlying100
  a50 := Try.isAgg100
  z50 := Try.sizeOf100
  v50 := Try.zeroValue100
  t53 := Try.underlying103
  a53 := Try.isAgg103
  z53 := Try.sizeOf103
  v53 := Try.zeroValue103
  t55 := Try.underlying105
  a55 := Try.isAgg105
  z55 := Try.sizeOf105
  v55 := Try.zeroValue105
  t66 := Try.underlying114
  a66 := Try.isAgg114
  z66 := Try.sizeOf114
  v66 := Try.zeroValue114
  t70 := Try.underlying118
  a70 := Try.isAgg118
  z70 := Try.sizeOf118
  v70 := Try.zeroValue118
  t76 := Try.underlying131
  a76 := Try.isAgg131
  z76 := Try.sizeOf131
  v76 := Try.zeroValue131
  t77 := Try.underlying132
  a77 := Try.isAgg132
  z77 := Try.sizeOf132
  v77 := Try.zeroValue132 }
end Go.Proofs
namespace Go.Proofs.Ytcpffonenhhfoaa
open Go.RowKit Go.Sort Go.Lib

set_option maxHeartbeats 1000000 in
theorem compareEdges_grow (d e : EdgeV) (w : World) :
    Calls Try.prog 35 #[.agg #[.int .i64 d.1, .int .i64 d.2], .agg #[.int .i64 e.1, .int .i64 e.2]] w fun x w' => x = .returned (.int .i64 (cmpE d e)) ∧ ∃ q os', w' = grow (w.drewN q) os' := by
  obtain ⟨a, b⟩ := d
  obtain ⟨c, f⟩ := e
  dsimp only
  have HC := hideIt cmpCompare_any
  have HO : Hid (Calls Try.prog 63 #[.slice (some ⟨w.heap.size + 1 + 1, 0, none⟩) 2 2] (((w.alloc (.cells #[.int .i64 a, .int .i64 b] 44)).alloc (.cells #[.int .i64 c, .int .i64 f] 44)).alloc (.cells #[.int .i64 (cmpI a c), .int .i64 (cmpI b f)] 3)).drew
      fun e w' => e = .returned (.int .i64 (cmpE (a, b) (c, f))) ∧ w' = (((w.alloc (.cells #[.int .i64 a, .int .i64 b] 44)).alloc (.cells #[.int .i64 c, .int .i64 f] 44)).alloc (.cells #[.int .i64 (cmpI a c), .int .i64 (cmpI b f)] 3)).drew) :=
    cmpOr_any (cmpI a c) (cmpI b f) (w.heap.size + 1 + 1) _ (by simp [go_sem]) (by simp [go_sem])
  go_enter Try.func35, Try.ntmps35
  go_wp2
  go_region_held3 (fun u => (u.cell? ⟨w.heap.size, 0, none⟩ = some (.int .i64 a) ∧ u.cell? ⟨w.heap.size, 1, none⟩ = some (.int .i64 b)) ∧ u.cell? ⟨w.heap.size + 1, 0, none⟩ = some (.int .i64 c) ∧ u.cell? ⟨w.heap.size + 1, 1, none⟩ = some (.int .i64 f))
    (go_keep)
    (first
      | (go_at_call 64; refine (HC.out _ _ _).mono ?_; rintro e w1 ⟨rfl, rfl⟩)
      | (go_at_call 63; refine HO.out.mono ?_; rintro e w1 ⟨rfl, rfl⟩))
  all_goals
    go_wp2
    go_ret
    exact ⟨rfl, 1, _, by rw [alloc_eq_grow, alloc_eq_grow, alloc_eq_grow, grow_grow, grow_grow]; rfl⟩

theorem ltE (x y : EdgeV) : ltOf cmpE x y = lt x y := by
  unfold ltOf
  rw [Bool.eq_iff_iff, decide_eq_true_iff, cmpE_neg]
theorem swoE : SWO (ltOf cmpE) where
  irrefl x := by rw [ltE]; exact lt_irrefl' x
  trans x y z h1 h2 := by rw [ltE] at *; exact lt_trans' h1 h2
  ntrans x y z h1 h2 := by
    rw [ltE] at *
    cases h : lt x z with
    | false => rfl
    | true =>
      rw [lt_iff] at h
      have a1 : ¬ (lt x y = true) := by rw [h1]; simp
      have a2 : ¬ (lt y z = true) := by rw [h2]; simp
      rw [lt_iff] at a1 a2
      omega
/-- the edges, ascending -/
def srtE (es : List EdgeV) : List EdgeV := es.mergeSort fun x y => !(lt y x)
theorem srtE_eq (es : List EdgeV) : (es.mergeSort fun x y => !(ltOf cmpE) y x) = srtE es := by
  unfold srtE
  congr 1
  funext x y
  rw [ltE]
theorem srtE_perm (es : List EdgeV) : (srtE es).Perm es := List.mergeSort_perm _ _
theorem srtE_mem (es : List EdgeV) (e : EdgeV) : e ∈ srtE es ↔ e ∈ es := (srtE_perm es).mem_iff
theorem srtE_len (es : List EdgeV) : (srtE es).length = es.length := (srtE_perm es).length_eq
theorem srtE_asc {es : List EdgeV} (hn : es.Nodup) : Asc (srtE es) := by
  have hp : (srtE es).Pairwise (fun x y => (!(lt y x)) = true) := List.pairwise_mergeSort (fun a b c h1 h2 => by
      simp only [Bool.not_eq_true'] at h1 h2 ⊢
      have a1 : ¬ (lt b a = true) := by rw [h1]; simp
      have a2 : ¬ (lt c b = true) := by rw [h2]; simp
      cases h : lt c a with
      | false => rfl
      | true =>
        rw [lt_iff] at h a1 a2
        omega) (fun a b => by
      cases h : lt b a with
      | false => simp
      | true => simp [lt_asymm' h]) es
  have hn2 : (srtE es).Nodup := (srtE_perm es).nodup_iff.2 hn
  intro i j d e hij hd he
  obtain ⟨q0, q1⟩ := List.getElem?_eq_some_iff.1 hd
  obtain ⟨q2, q3⟩ := List.getElem?_eq_some_iff.1 he
  have h1 := List.pairwise_iff_getElem.1 hp i j q0 q2 hij
  have h2 := List.pairwise_iff_getElem.1 hn2 i j q0 q2 hij
  rw [q1, q3] at h1 h2
  simp only [Bool.not_eq_true'] at h1
  exact lt_total' h1 (fun e => h2 e.symm)

theorem flat_cells (es : List EdgeV) : flatK ecell 2 es.toArray = (ecells es).toArray := by
  refine ext_get! (by simp [ecells_length]) fun t ht => ?_
  have ht' : t < es.length * 2 := by simpa using ht
  rw [get_flatK _ _ _ t (by simpa using ht')]
  obtain ⟨f, hf⟩ : ∃ f, es[t / 2]? = some f := ⟨es[t / 2]'(by omega), List.getElem?_eq_getElem (by omega)⟩
  have hfe : es.toArray[t / 2]! = f := by
    rw [getElem!_pos _ _ (by simp; omega)]
    obtain ⟨q, e⟩ := List.getElem?_eq_some_iff.1 hf
    simpa using e
  rw [hfe]
  obtain ⟨h0, h1⟩ := ecells_at es (t / 2) f hf
  have hl : t < (ecells es).length := by rw [ecells_length]; exact ht'
  rw [getElem!_pos _ t (by simpa using hl)]
  rcases Nat.mod_two_eq_zero_or_one t with h | h
  · have et : t / 2 * 2 = t := by omega
    rw [et] at h0
    obtain ⟨q, e⟩ := List.getElem?_eq_some_iff.1 h0
    rw [h]
    simpa [ecell] using e.symm
  · have et : t / 2 * 2 + 1 = t := by omega
    rw [et] at h1
    obtain ⟨q, e⟩ := List.getElem?_eq_some_iff.1 h1
    rw [h]
    simpa [ecell] using e.symm
theorem take_putId (cur F : Array Value) (h : F.size ≤ cur.size) : (putCells id 0 F cur).toList.take F.size = F.toList := by
  apply List.ext_getElem?
  intro j
  by_cases hj : j < F.size
  · rw [List.getElem?_take_of_lt hj, Array.getElem?_toList]
    simp [putCells, hj, show j < cur.size by omega]
  · rw [List.getElem?_take_eq_none (by omega), List.getElem?_eq_none (by simp; omega)]
theorem heap_putId {w : World} {g n : Nat} {os : Array Obj} {cur : Array Value} {e : TypeId} {fr : Nat × Nat} (F : Array Value) (hb : w.heap[g]? = some (.cells cur e fr)) :
    (grow (putRow id (Sort.ahead w n) g 0 F) os).heap[g]? = some (.cells (putCells id 0 F cur) e fr) := by
  have hg : g < w.heap.size := (Array.getElem?_eq_some_iff.1 hb).1
  rw [heap_grow_old _ _ (by simpa using hg)]
  simp [putRow, mapBlock, Sort.ahead, Array.getElem?_modify, hb, onCells]
theorem grown_putId {w : World} {g n : Nat} {os : Array Obj} (F : Array Value) : w.grownBy (grow (putRow id (Sort.ahead w n) g 0 F) os) (some g) := by
  refine ⟨rfl, rfl, rfl, by simp, fun k hk hne => ?_⟩
  rw [heap_grow_old _ _ (by simpa using hk)]
  have : g ≠ k := fun e => hne (by rw [e])
  simp [putRow, mapBlock, Sort.ahead, Array.getElem?_modify, this]

set_option maxHeartbeats 1000000 in
theorem sortFE_any (es : List EdgeV) (m : Nat) (v : Value) (B : Nat) (hm : m ≤ 3000000) (w : World) (h : w.ownsRow B 44 2 v m (ecells es)) :
    Calls Try.prog 34 #[v, .func (.func 35) #[] #[]] w fun e w' => e = .returned (.tuple #[]) ∧ w'.ownsRow B 44 2 v m (ecells (srtE es)) ∧ (B ≤ w.heap.size → Below B w w') := by
  have hl := h.1
  rw [ecells_length] at hl
  rcases h.2 with ⟨rfl, h0⟩ | ⟨g, cap, cur, rfl, hg, hgb, r1, r2, r3, r4⟩
  · have hc := AnyF.slices_SortFunc_none Try.laysSF none 0 (.func (.func 35) #[] #[]) w
    change Calls Try.prog 34 _ _ _ at hc
    refine hc.mono ?_
    rintro e w' ⟨rfl, rfl⟩
    have e : es = [] := List.eq_nil_of_length_eq_zero (by omega)
    subst e
    exact ⟨rfl, by simpa [srtE] using h, fun _ => Below.refl _ _⟩
  · have hgl : g < w.heap.size := (Array.getElem?_eq_some_iff.1 hgb).1
    have hH : HoldsK ecell 2 w g 0 es.toArray := by
      unfold HoldsK
      rw [flat_cells]
      intro j hj
      have hj' : j < (ecells es).length := by simpa using hj
      refine ⟨?_, h.frozenAt (0 + j)⟩
      rw [Nat.zero_add, h.cellAt j (by rw [ecells_length] at hj'; omega), getElem!_pos _ j hj]
      simp [hj']
    have hc := AnyQ.slices_SortFunc_total Try.laysSF 2 Try.isAgg44 Try.sizeOf44 ecell (fun _ => rfl) (fun x u hu => by simp [ecell] at hu; rcases hu with rfl | rfl <;> rfl) cmpE swoE 35 #[] g 0 cap es.toArray w
      (enters_of Try.func35 (by kernel_rfl) rfl) (fun _ _ _ _ x y => compareEdges_grow x y _) hH hgl (by simp; omega) (fun x y h1 h2 => by
        rw [ltE] at h1 h2
        exact Classical.byContradiction fun hne => by have := lt_total' h1 hne; rw [h2] at this; simp at this)
    change Calls Try.prog 34 _ _ _ at hc
    rw [show es.toArray.size = m by simp; omega] at hc
    refine hc.mono ?_
    rintro e w' ⟨rfl, n, os, rfl⟩
    rw [show es.toArray.toList = es by simp, srtE_eq]
    unfold sortWorldK putRowK
    rw [flat_cells]
    have hsl : (ecells (srtE es)).toArray.size = m * 2 := by simp [ecells_length, srtE_len]; omega
    refine ⟨rfl, ⟨by rw [ecells_length, srtE_len]; omega, .inr ⟨g, cap, _, rfl, hg, heap_putId _ hgb, r1, r2, by simp [putCells, r3], ?_⟩⟩, fun hB => (Below.refl _ w).grown (grown_putId _) hB (fun j e => by cases e; exact hg)⟩
    have := take_putId cur (ecells (srtE es)).toArray (by rw [hsl, r3]; omega)
    rw [hsl] at this
    simpa using this

end Go.Proofs.Ytcpffonenhhfoaa
