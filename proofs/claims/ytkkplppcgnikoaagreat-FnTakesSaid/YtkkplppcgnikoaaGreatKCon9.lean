/- The library's comparisons; the program's compareEdges. The program's EdgeOk. Right graphs, as lists. Edges put in and left out: pure. slices.BinarySearchFunc over edges. slices.Concat of edges. -/
import Derived.Test.YtkkplppcgnikoaaGreatKBx7
import Derived.Deep.RegionHeld3
import Derived.Lib.AppendZerosOnto
import Derived.Lib.Walk
import Derived.Lib.SliceRun
import Derived.Laws.AppendOwnNone
namespace Go.Proofs.YtkkplppcgnikoaaGreat
open Go.RowKit

/-- -1, 0 or 1 -/
def cmpI (x y : Int) : Int := if x < y then -1 else if y < x then 1 else 0
/-- the comparison of two edges -/
def cmpE (d e : EdgeV) : Int := if cmpI d.1 e.1 ≠ 0 then cmpI d.1 e.1 else cmpI d.2 e.2

theorem cmpI_zero (x y : Int) : cmpI x y = 0 ↔ x = y := by unfold cmpI; split <;> (try split) <;> omega
theorem cmpI_neg (x y : Int) : cmpI x y < 0 ↔ x < y := by unfold cmpI; split <;> (try split) <;> omega
theorem cmpE_neg (d e : EdgeV) : cmpE d e < 0 ↔ lt d e = true := by
  unfold cmpE lt
  rw [decide_eq_true_iff]
  by_cases h : cmpI d.1 e.1 = 0
  · rw [if_neg (by simpa using h), cmpI_neg]
    have := (cmpI_zero d.1 e.1).1 h
    omega
  · rw [if_pos h, cmpI_neg]
    have := mt (cmpI_zero d.1 e.1).2 h
    omega
theorem cmpCompare_any (x y : Int) (w : World) : Calls Tryz.prog 193 #[.int .i64 x, .int .i64 y] w fun e w' => e = .returned (.int .i64 (cmpI x y)) ∧ w' = w := by
  unfold cmpI
  by_cases h1 : x < y
  · rw [if_pos h1]
    have d1 : decide (x < y) = true := decide_eq_true h1
    go_enter Tryz.func193, Tryz.ntmps193
    go_wp2
    go_ret
    exact ⟨rfl, rfl⟩
  · rw [if_neg h1]
    have d1 : decide (x < y) = false := decide_eq_false h1
    by_cases h2 : y < x
    · rw [if_pos h2]
      have d2 : decide (y < x) = true := decide_eq_true h2
      go_enter Tryz.func193, Tryz.ntmps193
      go_wp2
      go_ret
      exact ⟨rfl, rfl⟩
    · rw [if_neg h2]
      have d2 : decide (y < x) = false := decide_eq_false h2
      go_enter Tryz.func193, Tryz.ntmps193
      go_wp2
      go_ret
      exact ⟨rfl, rfl⟩

theorem cmpOr_any (x y : Int) (b : Nat) (w : World) (h0 : w.cell? ⟨b, 0, none⟩ = some (.int .i64 x)) (h1 : w.cell? ⟨b, 1, none⟩ = some (.int .i64 y)) :
    Calls Tryz.prog 192 #[.slice (some ⟨b, 0, none⟩) 2 2] w fun e w' => e = .returned (.int .i64 (if x ≠ 0 then x else y)) ∧ w' = w := by
  go_enter Tryz.func192, Tryz.ntmps192
  go_wp2
  go_loopw [8] (fun i wr => ∃ k : Nat, k ≤ 2 ∧ i = .int .i64 (k : Int) ∧ wr = w ∧ Hid (1 ≤ k → x = 0) ∧ Hid (2 ≤ k → y = 0)) (fun i _ => 2 - (intOf i).toNat)
  case atStart => exact ⟨0, by omega, rfl, rfl, fun h => by omega, fun h => by omega⟩
  case round =>
    obtain ⟨k, hk, rfl, rfl, hx, hy⟩ := hrel
    rcases k with _ | _ | k
    · by_cases g : x = 0
      · subst g
        go_wp2
        exact ⟨⟨1, by omega, by go_num, by first | trivial | rfl, by first | exact fun _ => True.intro | exact fun _ => rfl, by first | exact True.intro | exact fun h => by omega⟩, by simp [intOf]⟩
      · have d : (x != 0) = true := by simpa using g
        go_wp2
        go_ret
        exact ⟨rfl, rfl⟩
    · have g := hx.out (by omega)
      subst g
      clear hx hy
      by_cases g : y = 0
      · subst g
        go_wp2
        exact ⟨⟨2, by omega, by go_num, by first | trivial | rfl, by first | exact fun _ => True.intro | exact fun _ => rfl, by first | exact fun _ => True.intro | exact fun _ => rfl⟩, by simp [intOf]⟩
      · have d : (y != 0) = true := by simpa using g
        go_wp2
        go_ret
        exact ⟨rfl, rfl⟩
    · obtain rfl : k = 0 := by omega
      have g := hx.out (by omega)
      have g2 := hy.out (by omega)
      subst g g2
      clear hx hy
      go_wp2
      go_ret
      exact ⟨rfl, rfl⟩

set_option maxHeartbeats 1000000 in
theorem compareEdges_any (d e : EdgeV) (w : World) :
    Calls Tryz.prog 104 #[.agg #[.int .i64 d.1, .int .i64 d.2], .agg #[.int .i64 e.1, .int .i64 e.2]] w fun x w' => x = .returned (.int .i64 (cmpE d e)) ∧ Below w.heap.size w w' := by
  obtain ⟨a, b⟩ := d
  obtain ⟨c, f⟩ := e
  dsimp only
  have HC := hideIt cmpCompare_any
  have HO : Hid (Calls Tryz.prog 192 #[.slice (some ⟨w.heap.size + 1 + 1, 0, none⟩) 2 2] (((w.alloc (.cells #[.int .i64 a, .int .i64 b] 28)).alloc (.cells #[.int .i64 c, .int .i64 f] 28)).alloc (.cells #[.int .i64 (cmpI a c), .int .i64 (cmpI b f)] 3)).drew
      fun e w' => e = .returned (.int .i64 (cmpE (a, b) (c, f))) ∧ w' = (((w.alloc (.cells #[.int .i64 a, .int .i64 b] 28)).alloc (.cells #[.int .i64 c, .int .i64 f] 28)).alloc (.cells #[.int .i64 (cmpI a c), .int .i64 (cmpI b f)] 3)).drew) :=
    cmpOr_any (cmpI a c) (cmpI b f) (w.heap.size + 1 + 1) _ (by simp [go_sem]) (by simp [go_sem])
  go_enter Tryz.func104, Tryz.ntmps104
  go_wp2
  go_region_held3 (fun u => (u.cell? ⟨w.heap.size, 0, none⟩ = some (.int .i64 a) ∧ u.cell? ⟨w.heap.size, 1, none⟩ = some (.int .i64 b)) ∧ u.cell? ⟨w.heap.size + 1, 0, none⟩ = some (.int .i64 c) ∧ u.cell? ⟨w.heap.size + 1, 1, none⟩ = some (.int .i64 f))
    (go_keep)
    (first
      | (go_at_call 193; refine (HC.out _ _ _).mono ?_; rintro e w1 ⟨rfl, rfl⟩)
      | (go_at_call 192; refine HO.out.mono ?_; rintro e w1 ⟨rfl, rfl⟩))
  all_goals
    go_wp2
    go_ret
    exact ⟨rfl, ((((Below.refl _ _).alloc (Nat.le_refl _) _).alloc (by simp) _).alloc (by simp; omega) _).drew⟩
end Go.Proofs.YtkkplppcgnikoaaGreat
namespace Go.Proofs.YtkkplppcgnikoaaGreat
open Go.RowKit

theorem vertsOk_any (x : Int) (w : World) : Calls Tryz.prog 121 #[.int .i64 x] w fun e w' => e = .returned (.bool (decide (1 ≤ x ∧ x ≤ 12))) ∧ w' = w := by
  by_cases h1 : 1 ≤ x
  · by_cases h2 : x ≤ 12
    · have d1 : decide (1 ≤ x) = true := by simpa using h1
      have d2 : decide (x ≤ 12) = true := by simpa using h2
      go_enter Tryz.func121, Tryz.ntmps121
      go_wp2
      go_ret
      exact ⟨by simp [h1, h2], rfl⟩
    · have d1 : decide (1 ≤ x) = true := by simpa using h1
      have d2 : decide (x ≤ 12) = false := by simpa using h2
      go_enter Tryz.func121, Tryz.ntmps121
      go_wp2
      go_ret
      exact ⟨by simp, rfl⟩
  · have d1 : decide (1 ≤ x) = false := by simpa using h1
    go_enter Tryz.func121, Tryz.ntmps121
    go_wp2
    go_ret
    exact ⟨by simp, rfl⟩

theorem iEdgeOk_any (n : Int) (e : EdgeV) (w : World) :
    Calls Tryz.prog 159 #[.int .i64 n, .agg #[.int .i64 e.1, .int .i64 e.2]] w fun x w' => x = .returned (.bool (eB n e)) ∧ Below w.heap.size w w' := by
  obtain ⟨a, b⟩ := e
  dsimp only
  have HI := hideIt vertsOk_any
  by_cases h1 : 1 ≤ n ∧ n ≤ 12
  · have r1 : decide (1 ≤ n ∧ n ≤ 12) = true := by simpa using h1
    by_cases h2 : 0 ≤ a
    · have r2 : decide (0 ≤ a) = true := by simpa using h2
      by_cases h3 : a < b
      · have r3 : decide (a < b) = true := by simpa using h3
        go_enter Tryz.func159, Tryz.ntmps159
        go_wp2_with (go_at_call 121; refine (HI.out _ _).mono ?_; rintro e w1 ⟨rfl, rfl⟩)
        go_ret
        exact ⟨bret (by dsimp only; omega), (Below.refl _ _).alloc (Nat.le_refl _) _⟩
      · have r3 : decide (a < b) = false := by simpa using h3
        go_enter Tryz.func159, Tryz.ntmps159
        go_wp2_with (go_at_call 121; refine (HI.out _ _).mono ?_; rintro e w1 ⟨rfl, rfl⟩)
        go_ret
        exact ⟨by simp [eB]; omega, (Below.refl _ _).alloc (Nat.le_refl _) _⟩
    · have r2 : decide (0 ≤ a) = false := by simpa using h2
      go_enter Tryz.func159, Tryz.ntmps159
      go_wp2_with (go_at_call 121; refine (HI.out _ _).mono ?_; rintro e w1 ⟨rfl, rfl⟩)
      go_ret
      exact ⟨by simp [eB]; omega, (Below.refl _ _).alloc (Nat.le_refl _) _⟩
  · have r1 : decide (1 ≤ n ∧ n ≤ 12) = false := by simpa using h1
    go_enter Tryz.func159, Tryz.ntmps159
    go_wp2_with (go_at_call 121; refine (HI.out _ _).mono ?_; rintro e w1 ⟨rfl, rfl⟩)
    go_ret
    exact ⟨by simp [eB]; omega, (Below.refl _ _).alloc (Nat.le_refl _) _⟩

end Go.Proofs.YtkkplppcgnikoaaGreat
namespace Go.Proofs.YtkkplppcgnikoaaGreat
open Go.RowKit

/-- the edge of place j is right, and comes behind the one ahead of it -/
def chkAt (n : Int) (es : List EdgeV) (j : Nat) : Bool :=
  match es[j]? with
  | none => true
  | some e => eB n e && (match j with
    | 0 => true
    | i + 1 => match es[i]? with
      | none => true
      | some d => lt d e)

/-- all of them are so -/
def chk (n : Int) (es : List EdgeV) : Bool := (List.range es.length).all (chkAt n es)

/-- the graph is right -/
def gB (N : Int) (es : List EdgeV) : Bool := decide (1 ≤ N ∧ N ≤ 12) && (chk N es && decide (es.length ≤ 66))

theorem chk_no {n : Int} {es : List EdgeV} {j : Nat} (hj : j < es.length) (h : chkAt n es j = false) : chk n es = false := by
  unfold chk
  rw [List.all_eq_false]
  exact ⟨j, List.mem_range.2 hj, by simp [h]⟩

theorem chk_yes {n : Int} {es : List EdgeV} (h : ∀ j, j < es.length → chkAt n es j = true) : chk n es = true := by
  unfold chk
  rw [List.all_eq_true]
  exact fun j hj => h j (List.mem_range.1 hj)

theorem chkAt_zero {n : Int} {es : List EdgeV} {e : EdgeV} (h : es[0]? = some e) : chkAt n es 0 = eB n e := by simp [chkAt, h]

theorem chkAt_succ {n : Int} {es : List EdgeV} {i : Nat} {d e : EdgeV} (h : es[i + 1]? = some e) (hd : es[i]? = some d) : chkAt n es (i + 1) = (eB n e && lt d e) := by simp only [chkAt, h, hd]

theorem chkAt_no {n : Int} {es : List EdgeV} {j : Nat} {e : EdgeV} (h : es[j]? = some e) (he : eB n e = false) : chkAt n es j = false := by simp only [chkAt, h, he, Bool.false_and]

theorem chk_all {n : Int} {es : List EdgeV} (h : chk n es = true) (j : Nat) (hj : j < es.length) : chkAt n es j = true := by
  unfold chk at h
  rw [List.all_eq_true] at h
  exact h j (List.mem_range.2 hj)

theorem chk_eB {n : Int} {es : List EdgeV} (h : chk n es = true) {e : EdgeV} (he : e ∈ es) : eB n e = true := by
  obtain ⟨j, hj, rfl⟩ := List.getElem_of_mem he
  have h1 := chk_all h j hj
  have h2 : es[j]? = some es[j] := List.getElem?_eq_getElem hj
  cases h3 : eB n es[j] with
  | true => rfl
  | false => rw [chkAt_no h2 h3] at h1; cases h1

theorem chk_next {n : Int} {es : List EdgeV} (h : chk n es = true) {i : Nat} {d e : EdgeV} (hd : es[i]? = some d) (he : es[i + 1]? = some e) : lt d e = true := by
  have h1 := chk_all h (i + 1) (List.getElem?_eq_some_iff.1 he).1
  rw [chkAt_succ he hd, Bool.and_eq_true] at h1
  exact h1.2

theorem asc_of_chk {n : Int} {es : List EdgeV} (h : chk n es = true) : Asc es := by
  intro i j d e hij hd he
  obtain ⟨k, rfl⟩ : ∃ k, j = i + 1 + k := ⟨j - i - 1, by omega⟩
  clear hij
  induction k generalizing e with
  | zero => exact chk_next h hd he
  | succ k ih =>
    have hl := (List.getElem?_eq_some_iff.1 he).1
    have h2 : es[i + 1 + k]? = some (es[i + 1 + k]'(by omega)) := List.getElem?_eq_getElem (by omega)
    exact lt_trans' (ih _ h2) (chk_next h h2 he)

theorem gB_chk {N : Int} {es : List EdgeV} (h : gB N es = true) : (1 ≤ N ∧ N ≤ 12) ∧ chk N es = true ∧ es.length ≤ 66 := by
  unfold gB at h
  simp only [Bool.and_eq_true, decide_eq_true_eq] at h
  exact ⟨h.1, h.2.1, h.2.2⟩

end Go.Proofs.YtkkplppcgnikoaaGreat
namespace Go.Proofs.YtkkplppcgnikoaaGreat
open Go.RowKit

/-- all but the edge -/
def outE (es : List EdgeV) (e : EdgeV) : List EdgeV := es.filter (fun d => decide (d ≠ e))
/-- AddEdge -/
def addE (N : Int) (es : List EdgeV) (e : EdgeV) : Option (List EdgeV) := if gB N es = true ∧ eB N e = true ∧ hasB es e = false then some (putE es e) else none
theorem outE_length (es : List EdgeV) (e : EdgeV) : (outE es e).length ≤ es.length := List.length_filter_le _ _
end Go.Proofs.YtkkplppcgnikoaaGreat
namespace Go.Proofs.YtkkplppcgnikoaaGreat
open Go.RowKit

end Go.Proofs.YtkkplppcgnikoaaGreat
namespace Go.Proofs.YtkkplppcgnikoaaGreat
open Go.RowKit

/-- one of the lists that are put together -/
structure Part where
  a : Option Addr
  m : Nat
  c : Nat
  es : List EdgeV
theorem Es.news {w : World} {B b off n : Nat} {es : List EdgeV} (h : Es w B (some ⟨b, off, none⟩) n es) : ∀ j u, (ecells es)[j]? = some u → w.cell? ((⟨b, off, none⟩ : Addr).add j) = some u := by
  intro j u hj
  have hl : j < es.length * 2 := by have := (List.getElem?_eq_some_iff.1 hj).1; rw [ecells_length] at this; exact this
  have hn := h.1
  rcases h.2 with h0 | ⟨b', off', hb, _, hc⟩
  · omega
  · simp at hb
    obtain ⟨rfl, rfl⟩ := hb
    obtain ⟨f, hf⟩ : ∃ f, es[j / 2]? = some f := ⟨es[j / 2]'(by omega), List.getElem?_eq_getElem (by omega)⟩
    obtain ⟨c0, c1⟩ := hc _ f hf
    obtain ⟨d0, d1⟩ := ecells_at es _ f hf
    rw [show ((⟨b, off, none⟩ : Addr).add j) = ⟨b, off + j, none⟩ by by_cases h0 : j = 0 <;> simp [Addr.add, h0]]
    rcases (show j = j / 2 * 2 ∨ j = j / 2 * 2 + 1 by omega) with e | e
    · rw [← e] at d0 c0
      rw [d0] at hj
      rw [c0]
      exact hj
    · rw [← e] at d1
      rw [Nat.add_assoc, ← e] at c1
      rw [d1] at hj
      rw [c1]
      exact hj
end Go.Proofs.YtkkplppcgnikoaaGreat
