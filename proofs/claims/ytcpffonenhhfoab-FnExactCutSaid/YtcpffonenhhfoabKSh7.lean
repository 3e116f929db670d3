/- Where Link and Cut stand: a forest, an edge, the answer's place. The library's comparisons; the program's compareEdges. The library's Min over ints; the program's compareTrees and treesAscend. The library's sorting by a comparison, at this program, by the shelf's own laying in plain words. slices.SortFunc of a list of tours by compareTrees: the same rows, by their least vertices. All vertices of right tours, sorted: pure. -/
import Derived.Test.YtcpffonenhhfoabKLc7
import Derived.Test.YtcpffonenhhfoabKSWith7
import Derived.Test.YtcpffonenhhfoabKE6
import Derived.Test.YtcpffonenhhfoabKIBack
import Derived.Test.YtcpffonenhhfoabKITour
import Derived.Shelf.SlSortCmp.NoneTotal
import Derived.Test.YtcpffonenhhfoabProg
import Derived.Test.YtcpffonenhhfoabKToInt6
namespace Go.Proofs.Ytcpffonenhhfoab
open Go.RowKit

/-- the answer of Link, Cut, ForestNew: a forest of the answer's own -/
def FAns (w : World) (N : Int) (o : Option (List (List Int))) (e : Ending) (w' : World) : Prop :=
  ∃ a m c R, e = .returned (.tuple #[.agg #[.int .i64 (if o.isSome then N else 0), .slice a m c], .bool o.isSome]) ∧ FB w' w.heap.size w'.heap.size a m c R ∧ rts R = o.getD [] ∧ Below w.heap.size w w'
/-- .. that is only read -/
def RAns (w : World) (N : Int) (o : Option (List (List Int))) (e : Ending) (w' : World) : Prop :=
  ∃ a m c hs, e = .returned (.tuple #[.agg #[.int .i64 (if o.isSome then N else 0), .slice a m c], .bool o.isSome]) ∧ (w'.ownsRow w.heap.size 45 1 (.slice a m c) m hs ∧ HdT w' w'.heap.size hs (o.getD []) ∧ ∀ v ∈ hs, HdL w.heap.size v) ∧ Below w.heap.size w w'
theorem RAns.ts {w : World} {N : Int} {o : Option (List (List Int))} {e : Ending} {w' : World} (h : RAns w N o e w') : ∃ a m c, e = .returned (.tuple #[.agg #[.int .i64 (if o.isSome then N else 0), .slice a m c], .bool o.isSome]) ∧ Ts w' w'.heap.size a m (o.getD []) ∧ Below w.heap.size w w' := by
  obtain ⟨a, m, c, hs, h1, h2, h3⟩ := h
  exact ⟨a, m, c, h1, h2.2.1.ts h2.1, h3⟩
theorem fans_no {w u : World} {N : Int} {o : Option (List (List Int))} (ho : o = none) (h : Below w.heap.size w u) : FAns w N o (.returned (.tuple #[.agg #[.int .i64 0, .slice none 0 0], .bool false])) u := by
  subst ho
  exact ⟨none, 0, 0, [], rfl, FB.nil _ _, rfl, h⟩

/-- behind the three boxes -/
def w3of (w : World) (N : Int) (a : Option Addr) (n c : Nat) (f : EdgeV) : World := ((w.alloc (.cells #[.int .i64 N, .slice a n c] 28)).alloc (.cells #[.int .i64 f.1, .int .i64 f.2] 32)).alloc (.cells #[.int .i64 0, .slice none 0 0] 28)
theorem w3_size (w : World) (N : Int) (a : Option Addr) (n c : Nat) (f : EdgeV) : (w3of w N a n c f).heap.size = w.heap.size + 3 := by simp [w3of]
theorem w3_good (w : World) (N : Int) (a : Option Addr) (n c : Nat) (f : EdgeV) : Good w (w3of w N a n c f) := (((Good.refl w).alloc _).alloc _).alloc _
theorem w3_res (w : World) (N : Int) (a : Option Addr) (n c : Nat) (f : EdgeV) : Box7 (w3of w N a n c f) (w.heap.size + 2) 28 (.int .i64 0) (.slice none 0 0) := Box7.new _ _ _ _ _ (by simp)
theorem w3_f (w : World) (N : Int) (a : Option Addr) (n c : Nat) (f : EdgeV) : Box7 (w3of w N a n c f) w.heap.size 28 (.int .i64 N) (.slice a n c) := ((Box7.new w _ _ _ _ rfl).alloc _).alloc _
theorem w3_e (w : World) (N : Int) (a : Option Addr) (n c : Nat) (f : EdgeV) : Box7 (w3of w N a n c f) (w.heap.size + 1) 32 (.int .i64 f.1) (.int .i64 f.2) := (Box7.new _ _ _ _ _ (by simp)).alloc _
/-- what can be read there -/
theorem w3_cells {w : World} {N : Int} {a : Option Addr} {n c : Nat} {f : EdgeV} {u : World} (h : Good (w3of w N a n c f) u) :
    (u.cell? ⟨w.heap.size, 0, none⟩ = some (.int .i64 N) ∧ u.cell? ⟨w.heap.size, 1, none⟩ = some (.slice a n c)) ∧ u.cell? ⟨w.heap.size + 1, 0, none⟩ = some (.int .i64 f.1) ∧ u.cell? ⟨w.heap.size + 1, 1, none⟩ = some (.int .i64 f.2) :=
  ⟨⟨((w3_f w N a n c f).up h).cell0, ((w3_f w N a n c f).up h).cell1⟩, ((w3_e w N a n c f).up h).cell0, ((w3_e w N a n c f).up h).cell1⟩
theorem w3_out {w : World} {N : Int} {a : Option Addr} {n c : Nat} {f : EdgeV} {u : World} (h : Below (w.heap.size + 3) (w3of w N a n c f) u) :
    (u.cell? ⟨w.heap.size + 2, 0, none⟩ = some (.int .i64 0) ∧ u.cell? ⟨w.heap.size + 2, 1, none⟩ = some (.slice none 0 0)) ∧ u.frozen? ⟨w.heap.size + 2, 0, none⟩ = false ∧ u.frozen? ⟨w.heap.size + 2, 1, none⟩ = false := by
  have b := (w3_res w N a n c f).below h (by omega)
  exact ⟨⟨b.cell0, b.cell1⟩, b.frozen 0, b.frozen 1⟩
/-- tours in order that are those of a list -/
theorem ord_is {N : Nat} {X L : List (List Int)} (h1 : 1 ≤ N) (h2 : N ≤ 12) (hQ : FQ (N : Int) L) (hp : X.Perm L) (ha : X.Pairwise fun s t => mnV s < mnV t) : X = srtK L N :=
  asc_uniq ha ((FP_iff _ _).1 (FP_srt h1 h2 hQ)).2.2.2 (hp.trans (srt_perm hQ).symm)
/-- no edge of a tree links it -/
theorem jo_same {a : List Int} {u v : Int} (hu : u ∈ a) : joO a u a v = none := by
  unfold joO
  rw [if_neg]
  rintro ⟨_, _, h⟩
  have hc : comB a a = true := by
    unfold comB
    rw [List.any_eq_true]
    exact ⟨u, hu, decide_eq_true hu⟩
  rw [hc] at h
  cases h
end Go.Proofs.Ytcpffonenhhfoab
namespace Go.Proofs.Ytcpffonenhhfoab
open Go.RowKit

/-- -1, 0 or 1 -/
def cmpI (x y : Int) : Int := if x < y then -1 else if y < x then 1 else 0
/-- the comparison of two edges -/
def cmpE (d e : EdgeV) : Int := if cmpI d.1 e.1 ≠ 0 then cmpI d.1 e.1 else cmpI d.2 e.2

theorem cmpI_zero (x y : Int) : cmpI x y = 0 ↔ x = y := by unfold cmpI; split <;> (try split) <;> omega
theorem cmpI_neg (x y : Int) : cmpI x y < 0 ↔ x < y := by unfold cmpI; split <;> (try split) <;> omega
theorem cmpE_neg (d e : EdgeV) : cmpE d e < 0 ↔ lt d e = true := by
  unfold cmpE lt
  rw [decide_eq_true_iff]
  by_cases h : cmpI d.1 e.1 = 0
  · rw [if_neg (by simpa using h), cmpI_neg]
    have := (cmpI_zero d.1 e.1).1 h
    omega
  · rw [if_pos h, cmpI_neg]
    have := mt (cmpI_zero d.1 e.1).2 h
    omega
theorem cmpE_zero (d e : EdgeV) : cmpE d e = 0 ↔ d = e := by
  unfold cmpE
  by_cases h : cmpI d.1 e.1 = 0
  · rw [if_neg (by simpa using h), cmpI_zero]
    exact ⟨fun h2 => Prod.ext ((cmpI_zero _ _).1 h) h2, fun h2 => by rw [h2]⟩
  · rw [if_pos h]
    exact ⟨fun h2 => absurd h2 h, fun h2 => absurd ((cmpI_zero _ _).2 (by rw [h2])) h⟩

theorem cmpCompare_any (x y : Int) (w : World) : Calls Try.prog 71 #[.int .i64 x, .int .i64 y] w fun e w' => e = .returned (.int .i64 (cmpI x y)) ∧ w' = w := by
  unfold cmpI
  by_cases h1 : x < y
  · rw [if_pos h1]
    have d1 : decide (x < y) = true := decide_eq_true h1
    go_enter Try.func71, Try.ntmps71
    go_wp2
    go_ret
    exact ⟨rfl, rfl⟩
  · rw [if_neg h1]
    have d1 : decide (x < y) = false := decide_eq_false h1
    by_cases h2 : y < x
    · rw [if_pos h2]
      have d2 : decide (y < x) = true := decide_eq_true h2
      go_enter Try.func71, Try.ntmps71
      go_wp2
      go_ret
      exact ⟨rfl, rfl⟩
    · rw [if_neg h2]
      have d2 : decide (y < x) = false := decide_eq_false h2
      go_enter Try.func71, Try.ntmps71
      go_wp2
      go_ret
      exact ⟨rfl, rfl⟩

theorem cmpOr_any (x y : Int) (b : Nat) (w : World) (h0 : w.cell? ⟨b, 0, none⟩ = some (.int .i64 x)) (h1 : w.cell? ⟨b, 1, none⟩ = some (.int .i64 y)) :
    Calls Try.prog 70 #[.slice (some ⟨b, 0, none⟩) 2 2] w fun e w' => e = .returned (.int .i64 (if x ≠ 0 then x else y)) ∧ w' = w := by
  go_enter Try.func70, Try.ntmps70
  go_wp2
  go_loopw [8] (fun i wr => ∃ k : Nat, k ≤ 2 ∧ i = .int .i64 (k : Int) ∧ wr = w ∧ Hid (1 ≤ k → x = 0) ∧ Hid (2 ≤ k → y = 0)) (fun i _ => 2 - (intOf i).toNat)
  case atStart => exact ⟨0, by omega, rfl, rfl, fun h => by omega, fun h => by omega⟩
  case round =>
    obtain ⟨k, hk, rfl, rfl, hx, hy⟩ := hrel
    rcases k with _ | _ | k
    · by_cases g : x = 0
      · subst g
        go_wp2
        exact ⟨⟨1, by omega, by go_num, by first | trivial | rfl, by first | exact fun _ => True.intro | exact fun _ => rfl, by first | exact True.intro | exact fun h => by omega⟩, by simp [intOf]⟩
      · have d : (x != 0) = true := by simpa using g
        go_wp2
        go_ret
        exact ⟨rfl, rfl⟩
    · have g := hx.out (by omega)
      subst g
      clear hx hy
      by_cases g : y = 0
      · subst g
        go_wp2
        exact ⟨⟨2, by omega, by go_num, by first | trivial | rfl, by first | exact fun _ => True.intro | exact fun _ => rfl, by first | exact fun _ => True.intro | exact fun _ => rfl⟩, by simp [intOf]⟩
      · have d : (y != 0) = true := by simpa using g
        go_wp2
        go_ret
        exact ⟨rfl, rfl⟩
    · obtain rfl : k = 0 := by omega
      have g := hx.out (by omega)
      have g2 := hy.out (by omega)
      subst g g2
      clear hx hy
      go_wp2
      go_ret
      exact ⟨rfl, rfl⟩

set_option maxHeartbeats 1000000 in
theorem compareEdges_any (d e : EdgeV) (w : World) :
    Calls Try.prog 41 #[.agg #[.int .i64 d.1, .int .i64 d.2], .agg #[.int .i64 e.1, .int .i64 e.2]] w fun x w' => x = .returned (.int .i64 (cmpE d e)) ∧ Below w.heap.size w w' := by
  obtain ⟨a, b⟩ := d
  obtain ⟨c, f⟩ := e
  dsimp only
  have HC := hideIt cmpCompare_any
  have HO : Hid (Calls Try.prog 70 #[.slice (some ⟨w.heap.size + 1 + 1, 0, none⟩) 2 2] (((w.alloc (.cells #[.int .i64 a, .int .i64 b] 32)).alloc (.cells #[.int .i64 c, .int .i64 f] 32)).alloc (.cells #[.int .i64 (cmpI a c), .int .i64 (cmpI b f)] 3)).drew
      fun e w' => e = .returned (.int .i64 (cmpE (a, b) (c, f))) ∧ w' = (((w.alloc (.cells #[.int .i64 a, .int .i64 b] 32)).alloc (.cells #[.int .i64 c, .int .i64 f] 32)).alloc (.cells #[.int .i64 (cmpI a c), .int .i64 (cmpI b f)] 3)).drew) :=
    cmpOr_any (cmpI a c) (cmpI b f) (w.heap.size + 1 + 1) _ (by simp [go_sem]) (by simp [go_sem])
  go_enter Try.func41, Try.ntmps41
  go_wp2
  go_region_held3 (fun u => (u.cell? ⟨w.heap.size, 0, none⟩ = some (.int .i64 a) ∧ u.cell? ⟨w.heap.size, 1, none⟩ = some (.int .i64 b)) ∧ u.cell? ⟨w.heap.size + 1, 0, none⟩ = some (.int .i64 c) ∧ u.cell? ⟨w.heap.size + 1, 1, none⟩ = some (.int .i64 f))
    (go_keep)
    (first
      | (go_at_call 71; refine (HC.out _ _ _).mono ?_; rintro e w1 ⟨rfl, rfl⟩)
      | (go_at_call 70; refine HO.out.mono ?_; rintro e w1 ⟨rfl, rfl⟩))
  all_goals
    go_wp2
    go_ret
    exact ⟨rfl, ((((Below.refl _ _).alloc (Nat.le_refl _) _).alloc (by simp) _).alloc (by simp; omega) _).drew⟩
end Go.Proofs.Ytcpffonenhhfoab
namespace Go.Proofs.Ytcpffonenhhfoab
open Go.RowKit

set_option maxHeartbeats 1000000 in
theorem minI_any (t : List Int) (n : Nat) (a : Option Addr) (c : Nat) (hn : n ≤ 3000000) (h0 : 0 < n) (w : World) (h : Is w w.heap.size a n t) :
    Calls Try.prog 75 #[.slice a n c] w fun e w' => ∃ x, e = .returned (.int .i64 x) ∧ (x ∈ t ∧ ∀ y ∈ t, x ≤ y) ∧ w' = w := by
  obtain ⟨hlen, hrow⟩ := h
  rcases hrow with hz | ⟨b, off, rfl, hbl, hc⟩
  · omega
  · obtain ⟨f0, hf0⟩ : ∃ f, t[0]? = some f := ⟨t[0]'(by omega), List.getElem?_eq_getElem (by omega)⟩
    have d0 : decide ((n : Int) < 1) = false := decide_eq_false (by omega)
    have e0 := hc 0 f0 hf0
    rw [Nat.add_zero] at e0
    have q1 : (0 : Int) < (n : Int) := by omega
    have HC := hideIt hc
    have HS : Hid (f0 ∈ t ∧ ∀ (j : Nat) (y : Int), j < 1 → t[j]? = some y → f0 ≤ y) := ⟨List.mem_of_getElem? hf0, fun j y hj hy => by
      obtain rfl : j = 0 := by omega
      rw [hf0] at hy
      cases hy
      exact Int.le_refl _⟩
    clear hc hf0
    go_enter Try.func75, Try.ntmps75
    go_wp2
    go_loopw [3, 4] (fun m i wr => ∃ (k : Nat) (x : Int), 1 ≤ k ∧ k ≤ n ∧ i = .int .i64 (k : Int) ∧ m = .int .i64 x ∧ Hid (x ∈ t ∧ ∀ (j : Nat) (y : Int), j < k → t[j]? = some y → x ≤ y) ∧ wr = w) (fun _ i _ => n - (intOf i).toNat)
    case atStart => exact ⟨1, f0, by omega, by omega, rfl, rfl, HS, rfl⟩
    case round =>
      obtain ⟨k, x, hk1, hk, rfl, rfl, HX, hw⟩ := hrel
      have hw' := hw.symm
      subst hw'
      clear hw HS e0
      by_cases hlt : k < n
      · obtain ⟨f, hf⟩ : ∃ f, t[k]? = some f := ⟨t[k]'(by omega), List.getElem?_eq_getElem (by omega)⟩
        have e1 := HC.out k f hf
        have b1 : (0 : Int) ≤ (k : Int) := by omega
        have b2 : (k : Int) < (n : Int) := by omega
        have HX2 : Hid (min x f ∈ t ∧ ∀ (j : Nat) (y : Int), j < k + 1 → t[j]? = some y → min x f ≤ y) := by
          obtain ⟨p1, p2⟩ := HX.out
          refine ⟨?_, fun j y hj hy => ?_⟩
          · by_cases hxf : x ≤ f
            · rw [Int.min_eq_left hxf]; exact p1
            · rw [Int.min_eq_right (by omega)]; exact List.mem_of_getElem? hf
          · by_cases hjk : j = k
            · rw [hjk, hf] at hy
              cases hy
              omega
            · have := p2 j y (by omega) hy
              omega
        clear hf HX
        go_wp2
        refine ⟨⟨k + 1, min x f, by omega, by omega, by go_num, ?_, HX2, by first | trivial | rfl⟩, by simp [intOf]; omega⟩
        first | rfl | (congr 1; split <;> omega)
      · obtain rfl : k = n := by omega
        have HX2 : Hid (x ∈ t ∧ ∀ y ∈ t, x ≤ y) := ⟨HX.out.1, fun y hy => by
          obtain ⟨j, hj⟩ := List.mem_iff_getElem?.1 hy
          exact HX.out.2 j y (by have := (List.getElem?_eq_some_iff.1 hj).1; omega) hj⟩
        clear HX
        go_wp2
        go_ret
        exact ⟨x, rfl, HX2.out, rfl⟩

theorem mn_le {t : List Int} (hB : tB t = true) {y : Int} (hy : y ∈ t) : mnV t ≤ y := by
  have hp := vs_pos hB
  have hx : (vsL t)[0]? = some ((vsL t)[0]'hp) := List.getElem?_eq_getElem hp
  rw [mn_first hx]
  obtain ⟨p, hp2⟩ := List.mem_iff_getElem?.1 ((vs_mem_of hB).2 hy)
  obtain ⟨p0, p1⟩ := List.getElem?_eq_some_iff.1 hp2
  by_cases e : p = 0
  · subst e
    rw [← p1]
    exact Int.le_refl _
  · have := List.pairwise_iff_getElem.1 (vsK_asc t 12) 0 p hp p0 (by omega)
    rw [show (vsK t 12)[p]'p0 = y from p1] at this
    exact Int.le_of_lt this
theorem mn_is {t : List Int} (hB : tB t = true) {x : Int} (h : x ∈ t ∧ ∀ y ∈ t, x ≤ y) : x = mnV t := Int.le_antisymm (h.2 _ (mn_mem hB)) (mn_le hB h.1)

theorem compareTrees_any (s t : List Int) (hs : tB s = true) (ht : tB t = true) (a a' : Option Addr) (c c' : Nat) (w : World) (h : Is w w.heap.size a s.length s) (h' : Is w w.heap.size a' t.length t) :
    Calls Try.prog 56 #[.slice a s.length c, .slice a' t.length c'] w fun e w' => e = .returned (.int .i64 (cmpI (mnV s) (mnV t))) ∧ w' = w := by
  have l1 := tB_len hs
  have l2 := tB_len ht
  have H1 := hideIt ((minI_any s s.length a c (by omega) (tB_pos hs) w h).mono fun e v ⟨x, he, hx, hv⟩ => (show e = Ending.returned (.int .i64 (mnV s)) ∧ v = w from ⟨by rw [he, mn_is hs hx], hv⟩))
  have H2 := hideIt ((minI_any t t.length a' c' (by omega) (tB_pos ht) w h').mono fun e v ⟨x, he, hx, hv⟩ => (show e = Ending.returned (.int .i64 (mnV t)) ∧ v = w from ⟨by rw [he, mn_is ht hx], hv⟩))
  have HC := hideIt (cmpCompare_any (mnV s) (mnV t) w)
  clear h h'
  go_enter Try.func56, Try.ntmps56
  go_wp2_with (first | (go_at_call 75; refine H1.out.mono ?_; rintro e w1 ⟨rfl, hw⟩; have hw' := hw.symm; subst hw'; clear hw H1) | (go_at_call 75; refine H2.out.mono ?_; rintro e w1 ⟨rfl, hw⟩; have hw' := hw.symm; subst hw'; clear hw H2) | (go_at_call 71; refine HC.out.mono ?_; rintro e w1 ⟨rfl, hw⟩; have hw' := hw.symm; subst hw'; clear hw))
  go_ret
  exact ⟨rfl, rfl⟩

/-- the tour at i is right, and its least vertex is above that of the one before it -/
def AsAt (ts : List (List Int)) (i : Nat) : Prop := ∀ t, ts[i]? = some t → tB t = true ∧ ∀ j s, j + 1 = i → ts[j]? = some s → mnV s < mnV t
def asP (ts : List (List Int)) : Prop := ∀ i, AsAt ts i
theorem cmpI_ge (x y : Int) : decide (0 ≤ cmpI x y) = !decide (x < y) := by
  by_cases h : x < y
  · have := (cmpI_neg x y).2 h
    rw [decide_eq_true h]
    exact decide_eq_false (by omega)
  · have := mt (cmpI_neg x y).1 h
    rw [decide_eq_false h]
    exact decide_eq_true (by omega)

set_option maxRecDepth 100000 in
set_option maxHeartbeats 4000000 in
theorem treesAscend_any (ts : List (List Int)) (n : Nat) (a : Option Addr) (c : Nat) (hn : n ≤ 3000000) (hm : ∀ t ∈ ts, t.length ≤ 3000000) (w : World) (h : Ts w w.heap.size a n ts) :
    Calls Try.prog 66 #[.slice a n c] w fun e w' => ∃ b, e = .returned (.bool b) ∧ (b = true ↔ asP ts) ∧ Below w.heap.size w w' := by
  have hlen := h.1
  have HA := hideIt h
  clear h
  go_enter Try.func66, Try.ntmps66
  go_wp2
  go_loopw [6] (fun i wr => ∃ k : Nat, k ≤ n ∧ i = .int .i64 (k : Int) ∧ Hid (∀ j, j < k → AsAt ts j) ∧ Good w wr) (fun i _ => n - (intOf i).toNat)
  case atStart => exact ⟨0, by omega, rfl, fun j hj => by omega, Good.refl _⟩
  case round =>
    obtain ⟨k, hk, rfl, HK, hg⟩ := hrel
    by_cases hlt : k < n
    · rcases (HA.out.up hg).2 with hz | ⟨b, off, rfl, hbl, hc⟩
      · omega
      · obtain ⟨t, ht⟩ : ∃ t, ts[k]? = some t := ⟨ts[k]'(by omega), List.getElem?_eq_getElem (by omega)⟩
        obtain ⟨x, cx, e0, i0, _⟩ := hc k t ht
        have b1 : (0 : Int) ≤ (k : Int) := by omega
        have b2 : (k : Int) < (n : Int) := by omega
        have HG := hideIt (fun u (hu : Good wr u) => hg.up hu)
        have hbd := (Good.refl wr).drew
        have HE := hideIt (fun W (hW : Good wr W) => (iTourOk_any t t.length x cx (hm t (List.mem_of_getElem? ht)) W (i0.up hW)).mono fun e v ⟨he, hb⟩ => (show e = Ending.returned (.bool (tB t)) ∧ Good wr v from ⟨he, hW.up hb⟩))
        cases hB : tB t with
        | false =>
          rw [hB] at HE
          have HN : Hid (¬ asP ts) := fun hp => by have := (hp k t ht).1; rw [hB] at this; cases this
          clear hc ht i0 hB HK
          go_wp2
          refine wp_region_any (by kernel_rfl) ?_
          change wpAny _ _ _ _ _ _ _ (World.drew _)
          refine takeOp (i := 0) (v := ?_) rfl (by kernel_rfl) (by kernel_rfl) (by kernel_rfl) (fun _ _ _ h => h) (by kernel_rfl) ?_ ?_
          rotate_left
          · intro w; go_simp; try with_reducible rfl
          refine wpAny_ready (rs := [1]) (by kernel_rfl) (by simp) ?_
          refine AllReady.cons rfl (fun K hK => ?_) AllReady.nil
          go_simp
          refine hK _ _ ?_
          clear hK K
          refine wpAny_ready (rs := [2]) (by kernel_rfl) (by simp) ?_
          refine AllReady.cons rfl (fun K hK => ?_) AllReady.nil
          go_simp
          refine hK _ _ ?_
          clear hK K
          refine wpAny_ready (rs := [3]) (by kernel_rfl) (by simp) ?_
          refine AllReady.cons rfl (fun K hK => ?_) AllReady.nil
          go_simp
          refine hK _ _ ?_
          clear hK K
          refine wpAny_ready (rs := [4]) (by kernel_rfl) (by simp) ?_
          refine AllReady.cons rfl (fun K hK => ?_) AllReady.nil
          go_wp2_with (go_at_call 53; refine (HE.out _ hbd).mono ?_; rintro e w1 ⟨rfl, hg1⟩; refine Hid.out ?_)
          refine (show ∀ {p : Prop}, p → Hid p from fun h => h) ?_
          try refine hK _ _ ?_
          clear hK K
          refine wpAny_ready (rs := [5]) (by kernel_rfl) (by simp) ?_
          refine AllReady.cons rfl (fun K hK => ?_) AllReady.nil
          go_simp
          refine hK _ _ ?_
          clear hK K
          refine wpAny_ready (rs := [6]) (by kernel_rfl) (by simp) ?_
          refine AllReady.cons rfl (fun K hK => ?_) AllReady.nil
          go_simp
          refine hK _ _ ?_
          clear hK K
          refine skipOp (i := 7) rfl (by kernel_rfl) (by kernel_rfl) (by kernel_rfl) (fun _ _ _ h => h) (by kernel_rfl) ?_
          refine skipOp (i := 8) rfl (by kernel_rfl) (by kernel_rfl) (by kernel_rfl) (fun _ _ _ h => h) (by kernel_rfl) ?_
          refine skipOp (i := 9) rfl (by kernel_rfl) (by kernel_rfl) (by kernel_rfl) (fun _ _ _ h => h) (by kernel_rfl) ?_
          refine skipOp (i := 10) rfl (by kernel_rfl) (by kernel_rfl) (by kernel_rfl) (fun _ _ _ h => h) (by kernel_rfl) ?_
          refine skipOp (i := 11) rfl (by kernel_rfl) (by kernel_rfl) (by kernel_rfl) (fun _ _ _ h => h) (by kernel_rfl) ?_
          refine skipOp (i := 12) rfl (by kernel_rfl) (by kernel_rfl) (by kernel_rfl) (fun _ _ _ h => h) (by kernel_rfl) ?_
          refine skipOp (i := 13) rfl (by kernel_rfl) (by kernel_rfl) (by kernel_rfl) (fun _ _ _ h => h) (by kernel_rfl) ?_
          refine skipOp (i := 14) rfl (by kernel_rfl) (by kernel_rfl) (by kernel_rfl) (fun _ _ _ h => h) (by kernel_rfl) ?_
          refine skipOp (i := 15) rfl (by kernel_rfl) (by kernel_rfl) (by kernel_rfl) (fun _ _ _ h => h) (by kernel_rfl) ?_
          refine skipOp (i := 16) rfl (by kernel_rfl) (by kernel_rfl) (by kernel_rfl) (fun _ _ _ h => h) (by kernel_rfl) ?_
          refine skipOp (i := 17) rfl (by kernel_rfl) (by kernel_rfl) (by kernel_rfl) (fun _ _ _ h => h) (by kernel_rfl) ?_
          refine skipOp (i := 18) rfl (by kernel_rfl) (by kernel_rfl) (by kernel_rfl) (fun _ _ _ h => h) (by kernel_rfl) ?_
          refine skipOp (i := 19) rfl (by kernel_rfl) (by kernel_rfl) (by kernel_rfl) (fun _ _ _ h => h) (by kernel_rfl) ?_
          refine skipOp (i := 20) rfl (by kernel_rfl) (by kernel_rfl) (by kernel_rfl) (fun _ _ _ h => h) (by kernel_rfl) ?_
          refine skipOp (i := 21) rfl (by kernel_rfl) (by kernel_rfl) (by kernel_rfl) (fun _ _ _ h => h) (by kernel_rfl) ?_
          refine wpAny_ready (rs := [22]) (by kernel_rfl) (by simp) ?_
          refine AllReady.cons rfl (fun K hK => ?_) AllReady.nil
          go_simp
          refine hK _ _ ?_
          clear hK K
          refine wpAny_done (by kernel_rfl) ?_ _
          go_wp2
          go_ret
          exact ⟨false, rfl, ⟨fun h => (by cases h), fun h => absurd h HN.out⟩, HG.out _ hg1⟩
        | true =>
          rw [hB] at HE
          rcases k with _ | i
          · have HY : Hid (AsAt ts 0) := fun t' ht' => by
              rw [ht] at ht'
              cases ht'
              exact ⟨hB, fun j s hj => by omega⟩
            rw [Nat.add_zero] at e0
            clear hc ht i0 hB
            go_wp2
            refine wp_region_any (by kernel_rfl) ?_
            change wpAny _ _ _ _ _ _ _ (World.drew _)
            refine takeOp (i := 0) (v := ?_) rfl (by kernel_rfl) (by kernel_rfl) (by kernel_rfl) (fun _ _ _ h => h) (by kernel_rfl) ?_ ?_
            rotate_left
            · intro w; go_simp; try with_reducible rfl
            refine wpAny_ready (rs := [1]) (by kernel_rfl) (by simp) ?_
            refine AllReady.cons rfl (fun K hK => ?_) AllReady.nil
            go_simp
            refine hK _ _ ?_
            clear hK K
            refine wpAny_ready (rs := [2]) (by kernel_rfl) (by simp) ?_
            refine AllReady.cons rfl (fun K hK => ?_) AllReady.nil
            go_simp
            refine hK _ _ ?_
            clear hK K
            refine wpAny_ready (rs := [3]) (by kernel_rfl) (by simp) ?_
            refine AllReady.cons rfl (fun K hK => ?_) AllReady.nil
            go_simp
            refine hK _ _ ?_
            clear hK K
            refine wpAny_ready (rs := [4]) (by kernel_rfl) (by simp) ?_
            refine AllReady.cons rfl (fun K hK => ?_) AllReady.nil
            go_wp2_with (go_at_call 53; refine (HE.out _ hbd).mono ?_; rintro e w1 ⟨rfl, hg1⟩; refine Hid.out ?_)
            refine (show ∀ {p : Prop}, p → Hid p from fun h => h) ?_
            try refine hK _ _ ?_
            clear hK K
            refine wpAny_ready (rs := [5]) (by kernel_rfl) (by simp) ?_
            refine AllReady.cons rfl (fun K hK => ?_) AllReady.nil
            go_simp
            refine hK _ _ ?_
            clear hK K
            refine wpAny_ready (rs := [6]) (by kernel_rfl) (by simp) ?_
            refine AllReady.cons rfl (fun K hK => ?_) AllReady.nil
            go_simp
            refine hK _ _ ?_
            clear hK K
            refine wpAny_ready (rs := [7]) (by kernel_rfl) (by simp) ?_
            refine AllReady.cons rfl (fun K hK => ?_) AllReady.nil
            go_simp
            refine hK _ _ ?_
            clear hK K
            refine wpAny_ready (rs := [8]) (by kernel_rfl) (by simp) ?_
            refine AllReady.cons rfl (fun K hK => ?_) AllReady.nil
            go_simp
            refine hK _ _ ?_
            clear hK K
            refine wpAny_ready (rs := [9]) (by kernel_rfl) (by simp) ?_
            refine AllReady.cons rfl (fun K hK => ?_) AllReady.nil
            go_simp
            refine hK _ _ ?_
            clear hK K
            refine skipOp (i := 10) rfl (by kernel_rfl) (by kernel_rfl) (by kernel_rfl) (fun _ _ _ h => h) (by kernel_rfl) ?_
            refine skipOp (i := 11) rfl (by kernel_rfl) (by kernel_rfl) (by kernel_rfl) (fun _ _ _ h => h) (by kernel_rfl) ?_
            refine skipOp (i := 12) rfl (by kernel_rfl) (by kernel_rfl) (by kernel_rfl) (fun _ _ _ h => h) (by kernel_rfl) ?_
            refine skipOp (i := 13) rfl (by kernel_rfl) (by kernel_rfl) (by kernel_rfl) (fun _ _ _ h => h) (by kernel_rfl) ?_
            refine skipOp (i := 14) rfl (by kernel_rfl) (by kernel_rfl) (by kernel_rfl) (fun _ _ _ h => h) (by kernel_rfl) ?_
            refine skipOp (i := 15) rfl (by kernel_rfl) (by kernel_rfl) (by kernel_rfl) (fun _ _ _ h => h) (by kernel_rfl) ?_
            refine skipOp (i := 16) rfl (by kernel_rfl) (by kernel_rfl) (by kernel_rfl) (fun _ _ _ h => h) (by kernel_rfl) ?_
            refine skipOp (i := 17) rfl (by kernel_rfl) (by kernel_rfl) (by kernel_rfl) (fun _ _ _ h => h) (by kernel_rfl) ?_
            refine skipOp (i := 18) rfl (by kernel_rfl) (by kernel_rfl) (by kernel_rfl) (fun _ _ _ h => h) (by kernel_rfl) ?_
            refine skipOp (i := 19) rfl (by kernel_rfl) (by kernel_rfl) (by kernel_rfl) (fun _ _ _ h => h) (by kernel_rfl) ?_
            refine skipOp (i := 20) rfl (by kernel_rfl) (by kernel_rfl) (by kernel_rfl) (fun _ _ _ h => h) (by kernel_rfl) ?_
            refine wpAny_ready (rs := [21]) (by kernel_rfl) (by simp) ?_
            refine AllReady.cons rfl (fun K hK => ?_) AllReady.nil
            go_simp
            refine hK _ _ ?_
            clear hK K
            refine wpAny_ready (rs := [22]) (by kernel_rfl) (by simp) ?_
            refine AllReady.cons rfl (fun K hK => ?_) AllReady.nil
            go_simp
            refine hK _ _ ?_
            clear hK K
            refine wpAny_done (by kernel_rfl) ?_ _
            go_wp2
            exact ⟨⟨1, by omega, by go_num, fun j hj => by
              obtain rfl : j = 0 := by omega
              exact HY.out, HG.out _ hg1⟩, by simp [intOf]; omega⟩
          · obtain ⟨s, hs⟩ : ∃ s, ts[i]? = some s := ⟨ts[i]'(by omega), List.getElem?_eq_getElem (by omega)⟩
            obtain ⟨y, cy, e1, i1, _⟩ := hc i s hs
            have hBs := (HK.out i (by omega) s hs).1
            have HL := hideIt (fun W (hW : Good wr W) => (compareTrees_any s t hBs hB y x cy cx W (i1.up hW) (i0.up hW)).mono fun e v ⟨he, hb⟩ => (show e = Ending.returned (.int .i64 (cmpI (mnV s) (mnV t))) ∧ Good wr v from ⟨he, by rw [hb]; exact hW⟩))
            have HC : Hid (∀ u, Good wr u → u.cell? ⟨b, off + (i + 1), none⟩ = some (.slice x t.length cx) ∧ u.cell? ⟨b, off + i, none⟩ = some (.slice y s.length cy)) := fun u hu => ⟨by rw [hu.cell hbl]; exact e0, by rw [hu.cell hbl]; exact e1⟩
            have hS0 := HC.out _ hbd
            have ek : ((i + 1 : Nat) : Int) = (i : Int) + 1 := by omega
            rw [ek] at b1 b2
            have b3 : (0 : Int) ≤ (i : Int) := by omega
            have b4 : (i : Int) < (n : Int) := by omega
            have tn : ((i : Int) + 1).toNat = i + 1 := by omega
            have d0 : decide ((0 : Int) < (i : Int) + 1) = true := decide_eq_true (by omega)
            have hw1 : IntKind.i64.wrap (i : Int) = (i : Int) := by rw [IntKind.wrap_i64]; omega
            rw [ek]
            have dc := cmpI_ge (mnV s) (mnV t)
            by_cases hL : mnV s < mnV t
            · rw [decide_eq_true hL] at dc
              have HY : Hid (AsAt ts (i + 1)) := fun t' ht' => by
                rw [ht] at ht'
                cases ht'
                exact ⟨hB, fun j s' hj hs' => by
                  obtain rfl : j = i := by omega
                  rw [hs] at hs'
                  cases hs'
                  exact hL⟩
              clear ek hc ht hs i0 i1 hB hBs hL e0 e1
              generalize cmpI (mnV s) (mnV t) = cv at HL dc
              go_wp2
              go_region_held3 (fun u => u.cell? ⟨b, off + (i + 1), none⟩ = some (.slice x t.length cx) ∧ u.cell? ⟨b, off + i, none⟩ = some (.slice y s.length cy))
                (first | assumption)
                (first
                | (go_at_call 53; refine (HE.out _ hbd).mono ?_; rintro e w1 ⟨rfl, hg1⟩; have hS1 := HC.out _ hg1)
                | (go_at_call 56; refine (HL.out _ hg1).mono ?_; rintro e w2 ⟨rfl, hg2⟩; have hS2 := HC.out _ hg2))
              all_goals
                go_wp2
                exact ⟨⟨i + 2, by omega, by go_num, fun j hj => by
                  by_cases hji : j = i + 1
                  · subst hji; exact HY.out
                  · exact HK.out j (by omega), HG.out _ hg2⟩, by simp [intOf]; omega⟩
            · rw [decide_eq_false hL] at dc
              have HN : Hid (¬ asP ts) := fun hp => hL ((hp (i + 1) t ht).2 i s rfl hs)
              clear ek hc ht hs i0 i1 hB hBs hL e0 e1
              generalize cmpI (mnV s) (mnV t) = cv at HL dc
              go_wp2
              go_region_held3 (fun u => u.cell? ⟨b, off + (i + 1), none⟩ = some (.slice x t.length cx) ∧ u.cell? ⟨b, off + i, none⟩ = some (.slice y s.length cy))
                (first | assumption)
                (first
                | (go_at_call 53; refine (HE.out _ hbd).mono ?_; rintro e w1 ⟨rfl, hg1⟩; have hS1 := HC.out _ hg1)
                | (go_at_call 56; refine (HL.out _ hg1).mono ?_; rintro e w2 ⟨rfl, hg2⟩; have hS2 := HC.out _ hg2))
              all_goals
                go_wp2
                go_ret
                exact ⟨false, rfl, ⟨fun h => (by cases h), fun h => absurd h HN.out⟩, HG.out _ hg2⟩
    · obtain rfl : k = n := by omega
      have HY : Hid (asP ts) := fun i t ht => HK.out i (by have := (List.getElem?_eq_some_iff.1 ht).1; omega) t ht
      clear HK
      go_wp2
      go_ret
      exact ⟨true, rfl, ⟨fun _ => HY.out, fun _ => rfl⟩, hg⟩
end Go.Proofs.Ytcpffonenhhfoab
namespace Go.Proofs
open Go.Shelf
def Try.laysFT_ren : Go.Shelf.Ren := ⟨fun | 6 => 55 | 15 => 69 | 14 => 74 | 28 => 88 | 29 => 89 | 20 => 94 | 21 => 95 | 22 => 96 | 23 => 97 | 24 => 98 | 25 => 99 | 26 => 100 | 27 => 101 | 46 => 110 | 47 => 105 | 48 => 106 | 49 => 111 | 50 => 112 | 57 => 123 | n => n, fun | 22 => 22 | 24 => 45 | 25 => 69 | 3 => 3 | 39 => 80 | 0 => 0 | 53 => 97 | 55 => 99 | 4 => 4 | 46 => 90 | 45 => 89 | 50 => 94 | 5 => 5 | 9 => 9 | 66 => 108 | 70 => 112 | 76 => 122 | 77 => 123 | n => n, fun | n => n⟩
theorem Try.laysFT : Go.Proofs.SlLaysF.n6 Try.prog Try.laysFT_ren := {
  mixed := by kernel_rfl
  f6 := ⟨Try.f55.name, by decide, Try.func55.trans (congrArg some (by kernel_rfl))⟩
  f14 := ⟨Try.f74.name, by decide, Try.func74.trans (congrArg some (by kernel_rfl))⟩
  f15 := Try.func69.trans (congrArg some (by kernel_rfl))
  f20 := ⟨Try.f94.name, by decide, Try.func94.trans (congrArg some (by kernel_rfl))⟩
  f21 := ⟨Try.f95.name, by decide, Try.func95.trans (congrArg some (by kernel_rfl))⟩
  f22 := ⟨Try.f96.name, by decide, Try.func96.trans (congrArg some (by kernel_rfl))⟩
  f23 := ⟨Try.f97.name, by decide, Try.func97.trans (congrArg some (by kernel_rfl))⟩
  f24 := ⟨Try.f98.name, by decide, Try.func98.trans (congrArg some (by kernel_rfl))⟩
  f25 := ⟨Try.f99.name, by decide, Try.func99.trans (congrArg some (by kernel_rfl))⟩
  f26 := ⟨Try.f100.name, by decide, Try.func100.trans (congrArg some (by kernel_rfl))⟩
  f27 := ⟨Try.f101.name, by decide, Try.func101.trans (congrArg some (by kernel_rfl))⟩
  f28 := Try.func88.trans (congrArg some (by kernel_rfl))
  f29 := Try.func89.trans (congrArg some (by kernel_rfl))
  f46 := ⟨Try.f110.name, by decide, Try.func110.trans (congrArg some (by kernel_rfl))⟩
  f47 := Try.func105.trans (congrArg some (by kernel_rfl))
  f48 := Try.func106.trans (congrArg some (by kernel_rfl))
  f49 := ⟨Try.f111.name, by decide, Try.func111.trans (congrArg some (by kernel_rfl))⟩
  f50 := ⟨Try.f112.name, by decide, Try.func112.trans (congrArg some (by kernel_rfl))⟩
  f57 := ⟨Try.f123.name, by decide, Try.func123.trans (congrArg some (by kernel_rfl))⟩
  t0 := Try.underlying0
  a0 := Try.isAgg0
  z0 := Try.sizeOf0
  v0 := Try.zeroValue0
  t3 := Try.underlying3
  a3 := Try.isAgg3
  z3 := Try.sizeOf3
  v3 := Try.zeroValue3
  t4 := Try.underlying4
  a4 := Try.isAgg4
  z4 := Try.sizeOf4
  v4 := Try.zeroValue4
  t5 := Try.underlying5
  a5 := Try.isAgg5
  z5 := Try.sizeOf5
  v5 := Try.zeroValue5
  t9 := Try.underlying9
  a9 := Try.isAgg9
  z9 := Try.sizeOf9
  v9 := Try.zeroValue9
  t22 := Try.underlying22
  a22 := Try.isAgg22
  z22 := Try.sizeOf22
  v22 := Try.zeroValue22
  a24 := Try.isAgg45
  z24 := Try.sizeOf45
  t25 := Try.underlying69
  a25 := Try.isAgg69
  z25 := Try.sizeOf69
  v25 := Try.zeroValue69
  t39 := Try.underlying80
  a39 := Try.isAgg80
  z39 := Try.sizeOf80
  v39 := Try.zeroValue80
  t45 := Try.underlying89
  a45 := Try.isAgg89
  z45 := Try.sizeOf89
  v45 := Try.zeroValue89
  t46 := Try.underlying90
  a46 := Try.isAgg90
  z46 := Try.sizeOf90
  v46 := Try.zeroValue90
  t50 := Try.underlying94
  a50 := Try.isAgg94
  z50 := Try.sizeOf94
  v50 := Try.zeroValue94
  t53 := Try.underlying97
  a53 := Try.isAgg97
  z53 := Try.sizeOf97
  v53 := Try.zeroValue97
  t55 := Try.underlying99
  a55 := Try.isAgg99
  z55 := Try.sizeOf99
  v55 := Try.zeroValue99
  t66 := Try.underlying108
  a66 := Try.isAgg108
  z66 := Try.sizeOf108
  v66 := Try.zeroValue108
  t70 := Try.underlying112
  a70 := Try.isAgg112
  z70 := Try.sizeOf112
  v70 := Try.zeroValue112
  t76 := Try.underlying122
  a76 := Try.isAgg122
  z76 := Try.sizeOf122
  v76 := Try.zeroValue122
  t77 := Try.underlying123
  a77 := Try.isAgg123
  z77 := Try.sizeOf123
  v77 := Try.zeroValue123 }
end Go.Proofs
namespace Go.Proofs.Ytcpffonenhhfoab
open Go.RowKit Go.Sort Go.Lib

theorem heap_putA {α : Type} [Inhabited α] {enc : α → Value} {w : World} {g n : Nat} {os : Array Obj} {cur : Array Value} {e : TypeId} {fr : Nat × Nat} (d : Array α) (hb : w.heap[g]? = some (.cells cur e fr)) :
    (grow (putRow enc (Sort.ahead w n) g 0 d) os).heap[g]? = some (.cells (putCells enc 0 d cur) e fr) := by
  have hg : g < w.heap.size := (Array.getElem?_eq_some_iff.1 hb).1
  rw [heap_grow_old _ _ (by simpa using hg)]
  simp [putRow, mapBlock, Sort.ahead, Array.getElem?_modify, hb, onCells]
theorem grown_putA {α : Type} [Inhabited α] {enc : α → Value} {w : World} {g n : Nat} {os : Array Obj} (d : Array α) : w.grownBy (grow (putRow enc (Sort.ahead w n) g 0 d) os) (some g) := by
  refine ⟨rfl, rfl, rfl, by simp, fun k hk hne => ?_⟩
  rw [heap_grow_old _ _ (by simpa using hk)]
  have : g ≠ k := fun e => hne (by rw [e])
  simp [putRow, mapBlock, Sort.ahead, Array.getElem?_modify, this]
theorem take_putA {α : Type} [Inhabited α] {enc : α → Value} (cur : Array Value) (ts : List α) (h : ts.length ≤ cur.size) : (putCells enc 0 ts.toArray cur).toList.take ts.length = ts.map enc := by
  apply List.ext_getElem?
  intro j
  by_cases hj : j < ts.length
  · rw [List.getElem?_take_of_lt hj, Array.getElem?_toList]
    simp [putCells, hj, show j < cur.size by omega]
  · rw [List.getElem?_take_eq_none (by omega), List.getElem?_eq_none (by simp; omega)]

/-- a row of R -/
abbrev RwOf (R : List Rw) : Type := {r : Rw // r ∈ R}
def cfT {R : List Rw} (x y : RwOf R) : Int := cmpI (mnV x.1.t) (mnV y.1.t)
theorem ltT {R : List Rw} (x y : RwOf R) : ltOf cfT x y = decide (mnV x.1.t < mnV y.1.t) := by
  unfold ltOf cfT
  rw [Bool.eq_iff_iff, decide_eq_true_iff, decide_eq_true_iff, cmpI_neg]
theorem swoT {R : List Rw} : SWO (ltOf (cfT (R := R))) where
  irrefl x := by rw [ltT]; exact decide_eq_false (by omega)
  trans x y z h1 h2 := by
    rw [ltT] at *
    exact decide_eq_true (by have := of_decide_eq_true h1; have := of_decide_eq_true h2; omega)
  ntrans x y z h1 h2 := by
    rw [ltT] at *
    exact decide_eq_false (by have := of_decide_eq_false h1; have := of_decide_eq_false h2; omega)

set_option maxHeartbeats 1000000 in
theorem sortFT_any (R : List Rw) (hB : ∀ r ∈ R, tB r.t = true) (hne : R.Pairwise fun r s => mnV r.t ≠ mnV s.t) (lo n : Nat) (a : Option Addr) (c : Nat) (h0 : 0 < n) (hn : n ≤ 3000000) (w : World) (h : FB w lo w.heap.size a n c R) :
    Calls Try.prog 55 #[.slice a n c, .func (.func 56) #[] #[]] w fun e w' => e = .returned (.tuple #[]) ∧ ∃ R', FB w' lo w'.heap.size a n c R' ∧ R'.Perm R ∧ (rts R').Pairwise (fun s t => mnV s < mnV t) ∧ w.grownBy w' (Value.slice a n c).ownBlock := by
  have hlen := h.len
  rcases h.own.2 with ⟨_, h1⟩ | ⟨g, cap, cur, hv, hg, hgb, r1, r2, r3, r4⟩
  · omega
  · simp at hv
    obtain ⟨rfl, rfl⟩ := hv
    have hgl : g < w.heap.size := (Array.getElem?_eq_some_iff.1 hgb).1
    haveI : Inhabited (RwOf R) := ⟨⟨R[0]'(by omega), List.getElem_mem _⟩⟩
    have hH : Holds (fun x : RwOf R => x.1.hdr) w g 0 R.attach.toArray := fun j hj => by
      have hj' : j < R.length := by simpa using hj
      refine ⟨?_, h.own.frozenAt (0 + j)⟩
      rw [Nat.zero_add, h.own.cellAt j (by omega), rhs_at (List.getElem?_eq_getElem hj'), getElem!_pos _ j hj]
      simp
    have hkeep : ∀ (r : Rw) (m : Nat) (os : Array Obj) (dk : Array (RwOf R)), RwB w r → RwB (sortWorld (fun x : RwOf R => x.1.hdr) w g 0 m dk os) r := fun r m os dk hr => hr.grown (grown_putA dk) (fun e => own_ne h.own hr (by simpa using e))
    have hcmp : CmpLays1 Try.prog 56 #[] (fun x : RwOf R => x.1.hdr) cfT g 0 R.attach.toArray.size w := fun m os dk _ x y => by
      have hx := hkeep x.1 m os dk (h.ins x.1 x.2).1
      have hy := hkeep y.1 m os dk (h.ins y.1 y.2).1
      refine (compareTrees_any x.1.t y.1.t (hB x.1 x.2) (hB y.1 y.2) _ _ x.1.cp y.1.cp _ hx.is hy.is).mono ?_
      rintro e w' ⟨he, hw⟩
      exact ⟨he, 0, #[], by rw [hw, grow_empty]; rfl⟩
    have hc := Any.slices_SortFunc_total Try.laysFT (fun x : RwOf R => x.1.hdr) (fun _ => rfl) cfT swoT 56 #[] g 0 c R.attach.toArray w (enters_of Try.func56 (by kernel_rfl) rfl) hcmp hH hgl (by simp; omega) (fun x y h1 h2 => by
      rw [ltT] at h1 h2
      have h1 := of_decide_eq_false h1
      have h2 := of_decide_eq_false h2
      refine Classical.byContradiction fun hxy => ?_
      obtain ⟨i, hi⟩ := List.mem_iff_getElem?.1 x.2
      obtain ⟨j, hj⟩ := List.mem_iff_getElem?.1 y.2
      obtain ⟨i0, i1⟩ := List.getElem?_eq_some_iff.1 hi
      obtain ⟨j0, j1⟩ := List.getElem?_eq_some_iff.1 hj
      rcases Nat.lt_trichotomy i j with hlt | hlt | hlt
      · have := List.pairwise_iff_getElem.1 hne i j i0 j0 hlt
        rw [i1, j1] at this
        omega
      · subst hlt
        exact hxy (Subtype.ext (i1.symm.trans j1))
      · have := List.pairwise_iff_getElem.1 hne j i j0 i0 hlt
        rw [i1, j1] at this
        omega)
    change Calls Try.prog 55 _ _ _ at hc
    rw [show R.attach.toArray.size = n by simp; omega] at hc
    refine hc.mono ?_
    rintro e w' ⟨rfl, q, os, rfl⟩
    obtain ⟨L, hL⟩ : ∃ L, (R.attach.toArray.toList.mergeSort fun x y => !(ltOf cfT) y x) = L := ⟨_, rfl⟩
    have hLp : L.Perm R.attach := by rw [← hL]; simpa using List.mergeSort_perm R.attach fun x y => !(ltOf cfT) y x
    have hLs : L.Pairwise fun x y => (!(ltOf cfT) y x) = true := by
      rw [← hL]
      refine List.pairwise_mergeSort (fun a b c h1 h2 => ?_) (fun a b => ?_) _
      · simp only [ltT, Bool.not_eq_true', decide_eq_false_iff_not] at h1 h2 ⊢
        omega
      · simp only [ltT, Bool.or_eq_true, Bool.not_eq_true', decide_eq_false_iff_not]
        omega
    rw [hL]
    have hp : (L.map Subtype.val).Perm R := by
      have h3 := hLp.map Subtype.val
      rwa [List.attach_map_subtype_val] at h3
    have hLl : L.length = n := by rw [hLp.length_eq, List.length_attach]; exact hlen
    have hrow : (L.map fun x : RwOf R => x.1.hdr) = rhs (L.map Subtype.val) := by simp [rhs]
    have hown : (sortWorld (fun x : RwOf R => x.1.hdr) w g 0 q L.toArray os).ownsRow lo 45 1 (.slice (some ⟨g, 0, none⟩) n c) n (rhs (L.map Subtype.val)) := by
      refine ⟨by rw [rhs_len, List.length_map]; omega, .inr ⟨g, c, _, rfl, hg, heap_putA _ hgb, r1, r2, by simp [putCells, r3], ?_⟩⟩
      have := take_putA (enc := fun x : RwOf R => x.1.hdr) cur L (by rw [hLl, r3]; omega)
      rw [hLl, hrow] at this
      rw [Nat.mul_one]
      exact this
    refine ⟨rfl, L.map Subtype.val, ⟨by rw [List.length_map]; exact hLl, hown, fun x hx => (hown.lt x hx).2, Nat.le_refl _, fun r hr => ?_, ?_⟩, hp, ?_, grown_putA _⟩
    · have h3 := h.ins r (hp.mem_iff.1 hr)
      have h4 := hkeep r q os L.toArray h3.1
      exact ⟨h4, h3.2.1, h4.lt⟩
    · exact hp.symm.pairwise h.nod fun h => h.symm
    · have hd : (L.map Subtype.val).Pairwise fun r s => mnV r.t ≠ mnV s.t := hp.symm.pairwise hne fun h => h.symm
      unfold rts
      rw [List.pairwise_map]
      have h5 : (L.map Subtype.val).Pairwise fun r s => mnV r.t ≤ mnV s.t := by
        rw [List.pairwise_map]
        refine hLs.imp fun h => ?_
        simp only [ltT, Bool.not_eq_true', decide_eq_false_iff_not] at h
        omega
      exact (h5.and hd).imp fun ⟨h6, h7⟩ => by omega
end Go.Proofs.Ytcpffonenhhfoab
namespace Go.Proofs.Ytcpffonenhhfoab
open Go.RowKit

def rangeI (n : Nat) : List Int := (List.range n).map fun j : Nat => (j : Int)
theorem rangeI_len (n : Nat) : (rangeI n).length = n := by simp [rangeI]
theorem rangeI_at {n k : Nat} (h : k < n) : (rangeI n)[k]? = some (k : Int) := by simp [rangeI, h]
theorem rangeI_mem (n : Nat) (x : Int) : x ∈ rangeI n ↔ 0 ≤ x ∧ x < (n : Int) := by
  simp only [rangeI, List.mem_map, List.mem_range]
  constructor
  · rintro ⟨j, hj, rfl⟩
    omega
  · rintro ⟨h1, h2⟩
    exact ⟨x.toNat, by omega, by omega⟩
theorem rangeI_asc (n : Nat) : (rangeI n).Pairwise (· < ·) := by
  unfold rangeI
  rw [List.pairwise_map]
  exact List.Pairwise.imp (fun h => by omega) (List.pairwise_lt_range (n := n))
/-- all vertices -/
def allV (ts : List (List Int)) : List Int := ts.flatMap vsL
theorem allV_cons (t : List Int) (r : List (List Int)) : allV (t :: r) = vsL t ++ allV r := by simp [allV]
theorem allV_snoc (ts : List (List Int)) (t : List Int) : allV (ts ++ [t]) = allV ts ++ vsL t := by simp [allV]
theorem allV_len (ts : List (List Int)) : (allV ts).length = cnt ts := by
  induction ts with
  | nil => simp [cnt, allV]
  | cons t r ih =>
    rw [allV_cons, List.length_append, ih]
    simp [cnt]
theorem allV_nodup {ts : List (List Int)} (h : ts.Pairwise Apart) : (allV ts).Nodup := by
  induction ts with
  | nil => simp [allV]
  | cons t r ih =>
    rw [List.pairwise_cons] at h
    rw [allV_cons, List.nodup_append]
    refine ⟨vs_nodup t, ih h.2, fun y hy z hz e => ?_⟩
    subst e
    obtain ⟨s, hs, hys⟩ := List.mem_flatMap.1 hz
    exact h.1 s hs y ((vsL_mem t y).1 hy).2 ((vsL_mem s y).1 hys).2
theorem apart_of_nodup {ts : List (List Int)} (hB : ∀ t ∈ ts, tB t = true) (h : (allV ts).Nodup) : ts.Pairwise Apart := by
  induction ts with
  | nil => exact List.Pairwise.nil
  | cons t r ih =>
    rw [allV_cons, List.nodup_append] at h
    rw [List.pairwise_cons]
    refine ⟨fun s hs x hx hxs => ?_, ih (fun s hs => hB s (by simp [hs])) h.2.1⟩
    exact h.2.2 x ((vs_mem_of (hB t (by simp))).2 hx) x (List.mem_flatMap.2 ⟨s, hs, (vs_mem_of (hB s (by simp [hs]))).2 hxs⟩) rfl
/-- sorted -/
def srtI (l : List Int) : List Int := l.mergeSort fun x y => decide (x ≤ y)
theorem srtI_perm (l : List Int) : (srtI l).Perm l := List.mergeSort_perm _ _
theorem srtI_le (l : List Int) : (srtI l).Pairwise fun x y => x ≤ y := by
  have h := List.pairwise_mergeSort (le := fun x y : Int => decide (x ≤ y)) (fun a b c h1 h2 => by simp at *; omega) (fun a b => by simp; omega) l
  exact h.imp fun h => by simpa using h
theorem sh_iff {N : Nat} {ts : List (List Int)} (hB : ∀ t ∈ ts, tB t = true) : FQ (N : Int) ts ↔ srtI (allV ts) = rangeI N := by
  have hp := srtI_perm (allV ts)
  constructor
  · intro h
    have hn : (srtI (allV ts)).Nodup := hp.nodup_iff.2 (allV_nodup h.2.1)
    have hlt : (srtI (allV ts)).Pairwise (· < ·) := by
      have h2 := (srtI_le (allV ts)).and hn
      exact h2.imp fun ⟨h3, h4⟩ => by omega
    refine asc_ext hlt (rangeI_asc N) fun x => ?_
    rw [hp.mem_iff, rangeI_mem]
    constructor
    · intro hx
      obtain ⟨t, ht, hxt⟩ := List.mem_flatMap.1 hx
      obtain ⟨v1, v2⟩ := (vsL_mem t x).1 hxt
      have v1 := of_decide_eq_true (show decide (0 ≤ x ∧ x < 12) = true from v1)
      exact ⟨v1.1, (h.1 t ht).2 x v2⟩
    · rintro ⟨h1, h2⟩
      obtain ⟨t, ht, hx⟩ := h.cover h1 h2
      exact List.mem_flatMap.2 ⟨t, ht, (vs_mem_of (hB t ht)).2 hx⟩
  · intro h
    rw [h] at hp
    have hn : (allV ts).Nodup := hp.nodup_iff.1 ((rangeI_asc N).imp fun h => by omega)
    refine ⟨fun t ht => ⟨hB t ht, fun x hx => ?_⟩, apart_of_nodup hB hn, ?_⟩
    · exact ((rangeI_mem N x).1 (hp.mem_iff.2 (List.mem_flatMap.2 ⟨t, ht, (vs_mem_of (hB t ht)).2 hx⟩))).2
    · rw [← allV_len, ← hp.length_eq, rangeI_len]
theorem asP_B {ts : List (List Int)} (h : asP ts) : ∀ t ∈ ts, tB t = true := fun t ht => by
  obtain ⟨i, hi⟩ := List.mem_iff_getElem?.1 ht
  exact (h i t hi).1
theorem asP_asc {ts : List (List Int)} (h : asP ts) : ts.Pairwise fun s t => mnV s < mnV t := asc_all fun i t j s ht hj hs => (h i t ht).2 j s hj hs
theorem asP_of {ts : List (List Int)} (hB : ∀ t ∈ ts, tB t = true) (h : ts.Pairwise fun s t => mnV s < mnV t) : asP ts := fun i t ht => by
  refine ⟨hB t (List.mem_of_getElem? ht), fun j s hj hs => ?_⟩
  obtain ⟨hi, e⟩ := List.getElem?_eq_some_iff.1 ht
  obtain ⟨hj2, e2⟩ := List.getElem?_eq_some_iff.1 hs
  have := List.pairwise_iff_getElem.1 h j i hj2 hi (by omega)
  rw [e, e2] at this
  exact this
theorem asP_len {ts : List (List Int)} (h : asP ts) : ts.length ≤ 12 := by
  have h1 : (ts.map mnV).Nodup := by
    refine (List.pairwise_map.2 ((asP_asc h).imp fun h => ?_) : (ts.map mnV).Pairwise (· ≠ ·))
    omega
  have h2 := nd_sub (b := rangeI 12) h1 fun x hx => by
    obtain ⟨t, ht, rfl⟩ := List.mem_map.1 hx
    have h3 := ((tB_iff t).1 (asP_B h t ht)).1 _ (mn_mem (asP_B h t ht))
    have h3 := of_decide_eq_true (show decide (0 ≤ mnV t ∧ mnV t < 12) = true from h3)
    exact (rangeI_mem 12 _).2 h3
  rw [List.length_map, rangeI_len] at h2
  exact h2
/-- a right forest, as the program looks -/
theorem FP_prog (N : Int) (ts : List (List Int)) : FP N ts ↔ (1 ≤ N ∧ N ≤ 12) ∧ asP ts ∧ (srtI (allV ts) = rangeI (srtI (allV ts)).length ∧ ((srtI (allV ts)).length : Int) = N) := by
  rw [FP_iff]
  constructor
  · rintro ⟨h1, h2, h3, h4⟩
    have hA := asP_of (fun t ht => (h3.1 t ht).1) h4
    obtain ⟨M, rfl⟩ : ∃ M : Nat, N = (M : Int) := ⟨N.toNat, by omega⟩
    have h5 := (sh_iff (asP_B hA)).1 h3
    exact ⟨⟨h1, h2⟩, hA, by rw [h5, rangeI_len], by rw [h5, rangeI_len]⟩
  · rintro ⟨⟨h1, h2⟩, hA, h3, h4⟩
    refine ⟨h1, h2, ?_, asP_asc hA⟩
    rw [← h4]
    exact (sh_iff (asP_B hA)).2 h3
theorem allV_bound {ts : List (List Int)} (k : Nat) : (allV (ts.take k)).length ≤ 12 * k := by
  rw [allV_len, ← cntV_all]
  have h1 := cntV_le (ts.take k) (ts.take k).length
  have h2 := List.length_take_le k ts
  omega
end Go.Proofs.Ytcpffonenhhfoab
