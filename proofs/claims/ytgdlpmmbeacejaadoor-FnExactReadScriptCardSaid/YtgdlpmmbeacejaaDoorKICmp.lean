/- What the laws over graphs share. What the laws' own marks and looks on edges answer: markEdgeS, heldEdgeS, markGraph, heldGraph. The specification's GraphOk and HasEdge. The specification's GraphOk and HasEdge. Edges that ascend: where one is put in, and what is left without one. (No walk.). The library's comparisons; the program's compareEdges. -/
import Derived.Test.YtgdlpmmbeacejaaDoorKOpenGraph
import Derived.Test.YtgdlpmmbeacejaaDoorKHe13
namespace Go.Proofs.YtgdlpmmbeacejaaDoor.O
open Go.RowKit

/-- nothing below has turned since w -/
def Good (w u : World) : Prop := Below w.heap.size w u
theorem Good.refl (w : World) : Good w w := Below.refl _ _
theorem Good.size {w u : World} (h : Good w u) : w.heap.size ≤ u.heap.size := Below.size h
theorem Good.up {w u v : World} (h : Good w u) (hb : Below u.heap.size u v) : Good w v := Below.trans h (hb.mono h.size)
theorem Good.alloc {w u : World} (h : Good w u) (o : Obj) : Good w (u.alloc o) := h.up ((Below.refl _ _).alloc (Nat.le_refl _) _)
theorem Good.drew {w u : World} (h : Good w u) : Good w u.drew := Below.drew h
theorem Good.es {w u : World} (h : Good w u) {a : Option Addr} {n : Nat} {fs : List EdgeV} (hf : Es w w.heap.size a n fs) : Es u u.heap.size a n fs := hf.up h
theorem Good.cell {w u : World} (h : Good w u) {b o : Nat} (hb : b < w.heap.size) : u.cell? ⟨b, o, none⟩ = w.cell? ⟨b, o, none⟩ := Below.cell h hb
end Go.Proofs.YtgdlpmmbeacejaaDoor.O
namespace Go.Proofs.YtgdlpmmbeacejaaDoor.O
open Go.RowKit

theorem grown_of_below {w w' : World} (h : Below w.heap.size w w') (row : Option Nat) : w.grownBy w' row :=
  ⟨h.os, h.tape, h.output, h.size, fun k hk _ => h.block k hk⟩
theorem grown_trans {a b c : World} {row : Option Nat} (h : a.grownBy b row) (k : b.grownBy c row) : a.grownBy c row :=
  ⟨k.os.trans h.os, k.tape.trans h.tape, k.output.trans h.output, Nat.le_trans h.size k.size, fun i hi hr => (k.block i (Nat.lt_of_lt_of_le hi h.size) hr).trans (h.block i hi hr)⟩

/-- n marked edges from k0 on -/
def marks (k0 n : Nat) : List EdgeV := (List.range n).map fun (t : Nat) => ((k0 : Int) + (t : Int) * 2, (k0 : Int) + (t : Int) * 2 + 1)
theorem marks_snoc (k0 n : Nat) : marks k0 (n + 1) = marks k0 n ++ [((k0 : Int) + (n : Int) * 2, (k0 : Int) + (n : Int) * 2 + 1)] := by simp [marks, List.range_succ]
theorem marks_length (k0 n : Nat) : (marks k0 n).length = n := by simp [marks]
theorem marks_at (k0 n j : Nat) (h : j < n) : (marks k0 n)[j]? = some ((k0 : Int) + (j : Int) * 2, (k0 : Int) + (j : Int) * 2 + 1) := by simp [marks, h]

end Go.Proofs.YtgdlpmmbeacejaaDoor.O
namespace Go.Proofs.YtgdlpmmbeacejaaDoor.O
open Go.RowKit

/-- the one edge comes ahead of the other -/
def lt (d e : EdgeV) : Bool := decide (d.1 < e.1 ∨ d.1 = e.1 ∧ d.2 < e.2)

/-- the edge of place j is right, and comes behind the one ahead of it -/
def chkAt (n : Int) (es : List EdgeV) (j : Nat) : Bool :=
  match es[j]? with
  | none => true
  | some e => eB n e && (match j with
    | 0 => true
    | i + 1 => match es[i]? with
      | none => true
      | some d => lt d e)
/-- all of them are so -/
def chk (n : Int) (es : List EdgeV) : Bool := (List.range es.length).all (chkAt n es)
/-- the graph is right -/
def gB (N : Int) (es : List EdgeV) : Bool := decide (1 ≤ N ∧ N ≤ 12) && (chk N es && decide (es.length ≤ 66))

theorem chk_no {n : Int} {es : List EdgeV} {j : Nat} (hj : j < es.length) (h : chkAt n es j = false) : chk n es = false := by
  unfold chk
  rw [List.all_eq_false]
  exact ⟨j, List.mem_range.2 hj, by simp [h]⟩
theorem chk_yes {n : Int} {es : List EdgeV} (h : ∀ j, j < es.length → chkAt n es j = true) : chk n es = true := by
  unfold chk
  rw [List.all_eq_true]
  exact fun j hj => h j (List.mem_range.1 hj)
theorem chkAt_zero {n : Int} {es : List EdgeV} {e : EdgeV} (h : es[0]? = some e) : chkAt n es 0 = eB n e := by simp [chkAt, h]
theorem chkAt_succ {n : Int} {es : List EdgeV} {i : Nat} {d e : EdgeV} (h : es[i + 1]? = some e) (hd : es[i]? = some d) : chkAt n es (i + 1) = (eB n e && lt d e) := by simp only [chkAt, h, hd]
theorem chkAt_no {n : Int} {es : List EdgeV} {j : Nat} {e : EdgeV} (h : es[j]? = some e) (he : eB n e = false) : chkAt n es j = false := by simp only [chkAt, h, he, Bool.false_and]

end Go.Proofs.YtgdlpmmbeacejaaDoor.O
namespace Go.Proofs.YtgdlpmmbeacejaaDoor.O
open Go.RowKit

/-- it is one of them -/
def hasB (es : List EdgeV) (e : EdgeV) : Bool := decide (e ∈ es)
theorem hasB_yes {es : List EdgeV} {e : EdgeV} {k : Nat} (h : es[k]? = some e) : hasB es e = true := decide_eq_true (List.mem_of_getElem? h)
theorem hasB_no {es : List EdgeV} {e : EdgeV} (h : ∀ j, j < es.length → es[j]? ≠ some e) : hasB es e = false := decide_eq_false fun hm => by
  obtain ⟨j, hj, rfl⟩ := List.getElem_of_mem hm
  exact h j hj (List.getElem?_eq_getElem hj)

end Go.Proofs.YtgdlpmmbeacejaaDoor.O
namespace Go.Proofs.YtgdlpmmbeacejaaDoor.O

theorem lt_iff (d e : EdgeV) : lt d e = true ↔ (d.1 < e.1 ∨ d.1 = e.1 ∧ d.2 < e.2) := by unfold lt; rw [decide_eq_true_iff]
theorem lt_trans' {a b c : EdgeV} (h1 : lt a b = true) (h2 : lt b c = true) : lt a c = true := by rw [lt_iff] at *; omega
theorem lt_asymm' {a b : EdgeV} (h1 : lt a b = true) : lt b a = false := by
  cases h : lt b a with
  | false => rfl
  | true => rw [lt_iff] at *; omega
theorem lt_irrefl' (a : EdgeV) : lt a a = false := by
  cases h : lt a a with
  | false => rfl
  | true => rw [lt_iff] at h; omega
theorem lt_total' {a b : EdgeV} (h1 : lt a b = false) (h2 : a ≠ b) : lt b a = true := by
  have h3 : ¬ (a.1 < b.1 ∨ a.1 = b.1 ∧ a.2 < b.2) := fun h => by rw [(lt_iff a b).2 h] at h1; cases h1
  rw [lt_iff]
  by_cases h4 : a.1 = b.1
  · have h5 : ¬ a.2 = b.2 := fun h5 => h2 (Prod.ext h4 h5)
    omega
  · omega

/-- they ascend -/
def Asc (es : List EdgeV) : Prop := ∀ (i j : Nat) (d e : EdgeV), i < j → es[i]? = some d → es[j]? = some e → lt d e = true

theorem chk_all {n : Int} {es : List EdgeV} (h : chk n es = true) (j : Nat) (hj : j < es.length) : chkAt n es j = true := by
  unfold chk at h
  rw [List.all_eq_true] at h
  exact h j (List.mem_range.2 hj)
theorem chk_eB {n : Int} {es : List EdgeV} (h : chk n es = true) {e : EdgeV} (he : e ∈ es) : eB n e = true := by
  obtain ⟨j, hj, rfl⟩ := List.getElem_of_mem he
  have h1 := chk_all h j hj
  have h2 : es[j]? = some es[j] := List.getElem?_eq_getElem hj
  cases h3 : eB n es[j] with
  | true => rfl
  | false => rw [chkAt_no h2 h3] at h1; cases h1
theorem chk_next {n : Int} {es : List EdgeV} (h : chk n es = true) {i : Nat} {d e : EdgeV} (hd : es[i]? = some d) (he : es[i + 1]? = some e) : lt d e = true := by
  have h1 := chk_all h (i + 1) (List.getElem?_eq_some_iff.1 he).1
  rw [chkAt_succ he hd, Bool.and_eq_true] at h1
  exact h1.2
theorem asc_of_chk {n : Int} {es : List EdgeV} (h : chk n es = true) : Asc es := by
  intro i j d e hij hd he
  obtain ⟨k, rfl⟩ : ∃ k, j = i + 1 + k := ⟨j - i - 1, by omega⟩
  clear hij
  induction k generalizing e with
  | zero => exact chk_next h hd he
  | succ k ih =>
    have hl := (List.getElem?_eq_some_iff.1 he).1
    have h2 : es[i + 1 + k]? = some (es[i + 1 + k]'(by omega)) := List.getElem?_eq_getElem (by omega)
    exact lt_trans' (ih _ h2) (chk_next h h2 he)

/-- p parts what comes ahead of e from the rest -/
def Split (es : List EdgeV) (e : EdgeV) (p : Nat) : Prop :=
  p ≤ es.length ∧ (∀ m d, m < p → es[m]? = some d → lt d e = true) ∧ (∀ m d, p ≤ m → es[m]? = some d → lt d e = false)

/-- the edge in its place, as the specification puts it -/
def putE (es : List EdgeV) (e : EdgeV) : List EdgeV := es.filter (fun d => lt d e) ++ [e] ++ es.filter (fun d => lt e d)
/-- all but the edge -/
def outE (es : List EdgeV) (e : EdgeV) : List EdgeV := es.filter (fun d => decide (d ≠ e))

theorem mem_take_at {es : List EdgeV} {p : Nat} {d : EdgeV} (h : d ∈ es.take p) : ∃ m, m < p ∧ es[m]? = some d := by
  obtain ⟨m, hm, rfl⟩ := List.getElem_of_mem h
  have h1 : m < p := by simp at hm; omega
  exact ⟨m, h1, by rw [List.getElem_take]; exact List.getElem?_eq_getElem _⟩
theorem mem_drop_at {es : List EdgeV} {p : Nat} {d : EdgeV} (h : d ∈ es.drop p) : ∃ m, p ≤ m ∧ es[m]? = some d := by
  obtain ⟨m, hm, rfl⟩ := List.getElem_of_mem h
  exact ⟨p + m, by omega, by rw [List.getElem_drop]; exact List.getElem?_eq_getElem _⟩

theorem put_split {es : List EdgeV} {e : EdgeV} {p : Nat} (hs : Split es e p) (hn : e ∉ es) : putE es e = es.take p ++ [e] ++ es.drop p := by
  have hd : es = es.take p ++ es.drop p := (List.take_append_drop p es).symm
  unfold putE
  have a1 : (es.take p).filter (fun d => lt d e) = es.take p := List.filter_eq_self.2 fun d hm => by
    obtain ⟨m, h1, h2⟩ := mem_take_at hm
    exact hs.2.1 m d h1 h2
  have a2 : (es.drop p).filter (fun d => lt d e) = [] := List.filter_eq_nil_iff.2 fun d hm => by
    obtain ⟨m, h1, h2⟩ := mem_drop_at hm
    rw [hs.2.2 m d h1 h2]; simp
  have b1 : (es.take p).filter (fun d => lt e d) = [] := List.filter_eq_nil_iff.2 fun d hm => by
    obtain ⟨m, h1, h2⟩ := mem_take_at hm
    rw [lt_asymm' (hs.2.1 m d h1 h2)]; simp
  have b2 : (es.drop p).filter (fun d => lt e d) = es.drop p := List.filter_eq_self.2 fun d hm => by
    obtain ⟨m, h1, h2⟩ := mem_drop_at hm
    exact lt_total' (hs.2.2 m d h1 h2) fun h3 => hn (h3 ▸ List.mem_of_getElem? h2)
  have c1 : es.filter (fun d => lt d e) = es.take p := by
    rw [hd, List.filter_append, ← hd, a1, a2, List.append_nil]
  have c2 : es.filter (fun d => lt e d) = es.drop p := by
    rw [hd, List.filter_append, ← hd, b1, b2, List.nil_append]
  rw [c1, c2]

theorem out_at {es : List EdgeV} {e : EdgeV} {p : Nat} (ha : Asc es) (hp : es[p]? = some e) : outE es e = es.take p ++ es.drop (p + 1) := by
  have hl := (List.getElem?_eq_some_iff.1 hp).1
  have hd : es = es.take p ++ es.drop p := (List.take_append_drop p es).symm
  have h1 : es.drop p = e :: es.drop (p + 1) := by
    rw [List.drop_eq_getElem_cons hl, (List.getElem?_eq_some_iff.1 hp).2]
  unfold outE
  have a1 : (es.take p).filter (fun d => decide (d ≠ e)) = es.take p := List.filter_eq_self.2 fun d hm => by
    obtain ⟨m, h2, h3⟩ := mem_take_at hm
    have h4 := ha m p d e h2 h3 hp
    exact decide_eq_true fun h5 => by rw [h5, lt_irrefl'] at h4; cases h4
  have a2 : (es.drop (p + 1)).filter (fun d => decide (d ≠ e)) = es.drop (p + 1) := List.filter_eq_self.2 fun d hm => by
    obtain ⟨m, h2, h3⟩ := mem_drop_at hm
    have h4 := ha p m e d (by omega) hp h3
    exact decide_eq_true fun h5 => by rw [h5, lt_irrefl'] at h4; cases h4
  have c1 : es.filter (fun d => decide (d ≠ e)) = es.take p ++ es.drop (p + 1) := by
    rw [hd, List.filter_append, ← hd, a1, h1, List.filter_cons_of_neg (by simp), a2]
  exact c1

/-- AddEdge -/
def addE (N : Int) (es : List EdgeV) (e : EdgeV) : Option (List EdgeV) := if gB N es = true ∧ eB N e = true ∧ hasB es e = false then some (putE es e) else none
/-- TakeEdge -/
def takE (N : Int) (es : List EdgeV) (e : EdgeV) : Option (List EdgeV) := if gB N es = true ∧ hasB es e = true then some (outE es e) else none

theorem gB_chk {N : Int} {es : List EdgeV} (h : gB N es = true) : (1 ≤ N ∧ N ≤ 12) ∧ chk N es = true ∧ es.length ≤ 66 := by
  unfold gB at h
  simp only [Bool.and_eq_true, decide_eq_true_eq] at h
  exact ⟨h.1, h.2.1, h.2.2⟩
theorem putE_length (es : List EdgeV) (e : EdgeV) : (putE es e).length ≤ 2 * es.length + 1 := by
  unfold putE
  have h1 := List.length_filter_le (fun d => lt d e) es
  have h2 := List.length_filter_le (fun d => lt e d) es
  simp only [List.length_append, List.length_cons, List.length_nil]
  omega
theorem outE_length (es : List EdgeV) (e : EdgeV) : (outE es e).length ≤ es.length := List.length_filter_le _ _
end Go.Proofs.YtgdlpmmbeacejaaDoor.O
namespace Go.Proofs.YtgdlpmmbeacejaaDoor.O
open Go.RowKit

/-- -1, 0 or 1 -/
def cmpI (x y : Int) : Int := if x < y then -1 else if y < x then 1 else 0
/-- the comparison of two edges -/
def cmpE (d e : EdgeV) : Int := if cmpI d.1 e.1 ≠ 0 then cmpI d.1 e.1 else cmpI d.2 e.2

theorem cmpI_zero (x y : Int) : cmpI x y = 0 ↔ x = y := by unfold cmpI; split <;> (try split) <;> omega
theorem cmpI_neg (x y : Int) : cmpI x y < 0 ↔ x < y := by unfold cmpI; split <;> (try split) <;> omega
theorem cmpE_neg (d e : EdgeV) : cmpE d e < 0 ↔ lt d e = true := by
  unfold cmpE lt
  rw [decide_eq_true_iff]
  by_cases h : cmpI d.1 e.1 = 0
  · rw [if_neg (by simpa using h), cmpI_neg]
    have := (cmpI_zero d.1 e.1).1 h
    omega
  · rw [if_pos h, cmpI_neg]
    have := mt (cmpI_zero d.1 e.1).2 h
    omega
theorem cmpE_zero (d e : EdgeV) : cmpE d e = 0 ↔ d = e := by
  unfold cmpE
  by_cases h : cmpI d.1 e.1 = 0
  · rw [if_neg (by simpa using h), cmpI_zero]
    exact ⟨fun h2 => Prod.ext ((cmpI_zero _ _).1 h) h2, fun h2 => by rw [h2]⟩
  · rw [if_pos h]
    exact ⟨fun h2 => absurd h2 h, fun h2 => absurd ((cmpI_zero _ _).2 (by rw [h2])) h⟩

theorem cmpCompare_any (x y : Int) (w : World) : Calls Tryd.prog 72 #[.int .i64 x, .int .i64 y] w fun e w' => e = .returned (.int .i64 (cmpI x y)) ∧ w' = w := by
  unfold cmpI
  by_cases h1 : x < y
  · rw [if_pos h1]
    have d1 : decide (x < y) = true := decide_eq_true h1
    go_enter Tryd.func72, Tryd.ntmps72
    go_wp2
    go_ret
    exact ⟨rfl, rfl⟩
  · rw [if_neg h1]
    have d1 : decide (x < y) = false := decide_eq_false h1
    by_cases h2 : y < x
    · rw [if_pos h2]
      have d2 : decide (y < x) = true := decide_eq_true h2
      go_enter Tryd.func72, Tryd.ntmps72
      go_wp2
      go_ret
      exact ⟨rfl, rfl⟩
    · rw [if_neg h2]
      have d2 : decide (y < x) = false := decide_eq_false h2
      go_enter Tryd.func72, Tryd.ntmps72
      go_wp2
      go_ret
      exact ⟨rfl, rfl⟩

theorem cmpOr_any (x y : Int) (b : Nat) (w : World) (h0 : w.cell? ⟨b, 0, none⟩ = some (.int .i64 x)) (h1 : w.cell? ⟨b, 1, none⟩ = some (.int .i64 y)) :
    Calls Tryd.prog 76 #[.slice (some ⟨b, 0, none⟩) 2 2] w fun e w' => e = .returned (.int .i64 (if x ≠ 0 then x else y)) ∧ w' = w := by
  go_enter Tryd.func76, Tryd.ntmps76
  go_wp2
  go_loopw [8] (fun i wr => ∃ k : Nat, k ≤ 2 ∧ i = .int .i64 (k : Int) ∧ wr = w ∧ Hid (1 ≤ k → x = 0) ∧ Hid (2 ≤ k → y = 0)) (fun i _ => 2 - (intOf i).toNat)
  case atStart => exact ⟨0, by omega, rfl, rfl, fun h => by omega, fun h => by omega⟩
  case round =>
    obtain ⟨k, hk, rfl, rfl, hx, hy⟩ := hrel
    rcases k with _ | _ | k
    · by_cases g : x = 0
      · subst g
        go_wp2
        exact ⟨⟨1, by omega, by go_num, by first | trivial | rfl, by first | exact fun _ => True.intro | exact fun _ => rfl, by first | exact True.intro | exact fun h => by omega⟩, by simp [intOf]⟩
      · have d : (x != 0) = true := by simpa using g
        go_wp2
        go_ret
        exact ⟨rfl, rfl⟩
    · have g := hx.out (by omega)
      subst g
      clear hx hy
      by_cases g : y = 0
      · subst g
        go_wp2
        exact ⟨⟨2, by omega, by go_num, by first | trivial | rfl, by first | exact fun _ => True.intro | exact fun _ => rfl, by first | exact fun _ => True.intro | exact fun _ => rfl⟩, by simp [intOf]⟩
      · have d : (y != 0) = true := by simpa using g
        go_wp2
        go_ret
        exact ⟨rfl, rfl⟩
    · obtain rfl : k = 0 := by omega
      have g := hx.out (by omega)
      have g2 := hy.out (by omega)
      subst g g2
      clear hx hy
      go_wp2
      go_ret
      exact ⟨rfl, rfl⟩

set_option maxHeartbeats 1000000 in
theorem compareEdges_any (d e : EdgeV) (w : World) :
    Calls Tryd.prog 74 #[.agg #[.int .i64 d.1, .int .i64 d.2], .agg #[.int .i64 e.1, .int .i64 e.2]] w fun x w' => x = .returned (.int .i64 (cmpE d e)) ∧ Below w.heap.size w w' := by
  obtain ⟨a, b⟩ := d
  obtain ⟨c, f⟩ := e
  dsimp only
  have HC := hideIt cmpCompare_any
  have HO : Hid (Calls Tryd.prog 76 #[.slice (some ⟨w.heap.size + 1 + 1, 0, none⟩) 2 2] (((w.alloc (.cells #[.int .i64 a, .int .i64 b] 100)).alloc (.cells #[.int .i64 c, .int .i64 f] 100)).alloc (.cells #[.int .i64 (cmpI a c), .int .i64 (cmpI b f)] 3)).drew
      fun e w' => e = .returned (.int .i64 (cmpE (a, b) (c, f))) ∧ w' = (((w.alloc (.cells #[.int .i64 a, .int .i64 b] 100)).alloc (.cells #[.int .i64 c, .int .i64 f] 100)).alloc (.cells #[.int .i64 (cmpI a c), .int .i64 (cmpI b f)] 3)).drew) :=
    cmpOr_any (cmpI a c) (cmpI b f) (w.heap.size + 1 + 1) _ (by simp [go_sem]) (by simp [go_sem])
  go_enter Tryd.func74, Tryd.ntmps74
  go_wp2
  go_region_held3 (fun u => (u.cell? ⟨w.heap.size, 0, none⟩ = some (.int .i64 a) ∧ u.cell? ⟨w.heap.size, 1, none⟩ = some (.int .i64 b)) ∧ u.cell? ⟨w.heap.size + 1, 0, none⟩ = some (.int .i64 c) ∧ u.cell? ⟨w.heap.size + 1, 1, none⟩ = some (.int .i64 f))
    (go_keep)
    (first
      | (go_at_call 72; refine (HC.out _ _ _).mono ?_; rintro e w1 ⟨rfl, rfl⟩)
      | (go_at_call 76; refine HO.out.mono ?_; rintro e w1 ⟨rfl, rfl⟩))
  all_goals
    go_wp2
    go_ret
    exact ⟨rfl, ((((Below.refl _ _).alloc (Nat.le_refl _) _).alloc (by simp) _).alloc (by simp; omega) _).drew⟩
end Go.Proofs.YtgdlpmmbeacejaaDoor.O
