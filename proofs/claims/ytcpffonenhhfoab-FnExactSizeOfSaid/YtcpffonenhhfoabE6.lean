/- Lists of edges in memory; what the drawn laws of chapter 6 have of chapter 5. -/
import Derived.Test.YtcpffonenhhfoabB6
namespace Go.Proofs.Ytcpffonenhhfoab
open Go.RowKit

/-- an edge -/
abbrev EdgeV := Int × Int

/-- the edge is right -/
def eB (n : Int) (e : EdgeV) : Bool := decide (1 ≤ n ∧ n ≤ 12 ∧ 0 ≤ e.1 ∧ e.1 < e.2 ∧ e.2 < n)

theorem sEdgeOk_any (n : Int) (e : EdgeV) (w : World) :
    Calls Try.prog 23 #[.int .i64 n, .agg #[.int .i64 e.1, .int .i64 e.2]] w fun x w' => x = .returned (.bool (eB n e)) ∧ Below w.heap.size w w' := by
  obtain ⟨a, b⟩ := e
  dsimp only
  have HI := hideIt l01In_any
  by_cases h1 : 1 ≤ n ∧ n ≤ 12
  · have r1 : decide (1 ≤ n ∧ n ≤ 12) = true := by simpa using h1
    by_cases h2 : 0 ≤ a ∧ a ≤ n - 1
    · have r2 : decide (0 ≤ a ∧ a ≤ n - 1) = true := by simpa using h2
      by_cases h3 : 0 ≤ b ∧ b ≤ n - 1
      · have r3 : decide (0 ≤ b ∧ b ≤ n - 1) = true := by simpa using h3
        go_enter Try.func23, Try.ntmps23
        go_wp2_with (go_at_call 45; refine (HI.out _ _ _ _).mono ?_; rintro e w1 ⟨rfl, rfl⟩)
        go_ret
        exact ⟨bret (by dsimp only; omega), (Below.refl _ _).alloc (Nat.le_refl _) _⟩
      · have r3 : decide (0 ≤ b ∧ b ≤ n - 1) = false := by simpa using h3
        go_enter Try.func23, Try.ntmps23
        go_wp2_with (go_at_call 45; refine (HI.out _ _ _ _).mono ?_; rintro e w1 ⟨rfl, rfl⟩)
        go_ret
        exact ⟨by simp [eB]; omega, (Below.refl _ _).alloc (Nat.le_refl _) _⟩
    · have r2 : decide (0 ≤ a ∧ a ≤ n - 1) = false := by simpa using h2
      go_enter Try.func23, Try.ntmps23
      go_wp2_with (go_at_call 45; refine (HI.out _ _ _ _).mono ?_; rintro e w1 ⟨rfl, rfl⟩)
      go_ret
      exact ⟨by simp [eB]; omega, (Below.refl _ _).alloc (Nat.le_refl _) _⟩
  · have r1 : decide (1 ≤ n ∧ n ≤ 12) = false := by simpa using h1
    go_enter Try.func23, Try.ntmps23
    go_wp2_with (go_at_call 45; refine (HI.out _ _ _ _).mono ?_; rintro e w1 ⟨rfl, rfl⟩)
    go_ret
    exact ⟨by simp [eB]; omega, (Below.refl _ _).alloc (Nat.le_refl _) _⟩

/-- the list of edges es stands at a, n of them, below block B -/
def Es (w : World) (B : Nat) (a : Option Addr) (n : Nat) (es : List EdgeV) : Prop :=
  es.length = n ∧ (n = 0 ∨ ∃ b off, a = some ⟨b, off, none⟩ ∧ b < B ∧ ∀ (j : Nat) (f : EdgeV), es[j]? = some f →
    w.cell? ⟨b, off + j * 2, none⟩ = some (.int .i64 f.1) ∧ w.cell? ⟨b, off + j * 2 + 1, none⟩ = some (.int .i64 f.2))

theorem Es.alloc {w : World} {B : Nat} {a : Option Addr} {n : Nat} {fs : List EdgeV} (h : Es w B a n fs) (hB : B ≤ w.heap.size) (o : Obj) : Es (w.alloc o) B a n fs := by
  refine ⟨h.1, h.2.imp id ?_⟩
  rintro ⟨b, off, ha, hb, hc⟩
  refine ⟨b, off, ha, hb, fun j f hf => ?_⟩
  have hbl : b < w.heap.size := by omega
  obtain ⟨c0, c1⟩ := hc j f hf
  exact ⟨by rw [World.cell?_of_block (w := w) (Below.heap_alloc w o b hbl)]; exact c0, by rw [World.cell?_of_block (w := w) (Below.heap_alloc w o b hbl)]; exact c1⟩

theorem Es.below {w w' : World} {B C : Nat} {a : Option Addr} {n : Nat} {fs : List EdgeV} (h : Es w B a n fs) (hb : Below C w w') (hB : B ≤ C) : Es w' B a n fs := by
  refine ⟨h.1, h.2.imp id ?_⟩
  rintro ⟨b, off, ha, hbl, hc⟩
  refine ⟨b, off, ha, hbl, fun j f hf => ?_⟩
  obtain ⟨c0, c1⟩ := hc j f hf
  have hl : b < C := by omega
  exact ⟨by rw [hb.cell (p := ⟨b, _, none⟩) hl]; exact c0, by rw [hb.cell (p := ⟨b, _, none⟩) hl]; exact c1⟩

theorem Es.mono {w : World} {B C : Nat} {a : Option Addr} {n : Nat} {fs : List EdgeV} (h : Es w B a n fs) (hB : B ≤ C) : Es w C a n fs := by
  refine ⟨h.1, h.2.imp id ?_⟩
  rintro ⟨b, off, ha, hbl, hc⟩
  exact ⟨b, off, ha, by omega, hc⟩

theorem Es.up {w w' : World} {a : Option Addr} {n : Nat} {fs : List EdgeV} (h : Es w w.heap.size a n fs) (hb : Below w.heap.size w w') : Es w' w'.heap.size a n fs :=
  (h.below hb (Nat.le_refl _)).mono hb.size

/-- the cells of an edge -/
def ecell (f : EdgeV) : List Value := [.int .i64 f.1, .int .i64 f.2]

/-- the cells of a list of edges -/
def ecells (fs : List EdgeV) : List Value := fs.flatMap ecell

theorem ecells_length (fs : List EdgeV) : (ecells fs).length = fs.length * 2 := by
  induction fs with
  | nil => rfl
  | cons f fs ih => simp only [ecells, List.flatMap_cons, List.length_append, List.length_cons] at ih ⊢; rw [ih]; simp [ecell]; omega

theorem ecells_at (fs : List EdgeV) (j : Nat) (f : EdgeV) (h : fs[j]? = some f) :
    (ecells fs)[j * 2]? = some (.int .i64 f.1) ∧ (ecells fs)[j * 2 + 1]? = some (.int .i64 f.2) := by
  induction fs generalizing j with
  | nil => simp at h
  | cons g fs ih =>
    cases j with
    | zero => simp at h; subst h; simp [ecells, ecell]
    | succ j =>
      have h2 := ih j (by simpa using h)
      have e : ∀ m, (ecells (g :: fs))[m + 2]? = (ecells fs)[m]? := fun m => by simp [ecells, ecell]
      refine ⟨?_, ?_⟩
      · rw [show (j + 1) * 2 = j * 2 + 2 by omega, e]; exact h2.1
      · rw [show (j + 1) * 2 + 1 = j * 2 + 1 + 2 by omega, e]; exact h2.2

theorem ecells_snoc (fs : List EdgeV) (f : EdgeV) : ecells (fs ++ [f]) = ecells fs ++ [.int .i64 f.1, .int .i64 f.2] := by simp [ecells, ecell]

theorem ecells_append (fs gs : List EdgeV) : ecells (fs ++ gs) = ecells fs ++ ecells gs := by simp [ecells]

theorem infoIE : (Try.prog.info? 32).map (fun i => (i.zero, i.size, i.bytes)) = some (some (.agg #[.int .i64 0, .int .i64 0]), 2, 16) := by kernel_rfl

/-- a list of one's own reads as its edges -/
theorem Es_of_own {w : World} {B n c : Nat} {a : Option Addr} {fs : List EdgeV} (h : w.ownsRow B 32 2 (.slice a n c) n (ecells fs)) : Es w w.heap.size a n fs := by
  have hl := h.1
  rw [ecells_length] at hl
  refine ⟨by omega, ?_⟩
  rcases h.2 with ⟨hv, h0⟩ | ⟨g, cap, cur, hv, hrest⟩
  · exact .inl h0
  · simp at hv
    obtain ⟨rfl, rfl⟩ := hv
    by_cases h0 : n = 0
    · exact .inl h0
    · refine .inr ⟨g, 0, rfl, (h.lt g rfl).2, fun j f hf => ?_⟩
      have hj : j < fs.length := (List.getElem?_eq_some_iff.1 hf).1
      obtain ⟨c0, c1⟩ := ecells_at fs j f hf
      rw [Nat.zero_add]
      exact ⟨by rw [h.cellAt (j * 2) (by omega)]; exact c0, by rw [h.cellAt (j * 2 + 1) (by omega)]; exact c1⟩

/-- the one edge comes ahead of the other -/
def lt (d e : EdgeV) : Bool := decide (d.1 < e.1 ∨ d.1 = e.1 ∧ d.2 < e.2)

theorem l05Less_any (d e : EdgeV) (w : World) :
    Calls Try.prog 65 #[.agg #[.int .i64 d.1, .int .i64 d.2], .agg #[.int .i64 e.1, .int .i64 e.2]] w fun x w' => x = .returned (.bool (lt d e)) ∧ Below w.heap.size w w' := by
  obtain ⟨a, b⟩ := d
  obtain ⟨c, f⟩ := e
  dsimp only
  by_cases h1 : a < c
  · have r1 : decide (a < c) = true := by simpa using h1
    go_enter Try.func65, Try.ntmps65
    go_wp2
    go_ret
    exact ⟨by simp [lt]; omega, ((Below.refl _ _).alloc (Nat.le_refl _) _).alloc (by simp) _⟩
  · have r1 : decide (a < c) = false := by simpa using h1
    by_cases h2 : a = c
    · subst h2
      go_enter Try.func65, Try.ntmps65
      go_wp2
      go_ret
      exact ⟨bret (by dsimp only; omega), ((Below.refl _ _).alloc (Nat.le_refl _) _).alloc (by simp) _⟩
    · have r2 : (a == c) = false := by simpa using h2
      go_enter Try.func65, Try.ntmps65
      go_wp2
      go_ret
      exact ⟨by simp [lt]; omega, ((Below.refl _ _).alloc (Nat.le_refl _) _).alloc (by simp) _⟩

/-- it is one of them -/
def hasB (es : List EdgeV) (e : EdgeV) : Bool := decide (e ∈ es)

theorem hasB_yes {es : List EdgeV} {e : EdgeV} {k : Nat} (h : es[k]? = some e) : hasB es e = true := decide_eq_true (List.mem_of_getElem? h)

theorem hasB_no {es : List EdgeV} {e : EdgeV} (h : ∀ j, j < es.length → es[j]? ≠ some e) : hasB es e = false := decide_eq_false fun hm => by
  obtain ⟨j, hj, rfl⟩ := List.getElem_of_mem hm
  exact h j hj (List.getElem?_eq_getElem hj)

theorem lt_iff (d e : EdgeV) : lt d e = true ↔ (d.1 < e.1 ∨ d.1 = e.1 ∧ d.2 < e.2) := by unfold lt; rw [decide_eq_true_iff]

theorem lt_trans' {a b c : EdgeV} (h1 : lt a b = true) (h2 : lt b c = true) : lt a c = true := by rw [lt_iff] at *; omega

theorem lt_asymm' {a b : EdgeV} (h1 : lt a b = true) : lt b a = false := by
  cases h : lt b a with
  | false => rfl
  | true => rw [lt_iff] at *; omega

theorem lt_irrefl' (a : EdgeV) : lt a a = false := by
  cases h : lt a a with
  | false => rfl
  | true => rw [lt_iff] at h; omega

theorem lt_total' {a b : EdgeV} (h1 : lt a b = false) (h2 : a ≠ b) : lt b a = true := by
  have h3 : ¬ (a.1 < b.1 ∨ a.1 = b.1 ∧ a.2 < b.2) := fun h => by rw [(lt_iff a b).2 h] at h1; cases h1
  rw [lt_iff]
  by_cases h4 : a.1 = b.1
  · have h5 : ¬ a.2 = b.2 := fun h5 => h2 (Prod.ext h4 h5)
    omega
  · omega

/-- they ascend -/
def Asc (es : List EdgeV) : Prop := ∀ (i j : Nat) (d e : EdgeV), i < j → es[i]? = some d → es[j]? = some e → lt d e = true

/-- the edge in its place, as the specification puts it -/
def putE (es : List EdgeV) (e : EdgeV) : List EdgeV := es.filter (fun d => lt d e) ++ [e] ++ es.filter (fun d => lt e d)

end Go.Proofs.Ytcpffonenhhfoab
