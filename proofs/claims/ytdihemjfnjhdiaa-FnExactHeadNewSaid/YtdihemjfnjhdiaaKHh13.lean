/- Edges: when one is right; which comes first. Edges in a list, and what the laws' own functions over graphs answer. Heads in memory; the laws' own functions over them: szHead, toHead, eqHead. szHead, toHead, eqHead. Cells of a box, set one behind the other; toTask. toHead, eqHead: a head laid anew, a head held against itself. -/
import Derived.Test.YtdihemjfnjhdiaaProg
import GoSem.Claim
import GoSem.ClaimJoined
import GoSem.ClaimMapViews
import Derived.JoinedTies
import Derived.KernelRfl
import Derived.WalkKit
import Derived.WalkSpells
import Derived.WalkSmall
import Derived.OwnWalk
import Derived.BigQuiet
import Derived.Deep.QuietTactic
import Derived.Deep.MidRow
import Derived.Deep.RegionHeld3
import Derived.Test.YtdihemjfnjhdiaaKSd13
namespace Go.Proofs.Ytdihemjfnjhdiaa.O
open Go.RowKit

theorem hideIt {p : Prop} (h : p) : Hid p := h

/-- an operation that its guard passes over is taken first -/
theorem skipOp {P : Program} {ops : Array Oper} {Q : Exit → Go.Act → World → Prop} {md : Region.Mode} {i : Nat} {oi : Oper} {fuel : Nat} {listed : Array Bool} {a : Go.Act} {w : World} (hi : ops[i]? = some oi)
    (hs : Region.noSelect ops = true) (hf : Region.free md ops listed i = true) (hr : (Region.ready md ops listed).contains i = true) (hQ : ∀ c a w, Q (.panic c) (a.put oi.dst undef) w → Q (.panic c) a w)
    (hw : Region.wanted oi (yielded ops a.tmps) = false) (h : wpAny P md ops Q fuel (listed.setIfInBounds i true) (a.put oi.dst undef) w) : wpAny P md ops Q (fuel + 1) listed a w :=
  wpAny_take hi hs hf hr hQ (.inr ⟨hw, rfl⟩) h
/-- an operation that looks at no memory is taken first -/
theorem takeOp {P : Program} {ops : Array Oper} {Q : Exit → Go.Act → World → Prop} {md : Region.Mode} {i : Nat} {oi : Oper} {v : Value} {fuel : Nat} {listed : Array Bool} {a : Go.Act} {w : World} (hi : ops[i]? = some oi)
    (hs : Region.noSelect ops = true) (hf : Region.free md ops listed i = true) (hr : (Region.ready md ops listed).contains i = true) (hQ : ∀ c a w, Q (.panic c) (a.put oi.dst v) w → Q (.panic c) a w)
    (hw : Region.wanted oi (yielded ops a.tmps) = true) (hv : ∀ w, (execOp a.eval oi).run P w = .ok (.value v) w) (h : wpAny P md ops Q fuel (listed.setIfInBounds i true) (a.put oi.dst v) w) : wpAny P md ops Q (fuel + 1) listed a w :=
  wpAny_take hi hs hf hr hQ (.inl ⟨hw, hv⟩) h

/-- an edge -/
abbrev EdgeV := Int × Int

theorem bret {p q : Prop} [Decidable p] [Decidable q] (h : p ↔ q) : Ending.returned (.bool (decide p)) = Ending.returned (.bool (decide q)) := by rw [decide_eq_decide.2 h]

/-- the edge is right -/
def eB (n : Int) (e : EdgeV) : Bool := decide (1 ≤ n ∧ n ≤ 12 ∧ 0 ≤ e.1 ∧ e.1 < e.2 ∧ e.2 < n)

theorem l01In_any (x a b : Int) (w : World) : Calls Try.prog 29 #[.int .i64 x, .int .i64 a, .int .i64 b] w fun e w' => e = .returned (.bool (decide (a ≤ x ∧ x ≤ b))) ∧ w' = w := by
  by_cases h1 : a ≤ x
  · by_cases h2 : x ≤ b
    · have d1 : decide (a ≤ x) = true := by simpa using h1
      have d2 : decide (x ≤ b) = true := by simpa using h2
      go_enter Try.func29, Try.ntmps29
      go_wp2
      go_ret
      exact ⟨by simp [h1, h2], rfl⟩
    · have d1 : decide (a ≤ x) = true := by simpa using h1
      have d2 : decide (x ≤ b) = false := by simpa using h2
      go_enter Try.func29, Try.ntmps29
      go_wp2
      go_ret
      exact ⟨by simp, rfl⟩
  · have d1 : decide (a ≤ x) = false := by simpa using h1
    go_enter Try.func29, Try.ntmps29
    go_wp2
    go_ret
    exact ⟨by simp, rfl⟩

theorem vertsOk_any (x : Int) (w : World) : Calls Try.prog 26 #[.int .i64 x] w fun e w' => e = .returned (.bool (decide (1 ≤ x ∧ x ≤ 12))) ∧ w' = w := by
  by_cases h1 : 1 ≤ x
  · by_cases h2 : x ≤ 12
    · have d1 : decide (1 ≤ x) = true := by simpa using h1
      have d2 : decide (x ≤ 12) = true := by simpa using h2
      go_enter Try.func26, Try.ntmps26
      go_wp2
      go_ret
      exact ⟨by simp [h1, h2], rfl⟩
    · have d1 : decide (1 ≤ x) = true := by simpa using h1
      have d2 : decide (x ≤ 12) = false := by simpa using h2
      go_enter Try.func26, Try.ntmps26
      go_wp2
      go_ret
      exact ⟨by simp, rfl⟩
  · have d1 : decide (1 ≤ x) = false := by simpa using h1
    go_enter Try.func26, Try.ntmps26
    go_wp2
    go_ret
    exact ⟨by simp, rfl⟩

theorem sEdgeOk_any (n : Int) (e : EdgeV) (w : World) :
    Calls Try.prog 101 #[.int .i64 n, .agg #[.int .i64 e.1, .int .i64 e.2]] w fun x w' => x = .returned (.bool (eB n e)) ∧ Below w.heap.size w w' := by
  obtain ⟨a, b⟩ := e
  dsimp only
  have HI := hideIt l01In_any
  by_cases h1 : 1 ≤ n ∧ n ≤ 12
  · have r1 : decide (1 ≤ n ∧ n ≤ 12) = true := by simpa using h1
    by_cases h2 : 0 ≤ a ∧ a ≤ n - 1
    · have r2 : decide (0 ≤ a ∧ a ≤ n - 1) = true := by simpa using h2
      by_cases h3 : 0 ≤ b ∧ b ≤ n - 1
      · have r3 : decide (0 ≤ b ∧ b ≤ n - 1) = true := by simpa using h3
        go_enter Try.func101, Try.ntmps101
        go_wp2_with (go_at_call 29; refine (HI.out _ _ _ _).mono ?_; rintro e w1 ⟨rfl, rfl⟩)
        go_ret
        exact ⟨bret (by dsimp only; omega), (Below.refl _ _).alloc (Nat.le_refl _) _⟩
      · have r3 : decide (0 ≤ b ∧ b ≤ n - 1) = false := by simpa using h3
        go_enter Try.func101, Try.ntmps101
        go_wp2_with (go_at_call 29; refine (HI.out _ _ _ _).mono ?_; rintro e w1 ⟨rfl, rfl⟩)
        go_ret
        exact ⟨by simp [eB]; omega, (Below.refl _ _).alloc (Nat.le_refl _) _⟩
    · have r2 : decide (0 ≤ a ∧ a ≤ n - 1) = false := by simpa using h2
      go_enter Try.func101, Try.ntmps101
      go_wp2_with (go_at_call 29; refine (HI.out _ _ _ _).mono ?_; rintro e w1 ⟨rfl, rfl⟩)
      go_ret
      exact ⟨by simp [eB]; omega, (Below.refl _ _).alloc (Nat.le_refl _) _⟩
  · have r1 : decide (1 ≤ n ∧ n ≤ 12) = false := by simpa using h1
    go_enter Try.func101, Try.ntmps101
    go_wp2_with (go_at_call 29; refine (HI.out _ _ _ _).mono ?_; rintro e w1 ⟨rfl, rfl⟩)
    go_ret
    exact ⟨by simp [eB]; omega, (Below.refl _ _).alloc (Nat.le_refl _) _⟩

theorem iEdgeOk_any (n : Int) (e : EdgeV) (w : World) :
    Calls Try.prog 122 #[.int .i64 n, .agg #[.int .i64 e.1, .int .i64 e.2]] w fun x w' => x = .returned (.bool (eB n e)) ∧ Below w.heap.size w w' := by
  obtain ⟨a, b⟩ := e
  dsimp only
  have HI := hideIt vertsOk_any
  by_cases h1 : 1 ≤ n ∧ n ≤ 12
  · have r1 : decide (1 ≤ n ∧ n ≤ 12) = true := by simpa using h1
    by_cases h2 : 0 ≤ a
    · have r2 : decide (0 ≤ a) = true := by simpa using h2
      by_cases h3 : a < b
      · have r3 : decide (a < b) = true := by simpa using h3
        go_enter Try.func122, Try.ntmps122
        go_wp2_with (go_at_call 26; refine (HI.out _ _).mono ?_; rintro e w1 ⟨rfl, rfl⟩)
        go_ret
        exact ⟨bret (by dsimp only; omega), (Below.refl _ _).alloc (Nat.le_refl _) _⟩
      · have r3 : decide (a < b) = false := by simpa using h3
        go_enter Try.func122, Try.ntmps122
        go_wp2_with (go_at_call 26; refine (HI.out _ _).mono ?_; rintro e w1 ⟨rfl, rfl⟩)
        go_ret
        exact ⟨by simp [eB]; omega, (Below.refl _ _).alloc (Nat.le_refl _) _⟩
    · have r2 : decide (0 ≤ a) = false := by simpa using h2
      go_enter Try.func122, Try.ntmps122
      go_wp2_with (go_at_call 26; refine (HI.out _ _).mono ?_; rintro e w1 ⟨rfl, rfl⟩)
      go_ret
      exact ⟨by simp [eB]; omega, (Below.refl _ _).alloc (Nat.le_refl _) _⟩
  · have r1 : decide (1 ≤ n ∧ n ≤ 12) = false := by simpa using h1
    go_enter Try.func122, Try.ntmps122
    go_wp2_with (go_at_call 26; refine (HI.out _ _).mono ?_; rintro e w1 ⟨rfl, rfl⟩)
    go_ret
    exact ⟨by simp [eB]; omega, (Below.refl _ _).alloc (Nat.le_refl _) _⟩
end Go.Proofs.Ytdihemjfnjhdiaa.O
namespace Go.Proofs.Ytdihemjfnjhdiaa.O
open Go.RowKit

/-- the list of edges es stands at a, n of them, below block B -/
def Es (w : World) (B : Nat) (a : Option Addr) (n : Nat) (es : List EdgeV) : Prop :=
  es.length = n ∧ (n = 0 ∨ ∃ b off, a = some ⟨b, off, none⟩ ∧ b < B ∧ ∀ (j : Nat) (f : EdgeV), es[j]? = some f →
    w.cell? ⟨b, off + j * 2, none⟩ = some (.int .i64 f.1) ∧ w.cell? ⟨b, off + j * 2 + 1, none⟩ = some (.int .i64 f.2))

theorem take_snocF {α : Type} (fs : List α) (k : Nat) (f : α) (h : fs[k]? = some f) : fs.take (k + 1) = fs.take k ++ [f] := by
  obtain ⟨hk, rfl⟩ := List.getElem?_eq_some_iff.1 h
  rw [List.take_succ_eq_append_getElem hk]

theorem Es.alloc {w : World} {B : Nat} {a : Option Addr} {n : Nat} {fs : List EdgeV} (h : Es w B a n fs) (hB : B ≤ w.heap.size) (o : Obj) : Es (w.alloc o) B a n fs := by
  refine ⟨h.1, h.2.imp id ?_⟩
  rintro ⟨b, off, ha, hb, hc⟩
  refine ⟨b, off, ha, hb, fun j f hf => ?_⟩
  have hbl : b < w.heap.size := by omega
  obtain ⟨c0, c1⟩ := hc j f hf
  exact ⟨by rw [World.cell?_of_block (w := w) (Below.heap_alloc w o b hbl)]; exact c0, by rw [World.cell?_of_block (w := w) (Below.heap_alloc w o b hbl)]; exact c1⟩

theorem Es.below {w w' : World} {B C : Nat} {a : Option Addr} {n : Nat} {fs : List EdgeV} (h : Es w B a n fs) (hb : Below C w w') (hB : B ≤ C) : Es w' B a n fs := by
  refine ⟨h.1, h.2.imp id ?_⟩
  rintro ⟨b, off, ha, hbl, hc⟩
  refine ⟨b, off, ha, hbl, fun j f hf => ?_⟩
  obtain ⟨c0, c1⟩ := hc j f hf
  have hl : b < C := by omega
  exact ⟨by rw [hb.cell (p := ⟨b, _, none⟩) hl]; exact c0, by rw [hb.cell (p := ⟨b, _, none⟩) hl]; exact c1⟩

theorem Es.mono {w : World} {B C : Nat} {a : Option Addr} {n : Nat} {fs : List EdgeV} (h : Es w B a n fs) (hB : B ≤ C) : Es w C a n fs := by
  refine ⟨h.1, h.2.imp id ?_⟩
  rintro ⟨b, off, ha, hbl, hc⟩
  exact ⟨b, off, ha, by omega, hc⟩

theorem Es.up {w w' : World} {a : Option Addr} {n : Nat} {fs : List EdgeV} (h : Es w w.heap.size a n fs) (hb : Below w.heap.size w w') : Es w' w'.heap.size a n fs :=
  (h.below hb (Nat.le_refl _)).mono hb.size

theorem toEdge_any (f : EdgeV) (w : World) :
    Calls Try.prog 106 #[.agg #[.int .i64 f.1, .int .i64 f.2]] w fun e w' => e = .returned (.agg #[.int .i64 f.1, .int .i64 f.2]) ∧ Below w.heap.size w w' := by
  go_enter Try.func106, Try.ntmps106
  go_wp2
  exact bodyPost_ret (v := .agg #[.int .i64 f.1, .int .i64 f.2]) (by simp [results, Try.results106, go_sem]) rfl ⟨rfl, (((Below.refl _ _).alloc (Nat.le_refl _) _).alloc (by simp) _).alloc (by simp; omega) _⟩

/-- the cells of an edge -/
def ecell (f : EdgeV) : List Value := [.int .i64 f.1, .int .i64 f.2]
/-- the cells of a list of edges -/
def ecells (fs : List EdgeV) : List Value := fs.flatMap ecell

theorem ecells_length (fs : List EdgeV) : (ecells fs).length = fs.length * 2 := by
  induction fs with
  | nil => rfl
  | cons f fs ih => simp only [ecells, List.flatMap_cons, List.length_append, List.length_cons] at ih ⊢; rw [ih]; simp [ecell]; omega

theorem ecells_at (fs : List EdgeV) (j : Nat) (f : EdgeV) (h : fs[j]? = some f) :
    (ecells fs)[j * 2]? = some (.int .i64 f.1) ∧ (ecells fs)[j * 2 + 1]? = some (.int .i64 f.2) := by
  induction fs generalizing j with
  | nil => simp at h
  | cons g fs ih =>
    cases j with
    | zero => simp at h; subst h; simp [ecells, ecell]
    | succ j =>
      have h2 := ih j (by simpa using h)
      have e : ∀ m, (ecells (g :: fs))[m + 2]? = (ecells fs)[m]? := fun m => by simp [ecells, ecell]
      refine ⟨?_, ?_⟩
      · rw [show (j + 1) * 2 = j * 2 + 2 by omega, e]; exact h2.1
      · rw [show (j + 1) * 2 + 1 = j * 2 + 1 + 2 by omega, e]; exact h2.2

theorem take_set2 {α : Type} (xs : List α) (m : Nat) (a b : α) (h : m + 2 ≤ xs.length) : ((xs.set m a).set (m + 1) b).take (m + 2) = xs.take m ++ [a, b] := by
  apply List.ext_getElem?
  intro i
  have hl : (xs.take m).length = m := by simp; omega
  by_cases h1 : i < m
  · rw [List.getElem?_append_left (by omega), List.getElem?_take_of_lt h1, List.getElem?_take_of_lt (by omega), List.getElem?_set_ne (by omega), List.getElem?_set_ne (by omega)]
  · rw [List.getElem?_append_right (by omega), hl]
    by_cases h2 : i < m + 2
    · rw [List.getElem?_take_of_lt h2]
      rcases (show i = m ∨ i = m + 1 by omega) with rfl | rfl
      · rw [List.getElem?_set_ne (by omega), List.getElem?_set_self (by omega)]; simp
      · rw [List.getElem?_set_self (by simp; omega)]; simp
    · rw [List.getElem?_eq_none (by simp; omega), List.getElem?_eq_none (by simp; omega)]

theorem ecells_snoc (fs : List EdgeV) (f : EdgeV) : ecells (fs ++ [f]) = ecells fs ++ [.int .i64 f.1, .int .i64 f.2] := by simp [ecells, ecell]
theorem ecells_append (fs gs : List EdgeV) : ecells (fs ++ gs) = ecells fs ++ ecells gs := by simp [ecells]

theorem infoIE : (Try.prog.info? 92).map (fun i => (i.zero, i.size, i.bytes)) = some (some (.agg #[.int .i64 0, .int .i64 0]), 2, 16) := by kernel_rfl

set_option maxHeartbeats 1000000 in
theorem toEdgeS_any (fs : List EdgeV) (n : Nat) (a : Option Addr) (cap : Nat) (hn : n ≤ 1048576) (w : World) (hfs : Es w w.heap.size a n fs) :
    Calls Try.prog 66 #[.slice a n cap] w fun e w' => ∃ g, e = .returned (.slice (some ⟨g, 0, none⟩) n n) ∧ w'.ownsRow w.heap.size 92 2 (.slice (some ⟨g, 0, none⟩) n n) n (ecells fs) ∧ Below w.heap.size w w' := by
  obtain ⟨i0, hi, hz0, hz1, hz2⟩ := info_parts infoIE
  obtain ⟨hlen, hrow⟩ := hfs
  have hmk : ∀ u : World, (Instr.makeSlice 27 (.int .i64 (n : Int)) (.int .i64 (n : Int))).run Try.prog u =
      .ok (.slice (some ⟨u.heap.size, 0, none⟩) n n) (u.alloc (.cells (madeCells #[.int .i64 0, .int .i64 0] (n * 2)) 92)) := fun u => by
    have h := run_make (P := Try.prog) u 27 92 i0 _ Try.underlying27 hi hz0 .i64 .i64 (n : Int) (n : Int) (by omega) (by omega) (by rw [hz2]; omega) (by omega)
    rw [Int.toNat_natCast] at h
    simpa [hz1, Value.cells] using h
  have HR := hideIt hrow
  clear hrow
  go_enter Try.func66, Try.ntmps66
  go_wp2
  go_loopw [4] (fun i wr => ∃ (k : Nat) (xs : List Value), k ≤ n ∧ i = .int .i64 (k : Int) ∧ Hid (xs.take (k * 2) = ecells (fs.take k)) ∧ wr.ownsRow w.heap.size 92 2 (.slice (some ⟨w.heap.size, 0, none⟩) n n) n xs ∧ Below w.heap.size w wr)
    (fun i _ => n - (intOf i).toNat)
  case atStart => exact ⟨0, _, by omega, rfl, by show _ = _; simp [ecells], World.ownsRow_lit (base := w.heap.size) (e := 92) (size := 2) w (madeCells #[.int .i64 0, .int .i64 0] (n * 2)) n (Nat.le_refl _) (by unfold maxLen; omega) (by simp [madeCells]), (Below.refl _ _).alloc (Nat.le_refl _) _⟩
  case round =>
    obtain ⟨k, xs, hk, rfl, hx, hown, hb⟩ := hrel
    by_cases hlt : k < n
    · rcases HR.out with hz | ⟨b, off, rfl, hbl, hc⟩
      · omega
      · obtain ⟨f, hf⟩ : ∃ f, fs[k]? = some f := ⟨fs[k]'(by omega), List.getElem?_eq_getElem (by omega)⟩
        obtain ⟨c0, c1⟩ := hc k f hf
        have e0 : wr.cell? ⟨b, off + k * 2, none⟩ = some (.int .i64 f.1) := by rw [hb.cell hbl]; exact c0
        have e1 : wr.cell? ⟨b, off + k * 2 + 1, none⟩ = some (.int .i64 f.2) := by rw [hb.cell hbl]; exact c1
        have b1 : (0 : Int) ≤ (k : Int) := by omega
        have b2 : (k : Int) < (n : Int) := by omega
        have HT := hideIt (toEdge_any f wr)
        have HTk := hideIt (take_snocF fs k f hf)
        clear c0 c1 hc hf
        go_wp2_with (go_at_call 106; refine HT.out.mono ?_; rintro e w1 ⟨rfl, hb1⟩; refine Hid.out ?_)
        refine (show ∀ {p : Prop}, p → Hid p from fun h => h) ?_
        have hg1 : wr.grownBy w1 none := ⟨hb1.os, hb1.tape, hb1.output, hb1.size, fun i hi _ => hb1.block i hi⟩
        have hown1 := World.ownsRow.kept hown hg1 (.inr (by simp [Value.ownBlock]))
        have hl3 : xs.length = n * 2 := hown1.1
        have f0 := hown1.frozenAt (k * 2)
        have f1 := hown1.frozenAt (k * 2 + 1)
        have x0 : w1.cell? ⟨w.heap.size, k * 2, none⟩ = some (xs[k * 2]'(by omega)) := by rw [hown1.cellAt (k * 2) (by omega)]; exact List.getElem?_eq_getElem (by omega)
        have x1 : w1.cell? ⟨w.heap.size, k * 2 + 1, none⟩ = some (xs[k * 2 + 1]'(by omega)) := by rw [hown1.cellAt (k * 2 + 1) (by omega)]; exact List.getElem?_eq_getElem (by omega)
        clear e0 e1 HT
        go_wp2
        refine ⟨⟨k + 1, (xs.set (k * 2) (.int .i64 f.1)).set (k * 2 + 1) (.int .i64 f.2), by omega, by go_num, ?_, ?_, ?_⟩, by simp [intOf]; omega⟩
        · show _ = _
          rw [show (k + 1) * 2 = k * 2 + 2 by omega, take_set2 _ _ _ _ (by omega), hx.out, HTk.out, ecells_snoc]
        · exact ((hown1.stored (k * 2) _).1.stored (k * 2 + 1) _).1
        · exact ((hb.trans (hb1.mono hb.size)).setCell (Nat.le_refl _) _).setCell (Nat.le_refl _) _
    · have e : fs.take k = fs := List.take_of_length_le (by omega)
      have hl3 : xs.length = n * 2 := hown.1
      have HX : Hid (xs = ecells fs) := by
        show _ = _
        have := hx.out
        rw [e, List.take_of_length_le (by omega)] at this
        exact this
      have HO := hideIt hown
      clear hx e hown hl3
      go_wp2
      go_ret
      exact ⟨w.heap.size, rfl, by rw [← HX.out]; exact HO.out, hb⟩

theorem bcell {W w1 : World} (hb : Below W.heap.size W w1) : (∀ b o, b < W.heap.size → w1.cell? ⟨b, o, none⟩ = W.cell? ⟨b, o, none⟩) ∧ (∀ b o, b < W.heap.size → w1.frozen? ⟨b, o, none⟩ = W.frozen? ⟨b, o, none⟩) :=
  ⟨fun b o h => hb.cell (p := ⟨b, o, none⟩) h, fun b o h => hb.frozen (p := ⟨b, o, none⟩) h⟩

/-- a list of one's own reads as its edges -/
theorem Es_of_own {w : World} {B n c : Nat} {a : Option Addr} {fs : List EdgeV} (h : w.ownsRow B 92 2 (.slice a n c) n (ecells fs)) : Es w w.heap.size a n fs := by
  have hl := h.1
  rw [ecells_length] at hl
  refine ⟨by omega, ?_⟩
  rcases h.2 with ⟨hv, h0⟩ | ⟨g, cap, cur, hv, hrest⟩
  · exact .inl h0
  · simp at hv
    obtain ⟨rfl, rfl⟩ := hv
    by_cases h0 : n = 0
    · exact .inl h0
    · refine .inr ⟨g, 0, rfl, (h.lt g rfl).2, fun j f hf => ?_⟩
      have hj : j < fs.length := (List.getElem?_eq_some_iff.1 hf).1
      obtain ⟨c0, c1⟩ := ecells_at fs j f hf
      rw [Nat.zero_add]
      exact ⟨by rw [h.cellAt (j * 2) (by omega)]; exact c0, by rw [h.cellAt (j * 2 + 1) (by omega)]; exact c1⟩

theorem grownSet (w : World) (G j : Nat) (u : Value) : w.grownBy (w.setCell ⟨G, j, none⟩ u) (some G) :=
  ⟨rfl, rfl, rfl, by simp [World.setCell], fun k _ hk => heap_setCell_other w ⟨G, j, none⟩ k u (fun e => hk (by simp [e]))⟩

theorem own_setOther {w : World} {B e s g n cap : Nat} {xs : List Value} (h : w.ownsRow B e s (.slice (some ⟨g, 0, none⟩) n cap) n xs) (G j : Nat) (u : Value) (hG : g ≠ G) :
    (w.setCell ⟨G, j, none⟩ u).ownsRow B e s (.slice (some ⟨g, 0, none⟩) n cap) n xs :=
  World.ownsRow.kept h (grownSet w G j u) (.inr (by simp [Value.ownBlock]; exact fun e => hG e))

theorem own_mono {w : World} {B B' e s n : Nat} {v : Value} {xs : List Value} (h : w.ownsRow B e s v n xs) (hB : B' ≤ B) : w.ownsRow B' e s v n xs :=
  ⟨h.1, h.2.imp id (fun ⟨g, cap, cur, a, b, rest⟩ => ⟨g, cap, cur, a, Nat.le_trans hB b, rest⟩)⟩

theorem eqEdge_yes (f : EdgeV) (w : World) :
    Calls Try.prog 94 #[.agg #[.int .i64 f.1, .int .i64 f.2], .agg #[.int .i64 f.1, .int .i64 f.2]] w fun e w' => e = .returned (.bool true) ∧ Below w.heap.size w w' := by
  go_enter Try.func94, Try.ntmps94
  go_wp2
  go_ret
  exact ⟨rfl, ((Below.refl _ _).alloc (Nat.le_refl _) _).alloc (by simp) _⟩

set_option maxRecDepth 100000 in
set_option maxHeartbeats 2000000 in
theorem eqEdgeS_same (fs : List EdgeV) (n : Nat) (a a' : Option Addr) (c c' : Nat) (hn : n ≤ 1048576) (w : World) (h : Es w w.heap.size a n fs) (h' : Es w w.heap.size a' n fs) :
    Calls Try.prog 42 #[.slice a n c, .slice a' n c'] w fun e w' => e = .returned (.bool true) ∧ Below w.heap.size w w' := by
  obtain ⟨hlen, hrow⟩ := h
  obtain ⟨_, hrow'⟩ := h'
  have HR := hideIt hrow
  have HR' := hideIt hrow'
  clear hrow hrow'
  go_enter Try.func42, Try.ntmps42
  go_wp2
  go_loopw [5] (fun i wr => ∃ k : Nat, k ≤ n ∧ i = .int .i64 (k : Int) ∧ Below w.heap.size w wr) (fun i _ => n - (intOf i).toNat)
  case atStart => exact ⟨0, by omega, rfl, Below.refl _ _⟩
  case round =>
    obtain ⟨k, hk, rfl, hb⟩ := hrel
    by_cases hlt : k < n
    · rcases HR.out with hz | ⟨b, off, rfl, hbl, hc⟩
      · omega
      · rcases HR'.out with hz | ⟨b', off', rfl, hbl', hc'⟩
        · omega
        · obtain ⟨f, hf⟩ : ∃ f, fs[k]? = some f := ⟨fs[k]'(by omega), List.getElem?_eq_getElem (by omega)⟩
          obtain ⟨c0, c1⟩ := hc k f hf
          obtain ⟨d0, d1⟩ := hc' k f hf
          have e0 : wr.cell? ⟨b, off + k * 2, none⟩ = some (.int .i64 f.1) := by rw [hb.cell hbl]; exact c0
          have e1 : wr.cell? ⟨b, off + k * 2 + 1, none⟩ = some (.int .i64 f.2) := by rw [hb.cell hbl]; exact c1
          have e3 : wr.cell? ⟨b', off' + k * 2, none⟩ = some (.int .i64 f.1) := by rw [hb.cell hbl']; exact d0
          have e4 : wr.cell? ⟨b', off' + k * 2 + 1, none⟩ = some (.int .i64 f.2) := by rw [hb.cell hbl']; exact d1
          have b1 : (0 : Int) ≤ (k : Int) := by omega
          have b2 : (k : Int) < (n : Int) := by omega
          have HT : Hid (∀ W : World, Below w.heap.size w W → Calls Try.prog 94 #[.agg #[.int .i64 f.1, .int .i64 f.2], .agg #[.int .i64 f.1, .int .i64 f.2]] W fun e w' => e = .returned (.bool true) ∧ Below w.heap.size w w') := fun W hW =>
            (eqEdge_yes f W).mono fun _ _ ⟨he, hb'⟩ => ⟨he, hW.trans (hb'.mono hW.size)⟩
          have HK : Hid (∀ W : World, Below w.heap.size w W → (W.cell? ⟨b, off + k * 2, none⟩ = some (.int .i64 f.1) ∧ W.cell? ⟨b, off + k * 2 + 1, none⟩ = some (.int .i64 f.2) ∧ W.cell? ⟨b', off' + k * 2, none⟩ = some (.int .i64 f.1) ∧ W.cell? ⟨b', off' + k * 2 + 1, none⟩ = some (.int .i64 f.2))) := fun W hW =>
            ⟨by rw [hW.cell hbl]; exact c0, by rw [hW.cell hbl]; exact c1, by rw [hW.cell hbl']; exact d0, by rw [hW.cell hbl']; exact d1⟩
          have hbd := hb.drew
          clear c0 c1 d0 d1 hc hc' hf
          go_wp2
          go_region_held3 (fun u => Below w.heap.size w u ∧ u.cell? ⟨b, off + k * 2, none⟩ = some (.int .i64 f.1) ∧ u.cell? ⟨b, off + k * 2 + 1, none⟩ = some (.int .i64 f.2) ∧ u.cell? ⟨b', off' + k * 2, none⟩ = some (.int .i64 f.1) ∧ u.cell? ⟨b', off' + k * 2 + 1, none⟩ = some (.int .i64 f.2))
            (first | exact ⟨hb3, HK.out _ hb3⟩ | exact ⟨hbd, HK.out _ hbd⟩)
            ((go_at_call 94; refine (HT.out _ hbd).mono ?_; rintro e w1 ⟨rfl, hb3⟩))
          clear hbd
          go_wp2
          go_roundw
          case rel => exact ⟨k + 1, by omega, by go_num, hb3⟩
          case measure => simp [intOf]; omega
    · go_wp2
      go_ret
      exact ⟨rfl, hb⟩

end Go.Proofs.Ytdihemjfnjhdiaa.O
namespace Go.Proofs.Ytdihemjfnjhdiaa
open Go.RowKit

/-- a box of any cells -/
def BxA (w : World) (b : Nat) (t : TypeId) (vs : Array Value) : Prop := w.heap[b]? = some (.cells vs t (0, 0))
section
variable {w u : World} {b : Nat} {t : TypeId} {vs : Array Value}
theorem BxA.new (w : World) (t : TypeId) (vs : Array Value) : BxA (w.alloc (.cells vs t)) w.heap.size t vs := heap_alloc_new w _
theorem BxA.lt (h : BxA w b t vs) : b < w.heap.size := (Array.getElem?_eq_some_iff.1 h).1
theorem BxA.up (h : BxA w b t vs) (hb : Below w.heap.size w u) : BxA u b t vs := by unfold BxA; rw [hb.block b h.lt]; exact h
theorem BxA.cell (h : BxA w b t vs) (i : Nat) {v : Value} (hv : vs[i]? = some v) : w.cell? ⟨b, i, none⟩ = some v := by rw [cell_of_row w b i _ _ _ h]; exact hv
theorem BxA.set (h : BxA w b t vs) (i : Nat) (v : Value) : BxA (w.setCell ⟨b, i, none⟩ v) b t (vs.setIfInBounds i v) := heap_setCell_same w b i _ t v h
theorem BxA.setO {G j : Nat} (h : BxA w b t vs) (v : Value) (hG : b ≠ G) : BxA (w.setCell ⟨G, j, none⟩ v) b t vs := by
  unfold BxA
  rw [heap_setCell_other _ _ _ _ (by first | exact hG | exact fun e => hG e.symm)]
  exact h
theorem BxA.frozen (h : BxA w b t vs) (j : Nat) : w.frozen? ⟨b, j, none⟩ = false := frozen_of_row w b j _ _ h
end

/-- a slice's three words -/
structure Sx where
  a : Option Addr
  n : Nat
  c : Nat
abbrev Sx.v (s : Sx) : Value := .slice s.a s.n s.c
/-- a head -/
structure Hd where
  N : Int
  own : List Int
  cuts : List O.EdgeV
  lab : List (List Int)
  nums : List Int
  i : Int
  o : Int
  a : Int
  b : Int
  sh : Int
  num : Int
  op : Int
  es : List O.EdgeV
  v : Int
  said : List Sd
/-- its lists -/
structure Hp where
  o : Sx
  c : Sx
  l : Sx
  n : Sx
  e : Sx
  s : Sx
/-- its cells -/
abbrev hC (h : Hd) (p : Hp) : Array Value := #[.int .i64 h.N, p.o.v, p.c.v, p.l.v, p.n.v, .int .i64 h.i, .int .i64 h.o, .int .i64 h.a, .int .i64 h.b, .int .i64 h.sh, .int .i64 h.num, .int .i64 h.op, p.e.v, .int .i64 h.v, p.s.v]
/-- it stands in memory -/
structure HIn (w : World) (h : Hd) (p : Hp) : Prop where
  o : Is w w.heap.size p.o.a p.o.n h.own
  c : O.Es w w.heap.size p.c.a p.c.n h.cuts
  l : Ts w w.heap.size p.l.a p.l.n h.lab
  n : Is w w.heap.size p.n.a p.n.n h.nums
  e : O.Es w w.heap.size p.e.a p.e.n h.es
  s : Ss w w.heap.size p.s.a p.s.n h.said
theorem HIn.up {w u : World} {h : Hd} {p : Hp} (k : HIn w h p) (hb : Below w.heap.size w u) : HIn u h p := ⟨k.o.up hb, k.c.up hb, k.l.up hb, k.n.up hb, k.e.up hb, k.s.up hb⟩
/-- its lists are no greater than a law looks at -/
structure HFit (h : Hd) (p : Hp) : Prop where
  o : p.o.n ≤ 1048576
  c : p.c.n ≤ 1048576
  l : p.l.n + lnS h.lab ≤ 1048576
  n : p.n.n ≤ 1048576
  e : p.e.n ≤ 1048576
  s : p.s.n ≤ 1048576
/-- lists as the machine has them -/
structure HMax (h : Hd) (p : Hp) : Prop where
  o : p.o.n ≤ maxLen
  c : p.c.n ≤ maxLen
  l : p.l.n ≤ maxLen
  ll : ∀ t ∈ h.lab, t.length ≤ maxLen
  n : p.n.n ≤ maxLen
  e : p.e.n ≤ maxLen
  s : p.s.n ≤ maxLen

/-- what is left: less than none, or all of it fits -/
theorem szIntS_or (n : Nat) (a : Option Addr) (c : Nat) (l : Int) (h0 : 0 ≤ l) (hl : l ≤ 1048576) (hn : n ≤ maxLen) (w : World) : Calls Try.prog 56 #[.slice a n c, .int .i64 l] w fun e w' => ∃ x, e = .returned (.int .i64 x) ∧ ((decide (x < 0) = true ∧ x = -1) ∨ (decide (x < 0) = false ∧ 0 ≤ x ∧ x ≤ 1048576 ∧ n ≤ 1048576)) ∧ w' = w := by
  by_cases h : (n : Int) ≤ l
  · exact (szIntS_yes n a c l h hl w).mono fun e w' ⟨h1, h2⟩ => ⟨_, h1, .inr ⟨decide_eq_false (by omega), by omega, by omega, by omega⟩, h2⟩
  · exact (szIntS_no n a c l h0 (by omega) hn w).mono fun e w' ⟨h1, h2⟩ => ⟨_, h1, .inl ⟨decide_eq_true (by omega), rfl⟩, h2⟩
theorem szEdgeS_or (n : Nat) (a : Option Addr) (c : Nat) (l : Int) (h0 : 0 ≤ l) (hl : l ≤ 1048576) (hn : n ≤ maxLen) (w : World) : Calls Try.prog 57 #[.slice a n c, .int .i64 l] w fun e w' => ∃ x, e = .returned (.int .i64 x) ∧ ((decide (x < 0) = true ∧ x = -1) ∨ (decide (x < 0) = false ∧ 0 ≤ x ∧ x ≤ 1048576 ∧ n ≤ 1048576)) ∧ w' = w := by
  unfold maxLen at hn
  by_cases h : (n : Int) ≤ l
  · have d1 : decide (l - (n : Int) < 0) = false := decide_eq_false (by omega)
    go_enter Try.func57, Try.ntmps57
    go_wp2
    go_ret
    exact ⟨_, rfl, .inr ⟨d1, by omega, by omega, by omega⟩, rfl⟩
  · have d1 : decide (l - (n : Int) < 0) = true := decide_eq_true (by omega)
    go_enter Try.func57, Try.ntmps57
    go_wp2
    go_ret
    exact ⟨_, rfl, .inl ⟨by decide, rfl⟩, rfl⟩
theorem szSaidS_or (n : Nat) (a : Option Addr) (c : Nat) (l : Int) (h0 : 0 ≤ l) (hl : l ≤ 1048576) (hn : n ≤ maxLen) (w : World) : Calls Try.prog 60 #[.slice a n c, .int .i64 l] w fun e w' => ∃ x, e = .returned (.int .i64 x) ∧ ((decide (x < 0) = true ∧ x = -1) ∨ (decide (x < 0) = false ∧ 0 ≤ x ∧ x ≤ 1048576 ∧ n ≤ 1048576)) ∧ w' = w := by
  unfold maxLen at hn
  by_cases h : (n : Int) ≤ l
  · have d1 : decide (l - (n : Int) < 0) = false := decide_eq_false (by omega)
    go_enter Try.func60, Try.ntmps60
    go_wp2
    go_ret
    exact ⟨_, rfl, .inr ⟨d1, by omega, by omega, by omega⟩, rfl⟩
  · have d1 : decide (l - (n : Int) < 0) = true := decide_eq_true (by omega)
    go_enter Try.func60, Try.ntmps60
    go_wp2
    go_ret
    exact ⟨_, rfl, .inl ⟨by decide, rfl⟩, rfl⟩
set_option maxHeartbeats 1000000 in
theorem szIntSS_or (ts : List (List Int)) (n : Nat) (a : Option Addr) (c : Nat) (l : Int) (h0 : 0 ≤ l) (hl : l ≤ 1048576) (hn : n ≤ maxLen) (hm : ∀ t ∈ ts, t.length ≤ maxLen) (w : World) (h : Ts w w.heap.size a n ts) :
    Calls Try.prog 58 #[.slice a n c, .int .i64 l] w fun e w' => ∃ x, e = .returned (.int .i64 x) ∧ ((decide (x < 0) = true ∧ x = -1) ∨ (decide (x < 0) = false ∧ 0 ≤ x ∧ x ≤ 1048576 ∧ n + lnS ts ≤ 1048576)) ∧ w' = w := by
  unfold maxLen at hn
  obtain ⟨hlen, hrow⟩ := h
  have HR := hideIt hrow
  clear hrow
  by_cases g : (n : Int) ≤ l
  · have d1 : decide (l - (n : Int) < 0) = false := decide_eq_false (by omega)
    go_enter Try.func58, Try.ntmps58
    go_wp2
    go_loopw [1, 5] (fun q i wr => ∃ (k : Nat) (x : Int), k ≤ n ∧ i = .int .i64 (k : Int) ∧ q = .int .i64 x ∧ 0 ≤ x ∧ x ≤ 1048576 ∧ Hid ((n : Int) + (lnS (ts.take k) : Int) ≤ 1048576 - x) ∧ wr = w) (fun _ i _ => n - (intOf i).toNat)
    case atStart => exact ⟨0, _, by omega, rfl, rfl, by omega, by omega, by show _ ≤ _; rw [lnS_zero]; omega, rfl⟩
    case round =>
      obtain ⟨k, x, hk, rfl, rfl, hx0, hx1, HX, hw⟩ := hrel
      have hw' := hw.symm
      subst hw'
      clear hw
      by_cases hlt : k < n
      · rcases HR.out with hz | ⟨b, off, rfl, hbl, hc⟩
        · omega
        · obtain ⟨t, ht⟩ : ∃ t, ts[k]? = some t := ⟨ts[k]'(by omega), List.getElem?_eq_getElem (by omega)⟩
          obtain ⟨a', c', e0, _⟩ := hc k t ht
          have hml := hm t (List.mem_of_getElem? ht)
          have b1 : (0 : Int) ≤ (k : Int) := by omega
          have b2 : (k : Int) < (n : Int) := by omega
          by_cases hfit : (t.length : Int) ≤ x
          · have HY := hideIt (szIntS_yes t.length a' c' x hfit hx1 w)
            have d2 : decide (x - (t.length : Int) < 0) = false := decide_eq_false (by omega)
            have HX2 : Hid ((n : Int) + (lnS (ts.take (k + 1)) : Int) ≤ 1048576 - (x - (t.length : Int))) := by
              show _ ≤ _
              have := HX.out
              rw [lnS_take ht]
              omega
            clear hc ht HX
            go_wp2_with (go_at_call 56; refine HY.out.mono ?_; rintro e w1 ⟨rfl, hw⟩; have hw' := hw.symm; subst hw'; clear hw)
            exact ⟨⟨k + 1, _, by omega, by go_num, rfl, by omega, by omega, HX2, by trivial⟩, by simp [intOf]; omega⟩
          · have HY := hideIt (szIntS_no t.length a' c' x hx0 (by omega) hml w)
            clear hc ht HX
            go_wp2_with (go_at_call 56; refine HY.out.mono ?_; rintro e w1 ⟨rfl, hw⟩; have hw' := hw.symm; subst hw'; clear hw)
            go_ret
            exact ⟨_, rfl, .inl ⟨by decide, rfl⟩, rfl⟩
      · obtain rfl : k = n := by omega
        have HX2 : Hid (k + lnS ts ≤ 1048576) := by
          show _ ≤ _
          have := HX.out
          rw [List.take_of_length_le (by omega)] at this
          omega
        go_wp2
        go_ret
        exact ⟨_, rfl, .inr ⟨decide_eq_false (by omega), hx0, hx1, HX2.out⟩, rfl⟩
  · have d1 : decide (l - (n : Int) < 0) = true := decide_eq_true (by omega)
    go_enter Try.func58, Try.ntmps58
    go_wp2
    go_ret
    exact ⟨_, rfl, .inl ⟨by decide, rfl⟩, rfl⟩
end Go.Proofs.Ytdihemjfnjhdiaa
namespace Go.Proofs.Ytdihemjfnjhdiaa
open Go.RowKit

abbrev orV (num op : Int) (e : Sx) (v : Int) : Value := .agg #[.int .i64 num, .int .i64 op, e.v, .int .i64 v]
abbrev tkV (h : Hd) (e : Sx) : Value := .agg #[.int .i64 h.i, .int .i64 h.o, .int .i64 h.a, .int .i64 h.b, .int .i64 h.sh, .int .i64 h.num, .int .i64 h.op, e.v, .int .i64 h.v]
theorem belA (w : World) (o : Obj) : Below w.heap.size w (w.alloc o) := (Below.refl _ _).alloc (Nat.le_refl _) _
theorem szOrder_or (num op : Int) (n : Nat) (a : Option Addr) (c : Nat) (v l : Int) (h0 : 0 ≤ l) (hl : l ≤ 1048576) (hn : n ≤ maxLen) (w : World) : Calls Try.prog 100 #[.agg #[.int .i64 num, .int .i64 op, .slice a n c, .int .i64 v], .int .i64 l] w fun e w' => ∃ x, e = .returned (.int .i64 x) ∧ ((decide (x < 0) = true ∧ x = -1) ∨ (decide (x < 0) = false ∧ 0 ≤ x ∧ x ≤ 1048576 ∧ n ≤ 1048576)) ∧ Below w.heap.size w w' := by
  have HS := hideIt (szEdgeS_or n a c l h0 hl hn)
  go_enter Try.func100, Try.ntmps100
  go_wp2_with (go_at_call 57; refine (HS.out _).mono ?_; rintro e w1 ⟨x, rfl, hx, rfl⟩; refine Hid.out ?_)
  refine (show ∀ {p : Prop}, p → Hid p from fun h => h) ?_
  have HX := hideIt hx
  rcases hx with ⟨d, hx⟩ | ⟨d, hx⟩
  · go_wp2
    go_ret
    exact ⟨_, rfl, .inl ⟨by decide, rfl⟩, belA _ _⟩
  · go_wp2
    go_ret
    exact ⟨_, rfl, HX.out, belA _ _⟩
set_option maxRecDepth 100000 in
set_option maxHeartbeats 2000000 in
theorem szTask_or (i o a b sh num op : Int) (n : Nat) (ad : Option Addr) (c : Nat) (v l : Int) (h0 : 0 ≤ l) (hl : l ≤ 1048576) (hn : n ≤ maxLen) (w : World) : Calls Try.prog 59 #[.agg #[.int .i64 i, .int .i64 o, .int .i64 a, .int .i64 b, .int .i64 sh, .int .i64 num, .int .i64 op, .slice ad n c, .int .i64 v], .int .i64 l] w fun e w' => ∃ x, e = .returned (.int .i64 x) ∧ ((decide (x < 0) = true ∧ x = -1) ∨ (decide (x < 0) = false ∧ 0 ≤ x ∧ x ≤ 1048576 ∧ n ≤ 1048576)) ∧ Below w.heap.size w w' := by
  have HS := hideIt (szOrder_or num op n ad c v l h0 hl hn)
  go_enter Try.func59, Try.ntmps59
  go_wp2_with (go_at_call 100; refine (HS.out _).mono ?_; rintro e w1 ⟨x, rfl, hx, hb⟩; refine Hid.out ?_)
  refine (show ∀ {p : Prop}, p → Hid p from fun h => h) ?_
  have HX := hideIt hx
  have HB := hideIt ((belA _ _).trans (hb.mono (by simp)))
  clear hb
  rcases hx with ⟨d, hx⟩ | ⟨d, hx⟩
  · go_wp2
    go_ret
    exact ⟨_, rfl, .inl ⟨by decide, rfl⟩, HB.out⟩
  · go_wp2
    go_ret
    exact ⟨_, rfl, HX.out, HB.out⟩
set_option maxRecDepth 100000 in
set_option maxHeartbeats 4000000 in
theorem szHead_or (h : Hd) (p : Hp) (hm : HMax h p) (w : World) (k : HIn w h p) : Calls Try.prog 19 #[.agg (hC h p), .int .i64 1048576] w fun e w' => ∃ x, e = .returned (.int .i64 x) ∧ ((decide (x < 0) = true ∧ x = -1) ∨ (decide (x < 0) = false ∧ HFit h p)) ∧ Below w.heap.size w w' := by
  obtain ⟨m1, m2, m3, m3l, m4, m5, m6⟩ := hm
  have hb0 := belA w (.cells (hC h p) 56)
  have X0 := BxA.new w 56 (hC h p)
  have kl := k.l.up hb0
  obtain ⟨N, own, cuts, lab, nums, i, o, a, b, sh, num, op, es, v, said⟩ := h
  obtain ⟨⟨a1, n1, c1⟩, ⟨a2, n2, c2⟩, ⟨a3, n3, c3⟩, ⟨a4, n4, c4⟩, ⟨a5, n5, c5⟩, ⟨a6, n6, c6⟩⟩ := p
  dsimp only [hC, Sx.v] at *
  obtain ⟨W, hW⟩ : ∃ W, W = w.alloc (.cells #[.int .i64 N, .slice a1 n1 c1, .slice a2 n2 c2, .slice a3 n3 c3, .slice a4 n4 c4, .int .i64 i, .int .i64 o, .int .i64 a, .int .i64 b, .int .i64 sh, .int .i64 num, .int .i64 op, .slice a5 n5 c5, .int .i64 v, .slice a6 n6 c6] 56) := ⟨_, rfl⟩
  rw [← hW] at hb0 X0 kl
  have x1 := X0.cell 1 rfl
  have x2 := X0.cell 2 rfl
  have x3 := X0.cell 3 rfl
  have x4 := X0.cell 4 rfl
  have HX0 := hideIt X0
  have HB0 := hideIt hb0
  have H1 := hideIt (szIntS_or n1 a1 c1 1048576 (by omega) (by omega) m1)
  clear hb0 X0 k
  go_enter Try.func19, Try.ntmps19
  go_upto_region 1 with fail
  rw [← hW]
  clear hW
  go_wp2_with (go_at_call 56; refine (H1.out _).mono ?_; rintro e w1 ⟨y1, rfl, hy1, rfl⟩; refine Hid.out ?_)
  refine (show ∀ {p : Prop}, p → Hid p from fun h => h) ?_
  rcases hy1 with ⟨d1, e1⟩ | ⟨d1, e1, f1, g1⟩
  · go_wp2
    go_ret
    exact ⟨_, rfl, .inl ⟨by decide, rfl⟩, HB0.out⟩
  have H2 := hideIt (szEdgeS_or n2 a2 c2 y1 e1 f1 m2)
  go_wp2_with (go_at_call 57; refine (H2.out _).mono ?_; rintro e w1 ⟨y2, rfl, hy2, rfl⟩; refine Hid.out ?_)
  refine (show ∀ {p : Prop}, p → Hid p from fun h => h) ?_
  rcases hy2 with ⟨d2, e2⟩ | ⟨d2, e2, f2, g2⟩
  · go_wp2
    go_ret
    exact ⟨_, rfl, .inl ⟨by decide, rfl⟩, HB0.out⟩
  have H3 := hideIt (szIntSS_or lab n3 a3 c3 y2 e2 f2 m3 m3l _ kl)
  go_wp2_with (go_at_call 58; refine H3.out.mono ?_; rintro e w1 ⟨y3, rfl, hy3, hw⟩; have hw' := hw.symm; subst hw'; clear hw; refine Hid.out ?_)
  refine (show ∀ {p : Prop}, p → Hid p from fun h => h) ?_
  rcases hy3 with ⟨d3, e3⟩ | ⟨d3, e3, f3, g3⟩
  · go_wp2
    go_ret
    exact ⟨_, rfl, .inl ⟨by decide, rfl⟩, HB0.out⟩
  have H4 := hideIt (szIntS_or n4 a4 c4 y3 e3 f3 m4)
  clear H1 H2 H3 kl
  go_wp2_with (go_at_call 56; refine (H4.out _).mono ?_; rintro e w1 ⟨y4, rfl, hy4, rfl⟩; refine Hid.out ?_)
  refine (show ∀ {p : Prop}, p → Hid p from fun h => h) ?_
  rcases hy4 with ⟨d4, e4⟩ | ⟨d4, e4, f4, g4⟩
  · go_wp2
    go_ret
    exact ⟨_, rfl, .inl ⟨by decide, rfl⟩, HB0.out⟩
  have H5 := hideIt (szTask_or i o a b sh num op n5 a5 c5 v y4 e4 f4 m5 w1)
  have x5 := HX0.out.cell 5 rfl
  have x6 := HX0.out.cell 6 rfl
  have x7 := HX0.out.cell 7 rfl
  have x8 := HX0.out.cell 8 rfl
  have x9 := HX0.out.cell 9 rfl
  have x10 := HX0.out.cell 10 rfl
  have x11 := HX0.out.cell 11 rfl
  have x12 := HX0.out.cell 12 rfl
  have x13 := HX0.out.cell 13 rfl
  clear H4 x1 x2 x3 x4
  go_wp2_with (go_at_call 59; refine H5.out.mono ?_; rintro e w5 ⟨y5, rfl, hy5, b5⟩; refine Hid.out ?_)
  refine (show ∀ {p : Prop}, p → Hid p from fun h => h) ?_
  have HB5 := hideIt (HB0.out.trans (b5.mono HB0.out.size))
  have x14 := (HX0.out.up b5).cell 14 rfl
  clear H5 x5 x6 x7 x8 x9 x10 x11 x12 x13 b5
  rcases hy5 with ⟨d5, e5⟩ | ⟨d5, e5, f5, g5⟩
  · go_wp2
    go_ret
    exact ⟨_, rfl, .inl ⟨by decide, rfl⟩, HB5.out⟩
  have H6 := hideIt (szSaidS_or n6 a6 c6 y5 e5 f5 m6)
  go_wp2_with (go_at_call 60; refine (H6.out _).mono ?_; rintro e w1 ⟨y6, rfl, hy6, rfl⟩; refine Hid.out ?_)
  refine (show ∀ {p : Prop}, p → Hid p from fun h => h) ?_
  rcases hy6 with ⟨d6, e6⟩ | ⟨d6, e6, f6, g6⟩
  · go_wp2
    go_ret
    exact ⟨_, rfl, .inl ⟨by decide, rfl⟩, HB5.out⟩
  go_wp2
  go_ret
  exact ⟨_, rfl, .inr ⟨d6, g1, g2, g3, g4, g5, g6⟩, HB5.out⟩
end Go.Proofs.Ytdihemjfnjhdiaa
namespace Go.Proofs.Ytdihemjfnjhdiaa
open Go.RowKit

/-- cells k, k + 1 .. of block b are set -/
def setA (w : World) (b : Nat) : Nat → List Value → World
  | _, [] => w
  | k, v :: vs => setA (w.setCell ⟨b, k, none⟩ v) b (k + 1) vs
def setV (cs : List Value) : Nat → List Value → List Value
  | _, [] => cs
  | k, v :: vs => setV (cs.set k v) (k + 1) vs
section
variable {w u : World} {b : Nat} {t : TypeId} {cs : Array Value}
theorem BxA.setA {l : List Value} (h : BxA w b t l.toArray) (k : Nat) (vs : List Value) : BxA (setA w b k vs) b t (setV l k vs).toArray := by
  induction vs generalizing w l k with
  | nil => exact h
  | cons v vs ih => exact ih (by have := h.set k v; rw [List.setIfInBounds_toArray] at this; exact this) (k + 1)
theorem BxA.at {l : List Value} (h : BxA w b t l.toArray) (i : Nat) {v : Value} (hv : l[i]? = some v) : w.cell? ⟨b, i, none⟩ = some v := h.cell i (by rw [List.getElem?_toArray]; exact hv)
theorem BxA.setAO {G : Nat} (h : BxA w b t cs) (k : Nat) (vs : List Value) (hG : b ≠ G) : BxA (Go.Proofs.Ytdihemjfnjhdiaa.setA w G k vs) b t cs := by
  induction vs generalizing w k with
  | nil => exact h
  | cons v vs ih => exact ih (h.setO v hG) (k + 1)
theorem below_setA {C G : Nat} (h : Below C w u) (hb : C ≤ G) (k : Nat) (vs : List Value) : Below C w (Go.Proofs.Ytdihemjfnjhdiaa.setA u G k vs) := by
  induction vs generalizing u k with
  | nil => exact h
  | cons v vs ih => exact ih (h.setCell (p := ⟨G, k, none⟩) hb v) (k + 1)
theorem own_lowA {B e s n G j : Nat} {x : Value} {xs : List Value} {y : Value} (h : w.ownsRow B e s x n xs) (hG : G < B) : (w.setCell ⟨G, j, none⟩ y).ownsRow B e s x n xs :=
  World.ownsRow.kept h (grownSet w G j y) (.inr (fun e => by have := (h.lt G e).1; omega))
theorem own_setA {B e s n G : Nat} {x : Value} {xs : List Value} (h : w.ownsRow B e s x n xs) (hG : G < B) (k : Nat) (vs : List Value) : (Go.Proofs.Ytdihemjfnjhdiaa.setA w G k vs).ownsRow B e s x n xs := by
  induction vs generalizing w k with
  | nil => exact h
  | cons v vs ih => exact ih (own_lowA h hG) (k + 1)
theorem fb_setA {lo hi G : Nat} {a : Option Addr} {n c : Nat} {R : List Rw} (h : FB w lo hi a n c R) (hG : G < lo) (k : Nat) (vs : List Value) : FB (Go.Proofs.Ytdihemjfnjhdiaa.setA w G k vs) lo hi a n c R := by
  induction vs generalizing w k with
  | nil => exact h
  | cons v vs ih => exact ih (h.setLow hG k v) (k + 1)
theorem size_setA (k : Nat) (vs : List Value) : (Go.Proofs.Ytdihemjfnjhdiaa.setA w b k vs).heap.size = w.heap.size := by
  induction vs generalizing w k with
  | nil => rfl
  | cons v vs ih => unfold Go.Proofs.Ytdihemjfnjhdiaa.setA; rw [ih]; simp [World.setCell]
end

/-- where a function stands that lays a struct anew: what came in, the result's box, the new one's -/
structure TH (w : World) (s : Nat) (tl ti : TypeId) (lv rv iv : List Value) (u : World) : Prop where
  lw : BxA u s tl lv.toArray
  rs : BxA u (s + 1) ti rv.toArray
  out : BxA u (s + 1 + 1) ti iv.toArray
  below : Below s w u
section
variable {w u v : World} {s : Nat} {tl ti : TypeId} {lv rv iv : List Value}
theorem TH.lt (h : TH w s tl ti lv rv iv u) : s + 3 ≤ u.heap.size := h.out.lt
theorem TH.up (h : TH w s tl ti lv rv iv u) (hb : Below u.heap.size u v) : TH w s tl ti lv rv iv v := ⟨h.lw.up hb, h.rs.up hb, h.out.up hb, h.below.trans (hb.mono (by have := h.lt; omega))⟩
theorem TH.set (h : TH w s tl ti lv rv iv u) (k : Nat) (vs : List Value) : TH w s tl ti lv rv (setV iv k vs) (setA u (s + 1 + 1) k vs) := ⟨h.lw.setAO k vs (by omega), h.rs.setAO k vs (by omega), h.out.setA k vs, below_setA h.below (by omega) k vs⟩
theorem TH.start (w : World) (tl ti : TypeId) (lv rv iv : List Value) : TH w w.heap.size tl ti lv rv iv (((w.alloc (.cells lv.toArray tl)).alloc (.cells rv.toArray ti)).alloc (.cells iv.toArray ti)) := by
  have h1 := (BxA.new w tl lv.toArray).up (belA _ (.cells rv.toArray ti))
  have h2 := BxA.new (w.alloc (.cells lv.toArray tl)) ti rv.toArray
  have h3 := BxA.new ((w.alloc (.cells lv.toArray tl)).alloc (.cells rv.toArray ti)) ti iv.toArray
  exact ⟨h1.up (belA _ _), by simpa using h2.up (belA _ (.cells iv.toArray ti)), by simpa using h3, (((Below.refl _ _).alloc (Nat.le_refl _) _).alloc (by simp) _).alloc (by simp; omega) _⟩
end

set_option maxRecDepth 100000 in
set_option maxHeartbeats 4000000 in
theorem toOrder_new (num op v : Int) (fs : List O.EdgeV) (n : Nat) (a : Option Addr) (c : Nat) (hn : n ≤ 1048576) (w : World) (hfs : O.Es w w.heap.size a n fs) :
    Calls Try.prog 108 #[.agg #[.int .i64 num, .int .i64 op, .slice a n c, .int .i64 v]] w fun e w' => ∃ g, e = .returned (.agg #[.int .i64 num, .int .i64 op, .slice (some ⟨g, 0, none⟩) n n, .int .i64 v]) ∧ w'.ownsRow w.heap.size 92 2 (.slice (some ⟨g, 0, none⟩) n n) n (O.ecells fs) ∧ Below w.heap.size w w' := by
  have hfs3 : O.Es (((w.alloc (.cells #[.int .i64 num, .int .i64 op, .slice a n c, .int .i64 v] 51)).alloc (.cells #[.int .i64 0, .int .i64 0, .slice none 0 0, .int .i64 0] 32)).alloc (.cells #[.int .i64 num, .int .i64 op, .slice none 0 0, .int .i64 0] 32)) (((w.alloc (.cells #[.int .i64 num, .int .i64 op, .slice a n c, .int .i64 v] 51)).alloc (.cells #[.int .i64 0, .int .i64 0, .slice none 0 0, .int .i64 0] 32)).alloc (.cells #[.int .i64 num, .int .i64 op, .slice none 0 0, .int .i64 0] 32)).heap.size a n fs := hfs.up (TH.start w 51 32 _ _ _).below
  have HT := hideIt (O.toEdgeS_any fs n a c hn _ hfs3)
  have HS := hideIt (TH.start w 51 32 [.int .i64 num, .int .i64 op, .slice a n c, .int .i64 v] [.int .i64 0, .int .i64 0, .slice none 0 0, .int .i64 0] [.int .i64 num, .int .i64 op, .slice none 0 0, .int .i64 0])
  clear hfs hfs3
  go_enter Try.func108, Try.ntmps108
  go_wp2_with (go_at_call 66; refine HT.out.mono ?_; rintro e w1 ⟨g, rfl, hown, hb1⟩; refine Hid.out ?_)
  refine (show ∀ {p : Prop}, p → Hid p from fun h => h) ?_
  obtain ⟨hc, hf⟩ := bcell hb1
  have HO := hideIt hown
  have HB := hideIt (HS.out.up hb1).below
  have hz := hb1.size
  clear hown HT hb1
  simp at hz
  go_wp2
  refine bodyPost_ret (v := .agg #[.int .i64 num, .int .i64 op, .slice (some ⟨g, 0, none⟩) n n, .int .i64 v]) (by simp [results, Try.results108, go_sem, hc]) rfl ⟨g, rfl, ?_, ?_⟩
  · refine own_mono (B := w.heap.size + 1 + 1 + 1) ?_ (by omega)
    have H0 : w1.ownsRow (w.heap.size + 1 + 1 + 1) 92 2 (.slice (some ⟨g, 0, none⟩) n n) n (O.ecells fs) := by have := HO.out; simpa using this
    repeat refine own_lowA ?_ (by omega)
    exact H0
  · repeat refine Below.setCell ?_ (by simp; try omega) _
    exact HB.out

set_option maxRecDepth 100000 in
set_option maxHeartbeats 4000000 in
theorem toTask_any (i o a b sh num op v : Int) (fs : List O.EdgeV) (n : Nat) (ad : Option Addr) (c : Nat) (hn : n ≤ 1048576) (w : World) (hfs : O.Es w w.heap.size ad n fs) :
    Calls Try.prog 68 #[.agg #[.int .i64 i, .int .i64 o, .int .i64 a, .int .i64 b, .int .i64 sh, .int .i64 num, .int .i64 op, .slice ad n c, .int .i64 v]] w fun e w' => ∃ g, e = .returned (.agg #[.int .i64 i, .int .i64 o, .int .i64 a, .int .i64 b, .int .i64 sh, .int .i64 num, .int .i64 op, .slice (some ⟨g, 0, none⟩) n n, .int .i64 v]) ∧ w'.ownsRow w.heap.size 92 2 (.slice (some ⟨g, 0, none⟩) n n) n (O.ecells fs) ∧ Below w.heap.size w w' := by
  obtain ⟨W1, hW1⟩ : ∃ W1, W1 = ((w.alloc (.cells #[.int .i64 i, .int .i64 o, .int .i64 a, .int .i64 b, .int .i64 sh, .int .i64 num, .int .i64 op, .slice ad n c, .int .i64 v] 53)).alloc (.cells #[.int .i64 0, .int .i64 0, .int .i64 0, .int .i64 0, .int .i64 0, .int .i64 0, .int .i64 0, .slice none 0 0, .int .i64 0] 34)).alloc (.cells #[.int .i64 0, .int .i64 0, .int .i64 0, .int .i64 0, .int .i64 0, .int .i64 0, .int .i64 0, .slice none 0 0, .int .i64 0] 34) := ⟨_, rfl⟩
  have S1 := TH.start w 53 34 [.int .i64 i, .int .i64 o, .int .i64 a, .int .i64 b, .int .i64 sh, .int .i64 num, .int .i64 op, .slice ad n c, .int .i64 v] [.int .i64 0, .int .i64 0, .int .i64 0, .int .i64 0, .int .i64 0, .int .i64 0, .int .i64 0, .slice none 0 0, .int .i64 0] [.int .i64 0, .int .i64 0, .int .i64 0, .int .i64 0, .int .i64 0, .int .i64 0, .int .i64 0, .slice none 0 0, .int .i64 0]
  rw [← hW1] at S1
  have HT := hideIt (toAsk_any i o a b W1)
  have HE := hideIt hfs
  have x0 := S1.lw.at 0 rfl
  have x1 := S1.lw.at 1 rfl
  have x2 := S1.lw.at 2 rfl
  have x3 := S1.lw.at 3 rfl
  have HS1 := hideIt S1
  clear hfs S1
  go_enter Try.func68, Try.ntmps68
  go_upto_region 2 with fail
  rw [← hW1]
  clear hW1
  go_wp2_with (go_at_call 107; refine HT.out.mono ?_; rintro e w2 ⟨rfl, b2⟩; refine Hid.out ?_)
  refine (show ∀ {p : Prop}, p → Hid p from fun h => h) ?_
  have T2 := HS1.out.up b2
  have S2 := (T2.set 0 [.int .i64 i, .int .i64 o, .int .i64 a, .int .i64 b]).set 4 [.int .i64 sh]
  obtain ⟨W2, hW2⟩ : ∃ W2, W2 = setA (setA w2 (w.heap.size + 1 + 1) 0 [.int .i64 i, .int .i64 o, .int .i64 a, .int .i64 b]) (w.heap.size + 1 + 1) 4 [.int .i64 sh] := ⟨_, rfl⟩
  rw [← hW2] at S2
  dsimp only [setA] at hW2
  have y0 := T2.out.at 0 rfl
  have y1 := T2.out.at 1 rfl
  have y2 := T2.out.at 2 rfl
  have y3 := T2.out.at 3 rfl
  have y4 := T2.out.at 4 rfl
  have f0 := T2.out.frozen 0
  have f1 := T2.out.frozen 1
  have f2 := T2.out.frozen 2
  have f3 := T2.out.frozen 3
  have f4 := T2.out.frozen 4
  have u4 := T2.lw.at 4 rfl
  have z5 := S2.lw.at 5 rfl
  have z6 := S2.lw.at 6 rfl
  have z7 := S2.lw.at 7 rfl
  have z8 := S2.lw.at 8 rfl
  have HS2 := hideIt S2
  have HO := hideIt (toOrder_new num op v fs n ad c hn W2 (HE.out.up S2.below))
  clear x0 x1 x2 x3 HT T2 S2 HS1 HE b2
  go_upto_region 4 with fail
  rw [← hW2]
  clear hW2 y0 y1 y2 y3 y4 f0 f1 f2 f3 f4 u4
  go_wp2_with (go_at_call 108; refine HO.out.mono ?_; rintro e w3 ⟨g, rfl, o3, b3⟩; refine Hid.out ?_)
  refine (show ∀ {p : Prop}, p → Hid p from fun h => h) ?_
  have T3 := HS2.out.up b3
  have S3 := T3.set 5 [.int .i64 num, .int .i64 op, .slice (some ⟨g, 0, none⟩) n n, .int .i64 v]
  have zl := HS2.out.lt
  have p3 := own_setA (own_mono o3 zl) (G := w.heap.size + 1 + 1) (by omega) 5 [.int .i64 num, .int .i64 op, .slice (some ⟨g, 0, none⟩) n n, .int .i64 v]
  obtain ⟨W3, hW3⟩ : ∃ W3, W3 = setA w3 (w.heap.size + 1 + 1) 5 [.int .i64 num, .int .i64 op, .slice (some ⟨g, 0, none⟩) n n, .int .i64 v] := ⟨_, rfl⟩
  rw [← hW3] at S3 p3
  dsimp only [setA] at hW3
  have y5 := T3.out.at 5 rfl
  have y6 := T3.out.at 6 rfl
  have y7 := T3.out.at 7 rfl
  have y8 := T3.out.at 8 rfl
  have f5 := T3.out.frozen 5
  have f6 := T3.out.frozen 6
  have f7 := T3.out.frozen 7
  have f8 := T3.out.frozen 8
  have HS3 := hideIt S3
  have HP3 := hideIt p3
  clear o3 b3 T3 S3 p3 HO HS2 z5 z6 z7 z8 zl
  go_upto_region 5 with fail
  rw [← hW3]
  clear hW3 y5 y6 y7 y8 f5 f6 f7 f8
  have k0 := HS3.out.out.at 0 rfl
  have k1 := HS3.out.out.at 1 rfl
  have k2 := HS3.out.out.at 2 rfl
  have k3 := HS3.out.out.at 3 rfl
  have k4 := HS3.out.out.at 4 rfl
  have k5 := HS3.out.out.at 5 rfl
  have k6 := HS3.out.out.at 6 rfl
  have k7 := HS3.out.out.at 7 rfl
  have k8 := HS3.out.out.at 8 rfl
  have r0 := HS3.out.rs.at 0 rfl
  have r1 := HS3.out.rs.at 1 rfl
  have r2 := HS3.out.rs.at 2 rfl
  have r3 := HS3.out.rs.at 3 rfl
  have r4 := HS3.out.rs.at 4 rfl
  have r5 := HS3.out.rs.at 5 rfl
  have r6 := HS3.out.rs.at 6 rfl
  have r7 := HS3.out.rs.at 7 rfl
  have r8 := HS3.out.rs.at 8 rfl
  have fz := HS3.out.rs.frozen
  have q0 := fz 0
  have q1 := fz 1
  have q2 := fz 2
  have q3 := fz 3
  have q4 := fz 4
  have q5 := fz 5
  have q6 := fz 6
  have q7 := fz 7
  have q8 := fz 8
  have HF : Hid ((setA W3 (w.heap.size + 1) 0 [.int .i64 i, .int .i64 o, .int .i64 a, .int .i64 b, .int .i64 sh, .int .i64 num, .int .i64 op, .slice (some ⟨g, 0, none⟩) n n, .int .i64 v]).ownsRow w.heap.size 92 2 (.slice (some ⟨g, 0, none⟩) n n) n (O.ecells fs) ∧ Below w.heap.size w (setA W3 (w.heap.size + 1) 0 [.int .i64 i, .int .i64 o, .int .i64 a, .int .i64 b, .int .i64 sh, .int .i64 num, .int .i64 op, .slice (some ⟨g, 0, none⟩) n n, .int .i64 v])) := ⟨own_mono (own_setA HP3.out (by omega) _ _) (by omega), below_setA HS3.out.below (by omega) _ _⟩
  dsimp only [setA] at HF
  have XF := HS3.out.rs.setA 0 [.int .i64 i, .int .i64 o, .int .i64 a, .int .i64 b, .int .i64 sh, .int .i64 num, .int .i64 op, .slice (some ⟨g, 0, none⟩) n n, .int .i64 v]
  have c0 := XF.at 0 rfl
  have c1 := XF.at 1 rfl
  have c2 := XF.at 2 rfl
  have c3 := XF.at 3 rfl
  have c4 := XF.at 4 rfl
  have c5 := XF.at 5 rfl
  have c6 := XF.at 6 rfl
  have c7 := XF.at 7 rfl
  have c8 := XF.at 8 rfl
  dsimp only [setA] at c0 c1 c2 c3 c4 c5 c6 c7 c8
  have HC := hideIt (And.intro c0 (And.intro c1 (And.intro c2 (And.intro c3 (And.intro c4 (And.intro c5 (And.intro c6 (And.intro c7 c8))))))))
  clear fz HP3 HS3 XF c0 c1 c2 c3 c4 c5 c6 c7 c8
  go_wp2
  obtain ⟨c0, c1, c2, c3, c4, c5, c6, c7, c8⟩ := HC.out
  exact bodyPost_ret (v := .agg #[.int .i64 i, .int .i64 o, .int .i64 a, .int .i64 b, .int .i64 sh, .int .i64 num, .int .i64 op, .slice (some ⟨g, 0, none⟩) n n, .int .i64 v]) (by simp [results, Try.results68, go_sem, c0, c1, c2, c3, c4, c5, c6, c7, c8]) rfl ⟨g, rfl, HF.out.1, HF.out.2⟩
end Go.Proofs.Ytdihemjfnjhdiaa
namespace Go.Proofs.Ytdihemjfnjhdiaa
open Go.RowKit

/-- its lists are ours -/
structure HOwn (w : World) (B : Nat) (h : Hd) (p : Hp) (R : List Rw) : Prop where
  o : w.ownsRow B 3 1 p.o.v p.o.n (ic h.own)
  c : w.ownsRow B 92 2 p.c.v p.c.n (O.ecells h.cuts)
  l : FB w B w.heap.size p.l.a p.l.n p.l.c R
  r : rts R = h.lab
  n : w.ownsRow B 3 1 p.n.v p.n.n (ic h.nums)
  e : w.ownsRow B 92 2 p.e.v p.e.n (O.ecells h.es)
  s : w.ownsRow B 75 6 p.s.v p.s.n (scells h.said)
theorem Is_own {w : World} {B n c : Nat} {a : Option Addr} {ls : List Int} (h : w.ownsRow B 3 1 (.slice a n c) n (ic ls)) : Is w w.heap.size a n ls := Is_of_own h
theorem HOwn.inn {w : World} {B : Nat} {h : Hd} {p : Hp} {R : List Rw} (k : HOwn w B h p R) : HIn w h p := ⟨Is_own k.o, O.Es_of_own k.c, by rw [← k.r]; exact k.l.ts, Is_own k.n, O.Es_of_own k.e, Ss_of_own k.s⟩
theorem HOwn.up {w u : World} {B : Nat} {h : Hd} {p : Hp} {R : List Rw} (k : HOwn w B h p R) (hb : Below w.heap.size w u) : HOwn u B h p R := ⟨own_up k.o hb, own_up k.c hb, k.l.keep hb, k.r, own_up k.n hb, own_up k.e hb, own_up k.s hb⟩
theorem HOwn.low {w : World} {B B' : Nat} {h : Hd} {p : Hp} {R : List Rw} (k : HOwn w B h p R) (hB : B' ≤ B) : HOwn w B' h p R := ⟨own_mono k.o hB, own_mono k.c hB, k.l.lo hB, k.r, own_mono k.n hB, own_mono k.e hB, own_mono k.s hB⟩
theorem setV_all (l vs : List Value) (h : l.length = vs.length) : setV l 0 vs = vs := by
  have key : ∀ (vs pre l : List Value), l.length = vs.length → setV (pre ++ l) pre.length vs = pre ++ vs := by
    intro vs
    induction vs with
    | nil => intro pre l hl; rw [List.length_eq_zero_iff.1 hl]; rfl
    | cons v vs ih =>
      intro pre l hl
      cases l with
      | nil => simp at hl
      | cons x l =>
        have := ih (pre ++ [v]) l (by simpa using hl)
        rw [setV, List.set_append_right _ _ (Nat.le_refl _), Nat.sub_self, List.set_cons_zero]
        simpa using this
  exact key vs [] l h
theorem FB.setS {w : World} {lo G : Nat} {a : Option Addr} {n c : Nat} {R : List Rw} (h : FB w lo w.heap.size a n c R) (hG : G < lo) (k : Nat) (vs : List Value) : FB (setA w G k vs) lo (setA w G k vs).heap.size a n c R := by
  rw [size_setA]
  exact fb_setA h hG k vs

/-- lists as long, laid anew -/
abbrev newP (g1 g2 g3 g4 g5 g6 : Nat) (p : Hp) : Hp := ⟨⟨some ⟨g1, 0, none⟩, p.o.n, p.o.n⟩, ⟨some ⟨g2, 0, none⟩, p.c.n, p.c.n⟩, ⟨some ⟨g3, 0, none⟩, p.l.n, p.l.n⟩, ⟨some ⟨g4, 0, none⟩, p.n.n, p.n.n⟩, ⟨some ⟨g5, 0, none⟩, p.e.n, p.e.n⟩, ⟨some ⟨g6, 0, none⟩, p.s.n, p.s.n⟩⟩

set_option maxRecDepth 100000 in
set_option maxHeartbeats 8000000 in
theorem toHead_any (h : Hd) (p : Hp) (hf : HFit h p) (w : World) (k : HIn w h p) : Calls Try.prog 21 #[.agg (hC h p)] w fun e w' => ∃ g1 g2 g3 g4 g5 g6 R, e = .returned (.agg (hC h (newP g1 g2 g3 g4 g5 g6 p))) ∧ HOwn w' w.heap.size h (newP g1 g2 g3 g4 g5 g6 p) R ∧ Below w.heap.size w w' := by
  obtain ⟨N, own, cuts, lab, nums, i, o, a, b, sh, num, op, es, v, said⟩ := h
  obtain ⟨⟨a1, n1, c1⟩, ⟨a2, n2, c2⟩, ⟨a3, n3, c3⟩, ⟨a4, n4, c4⟩, ⟨a5, n5, c5⟩, ⟨a6, n6, c6⟩⟩ := p
  obtain ⟨f1, f2, f3, f4, f5, f6⟩ := hf
  obtain ⟨k1, k2, k3, k4, k5, k6⟩ := k
  dsimp only [hC, Sx.v, newP] at *
  have K1 := hideIt k1
  have K2 := hideIt k2
  have K3 := hideIt k3
  have K4 := hideIt k4
  have K5 := hideIt k5
  have K6 := hideIt k6
  clear k1 k2 k3 k4 k5 k6
  obtain ⟨W1, hW1⟩ : ∃ W1, W1 = ((w.alloc (.cells #[.int .i64 N, .slice a1 n1 c1, .slice a2 n2 c2, .slice a3 n3 c3, .slice a4 n4 c4, .int .i64 i, .int .i64 o, .int .i64 a, .int .i64 b, .int .i64 sh, .int .i64 num, .int .i64 op, .slice a5 n5 c5, .int .i64 v, .slice a6 n6 c6] 56)).alloc (.cells #[.int .i64 0, .slice none 0 0, .slice none 0 0, .slice none 0 0, .slice none 0 0, .int .i64 0, .int .i64 0, .int .i64 0, .int .i64 0, .int .i64 0, .int .i64 0, .int .i64 0, .slice none 0 0, .int .i64 0, .slice none 0 0] 37)).alloc (.cells #[.int .i64 N, .slice none 0 0, .slice none 0 0, .slice none 0 0, .slice none 0 0, .int .i64 0, .int .i64 0, .int .i64 0, .int .i64 0, .int .i64 0, .int .i64 0, .int .i64 0, .slice none 0 0, .int .i64 0, .slice none 0 0] 37) := ⟨_, rfl⟩
  have S1 := TH.start w 56 37 [.int .i64 N, .slice a1 n1 c1, .slice a2 n2 c2, .slice a3 n3 c3, .slice a4 n4 c4, .int .i64 i, .int .i64 o, .int .i64 a, .int .i64 b, .int .i64 sh, .int .i64 num, .int .i64 op, .slice a5 n5 c5, .int .i64 v, .slice a6 n6 c6] [.int .i64 0, .slice none 0 0, .slice none 0 0, .slice none 0 0, .slice none 0 0, .int .i64 0, .int .i64 0, .int .i64 0, .int .i64 0, .int .i64 0, .int .i64 0, .int .i64 0, .slice none 0 0, .int .i64 0, .slice none 0 0] [.int .i64 N, .slice none 0 0, .slice none 0 0, .slice none 0 0, .slice none 0 0, .int .i64 0, .int .i64 0, .int .i64 0, .int .i64 0, .int .i64 0, .int .i64 0, .int .i64 0, .slice none 0 0, .int .i64 0, .slice none 0 0]
  rw [← hW1] at S1
  have HT := hideIt (toIntS_any own n1 a1 c1 f1 W1 (K1.out.up S1.below))
  have x0 := S1.lw.at 1 rfl
  have HS := hideIt S1
  clear S1
  go_enter Try.func21, Try.ntmps21
  go_upto_region 3 with fail
  rw [← hW1]
  clear hW1
  go_wp2_with (go_at_call 65; refine HT.out.mono ?_; rintro e w2 ⟨g1, rfl, q1, b2⟩; refine Hid.out ?_)
  refine (show ∀ {p : Prop}, p → Hid p from fun h => h) ?_
  have T := HS.out.up b2
  have S2 : TH w w.heap.size 56 37 [.int .i64 N, .slice a1 n1 c1, .slice a2 n2 c2, .slice a3 n3 c3, .slice a4 n4 c4, .int .i64 i, .int .i64 o, .int .i64 a, .int .i64 b, .int .i64 sh, .int .i64 num, .int .i64 op, .slice a5 n5 c5, .int .i64 v, .slice a6 n6 c6] [.int .i64 0, .slice none 0 0, .slice none 0 0, .slice none 0 0, .slice none 0 0, .int .i64 0, .int .i64 0, .int .i64 0, .int .i64 0, .int .i64 0, .int .i64 0, .int .i64 0, .slice none 0 0, .int .i64 0, .slice none 0 0] [.int .i64 N, .slice (some ⟨g1, 0, none⟩) n1 n1, .slice none 0 0, .slice none 0 0, .slice none 0 0, .int .i64 0, .int .i64 0, .int .i64 0, .int .i64 0, .int .i64 0, .int .i64 0, .int .i64 0, .slice none 0 0, .int .i64 0, .slice none 0 0] (setA w2 (w.heap.size + 1 + 1) 1 [.slice (some ⟨g1, 0, none⟩) n1 n1]) := T.set 1 [.slice (some ⟨g1, 0, none⟩) n1 n1]
  have zl := HS.out.lt
  have p1 := own_setA (own_mono q1 zl) (G := w.heap.size + 1 + 1) (by omega) 1 [.slice (some ⟨g1, 0, none⟩) n1 n1]
  obtain ⟨W2, hW2⟩ : ∃ W2, W2 = setA w2 (w.heap.size + 1 + 1) 1 [.slice (some ⟨g1, 0, none⟩) n1 n1] := ⟨_, rfl⟩
  rw [← hW2] at S2 p1
  dsimp only [setA] at hW2
  have y0 := T.out.at 1 rfl
  have z0 := T.out.frozen 1
  have HP1 := hideIt p1
  clear q1 b2 T HT HS zl x0 p1
  go_upto_region 4 with fail
  rw [← hW2]
  clear hW2 y0 z0
  have HT := hideIt (O.toEdgeS_any cuts n2 a2 c2 f2 W2 (K2.out.up S2.below))
  have x0 := S2.lw.at 2 rfl
  have HS := hideIt S2
  clear S2
  go_wp2_with (go_at_call 66; refine HT.out.mono ?_; rintro e w3 ⟨g2, rfl, q2, b3⟩; refine Hid.out ?_)
  refine (show ∀ {p : Prop}, p → Hid p from fun h => h) ?_
  have T := HS.out.up b3
  have S3 : TH w w.heap.size 56 37 [.int .i64 N, .slice a1 n1 c1, .slice a2 n2 c2, .slice a3 n3 c3, .slice a4 n4 c4, .int .i64 i, .int .i64 o, .int .i64 a, .int .i64 b, .int .i64 sh, .int .i64 num, .int .i64 op, .slice a5 n5 c5, .int .i64 v, .slice a6 n6 c6] [.int .i64 0, .slice none 0 0, .slice none 0 0, .slice none 0 0, .slice none 0 0, .int .i64 0, .int .i64 0, .int .i64 0, .int .i64 0, .int .i64 0, .int .i64 0, .int .i64 0, .slice none 0 0, .int .i64 0, .slice none 0 0] [.int .i64 N, .slice (some ⟨g1, 0, none⟩) n1 n1, .slice (some ⟨g2, 0, none⟩) n2 n2, .slice none 0 0, .slice none 0 0, .int .i64 0, .int .i64 0, .int .i64 0, .int .i64 0, .int .i64 0, .int .i64 0, .int .i64 0, .slice none 0 0, .int .i64 0, .slice none 0 0] (setA w3 (w.heap.size + 1 + 1) 2 [.slice (some ⟨g2, 0, none⟩) n2 n2]) := T.set 2 [.slice (some ⟨g2, 0, none⟩) n2 n2]
  have zl := HS.out.lt
  have p1 := own_setA (own_up HP1.out b3) (G := w.heap.size + 1 + 1) (by omega) 2 [.slice (some ⟨g2, 0, none⟩) n2 n2]
  have p2 := own_setA (own_mono q2 zl) (G := w.heap.size + 1 + 1) (by omega) 2 [.slice (some ⟨g2, 0, none⟩) n2 n2]
  obtain ⟨W3, hW3⟩ : ∃ W3, W3 = setA w3 (w.heap.size + 1 + 1) 2 [.slice (some ⟨g2, 0, none⟩) n2 n2] := ⟨_, rfl⟩
  rw [← hW3] at S3 p1 p2
  dsimp only [setA] at hW3
  have y0 := T.out.at 2 rfl
  have z0 := T.out.frozen 2
  clear HP1
  have HP1 := hideIt p1
  have HP2 := hideIt p2
  clear q2 b3 T HT HS zl x0 p1 p2
  go_upto_region 5 with fail
  rw [← hW3]
  clear hW3 y0 z0
  have HT := hideIt (toIntSS_any lab n3 a3 c3 f3 W3 (K3.out.up S3.below))
  have x0 := S3.lw.at 3 rfl
  have HS := hideIt S3
  clear S3
  go_wp2_with (go_at_call 67; refine HT.out.mono ?_; rintro e w4 ⟨g3, R, rfl, q3, qR, b4⟩; refine Hid.out ?_)
  refine (show ∀ {p : Prop}, p → Hid p from fun h => h) ?_
  have HR := hideIt qR
  clear qR
  have T := HS.out.up b4
  have S4 : TH w w.heap.size 56 37 [.int .i64 N, .slice a1 n1 c1, .slice a2 n2 c2, .slice a3 n3 c3, .slice a4 n4 c4, .int .i64 i, .int .i64 o, .int .i64 a, .int .i64 b, .int .i64 sh, .int .i64 num, .int .i64 op, .slice a5 n5 c5, .int .i64 v, .slice a6 n6 c6] [.int .i64 0, .slice none 0 0, .slice none 0 0, .slice none 0 0, .slice none 0 0, .int .i64 0, .int .i64 0, .int .i64 0, .int .i64 0, .int .i64 0, .int .i64 0, .int .i64 0, .slice none 0 0, .int .i64 0, .slice none 0 0] [.int .i64 N, .slice (some ⟨g1, 0, none⟩) n1 n1, .slice (some ⟨g2, 0, none⟩) n2 n2, .slice (some ⟨g3, 0, none⟩) n3 n3, .slice none 0 0, .int .i64 0, .int .i64 0, .int .i64 0, .int .i64 0, .int .i64 0, .int .i64 0, .int .i64 0, .slice none 0 0, .int .i64 0, .slice none 0 0] (setA w4 (w.heap.size + 1 + 1) 3 [.slice (some ⟨g3, 0, none⟩) n3 n3]) := T.set 3 [.slice (some ⟨g3, 0, none⟩) n3 n3]
  have zl := HS.out.lt
  have p1 := own_setA (own_up HP1.out b4) (G := w.heap.size + 1 + 1) (by omega) 3 [.slice (some ⟨g3, 0, none⟩) n3 n3]
  have p2 := own_setA (own_up HP2.out b4) (G := w.heap.size + 1 + 1) (by omega) 3 [.slice (some ⟨g3, 0, none⟩) n3 n3]
  have p3 := FB.setS (q3.lo zl) (G := w.heap.size + 1 + 1) (by omega) 3 [.slice (some ⟨g3, 0, none⟩) n3 n3]
  obtain ⟨W4, hW4⟩ : ∃ W4, W4 = setA w4 (w.heap.size + 1 + 1) 3 [.slice (some ⟨g3, 0, none⟩) n3 n3] := ⟨_, rfl⟩
  rw [← hW4] at S4 p1 p2 p3
  dsimp only [setA] at hW4
  have y0 := T.out.at 3 rfl
  have z0 := T.out.frozen 3
  clear HP1 HP2
  have HP1 := hideIt p1
  have HP2 := hideIt p2
  have HP3 := hideIt p3
  clear q3 b4 T HT HS zl x0 p1 p2 p3
  go_upto_region 6 with fail
  rw [← hW4]
  clear hW4 y0 z0
  have HT := hideIt (toIntS_any nums n4 a4 c4 f4 W4 (K4.out.up S4.below))
  have x0 := S4.lw.at 4 rfl
  have HS := hideIt S4
  clear S4
  go_wp2_with (go_at_call 65; refine HT.out.mono ?_; rintro e w5 ⟨g4, rfl, q4, b5⟩; refine Hid.out ?_)
  refine (show ∀ {p : Prop}, p → Hid p from fun h => h) ?_
  have T := HS.out.up b5
  have S5 : TH w w.heap.size 56 37 [.int .i64 N, .slice a1 n1 c1, .slice a2 n2 c2, .slice a3 n3 c3, .slice a4 n4 c4, .int .i64 i, .int .i64 o, .int .i64 a, .int .i64 b, .int .i64 sh, .int .i64 num, .int .i64 op, .slice a5 n5 c5, .int .i64 v, .slice a6 n6 c6] [.int .i64 0, .slice none 0 0, .slice none 0 0, .slice none 0 0, .slice none 0 0, .int .i64 0, .int .i64 0, .int .i64 0, .int .i64 0, .int .i64 0, .int .i64 0, .int .i64 0, .slice none 0 0, .int .i64 0, .slice none 0 0] [.int .i64 N, .slice (some ⟨g1, 0, none⟩) n1 n1, .slice (some ⟨g2, 0, none⟩) n2 n2, .slice (some ⟨g3, 0, none⟩) n3 n3, .slice (some ⟨g4, 0, none⟩) n4 n4, .int .i64 0, .int .i64 0, .int .i64 0, .int .i64 0, .int .i64 0, .int .i64 0, .int .i64 0, .slice none 0 0, .int .i64 0, .slice none 0 0] (setA w5 (w.heap.size + 1 + 1) 4 [.slice (some ⟨g4, 0, none⟩) n4 n4]) := T.set 4 [.slice (some ⟨g4, 0, none⟩) n4 n4]
  have zl := HS.out.lt
  have p1 := own_setA (own_up HP1.out b5) (G := w.heap.size + 1 + 1) (by omega) 4 [.slice (some ⟨g4, 0, none⟩) n4 n4]
  have p2 := own_setA (own_up HP2.out b5) (G := w.heap.size + 1 + 1) (by omega) 4 [.slice (some ⟨g4, 0, none⟩) n4 n4]
  have p3 := FB.setS (HP3.out.keep b5) (G := w.heap.size + 1 + 1) (by omega) 4 [.slice (some ⟨g4, 0, none⟩) n4 n4]
  have p4 := own_setA (own_mono q4 zl) (G := w.heap.size + 1 + 1) (by omega) 4 [.slice (some ⟨g4, 0, none⟩) n4 n4]
  obtain ⟨W5, hW5⟩ : ∃ W5, W5 = setA w5 (w.heap.size + 1 + 1) 4 [.slice (some ⟨g4, 0, none⟩) n4 n4] := ⟨_, rfl⟩
  rw [← hW5] at S5 p1 p2 p3 p4
  dsimp only [setA] at hW5
  have y0 := T.out.at 4 rfl
  have z0 := T.out.frozen 4
  clear HP1 HP2 HP3
  have HP1 := hideIt p1
  have HP2 := hideIt p2
  have HP3 := hideIt p3
  have HP4 := hideIt p4
  clear q4 b5 T HT HS zl x0 p1 p2 p3 p4
  go_upto_region 7 with fail
  rw [← hW5]
  clear hW5 y0 z0
  have HT := hideIt (toTask_any i o a b sh num op v es n5 a5 c5 f5 W5 (K5.out.up S5.below))
  have x0 := S5.lw.at 5 rfl
  have x1 := S5.lw.at 6 rfl
  have x2 := S5.lw.at 7 rfl
  have x3 := S5.lw.at 8 rfl
  have x4 := S5.lw.at 9 rfl
  have x5 := S5.lw.at 10 rfl
  have x6 := S5.lw.at 11 rfl
  have x7 := S5.lw.at 12 rfl
  have x8 := S5.lw.at 13 rfl
  have HS := hideIt S5
  clear S5
  go_wp2_with (go_at_call 68; refine HT.out.mono ?_; rintro e w6 ⟨g5, rfl, q5, b6⟩; refine Hid.out ?_)
  refine (show ∀ {p : Prop}, p → Hid p from fun h => h) ?_
  have T := HS.out.up b6
  have S6 : TH w w.heap.size 56 37 [.int .i64 N, .slice a1 n1 c1, .slice a2 n2 c2, .slice a3 n3 c3, .slice a4 n4 c4, .int .i64 i, .int .i64 o, .int .i64 a, .int .i64 b, .int .i64 sh, .int .i64 num, .int .i64 op, .slice a5 n5 c5, .int .i64 v, .slice a6 n6 c6] [.int .i64 0, .slice none 0 0, .slice none 0 0, .slice none 0 0, .slice none 0 0, .int .i64 0, .int .i64 0, .int .i64 0, .int .i64 0, .int .i64 0, .int .i64 0, .int .i64 0, .slice none 0 0, .int .i64 0, .slice none 0 0] [.int .i64 N, .slice (some ⟨g1, 0, none⟩) n1 n1, .slice (some ⟨g2, 0, none⟩) n2 n2, .slice (some ⟨g3, 0, none⟩) n3 n3, .slice (some ⟨g4, 0, none⟩) n4 n4, .int .i64 i, .int .i64 o, .int .i64 a, .int .i64 b, .int .i64 sh, .int .i64 num, .int .i64 op, .slice (some ⟨g5, 0, none⟩) n5 n5, .int .i64 v, .slice none 0 0] (setA w6 (w.heap.size + 1 + 1) 5 [.int .i64 i, .int .i64 o, .int .i64 a, .int .i64 b, .int .i64 sh, .int .i64 num, .int .i64 op, .slice (some ⟨g5, 0, none⟩) n5 n5, .int .i64 v]) := T.set 5 [.int .i64 i, .int .i64 o, .int .i64 a, .int .i64 b, .int .i64 sh, .int .i64 num, .int .i64 op, .slice (some ⟨g5, 0, none⟩) n5 n5, .int .i64 v]
  have zl := HS.out.lt
  have p1 := own_setA (own_up HP1.out b6) (G := w.heap.size + 1 + 1) (by omega) 5 [.int .i64 i, .int .i64 o, .int .i64 a, .int .i64 b, .int .i64 sh, .int .i64 num, .int .i64 op, .slice (some ⟨g5, 0, none⟩) n5 n5, .int .i64 v]
  have p2 := own_setA (own_up HP2.out b6) (G := w.heap.size + 1 + 1) (by omega) 5 [.int .i64 i, .int .i64 o, .int .i64 a, .int .i64 b, .int .i64 sh, .int .i64 num, .int .i64 op, .slice (some ⟨g5, 0, none⟩) n5 n5, .int .i64 v]
  have p3 := FB.setS (HP3.out.keep b6) (G := w.heap.size + 1 + 1) (by omega) 5 [.int .i64 i, .int .i64 o, .int .i64 a, .int .i64 b, .int .i64 sh, .int .i64 num, .int .i64 op, .slice (some ⟨g5, 0, none⟩) n5 n5, .int .i64 v]
  have p4 := own_setA (own_up HP4.out b6) (G := w.heap.size + 1 + 1) (by omega) 5 [.int .i64 i, .int .i64 o, .int .i64 a, .int .i64 b, .int .i64 sh, .int .i64 num, .int .i64 op, .slice (some ⟨g5, 0, none⟩) n5 n5, .int .i64 v]
  have p5 := own_setA (own_mono q5 zl) (G := w.heap.size + 1 + 1) (by omega) 5 [.int .i64 i, .int .i64 o, .int .i64 a, .int .i64 b, .int .i64 sh, .int .i64 num, .int .i64 op, .slice (some ⟨g5, 0, none⟩) n5 n5, .int .i64 v]
  obtain ⟨W6, hW6⟩ : ∃ W6, W6 = setA w6 (w.heap.size + 1 + 1) 5 [.int .i64 i, .int .i64 o, .int .i64 a, .int .i64 b, .int .i64 sh, .int .i64 num, .int .i64 op, .slice (some ⟨g5, 0, none⟩) n5 n5, .int .i64 v] := ⟨_, rfl⟩
  rw [← hW6] at S6 p1 p2 p3 p4 p5
  dsimp only [setA] at hW6
  have y0 := T.out.at 5 rfl
  have z0 := T.out.frozen 5
  have y1 := T.out.at 6 rfl
  have z1 := T.out.frozen 6
  have y2 := T.out.at 7 rfl
  have z2 := T.out.frozen 7
  have y3 := T.out.at 8 rfl
  have z3 := T.out.frozen 8
  have y4 := T.out.at 9 rfl
  have z4 := T.out.frozen 9
  have y5 := T.out.at 10 rfl
  have z5 := T.out.frozen 10
  have y6 := T.out.at 11 rfl
  have z6 := T.out.frozen 11
  have y7 := T.out.at 12 rfl
  have z7 := T.out.frozen 12
  have y8 := T.out.at 13 rfl
  have z8 := T.out.frozen 13
  clear HP1 HP2 HP3 HP4
  have HP1 := hideIt p1
  have HP2 := hideIt p2
  have HP3 := hideIt p3
  have HP4 := hideIt p4
  have HP5 := hideIt p5
  clear q5 b6 T HT HS zl x0 x1 x2 x3 x4 x5 x6 x7 x8 p1 p2 p3 p4 p5
  go_upto_region 8 with fail
  rw [← hW6]
  clear hW6 y0 z0 y1 z1 y2 z2 y3 z3 y4 z4 y5 z5 y6 z6 y7 z7 y8 z8
  have HT := hideIt (toSaidS_any said n6 a6 c6 f6 W6 (K6.out.up S6.below))
  have x0 := S6.lw.at 14 rfl
  have HS := hideIt S6
  clear S6
  go_wp2_with (go_at_call 69; refine HT.out.mono ?_; rintro e w7 ⟨g6, rfl, q6, b7⟩; refine Hid.out ?_)
  refine (show ∀ {p : Prop}, p → Hid p from fun h => h) ?_
  have T := HS.out.up b7
  have S7 : TH w w.heap.size 56 37 [.int .i64 N, .slice a1 n1 c1, .slice a2 n2 c2, .slice a3 n3 c3, .slice a4 n4 c4, .int .i64 i, .int .i64 o, .int .i64 a, .int .i64 b, .int .i64 sh, .int .i64 num, .int .i64 op, .slice a5 n5 c5, .int .i64 v, .slice a6 n6 c6] [.int .i64 0, .slice none 0 0, .slice none 0 0, .slice none 0 0, .slice none 0 0, .int .i64 0, .int .i64 0, .int .i64 0, .int .i64 0, .int .i64 0, .int .i64 0, .int .i64 0, .slice none 0 0, .int .i64 0, .slice none 0 0] [.int .i64 N, .slice (some ⟨g1, 0, none⟩) n1 n1, .slice (some ⟨g2, 0, none⟩) n2 n2, .slice (some ⟨g3, 0, none⟩) n3 n3, .slice (some ⟨g4, 0, none⟩) n4 n4, .int .i64 i, .int .i64 o, .int .i64 a, .int .i64 b, .int .i64 sh, .int .i64 num, .int .i64 op, .slice (some ⟨g5, 0, none⟩) n5 n5, .int .i64 v, .slice (some ⟨g6, 0, none⟩) n6 n6] (setA w7 (w.heap.size + 1 + 1) 14 [.slice (some ⟨g6, 0, none⟩) n6 n6]) := T.set 14 [.slice (some ⟨g6, 0, none⟩) n6 n6]
  have zl := HS.out.lt
  have p1 := own_setA (own_up HP1.out b7) (G := w.heap.size + 1 + 1) (by omega) 14 [.slice (some ⟨g6, 0, none⟩) n6 n6]
  have p2 := own_setA (own_up HP2.out b7) (G := w.heap.size + 1 + 1) (by omega) 14 [.slice (some ⟨g6, 0, none⟩) n6 n6]
  have p3 := FB.setS (HP3.out.keep b7) (G := w.heap.size + 1 + 1) (by omega) 14 [.slice (some ⟨g6, 0, none⟩) n6 n6]
  have p4 := own_setA (own_up HP4.out b7) (G := w.heap.size + 1 + 1) (by omega) 14 [.slice (some ⟨g6, 0, none⟩) n6 n6]
  have p5 := own_setA (own_up HP5.out b7) (G := w.heap.size + 1 + 1) (by omega) 14 [.slice (some ⟨g6, 0, none⟩) n6 n6]
  have p6 := own_setA (own_mono q6 zl) (G := w.heap.size + 1 + 1) (by omega) 14 [.slice (some ⟨g6, 0, none⟩) n6 n6]
  obtain ⟨W7, hW7⟩ : ∃ W7, W7 = setA w7 (w.heap.size + 1 + 1) 14 [.slice (some ⟨g6, 0, none⟩) n6 n6] := ⟨_, rfl⟩
  rw [← hW7] at S7 p1 p2 p3 p4 p5 p6
  dsimp only [setA] at hW7
  have y0 := T.out.at 14 rfl
  have z0 := T.out.frozen 14
  clear HP1 HP2 HP3 HP4 HP5
  have HP1 := hideIt p1
  have HP2 := hideIt p2
  have HP3 := hideIt p3
  have HP4 := hideIt p4
  have HP5 := hideIt p5
  have HP6 := hideIt p6
  clear q6 b7 T HT HS zl x0 p1 p2 p3 p4 p5 p6
  go_upto_region 9 with fail
  rw [← hW7]
  clear hW7 y0 z0
  have XF := S7.rs.setA 0 [.int .i64 N, .slice (some ⟨g1, 0, none⟩) n1 n1, .slice (some ⟨g2, 0, none⟩) n2 n2, .slice (some ⟨g3, 0, none⟩) n3 n3, .slice (some ⟨g4, 0, none⟩) n4 n4, .int .i64 i, .int .i64 o, .int .i64 a, .int .i64 b, .int .i64 sh, .int .i64 num, .int .i64 op, .slice (some ⟨g5, 0, none⟩) n5 n5, .int .i64 v, .slice (some ⟨g6, 0, none⟩) n6 n6]
  rw [setV_all [.int .i64 0, .slice none 0 0, .slice none 0 0, .slice none 0 0, .slice none 0 0, .int .i64 0, .int .i64 0, .int .i64 0, .int .i64 0, .int .i64 0, .int .i64 0, .int .i64 0, .slice none 0 0, .int .i64 0, .slice none 0 0] [.int .i64 N, .slice (some ⟨g1, 0, none⟩) n1 n1, .slice (some ⟨g2, 0, none⟩) n2 n2, .slice (some ⟨g3, 0, none⟩) n3 n3, .slice (some ⟨g4, 0, none⟩) n4 n4, .int .i64 i, .int .i64 o, .int .i64 a, .int .i64 b, .int .i64 sh, .int .i64 num, .int .i64 op, .slice (some ⟨g5, 0, none⟩) n5 n5, .int .i64 v, .slice (some ⟨g6, 0, none⟩) n6 n6] rfl] at XF
  have c0_ := XF.at 0 rfl
  have c1_ := XF.at 1 rfl
  have c2_ := XF.at 2 rfl
  have c3_ := XF.at 3 rfl
  have c4_ := XF.at 4 rfl
  have c5_ := XF.at 5 rfl
  have c6_ := XF.at 6 rfl
  have c7_ := XF.at 7 rfl
  have c8_ := XF.at 8 rfl
  have c9_ := XF.at 9 rfl
  have c10_ := XF.at 10 rfl
  have c11_ := XF.at 11 rfl
  have c12_ := XF.at 12 rfl
  have c13_ := XF.at 13 rfl
  have c14_ := XF.at 14 rfl
  dsimp only [setA] at c0_ c1_ c2_ c3_ c4_ c5_ c6_ c7_ c8_ c9_ c10_ c11_ c12_ c13_ c14_
  have HC := hideIt (And.intro c0_ (And.intro c1_ (And.intro c2_ (And.intro c3_ (And.intro c4_ (And.intro c5_ (And.intro c6_ (And.intro c7_ (And.intro c8_ (And.intro c9_ (And.intro c10_ (And.intro c11_ (And.intro c12_ (And.intro c13_ c14_))))))))))))))
  have k0 := S7.out.at 0 rfl
  have r0 := S7.rs.at 0 rfl
  have z0 := S7.rs.frozen 0
  have k1 := S7.out.at 1 rfl
  have r1 := S7.rs.at 1 rfl
  have z1 := S7.rs.frozen 1
  have k2 := S7.out.at 2 rfl
  have r2 := S7.rs.at 2 rfl
  have z2 := S7.rs.frozen 2
  have k3 := S7.out.at 3 rfl
  have r3 := S7.rs.at 3 rfl
  have z3 := S7.rs.frozen 3
  have k4 := S7.out.at 4 rfl
  have r4 := S7.rs.at 4 rfl
  have z4 := S7.rs.frozen 4
  have k5 := S7.out.at 5 rfl
  have r5 := S7.rs.at 5 rfl
  have z5 := S7.rs.frozen 5
  have k6 := S7.out.at 6 rfl
  have r6 := S7.rs.at 6 rfl
  have z6 := S7.rs.frozen 6
  have k7 := S7.out.at 7 rfl
  have r7 := S7.rs.at 7 rfl
  have z7 := S7.rs.frozen 7
  have k8 := S7.out.at 8 rfl
  have r8 := S7.rs.at 8 rfl
  have z8 := S7.rs.frozen 8
  have k9 := S7.out.at 9 rfl
  have r9 := S7.rs.at 9 rfl
  have z9 := S7.rs.frozen 9
  have k10 := S7.out.at 10 rfl
  have r10 := S7.rs.at 10 rfl
  have z10 := S7.rs.frozen 10
  have k11 := S7.out.at 11 rfl
  have r11 := S7.rs.at 11 rfl
  have z11 := S7.rs.frozen 11
  have k12 := S7.out.at 12 rfl
  have r12 := S7.rs.at 12 rfl
  have z12 := S7.rs.frozen 12
  have k13 := S7.out.at 13 rfl
  have r13 := S7.rs.at 13 rfl
  have z13 := S7.rs.frozen 13
  have k14 := S7.out.at 14 rfl
  have r14 := S7.rs.at 14 rfl
  have z14 := S7.rs.frozen 14
  have HF : Hid (HOwn (setA W7 (w.heap.size + 1) 0 [.int .i64 N, .slice (some ⟨g1, 0, none⟩) n1 n1, .slice (some ⟨g2, 0, none⟩) n2 n2, .slice (some ⟨g3, 0, none⟩) n3 n3, .slice (some ⟨g4, 0, none⟩) n4 n4, .int .i64 i, .int .i64 o, .int .i64 a, .int .i64 b, .int .i64 sh, .int .i64 num, .int .i64 op, .slice (some ⟨g5, 0, none⟩) n5 n5, .int .i64 v, .slice (some ⟨g6, 0, none⟩) n6 n6]) w.heap.size ⟨N, own, cuts, lab, nums, i, o, a, b, sh, num, op, es, v, said⟩ ⟨⟨some ⟨g1, 0, none⟩, n1, n1⟩, ⟨some ⟨g2, 0, none⟩, n2, n2⟩, ⟨some ⟨g3, 0, none⟩, n3, n3⟩, ⟨some ⟨g4, 0, none⟩, n4, n4⟩, ⟨some ⟨g5, 0, none⟩, n5, n5⟩, ⟨some ⟨g6, 0, none⟩, n6, n6⟩⟩ R ∧ Below w.heap.size w (setA W7 (w.heap.size + 1) 0 [.int .i64 N, .slice (some ⟨g1, 0, none⟩) n1 n1, .slice (some ⟨g2, 0, none⟩) n2 n2, .slice (some ⟨g3, 0, none⟩) n3 n3, .slice (some ⟨g4, 0, none⟩) n4 n4, .int .i64 i, .int .i64 o, .int .i64 a, .int .i64 b, .int .i64 sh, .int .i64 num, .int .i64 op, .slice (some ⟨g5, 0, none⟩) n5 n5, .int .i64 v, .slice (some ⟨g6, 0, none⟩) n6 n6])) :=
    ⟨⟨own_mono (own_setA HP1.out (by omega) _ _) (by omega), own_mono (own_setA HP2.out (by omega) _ _) (by omega), (FB.setS HP3.out (by omega) _ _).lo (by omega), HR.out, own_mono (own_setA HP4.out (by omega) _ _) (by omega), own_mono (own_setA HP5.out (by omega) _ _) (by omega), own_mono (own_setA HP6.out (by omega) _ _) (by omega)⟩, below_setA S7.below (by omega) _ _⟩
  dsimp only [setA] at HF
  clear XF S7 HP1 HP2 HP3 HP4 HP5 HP6 K1 K2 K3 K4 K5 K6 c0_ c1_ c2_ c3_ c4_ c5_ c6_ c7_ c8_ c9_ c10_ c11_ c12_ c13_ c14_
  go_wp2
  obtain ⟨c0_, c1_, c2_, c3_, c4_, c5_, c6_, c7_, c8_, c9_, c10_, c11_, c12_, c13_, c14_⟩ := HC.out
  exact bodyPost_ret (v := .agg #[.int .i64 N, .slice (some ⟨g1, 0, none⟩) n1 n1, .slice (some ⟨g2, 0, none⟩) n2 n2, .slice (some ⟨g3, 0, none⟩) n3 n3, .slice (some ⟨g4, 0, none⟩) n4 n4, .int .i64 i, .int .i64 o, .int .i64 a, .int .i64 b, .int .i64 sh, .int .i64 num, .int .i64 op, .slice (some ⟨g5, 0, none⟩) n5 n5, .int .i64 v, .slice (some ⟨g6, 0, none⟩) n6 n6]) (by simp [results, Try.results21, go_sem, c0_, c1_, c2_, c3_, c4_, c5_, c6_, c7_, c8_, c9_, c10_, c11_, c12_, c13_, c14_]) rfl ⟨g1, g2, g3, g4, g5, g6, R, rfl, HF.out.1, HF.out.2⟩
end Go.Proofs.Ytdihemjfnjhdiaa
