/- Edges: when one is right; which comes first. Edges in a list, and what the laws' own functions over graphs answer. A graph and an edge that come in, as the walks want them. What the laws over graphs share. What the laws' own marks and looks on edges answer: markEdgeS, heldEdgeS, markGraph, heldGraph. Bytes in memory of the call's own. -/
import Derived.Test.YtcieanhbipbhgaaGreatDoorProg
import GoSem.Claim
import GoSem.ClaimJoined
import GoSem.ClaimMapViews
import Derived.JoinedTies
import Derived.KernelRfl
import Derived.WalkKit
import Derived.WalkSpells
import Derived.WalkSmall
import Derived.OwnWalk
import Derived.BigQuiet
import Derived.Deep.QuietTactic
import Derived.Deep.MidRow
import Derived.Deep.RegionHeld3
import Derived.ProofKit
import Derived.OpenShut
import Derived.ChangeOld
import Derived.ChangeArms
import Derived.Below
import Derived.RowKit
import Derived.Laws.IdiomStrings
namespace Go.Proofs.YtcieanhbipbhgaaGreatDoor
open Go.RowKit

theorem hideIt {p : Prop} (h : p) : Hid p := h

/-- an operation that its guard passes over is taken first -/
theorem skipOp {P : Program} {ops : Array Oper} {Q : Exit → Go.Act → World → Prop} {md : Region.Mode} {i : Nat} {oi : Oper} {fuel : Nat} {listed : Array Bool} {a : Go.Act} {w : World} (hi : ops[i]? = some oi)
    (hs : Region.noSelect ops = true) (hf : Region.free md ops listed i = true) (hr : (Region.ready md ops listed).contains i = true) (hQ : ∀ c a w, Q (.panic c) (a.put oi.dst undef) w → Q (.panic c) a w)
    (hw : Region.wanted oi (yielded ops a.tmps) = false) (h : wpAny P md ops Q fuel (listed.setIfInBounds i true) (a.put oi.dst undef) w) : wpAny P md ops Q (fuel + 1) listed a w :=
  wpAny_take hi hs hf hr hQ (.inr ⟨hw, rfl⟩) h
/-- an operation that looks at no memory is taken first -/
theorem takeOp {P : Program} {ops : Array Oper} {Q : Exit → Go.Act → World → Prop} {md : Region.Mode} {i : Nat} {oi : Oper} {v : Value} {fuel : Nat} {listed : Array Bool} {a : Go.Act} {w : World} (hi : ops[i]? = some oi)
    (hs : Region.noSelect ops = true) (hf : Region.free md ops listed i = true) (hr : (Region.ready md ops listed).contains i = true) (hQ : ∀ c a w, Q (.panic c) (a.put oi.dst v) w → Q (.panic c) a w)
    (hw : Region.wanted oi (yielded ops a.tmps) = true) (hv : ∀ w, (execOp a.eval oi).run P w = .ok (.value v) w) (h : wpAny P md ops Q fuel (listed.setIfInBounds i true) (a.put oi.dst v) w) : wpAny P md ops Q (fuel + 1) listed a w :=
  wpAny_take hi hs hf hr hQ (.inl ⟨hw, hv⟩) h

/-- an edge -/
abbrev EdgeV := Int × Int

theorem bret {p q : Prop} [Decidable p] [Decidable q] (h : p ↔ q) : Ending.returned (.bool (decide p)) = Ending.returned (.bool (decide q)) := by rw [decide_eq_decide.2 h]

/-- the edge is right -/
def eB (n : Int) (e : EdgeV) : Bool := decide (1 ≤ n ∧ n ≤ 12 ∧ 0 ≤ e.1 ∧ e.1 < e.2 ∧ e.2 < n)

theorem l01In_any (x a b : Int) (w : World) : Calls Tryz.prog 26 #[.int .i64 x, .int .i64 a, .int .i64 b] w fun e w' => e = .returned (.bool (decide (a ≤ x ∧ x ≤ b))) ∧ w' = w := by
  by_cases h1 : a ≤ x
  · by_cases h2 : x ≤ b
    · have d1 : decide (a ≤ x) = true := by simpa using h1
      have d2 : decide (x ≤ b) = true := by simpa using h2
      go_enter Tryz.func26, Tryz.ntmps26
      go_wp2
      go_ret
      exact ⟨by simp [h1, h2], rfl⟩
    · have d1 : decide (a ≤ x) = true := by simpa using h1
      have d2 : decide (x ≤ b) = false := by simpa using h2
      go_enter Tryz.func26, Tryz.ntmps26
      go_wp2
      go_ret
      exact ⟨by simp, rfl⟩
  · have d1 : decide (a ≤ x) = false := by simpa using h1
    go_enter Tryz.func26, Tryz.ntmps26
    go_wp2
    go_ret
    exact ⟨by simp, rfl⟩

theorem vertsOk_any (x : Int) (w : World) : Calls Tryz.prog 76 #[.int .i64 x] w fun e w' => e = .returned (.bool (decide (1 ≤ x ∧ x ≤ 12))) ∧ w' = w := by
  by_cases h1 : 1 ≤ x
  · by_cases h2 : x ≤ 12
    · have d1 : decide (1 ≤ x) = true := by simpa using h1
      have d2 : decide (x ≤ 12) = true := by simpa using h2
      go_enter Tryz.func76, Tryz.ntmps76
      go_wp2
      go_ret
      exact ⟨by simp [h1, h2], rfl⟩
    · have d1 : decide (1 ≤ x) = true := by simpa using h1
      have d2 : decide (x ≤ 12) = false := by simpa using h2
      go_enter Tryz.func76, Tryz.ntmps76
      go_wp2
      go_ret
      exact ⟨by simp, rfl⟩
  · have d1 : decide (1 ≤ x) = false := by simpa using h1
    go_enter Tryz.func76, Tryz.ntmps76
    go_wp2
    go_ret
    exact ⟨by simp, rfl⟩

theorem sEdgeOk_any (n : Int) (e : EdgeV) (w : World) :
    Calls Tryz.prog 74 #[.int .i64 n, .agg #[.int .i64 e.1, .int .i64 e.2]] w fun x w' => x = .returned (.bool (eB n e)) ∧ Below w.heap.size w w' := by
  obtain ⟨a, b⟩ := e
  dsimp only
  have HI := hideIt l01In_any
  by_cases h1 : 1 ≤ n ∧ n ≤ 12
  · have r1 : decide (1 ≤ n ∧ n ≤ 12) = true := by simpa using h1
    by_cases h2 : 0 ≤ a ∧ a ≤ n - 1
    · have r2 : decide (0 ≤ a ∧ a ≤ n - 1) = true := by simpa using h2
      by_cases h3 : 0 ≤ b ∧ b ≤ n - 1
      · have r3 : decide (0 ≤ b ∧ b ≤ n - 1) = true := by simpa using h3
        go_enter Tryz.func74, Tryz.ntmps74
        go_wp2_with (go_at_call 26; refine (HI.out _ _ _ _).mono ?_; rintro e w1 ⟨rfl, rfl⟩)
        go_ret
        exact ⟨bret (by dsimp only; omega), (Below.refl _ _).alloc (Nat.le_refl _) _⟩
      · have r3 : decide (0 ≤ b ∧ b ≤ n - 1) = false := by simpa using h3
        go_enter Tryz.func74, Tryz.ntmps74
        go_wp2_with (go_at_call 26; refine (HI.out _ _ _ _).mono ?_; rintro e w1 ⟨rfl, rfl⟩)
        go_ret
        exact ⟨by simp [eB]; omega, (Below.refl _ _).alloc (Nat.le_refl _) _⟩
    · have r2 : decide (0 ≤ a ∧ a ≤ n - 1) = false := by simpa using h2
      go_enter Tryz.func74, Tryz.ntmps74
      go_wp2_with (go_at_call 26; refine (HI.out _ _ _ _).mono ?_; rintro e w1 ⟨rfl, rfl⟩)
      go_ret
      exact ⟨by simp [eB]; omega, (Below.refl _ _).alloc (Nat.le_refl _) _⟩
  · have r1 : decide (1 ≤ n ∧ n ≤ 12) = false := by simpa using h1
    go_enter Tryz.func74, Tryz.ntmps74
    go_wp2_with (go_at_call 26; refine (HI.out _ _ _ _).mono ?_; rintro e w1 ⟨rfl, rfl⟩)
    go_ret
    exact ⟨by simp [eB]; omega, (Below.refl _ _).alloc (Nat.le_refl _) _⟩

theorem iEdgeOk_any (n : Int) (e : EdgeV) (w : World) :
    Calls Tryz.prog 93 #[.int .i64 n, .agg #[.int .i64 e.1, .int .i64 e.2]] w fun x w' => x = .returned (.bool (eB n e)) ∧ Below w.heap.size w w' := by
  obtain ⟨a, b⟩ := e
  dsimp only
  have HI := hideIt vertsOk_any
  by_cases h1 : 1 ≤ n ∧ n ≤ 12
  · have r1 : decide (1 ≤ n ∧ n ≤ 12) = true := by simpa using h1
    by_cases h2 : 0 ≤ a
    · have r2 : decide (0 ≤ a) = true := by simpa using h2
      by_cases h3 : a < b
      · have r3 : decide (a < b) = true := by simpa using h3
        go_enter Tryz.func93, Tryz.ntmps93
        go_wp2_with (go_at_call 76; refine (HI.out _ _).mono ?_; rintro e w1 ⟨rfl, rfl⟩)
        go_ret
        exact ⟨bret (by dsimp only; omega), (Below.refl _ _).alloc (Nat.le_refl _) _⟩
      · have r3 : decide (a < b) = false := by simpa using h3
        go_enter Tryz.func93, Tryz.ntmps93
        go_wp2_with (go_at_call 76; refine (HI.out _ _).mono ?_; rintro e w1 ⟨rfl, rfl⟩)
        go_ret
        exact ⟨by simp [eB]; omega, (Below.refl _ _).alloc (Nat.le_refl _) _⟩
    · have r2 : decide (0 ≤ a) = false := by simpa using h2
      go_enter Tryz.func93, Tryz.ntmps93
      go_wp2_with (go_at_call 76; refine (HI.out _ _).mono ?_; rintro e w1 ⟨rfl, rfl⟩)
      go_ret
      exact ⟨by simp [eB]; omega, (Below.refl _ _).alloc (Nat.le_refl _) _⟩
  · have r1 : decide (1 ≤ n ∧ n ≤ 12) = false := by simpa using h1
    go_enter Tryz.func93, Tryz.ntmps93
    go_wp2_with (go_at_call 76; refine (HI.out _ _).mono ?_; rintro e w1 ⟨rfl, rfl⟩)
    go_ret
    exact ⟨by simp [eB]; omega, (Below.refl _ _).alloc (Nat.le_refl _) _⟩
end Go.Proofs.YtcieanhbipbhgaaGreatDoor
namespace Go.Proofs.YtcieanhbipbhgaaGreatDoor
open Go.RowKit

/-- the list of edges es stands at a, n of them, below block B -/
def Es (w : World) (B : Nat) (a : Option Addr) (n : Nat) (es : List EdgeV) : Prop :=
  es.length = n ∧ (n = 0 ∨ ∃ b off, a = some ⟨b, off, none⟩ ∧ b < B ∧ ∀ (j : Nat) (f : EdgeV), es[j]? = some f →
    w.cell? ⟨b, off + j * 2, none⟩ = some (.int .i64 f.1) ∧ w.cell? ⟨b, off + j * 2 + 1, none⟩ = some (.int .i64 f.2))

theorem take_snocF {α : Type} (fs : List α) (k : Nat) (f : α) (h : fs[k]? = some f) : fs.take (k + 1) = fs.take k ++ [f] := by
  obtain ⟨hk, rfl⟩ := List.getElem?_eq_some_iff.1 h
  rw [List.take_succ_eq_append_getElem hk]

theorem Es.alloc {w : World} {B : Nat} {a : Option Addr} {n : Nat} {fs : List EdgeV} (h : Es w B a n fs) (hB : B ≤ w.heap.size) (o : Obj) : Es (w.alloc o) B a n fs := by
  refine ⟨h.1, h.2.imp id ?_⟩
  rintro ⟨b, off, ha, hb, hc⟩
  refine ⟨b, off, ha, hb, fun j f hf => ?_⟩
  have hbl : b < w.heap.size := by omega
  obtain ⟨c0, c1⟩ := hc j f hf
  exact ⟨by rw [World.cell?_of_block (w := w) (Below.heap_alloc w o b hbl)]; exact c0, by rw [World.cell?_of_block (w := w) (Below.heap_alloc w o b hbl)]; exact c1⟩

theorem Es.below {w w' : World} {B C : Nat} {a : Option Addr} {n : Nat} {fs : List EdgeV} (h : Es w B a n fs) (hb : Below C w w') (hB : B ≤ C) : Es w' B a n fs := by
  refine ⟨h.1, h.2.imp id ?_⟩
  rintro ⟨b, off, ha, hbl, hc⟩
  refine ⟨b, off, ha, hbl, fun j f hf => ?_⟩
  obtain ⟨c0, c1⟩ := hc j f hf
  have hl : b < C := by omega
  exact ⟨by rw [hb.cell (p := ⟨b, _, none⟩) hl]; exact c0, by rw [hb.cell (p := ⟨b, _, none⟩) hl]; exact c1⟩

theorem Es.mono {w : World} {B C : Nat} {a : Option Addr} {n : Nat} {fs : List EdgeV} (h : Es w B a n fs) (hB : B ≤ C) : Es w C a n fs := by
  refine ⟨h.1, h.2.imp id ?_⟩
  rintro ⟨b, off, ha, hbl, hc⟩
  exact ⟨b, off, ha, by omega, hc⟩

theorem Es.up {w w' : World} {a : Option Addr} {n : Nat} {fs : List EdgeV} (h : Es w w.heap.size a n fs) (hb : Below w.heap.size w w') : Es w' w'.heap.size a n fs :=
  (h.below hb (Nat.le_refl _)).mono hb.size

/-- the cells of an edge -/
def ecell (f : EdgeV) : List Value := [.int .i64 f.1, .int .i64 f.2]
/-- the cells of a list of edges -/
def ecells (fs : List EdgeV) : List Value := fs.flatMap ecell

theorem ecells_length (fs : List EdgeV) : (ecells fs).length = fs.length * 2 := by
  induction fs with
  | nil => rfl
  | cons f fs ih => simp only [ecells, List.flatMap_cons, List.length_append, List.length_cons] at ih ⊢; rw [ih]; simp [ecell]; omega

theorem ecells_at (fs : List EdgeV) (j : Nat) (f : EdgeV) (h : fs[j]? = some f) :
    (ecells fs)[j * 2]? = some (.int .i64 f.1) ∧ (ecells fs)[j * 2 + 1]? = some (.int .i64 f.2) := by
  induction fs generalizing j with
  | nil => simp at h
  | cons g fs ih =>
    cases j with
    | zero => simp at h; subst h; simp [ecells, ecell]
    | succ j =>
      have h2 := ih j (by simpa using h)
      have e : ∀ m, (ecells (g :: fs))[m + 2]? = (ecells fs)[m]? := fun m => by simp [ecells, ecell]
      refine ⟨?_, ?_⟩
      · rw [show (j + 1) * 2 = j * 2 + 2 by omega, e]; exact h2.1
      · rw [show (j + 1) * 2 + 1 = j * 2 + 1 + 2 by omega, e]; exact h2.2

theorem take_set2 {α : Type} (xs : List α) (m : Nat) (a b : α) (h : m + 2 ≤ xs.length) : ((xs.set m a).set (m + 1) b).take (m + 2) = xs.take m ++ [a, b] := by
  apply List.ext_getElem?
  intro i
  have hl : (xs.take m).length = m := by simp; omega
  by_cases h1 : i < m
  · rw [List.getElem?_append_left (by omega), List.getElem?_take_of_lt h1, List.getElem?_take_of_lt (by omega), List.getElem?_set_ne (by omega), List.getElem?_set_ne (by omega)]
  · rw [List.getElem?_append_right (by omega), hl]
    by_cases h2 : i < m + 2
    · rw [List.getElem?_take_of_lt h2]
      rcases (show i = m ∨ i = m + 1 by omega) with rfl | rfl
      · rw [List.getElem?_set_ne (by omega), List.getElem?_set_self (by omega)]; simp
      · rw [List.getElem?_set_self (by simp; omega)]; simp
    · rw [List.getElem?_eq_none (by simp; omega), List.getElem?_eq_none (by simp; omega)]

theorem ecells_snoc (fs : List EdgeV) (f : EdgeV) : ecells (fs ++ [f]) = ecells fs ++ [.int .i64 f.1, .int .i64 f.2] := by simp [ecells, ecell]
theorem ecells_append (fs gs : List EdgeV) : ecells (fs ++ gs) = ecells fs ++ ecells gs := by simp [ecells]

theorem infoIE : (Tryz.prog.info? 79).map (fun i => (i.zero, i.size, i.bytes)) = some (some (.agg #[.int .i64 0, .int .i64 0]), 2, 16) := by kernel_rfl

theorem bcell {W w1 : World} (hb : Below W.heap.size W w1) : (∀ b o, b < W.heap.size → w1.cell? ⟨b, o, none⟩ = W.cell? ⟨b, o, none⟩) ∧ (∀ b o, b < W.heap.size → w1.frozen? ⟨b, o, none⟩ = W.frozen? ⟨b, o, none⟩) :=
  ⟨fun b o h => hb.cell (p := ⟨b, o, none⟩) h, fun b o h => hb.frozen (p := ⟨b, o, none⟩) h⟩

/-- a list of one's own reads as its edges -/
theorem Es_of_own {w : World} {B n c : Nat} {a : Option Addr} {fs : List EdgeV} (h : w.ownsRow B 79 2 (.slice a n c) n (ecells fs)) : Es w w.heap.size a n fs := by
  have hl := h.1
  rw [ecells_length] at hl
  refine ⟨by omega, ?_⟩
  rcases h.2 with ⟨hv, h0⟩ | ⟨g, cap, cur, hv, hrest⟩
  · exact .inl h0
  · simp at hv
    obtain ⟨rfl, rfl⟩ := hv
    by_cases h0 : n = 0
    · exact .inl h0
    · refine .inr ⟨g, 0, rfl, (h.lt g rfl).2, fun j f hf => ?_⟩
      have hj : j < fs.length := (List.getElem?_eq_some_iff.1 hf).1
      obtain ⟨c0, c1⟩ := ecells_at fs j f hf
      rw [Nat.zero_add]
      exact ⟨by rw [h.cellAt (j * 2) (by omega)]; exact c0, by rw [h.cellAt (j * 2 + 1) (by omega)]; exact c1⟩

theorem grownSet (w : World) (G j : Nat) (u : Value) : w.grownBy (w.setCell ⟨G, j, none⟩ u) (some G) :=
  ⟨rfl, rfl, rfl, by simp [World.setCell], fun k _ hk => heap_setCell_other w ⟨G, j, none⟩ k u (fun e => hk (by simp [e]))⟩

theorem own_setOther {w : World} {B e s g n cap : Nat} {xs : List Value} (h : w.ownsRow B e s (.slice (some ⟨g, 0, none⟩) n cap) n xs) (G j : Nat) (u : Value) (hG : g ≠ G) :
    (w.setCell ⟨G, j, none⟩ u).ownsRow B e s (.slice (some ⟨g, 0, none⟩) n cap) n xs :=
  World.ownsRow.kept h (grownSet w G j u) (.inr (by simp [Value.ownBlock]; exact fun e => hG e))

theorem own_mono {w : World} {B B' e s n : Nat} {v : Value} {xs : List Value} (h : w.ownsRow B e s v n xs) (hB : B' ≤ B) : w.ownsRow B' e s v n xs :=
  ⟨h.1, h.2.imp id (fun ⟨g, cap, cur, a, b, rest⟩ => ⟨g, cap, cur, a, Nat.le_trans hB b, rest⟩)⟩

theorem eqEdge_yes (f : EdgeV) (w : World) :
    Calls Tryz.prog 65 #[.agg #[.int .i64 f.1, .int .i64 f.2], .agg #[.int .i64 f.1, .int .i64 f.2]] w fun e w' => e = .returned (.bool true) ∧ Below w.heap.size w w' := by
  go_enter Tryz.func65, Tryz.ntmps65
  go_wp2
  go_ret
  exact ⟨rfl, ((Below.refl _ _).alloc (Nat.le_refl _) _).alloc (by simp) _⟩

set_option maxRecDepth 100000 in
set_option maxHeartbeats 2000000 in
theorem eqEdgeS_same (fs : List EdgeV) (n : Nat) (a a' : Option Addr) (c c' : Nat) (hn : n ≤ 1048576) (w : World) (h : Es w w.heap.size a n fs) (h' : Es w w.heap.size a' n fs) :
    Calls Tryz.prog 49 #[.slice a n c, .slice a' n c'] w fun e w' => e = .returned (.bool true) ∧ Below w.heap.size w w' := by
  obtain ⟨hlen, hrow⟩ := h
  obtain ⟨_, hrow'⟩ := h'
  have HR := hideIt hrow
  have HR' := hideIt hrow'
  clear hrow hrow'
  go_enter Tryz.func49, Tryz.ntmps49
  go_wp2
  go_loopw [5] (fun i wr => ∃ k : Nat, k ≤ n ∧ i = .int .i64 (k : Int) ∧ Below w.heap.size w wr) (fun i _ => n - (intOf i).toNat)
  case atStart => exact ⟨0, by omega, rfl, Below.refl _ _⟩
  case round =>
    obtain ⟨k, hk, rfl, hb⟩ := hrel
    by_cases hlt : k < n
    · rcases HR.out with hz | ⟨b, off, rfl, hbl, hc⟩
      · omega
      · rcases HR'.out with hz | ⟨b', off', rfl, hbl', hc'⟩
        · omega
        · obtain ⟨f, hf⟩ : ∃ f, fs[k]? = some f := ⟨fs[k]'(by omega), List.getElem?_eq_getElem (by omega)⟩
          obtain ⟨c0, c1⟩ := hc k f hf
          obtain ⟨d0, d1⟩ := hc' k f hf
          have e0 : wr.cell? ⟨b, off + k * 2, none⟩ = some (.int .i64 f.1) := by rw [hb.cell hbl]; exact c0
          have e1 : wr.cell? ⟨b, off + k * 2 + 1, none⟩ = some (.int .i64 f.2) := by rw [hb.cell hbl]; exact c1
          have e3 : wr.cell? ⟨b', off' + k * 2, none⟩ = some (.int .i64 f.1) := by rw [hb.cell hbl']; exact d0
          have e4 : wr.cell? ⟨b', off' + k * 2 + 1, none⟩ = some (.int .i64 f.2) := by rw [hb.cell hbl']; exact d1
          have b1 : (0 : Int) ≤ (k : Int) := by omega
          have b2 : (k : Int) < (n : Int) := by omega
          have HT : Hid (∀ W : World, Below w.heap.size w W → Calls Tryz.prog 65 #[.agg #[.int .i64 f.1, .int .i64 f.2], .agg #[.int .i64 f.1, .int .i64 f.2]] W fun e w' => e = .returned (.bool true) ∧ Below w.heap.size w w') := fun W hW =>
            (eqEdge_yes f W).mono fun _ _ ⟨he, hb'⟩ => ⟨he, hW.trans (hb'.mono hW.size)⟩
          have HK : Hid (∀ W : World, Below w.heap.size w W → (W.cell? ⟨b, off + k * 2, none⟩ = some (.int .i64 f.1) ∧ W.cell? ⟨b, off + k * 2 + 1, none⟩ = some (.int .i64 f.2) ∧ W.cell? ⟨b', off' + k * 2, none⟩ = some (.int .i64 f.1) ∧ W.cell? ⟨b', off' + k * 2 + 1, none⟩ = some (.int .i64 f.2))) := fun W hW =>
            ⟨by rw [hW.cell hbl]; exact c0, by rw [hW.cell hbl]; exact c1, by rw [hW.cell hbl']; exact d0, by rw [hW.cell hbl']; exact d1⟩
          have hbd := hb.drew
          clear c0 c1 d0 d1 hc hc' hf
          go_wp2
          go_region_held3 (fun u => Below w.heap.size w u ∧ u.cell? ⟨b, off + k * 2, none⟩ = some (.int .i64 f.1) ∧ u.cell? ⟨b, off + k * 2 + 1, none⟩ = some (.int .i64 f.2) ∧ u.cell? ⟨b', off' + k * 2, none⟩ = some (.int .i64 f.1) ∧ u.cell? ⟨b', off' + k * 2 + 1, none⟩ = some (.int .i64 f.2))
            (first | exact ⟨hb3, HK.out _ hb3⟩ | exact ⟨hbd, HK.out _ hbd⟩)
            ((go_at_call 65; refine (HT.out _ hbd).mono ?_; rintro e w1 ⟨rfl, hb3⟩))
          clear hbd
          go_wp2
          go_roundw
          case rel => exact ⟨k + 1, by omega, by go_num, hb3⟩
          case measure => simp [intOf]; omega
    · go_wp2
      go_ret
      exact ⟨rfl, hb⟩

end Go.Proofs.YtcieanhbipbhgaaGreatDoor
namespace Go.Proofs.YtcieanhbipbhgaaGreatDoor
open Go.ChangeShapes Go.WideShapes Go.ChangeAt Go.RowKit

theorem cells3 : Tryz.prog.cellsOf 3 = 1 := by kernel_rfl

/-- an edge as the machine bears it -/
def FitE (f : EdgeV) : Prop := (Lit.int .i64 f.1).wf = true ∧ (Lit.int .i64 f.2).wf = true

theorem two {α : Type} {l : List α} (h : l.length = 2) : ∃ a b, l = [a, b] := by
  cases l with
  | nil => simp at h
  | cons a l =>
    cases l with
    | nil => simp at h
    | cons b l =>
      cases l with
      | nil => exact ⟨a, b, rfl⟩
      | cons c l => simp at h

end Go.Proofs.YtcieanhbipbhgaaGreatDoor
namespace Go.Proofs.YtcieanhbipbhgaaGreatDoor
open Go.RowKit

/-- nothing below has turned since w -/
def Good (w u : World) : Prop := Below w.heap.size w u
theorem Good.refl (w : World) : Good w w := Below.refl _ _
theorem Good.size {w u : World} (h : Good w u) : w.heap.size ≤ u.heap.size := Below.size h
theorem Good.up {w u v : World} (h : Good w u) (hb : Below u.heap.size u v) : Good w v := Below.trans h (hb.mono h.size)
theorem Good.alloc {w u : World} (h : Good w u) (o : Obj) : Good w (u.alloc o) := h.up ((Below.refl _ _).alloc (Nat.le_refl _) _)
theorem Good.drew {w u : World} (h : Good w u) : Good w u.drew := Below.drew h
theorem Good.es {w u : World} (h : Good w u) {a : Option Addr} {n : Nat} {fs : List EdgeV} (hf : Es w w.heap.size a n fs) : Es u u.heap.size a n fs := hf.up h
theorem Good.cell {w u : World} (h : Good w u) {b o : Nat} (hb : b < w.heap.size) : u.cell? ⟨b, o, none⟩ = w.cell? ⟨b, o, none⟩ := Below.cell h hb
end Go.Proofs.YtcieanhbipbhgaaGreatDoor
namespace Go.Proofs.YtcieanhbipbhgaaGreatDoor
open Go.RowKit

theorem grown_of_below {w w' : World} (h : Below w.heap.size w w') (row : Option Nat) : w.grownBy w' row :=
  ⟨h.os, h.tape, h.output, h.size, fun k hk _ => h.block k hk⟩
theorem grown_trans {a b c : World} {row : Option Nat} (h : a.grownBy b row) (k : b.grownBy c row) : a.grownBy c row :=
  ⟨k.os.trans h.os, k.tape.trans h.tape, k.output.trans h.output, Nat.le_trans h.size k.size, fun i hi hr => (k.block i (Nat.lt_of_lt_of_le hi h.size) hr).trans (h.block i hi hr)⟩

/-- n marked edges from k0 on -/
def marks (k0 n : Nat) : List EdgeV := (List.range n).map fun (t : Nat) => ((k0 : Int) + (t : Int) * 2, (k0 : Int) + (t : Int) * 2 + 1)
theorem marks_snoc (k0 n : Nat) : marks k0 (n + 1) = marks k0 n ++ [((k0 : Int) + (n : Int) * 2, (k0 : Int) + (n : Int) * 2 + 1)] := by simp [marks, List.range_succ]
theorem marks_length (k0 n : Nat) : (marks k0 n).length = n := by simp [marks]
theorem marks_at (k0 n j : Nat) (h : j < n) : (marks k0 n)[j]? = some ((k0 : Int) + (j : Int) * 2, (k0 : Int) + (j : Int) * 2 + 1) := by simp [marks, h]

theorem markEdgeS_zero (a : Option Addr) (c : Nat) (k0 : Int) (w : World) :
    Calls Tryz.prog 15 #[.slice a 0 c, .int .i64 k0] w fun e w' => e = .returned (.int .i64 k0) ∧ w' = w := by
  go_enter Tryz.func15, Tryz.ntmps15
  go_wp2
  refine wp_loop_rounds 1 ?_
  rw [rounds_succ]
  go_wp2
  go_ret
  exact ⟨rfl, rfl⟩

set_option maxRecDepth 100000 in
set_option maxHeartbeats 4000000 in
theorem markEdgeS_any (base g c n k0 : Nat) (fs : List EdgeV) (hn : n ≤ 1048576) (hk1 : k0 ≤ 10000000) (w : World)
    (h : w.ownsRow base 79 2 (.slice (some ⟨g, 0, none⟩) n c) n (ecells fs)) :
    Calls Tryz.prog 15 #[.slice (some ⟨g, 0, none⟩) n c, .int .i64 (k0 : Int)] w fun e w' => e = .returned (.int .i64 ((k0 : Int) + (n : Int) * 2)) ∧
      w'.ownsRow base 79 2 (.slice (some ⟨g, 0, none⟩) n c) n (ecells (marks k0 n)) ∧ w.grownBy w' (some g) := by
  have HO0 := hideIt h
  clear h
  go_enter Tryz.func15, Tryz.ntmps15
  go_wp2
  go_loopw [1, 5] (fun kk i wr => ∃ (j : Nat) (xs : List Value), j ≤ n ∧ i = .int .i64 (j : Int) ∧ kk = .int .i64 ((k0 : Int) + (j : Int) * 2) ∧ Hid (xs.take (j * 2) = ecells (marks k0 j)) ∧
      wr.ownsRow base 79 2 (.slice (some ⟨g, 0, none⟩) n c) n xs ∧ w.grownBy wr (some g)) (fun _ i _ => n - (intOf i).toNat)
  case atStart => exact ⟨0, _, by omega, rfl, by simp, by show _ = _; simp [ecells, marks], HO0.out, ⟨rfl, rfl, rfl, Nat.le_refl _, fun _ _ _ => rfl⟩⟩
  case round =>
    obtain ⟨j, xs, hj, rfl, rfl, hx, hown, hgr⟩ := hrel
    clear HO0
    have hl3 : xs.length = n * 2 := hown.1
    by_cases hlt : j < n
    · have b1 : (0 : Int) ≤ (j : Int) := by omega
      have b2 : (j : Int) < (n : Int) := by omega
      obtain ⟨y0, c0⟩ : ∃ y, wr.cell? ⟨g, j * 2, none⟩ = some y := ⟨_, by rw [hown.cellAt (j * 2) (by omega)]; exact List.getElem?_eq_getElem (by omega)⟩
      obtain ⟨y1, c1⟩ : ∃ y, wr.cell? ⟨g, j * 2 + 1, none⟩ = some y := ⟨_, by rw [hown.cellAt (j * 2 + 1) (by omega)]; exact List.getElem?_eq_getElem (by omega)⟩
      have f0 := hown.frozenAt (j * 2)
      have f1 := hown.frozenAt (j * 2 + 1)
      have hst1 := hown.stored (j * 2) (.int .i64 ((k0 : Int) + (j : Int) * 2))
      have hst2 := hst1.1.stored (j * 2 + 1) (.int .i64 ((k0 : Int) + (j : Int) * 2 + 1))
      have HO2 := hideIt hst2.1
      have HG2 := hideIt (grown_trans (grown_trans hgr hst1.2) hst2.2)
      have HX : Hid (((xs.set (j * 2) (.int .i64 ((k0 : Int) + (j : Int) * 2))).set (j * 2 + 1) (.int .i64 ((k0 : Int) + (j : Int) * 2 + 1))).take ((j + 1) * 2) = ecells (marks k0 (j + 1))) := by
        show _ = _
        rw [show (j + 1) * 2 = j * 2 + 2 by omega, take_set2 _ _ _ _ (by omega), hx.out, marks_snoc, ecells_snoc]
      clear hst1 hst2 hx hown hgr
      go_wp2
      exact ⟨⟨j + 1, _, by omega, by go_num, by go_num, HX, HO2.out, HG2.out⟩, by simp [intOf]; omega⟩
    · obtain rfl : j = n := by omega
      have HX : Hid (xs = ecells (marks k0 j)) := by
        show _ = _
        have := hx.out
        rw [List.take_of_length_le (by omega)] at this
        exact this
      have HO := hideIt hown
      clear hx hown
      go_wp2
      go_ret
      exact ⟨rfl, by rw [← HX.out]; exact HO.out, hgr⟩

set_option maxRecDepth 100000 in
set_option maxHeartbeats 4000000 in
theorem heldEdgeS_any (n k0 : Nat) (a : Option Addr) (c : Nat) (hn : n ≤ 1048576) (hk1 : k0 ≤ 10000000) (w : World) (h : Es w w.heap.size a n (marks k0 n)) :
    Calls Tryz.prog 17 #[.slice a n c, .int .i64 (k0 : Int)] w fun e w' => e = .returned (.int .i64 ((k0 : Int) + (n : Int) * 2)) ∧ w' = w := by
  obtain ⟨_, hrow⟩ := h
  have HR := hideIt hrow
  clear hrow
  go_enter Tryz.func17, Tryz.ntmps17
  go_wp2
  go_loopw [1, 5] (fun kk i wr => ∃ j : Nat, j ≤ n ∧ i = .int .i64 (j : Int) ∧ kk = .int .i64 ((k0 : Int) + (j : Int) * 2) ∧ wr = w) (fun _ i _ => n - (intOf i).toNat)
  case atStart => exact ⟨0, by omega, rfl, by simp, rfl⟩
  case round =>
    obtain ⟨j, hj, rfl, rfl, hw⟩ := hrel
    have hw' := hw.symm
    subst hw'
    clear hw
    by_cases hlt : j < n
    · rcases HR.out with hz | ⟨b, off, rfl, hbl, hc⟩
      · omega
      · obtain ⟨c0, c1⟩ := hc j _ (marks_at k0 n j hlt)
        dsimp only at c0 c1
        have b1 : (0 : Int) ≤ (j : Int) := by omega
        have b2 : (j : Int) < (n : Int) := by omega
        clear hc
        go_wp2
        exact ⟨⟨j + 1, by omega, by go_num, by go_num, by first | trivial | rfl⟩, by simp [intOf]; omega⟩
    · obtain rfl : j = n := by omega
      go_wp2
      go_ret
      exact ⟨rfl, rfl⟩

end Go.Proofs.YtcieanhbipbhgaaGreatDoor
namespace Go.Proofs.YtcieanhbipbhgaaGreatDoor
open Go.RowKit

theorem info5 : (Tryz.prog.info? 5).map (fun i => (i.zero, i.size, i.bytes)) = some (some (.int .u8 0), 1, 1) := by kernel_rfl

/-- the cells of the bytes l -/
def bv (l : List UInt8) : List Value := l.map fun b => Value.int .u8 (b.toNat : Int)

theorem bv_snoc (l : List UInt8) (b : UInt8) (n : Int) (h : (b.toNat : Int) = n) : bv l ++ [Value.int .u8 n] = bv (l ++ [b]) := by
  subst h; simp [bv]

theorem one_new (w : World) (v : Value) (t : TypeId) : ∀ j u, [v][j]? = some u → (w.alloc (.cells #[v] t)).cell? ((⟨w.heap.size, 0, none⟩ : Addr).add j) = some u := by
  intro j u hj
  match j, hj with
  | 0, hj => simp at hj; subst hj; simp [Addr.add]

/-- behind an append to a row of the call's own, nothing below B has turned -/
theorem below_app {B : Nat} {w wr w1 : World} {v : Value} {n : Nat} {xs : List Value} {o : Obj} (hb : Below B w wr) (hB : B ≤ w.heap.size)
    (hown : wr.ownsRow B 5 1 v n xs) (hg : (wr.alloc o).grownBy w1 v.ownBlock) : Below B w w1 :=
  (hb.alloc (by have := hb.size; omega) _).grown hg (by have := hb.size; simp; omega) (fun k hk => (hown.lt k hk).1)

theorem below_appD {B : Nat} {w wr w1 : World} {v : Value} {n : Nat} {xs : List Value} {o : Obj} (hb : Below B w wr) (hB : B ≤ w.heap.size)
    (hown : wr.ownsRow B 5 1 v n xs) (hg : ((wr.alloc o).drew).grownBy w1 v.ownBlock) : Below B w w1 :=
  below_app (o := o) hb hB hown ⟨hg.os, hg.tape, hg.output, hg.size, hg.block⟩

/-- 'string(out)' of a row of bytes of the call's own -/
theorem conv_own {B n : Nat} {v : Value} {l : List UInt8} {w : World} (hown : w.ownsRow B 5 1 v n (bv l)) (hv : ¬ v = .slice none 0 0) :
    ∃ g cap, v = .slice (some ⟨g, 0, none⟩) l.length cap ∧ (convert 86 9 (.slice (some ⟨g, 0, none⟩) l.length cap)).run Tryz.prog w = .ok (.string ⟨l.toArray⟩) w := by
  have hn : l.length = n := by have := hown.1; simpa [bv] using this
  subst hn
  have hown0 := hown
  rcases hown.2 with ⟨h, _⟩ | ⟨g, cap, cur, rfl, -, -, -, -, -, -⟩
  · exact absurd h hv
  · exact ⟨g, cap, rfl, run_convert_bytes_back (P := Tryz.prog) w 86 9 5 ⟨g, 0, none⟩ cap l Tryz.underlying86 Tryz.underlying5 Tryz.underlying9 (fun j hj => hown0.cells (g := g) rfl j _ (by simp [bv, hj]))⟩

theorem conv_at {B n g cap : Nat} {l : List UInt8} {w : World} (hown : w.ownsRow B 5 1 (.slice (some ⟨g, 0, none⟩) n cap) n (bv l)) :
    (convert 86 9 (.slice (some ⟨g, 0, none⟩) n cap)).run Tryz.prog w = .ok (.string ⟨l.toArray⟩) w := by
  obtain ⟨g', cap', hv, hcv⟩ := conv_own hown (by simp)
  rw [hv]
  exact hcv

end Go.Proofs.YtcieanhbipbhgaaGreatDoor
