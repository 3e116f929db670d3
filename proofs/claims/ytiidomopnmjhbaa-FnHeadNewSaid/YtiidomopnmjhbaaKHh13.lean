/- Edges: when one is right; which comes first. Edges in a list, and what the laws' own functions over graphs answer. Heads in memory; the laws' own functions over them: szHead, toHead, eqHead. szHead, toHead, eqHead. Cells of a box, set one behind the other; toTask. toHead, eqHead: a head laid anew, a head held against itself. -/
import Derived.Test.YtiidomopnmjhbaaProg
import GoSem.Claim
import GoSem.ClaimJoined
import GoSem.ClaimMapViews
import Derived.JoinedTies
import Derived.KernelRfl
import Derived.WalkKit
import Derived.WalkSpells
import Derived.WalkSmall
import Derived.OwnWalk
import Derived.BigQuiet
import Derived.Deep.QuietTactic
import Derived.Deep.MidRow
import Derived.Deep.RegionHeld3
import Derived.Test.YtiidomopnmjhbaaKSd13
namespace Go.Proofs.Ytiidomopnmjhbaa.O
open Go.RowKit

theorem hideIt {p : Prop} (h : p) : Hid p := h

/-- an operation that its guard passes over is taken first -/
theorem skipOp {P : Program} {ops : Array Oper} {Q : Exit → Go.Act → World → Prop} {md : Region.Mode} {i : Nat} {oi : Oper} {fuel : Nat} {listed : Array Bool} {a : Go.Act} {w : World} (hi : ops[i]? = some oi)
    (hs : Region.noSelect ops = true) (hf : Region.free md ops listed i = true) (hr : (Region.ready md ops listed).contains i = true) (hQ : ∀ c a w, Q (.panic c) (a.put oi.dst undef) w → Q (.panic c) a w)
    (hw : Region.wanted oi (yielded ops a.tmps) = false) (h : wpAny P md ops Q fuel (listed.setIfInBounds i true) (a.put oi.dst undef) w) : wpAny P md ops Q (fuel + 1) listed a w :=
  wpAny_take hi hs hf hr hQ (.inr ⟨hw, rfl⟩) h
/-- an operation that looks at no memory is taken first -/
theorem takeOp {P : Program} {ops : Array Oper} {Q : Exit → Go.Act → World → Prop} {md : Region.Mode} {i : Nat} {oi : Oper} {v : Value} {fuel : Nat} {listed : Array Bool} {a : Go.Act} {w : World} (hi : ops[i]? = some oi)
    (hs : Region.noSelect ops = true) (hf : Region.free md ops listed i = true) (hr : (Region.ready md ops listed).contains i = true) (hQ : ∀ c a w, Q (.panic c) (a.put oi.dst v) w → Q (.panic c) a w)
    (hw : Region.wanted oi (yielded ops a.tmps) = true) (hv : ∀ w, (execOp a.eval oi).run P w = .ok (.value v) w) (h : wpAny P md ops Q fuel (listed.setIfInBounds i true) (a.put oi.dst v) w) : wpAny P md ops Q (fuel + 1) listed a w :=
  wpAny_take hi hs hf hr hQ (.inl ⟨hw, hv⟩) h

/-- an edge -/
abbrev EdgeV := Int × Int

theorem bret {p q : Prop} [Decidable p] [Decidable q] (h : p ↔ q) : Ending.returned (.bool (decide p)) = Ending.returned (.bool (decide q)) := by rw [decide_eq_decide.2 h]

/-- the edge is right -/
def eB (n : Int) (e : EdgeV) : Bool := decide (1 ≤ n ∧ n ≤ 12 ∧ 0 ≤ e.1 ∧ e.1 < e.2 ∧ e.2 < n)

theorem l01In_any (x a b : Int) (w : World) : Calls Try.prog 23 #[.int .i64 x, .int .i64 a, .int .i64 b] w fun e w' => e = .returned (.bool (decide (a ≤ x ∧ x ≤ b))) ∧ w' = w := by
  by_cases h1 : a ≤ x
  · by_cases h2 : x ≤ b
    · have d1 : decide (a ≤ x) = true := by simpa using h1
      have d2 : decide (x ≤ b) = true := by simpa using h2
      go_enter Try.func23, Try.ntmps23
      go_wp2
      go_ret
      exact ⟨by simp [h1, h2], rfl⟩
    · have d1 : decide (a ≤ x) = true := by simpa using h1
      have d2 : decide (x ≤ b) = false := by simpa using h2
      go_enter Try.func23, Try.ntmps23
      go_wp2
      go_ret
      exact ⟨by simp, rfl⟩
  · have d1 : decide (a ≤ x) = false := by simpa using h1
    go_enter Try.func23, Try.ntmps23
    go_wp2
    go_ret
    exact ⟨by simp, rfl⟩

theorem vertsOk_any (x : Int) (w : World) : Calls Try.prog 20 #[.int .i64 x] w fun e w' => e = .returned (.bool (decide (1 ≤ x ∧ x ≤ 12))) ∧ w' = w := by
  by_cases h1 : 1 ≤ x
  · by_cases h2 : x ≤ 12
    · have d1 : decide (1 ≤ x) = true := by simpa using h1
      have d2 : decide (x ≤ 12) = true := by simpa using h2
      go_enter Try.func20, Try.ntmps20
      go_wp2
      go_ret
      exact ⟨by simp [h1, h2], rfl⟩
    · have d1 : decide (1 ≤ x) = true := by simpa using h1
      have d2 : decide (x ≤ 12) = false := by simpa using h2
      go_enter Try.func20, Try.ntmps20
      go_wp2
      go_ret
      exact ⟨by simp, rfl⟩
  · have d1 : decide (1 ≤ x) = false := by simpa using h1
    go_enter Try.func20, Try.ntmps20
    go_wp2
    go_ret
    exact ⟨by simp, rfl⟩

theorem iEdgeOk_any (n : Int) (e : EdgeV) (w : World) :
    Calls Try.prog 121 #[.int .i64 n, .agg #[.int .i64 e.1, .int .i64 e.2]] w fun x w' => x = .returned (.bool (eB n e)) ∧ Below w.heap.size w w' := by
  obtain ⟨a, b⟩ := e
  dsimp only
  have HI := hideIt vertsOk_any
  by_cases h1 : 1 ≤ n ∧ n ≤ 12
  · have r1 : decide (1 ≤ n ∧ n ≤ 12) = true := by simpa using h1
    by_cases h2 : 0 ≤ a
    · have r2 : decide (0 ≤ a) = true := by simpa using h2
      by_cases h3 : a < b
      · have r3 : decide (a < b) = true := by simpa using h3
        go_enter Try.func121, Try.ntmps121
        go_wp2_with (go_at_call 20; refine (HI.out _ _).mono ?_; rintro e w1 ⟨rfl, rfl⟩)
        go_ret
        exact ⟨bret (by dsimp only; omega), (Below.refl _ _).alloc (Nat.le_refl _) _⟩
      · have r3 : decide (a < b) = false := by simpa using h3
        go_enter Try.func121, Try.ntmps121
        go_wp2_with (go_at_call 20; refine (HI.out _ _).mono ?_; rintro e w1 ⟨rfl, rfl⟩)
        go_ret
        exact ⟨by simp [eB]; omega, (Below.refl _ _).alloc (Nat.le_refl _) _⟩
    · have r2 : decide (0 ≤ a) = false := by simpa using h2
      go_enter Try.func121, Try.ntmps121
      go_wp2_with (go_at_call 20; refine (HI.out _ _).mono ?_; rintro e w1 ⟨rfl, rfl⟩)
      go_ret
      exact ⟨by simp [eB]; omega, (Below.refl _ _).alloc (Nat.le_refl _) _⟩
  · have r1 : decide (1 ≤ n ∧ n ≤ 12) = false := by simpa using h1
    go_enter Try.func121, Try.ntmps121
    go_wp2_with (go_at_call 20; refine (HI.out _ _).mono ?_; rintro e w1 ⟨rfl, rfl⟩)
    go_ret
    exact ⟨by simp [eB]; omega, (Below.refl _ _).alloc (Nat.le_refl _) _⟩
end Go.Proofs.Ytiidomopnmjhbaa.O
namespace Go.Proofs.Ytiidomopnmjhbaa.O
open Go.RowKit

/-- the list of edges es stands at a, n of them, below block B -/
def Es (w : World) (B : Nat) (a : Option Addr) (n : Nat) (es : List EdgeV) : Prop :=
  es.length = n ∧ (n = 0 ∨ ∃ b off, a = some ⟨b, off, none⟩ ∧ b < B ∧ ∀ (j : Nat) (f : EdgeV), es[j]? = some f →
    w.cell? ⟨b, off + j * 2, none⟩ = some (.int .i64 f.1) ∧ w.cell? ⟨b, off + j * 2 + 1, none⟩ = some (.int .i64 f.2))

theorem take_snocF {α : Type} (fs : List α) (k : Nat) (f : α) (h : fs[k]? = some f) : fs.take (k + 1) = fs.take k ++ [f] := by
  obtain ⟨hk, rfl⟩ := List.getElem?_eq_some_iff.1 h
  rw [List.take_succ_eq_append_getElem hk]

theorem Es.alloc {w : World} {B : Nat} {a : Option Addr} {n : Nat} {fs : List EdgeV} (h : Es w B a n fs) (hB : B ≤ w.heap.size) (o : Obj) : Es (w.alloc o) B a n fs := by
  refine ⟨h.1, h.2.imp id ?_⟩
  rintro ⟨b, off, ha, hb, hc⟩
  refine ⟨b, off, ha, hb, fun j f hf => ?_⟩
  have hbl : b < w.heap.size := by omega
  obtain ⟨c0, c1⟩ := hc j f hf
  exact ⟨by rw [World.cell?_of_block (w := w) (Below.heap_alloc w o b hbl)]; exact c0, by rw [World.cell?_of_block (w := w) (Below.heap_alloc w o b hbl)]; exact c1⟩

theorem Es.below {w w' : World} {B C : Nat} {a : Option Addr} {n : Nat} {fs : List EdgeV} (h : Es w B a n fs) (hb : Below C w w') (hB : B ≤ C) : Es w' B a n fs := by
  refine ⟨h.1, h.2.imp id ?_⟩
  rintro ⟨b, off, ha, hbl, hc⟩
  refine ⟨b, off, ha, hbl, fun j f hf => ?_⟩
  obtain ⟨c0, c1⟩ := hc j f hf
  have hl : b < C := by omega
  exact ⟨by rw [hb.cell (p := ⟨b, _, none⟩) hl]; exact c0, by rw [hb.cell (p := ⟨b, _, none⟩) hl]; exact c1⟩

theorem Es.mono {w : World} {B C : Nat} {a : Option Addr} {n : Nat} {fs : List EdgeV} (h : Es w B a n fs) (hB : B ≤ C) : Es w C a n fs := by
  refine ⟨h.1, h.2.imp id ?_⟩
  rintro ⟨b, off, ha, hbl, hc⟩
  exact ⟨b, off, ha, by omega, hc⟩

theorem Es.up {w w' : World} {a : Option Addr} {n : Nat} {fs : List EdgeV} (h : Es w w.heap.size a n fs) (hb : Below w.heap.size w w') : Es w' w'.heap.size a n fs :=
  (h.below hb (Nat.le_refl _)).mono hb.size

/-- the cells of an edge -/
def ecell (f : EdgeV) : List Value := [.int .i64 f.1, .int .i64 f.2]
/-- the cells of a list of edges -/
def ecells (fs : List EdgeV) : List Value := fs.flatMap ecell

theorem ecells_length (fs : List EdgeV) : (ecells fs).length = fs.length * 2 := by
  induction fs with
  | nil => rfl
  | cons f fs ih => simp only [ecells, List.flatMap_cons, List.length_append, List.length_cons] at ih ⊢; rw [ih]; simp [ecell]; omega

theorem ecells_at (fs : List EdgeV) (j : Nat) (f : EdgeV) (h : fs[j]? = some f) :
    (ecells fs)[j * 2]? = some (.int .i64 f.1) ∧ (ecells fs)[j * 2 + 1]? = some (.int .i64 f.2) := by
  induction fs generalizing j with
  | nil => simp at h
  | cons g fs ih =>
    cases j with
    | zero => simp at h; subst h; simp [ecells, ecell]
    | succ j =>
      have h2 := ih j (by simpa using h)
      have e : ∀ m, (ecells (g :: fs))[m + 2]? = (ecells fs)[m]? := fun m => by simp [ecells, ecell]
      refine ⟨?_, ?_⟩
      · rw [show (j + 1) * 2 = j * 2 + 2 by omega, e]; exact h2.1
      · rw [show (j + 1) * 2 + 1 = j * 2 + 1 + 2 by omega, e]; exact h2.2

theorem take_set2 {α : Type} (xs : List α) (m : Nat) (a b : α) (h : m + 2 ≤ xs.length) : ((xs.set m a).set (m + 1) b).take (m + 2) = xs.take m ++ [a, b] := by
  apply List.ext_getElem?
  intro i
  have hl : (xs.take m).length = m := by simp; omega
  by_cases h1 : i < m
  · rw [List.getElem?_append_left (by omega), List.getElem?_take_of_lt h1, List.getElem?_take_of_lt (by omega), List.getElem?_set_ne (by omega), List.getElem?_set_ne (by omega)]
  · rw [List.getElem?_append_right (by omega), hl]
    by_cases h2 : i < m + 2
    · rw [List.getElem?_take_of_lt h2]
      rcases (show i = m ∨ i = m + 1 by omega) with rfl | rfl
      · rw [List.getElem?_set_ne (by omega), List.getElem?_set_self (by omega)]; simp
      · rw [List.getElem?_set_self (by simp; omega)]; simp
    · rw [List.getElem?_eq_none (by simp; omega), List.getElem?_eq_none (by simp; omega)]

theorem ecells_snoc (fs : List EdgeV) (f : EdgeV) : ecells (fs ++ [f]) = ecells fs ++ [.int .i64 f.1, .int .i64 f.2] := by simp [ecells, ecell]
theorem ecells_append (fs gs : List EdgeV) : ecells (fs ++ gs) = ecells fs ++ ecells gs := by simp [ecells]

theorem infoIE : (Try.prog.info? 107).map (fun i => (i.zero, i.size, i.bytes)) = some (some (.agg #[.int .i64 0, .int .i64 0]), 2, 16) := by kernel_rfl

theorem bcell {W w1 : World} (hb : Below W.heap.size W w1) : (∀ b o, b < W.heap.size → w1.cell? ⟨b, o, none⟩ = W.cell? ⟨b, o, none⟩) ∧ (∀ b o, b < W.heap.size → w1.frozen? ⟨b, o, none⟩ = W.frozen? ⟨b, o, none⟩) :=
  ⟨fun b o h => hb.cell (p := ⟨b, o, none⟩) h, fun b o h => hb.frozen (p := ⟨b, o, none⟩) h⟩

/-- a list of one's own reads as its edges -/
theorem Es_of_own {w : World} {B n c : Nat} {a : Option Addr} {fs : List EdgeV} (h : w.ownsRow B 107 2 (.slice a n c) n (ecells fs)) : Es w w.heap.size a n fs := by
  have hl := h.1
  rw [ecells_length] at hl
  refine ⟨by omega, ?_⟩
  rcases h.2 with ⟨hv, h0⟩ | ⟨g, cap, cur, hv, hrest⟩
  · exact .inl h0
  · simp at hv
    obtain ⟨rfl, rfl⟩ := hv
    by_cases h0 : n = 0
    · exact .inl h0
    · refine .inr ⟨g, 0, rfl, (h.lt g rfl).2, fun j f hf => ?_⟩
      have hj : j < fs.length := (List.getElem?_eq_some_iff.1 hf).1
      obtain ⟨c0, c1⟩ := ecells_at fs j f hf
      rw [Nat.zero_add]
      exact ⟨by rw [h.cellAt (j * 2) (by omega)]; exact c0, by rw [h.cellAt (j * 2 + 1) (by omega)]; exact c1⟩

theorem grownSet (w : World) (G j : Nat) (u : Value) : w.grownBy (w.setCell ⟨G, j, none⟩ u) (some G) :=
  ⟨rfl, rfl, rfl, by simp [World.setCell], fun k _ hk => heap_setCell_other w ⟨G, j, none⟩ k u (fun e => hk (by simp [e]))⟩

theorem own_setOther {w : World} {B e s g n cap : Nat} {xs : List Value} (h : w.ownsRow B e s (.slice (some ⟨g, 0, none⟩) n cap) n xs) (G j : Nat) (u : Value) (hG : g ≠ G) :
    (w.setCell ⟨G, j, none⟩ u).ownsRow B e s (.slice (some ⟨g, 0, none⟩) n cap) n xs :=
  World.ownsRow.kept h (grownSet w G j u) (.inr (by simp [Value.ownBlock]; exact fun e => hG e))

theorem own_mono {w : World} {B B' e s n : Nat} {v : Value} {xs : List Value} (h : w.ownsRow B e s v n xs) (hB : B' ≤ B) : w.ownsRow B' e s v n xs :=
  ⟨h.1, h.2.imp id (fun ⟨g, cap, cur, a, b, rest⟩ => ⟨g, cap, cur, a, Nat.le_trans hB b, rest⟩)⟩

theorem eqEdge_yes (f : EdgeV) (w : World) :
    Calls Try.prog 127 #[.agg #[.int .i64 f.1, .int .i64 f.2], .agg #[.int .i64 f.1, .int .i64 f.2]] w fun e w' => e = .returned (.bool true) ∧ Below w.heap.size w w' := by
  go_enter Try.func127, Try.ntmps127
  go_wp2
  go_ret
  exact ⟨rfl, ((Below.refl _ _).alloc (Nat.le_refl _) _).alloc (by simp) _⟩

set_option maxRecDepth 100000 in
set_option maxHeartbeats 2000000 in
theorem eqEdgeS_same (fs : List EdgeV) (n : Nat) (a a' : Option Addr) (c c' : Nat) (hn : n ≤ 1048576) (w : World) (h : Es w w.heap.size a n fs) (h' : Es w w.heap.size a' n fs) :
    Calls Try.prog 85 #[.slice a n c, .slice a' n c'] w fun e w' => e = .returned (.bool true) ∧ Below w.heap.size w w' := by
  obtain ⟨hlen, hrow⟩ := h
  obtain ⟨_, hrow'⟩ := h'
  have HR := hideIt hrow
  have HR' := hideIt hrow'
  clear hrow hrow'
  go_enter Try.func85, Try.ntmps85
  go_wp2
  go_loopw [5] (fun i wr => ∃ k : Nat, k ≤ n ∧ i = .int .i64 (k : Int) ∧ Below w.heap.size w wr) (fun i _ => n - (intOf i).toNat)
  case atStart => exact ⟨0, by omega, rfl, Below.refl _ _⟩
  case round =>
    obtain ⟨k, hk, rfl, hb⟩ := hrel
    by_cases hlt : k < n
    · rcases HR.out with hz | ⟨b, off, rfl, hbl, hc⟩
      · omega
      · rcases HR'.out with hz | ⟨b', off', rfl, hbl', hc'⟩
        · omega
        · obtain ⟨f, hf⟩ : ∃ f, fs[k]? = some f := ⟨fs[k]'(by omega), List.getElem?_eq_getElem (by omega)⟩
          obtain ⟨c0, c1⟩ := hc k f hf
          obtain ⟨d0, d1⟩ := hc' k f hf
          have e0 : wr.cell? ⟨b, off + k * 2, none⟩ = some (.int .i64 f.1) := by rw [hb.cell hbl]; exact c0
          have e1 : wr.cell? ⟨b, off + k * 2 + 1, none⟩ = some (.int .i64 f.2) := by rw [hb.cell hbl]; exact c1
          have e3 : wr.cell? ⟨b', off' + k * 2, none⟩ = some (.int .i64 f.1) := by rw [hb.cell hbl']; exact d0
          have e4 : wr.cell? ⟨b', off' + k * 2 + 1, none⟩ = some (.int .i64 f.2) := by rw [hb.cell hbl']; exact d1
          have b1 : (0 : Int) ≤ (k : Int) := by omega
          have b2 : (k : Int) < (n : Int) := by omega
          have HT : Hid (∀ W : World, Below w.heap.size w W → Calls Try.prog 127 #[.agg #[.int .i64 f.1, .int .i64 f.2], .agg #[.int .i64 f.1, .int .i64 f.2]] W fun e w' => e = .returned (.bool true) ∧ Below w.heap.size w w') := fun W hW =>
            (eqEdge_yes f W).mono fun _ _ ⟨he, hb'⟩ => ⟨he, hW.trans (hb'.mono hW.size)⟩
          have HK : Hid (∀ W : World, Below w.heap.size w W → (W.cell? ⟨b, off + k * 2, none⟩ = some (.int .i64 f.1) ∧ W.cell? ⟨b, off + k * 2 + 1, none⟩ = some (.int .i64 f.2) ∧ W.cell? ⟨b', off' + k * 2, none⟩ = some (.int .i64 f.1) ∧ W.cell? ⟨b', off' + k * 2 + 1, none⟩ = some (.int .i64 f.2))) := fun W hW =>
            ⟨by rw [hW.cell hbl]; exact c0, by rw [hW.cell hbl]; exact c1, by rw [hW.cell hbl']; exact d0, by rw [hW.cell hbl']; exact d1⟩
          have hbd := hb.drew
          clear c0 c1 d0 d1 hc hc' hf
          go_wp2
          go_region_held3 (fun u => Below w.heap.size w u ∧ u.cell? ⟨b, off + k * 2, none⟩ = some (.int .i64 f.1) ∧ u.cell? ⟨b, off + k * 2 + 1, none⟩ = some (.int .i64 f.2) ∧ u.cell? ⟨b', off' + k * 2, none⟩ = some (.int .i64 f.1) ∧ u.cell? ⟨b', off' + k * 2 + 1, none⟩ = some (.int .i64 f.2))
            (first | exact ⟨hb3, HK.out _ hb3⟩ | exact ⟨hbd, HK.out _ hbd⟩)
            ((go_at_call 127; refine (HT.out _ hbd).mono ?_; rintro e w1 ⟨rfl, hb3⟩))
          clear hbd
          go_wp2
          go_roundw
          case rel => exact ⟨k + 1, by omega, by go_num, hb3⟩
          case measure => simp [intOf]; omega
    · go_wp2
      go_ret
      exact ⟨rfl, hb⟩

end Go.Proofs.Ytiidomopnmjhbaa.O
namespace Go.Proofs.Ytiidomopnmjhbaa
open Go.RowKit

/-- a box of any cells -/
def BxA (w : World) (b : Nat) (t : TypeId) (vs : Array Value) : Prop := w.heap[b]? = some (.cells vs t (0, 0))
section
variable {w u : World} {b : Nat} {t : TypeId} {vs : Array Value}
theorem BxA.new (w : World) (t : TypeId) (vs : Array Value) : BxA (w.alloc (.cells vs t)) w.heap.size t vs := heap_alloc_new w _
theorem BxA.lt (h : BxA w b t vs) : b < w.heap.size := (Array.getElem?_eq_some_iff.1 h).1
theorem BxA.up (h : BxA w b t vs) (hb : Below w.heap.size w u) : BxA u b t vs := by unfold BxA; rw [hb.block b h.lt]; exact h
theorem BxA.cell (h : BxA w b t vs) (i : Nat) {v : Value} (hv : vs[i]? = some v) : w.cell? ⟨b, i, none⟩ = some v := by rw [cell_of_row w b i _ _ _ h]; exact hv
theorem BxA.set (h : BxA w b t vs) (i : Nat) (v : Value) : BxA (w.setCell ⟨b, i, none⟩ v) b t (vs.setIfInBounds i v) := heap_setCell_same w b i _ t v h
theorem BxA.setO {G j : Nat} (h : BxA w b t vs) (v : Value) (hG : b ≠ G) : BxA (w.setCell ⟨G, j, none⟩ v) b t vs := by
  unfold BxA
  rw [heap_setCell_other _ _ _ _ (by first | exact hG | exact fun e => hG e.symm)]
  exact h
theorem BxA.frozen (h : BxA w b t vs) (j : Nat) : w.frozen? ⟨b, j, none⟩ = false := frozen_of_row w b j _ _ h
end

/-- a slice's three words -/
structure Sx where
  a : Option Addr
  n : Nat
  c : Nat
abbrev Sx.v (s : Sx) : Value := .slice s.a s.n s.c
/-- a head -/
structure Hd where
  N : Int
  own : List Int
  cuts : List O.EdgeV
  lab : List (List Int)
  nums : List Int
  i : Int
  o : Int
  a : Int
  b : Int
  sh : Int
  num : Int
  op : Int
  es : List O.EdgeV
  v : Int
  said : List Sd
/-- its lists -/
structure Hp where
  o : Sx
  c : Sx
  l : Sx
  n : Sx
  e : Sx
  s : Sx
/-- its cells -/
abbrev hC (h : Hd) (p : Hp) : Array Value := #[.int .i64 h.N, p.o.v, p.c.v, p.l.v, p.n.v, .int .i64 h.i, .int .i64 h.o, .int .i64 h.a, .int .i64 h.b, .int .i64 h.sh, .int .i64 h.num, .int .i64 h.op, p.e.v, .int .i64 h.v, p.s.v]
/-- it stands in memory -/
structure HIn (w : World) (h : Hd) (p : Hp) : Prop where
  o : Is w w.heap.size p.o.a p.o.n h.own
  c : O.Es w w.heap.size p.c.a p.c.n h.cuts
  l : Ts w w.heap.size p.l.a p.l.n h.lab
  n : Is w w.heap.size p.n.a p.n.n h.nums
  e : O.Es w w.heap.size p.e.a p.e.n h.es
  s : Ss w w.heap.size p.s.a p.s.n h.said
theorem HIn.up {w u : World} {h : Hd} {p : Hp} (k : HIn w h p) (hb : Below w.heap.size w u) : HIn u h p := ⟨k.o.up hb, k.c.up hb, k.l.up hb, k.n.up hb, k.e.up hb, k.s.up hb⟩
/-- its lists are no greater than a law looks at -/
structure HFit (h : Hd) (p : Hp) : Prop where
  o : p.o.n ≤ 1048576
  c : p.c.n ≤ 1048576
  l : p.l.n + lnS h.lab ≤ 1048576
  n : p.n.n ≤ 1048576
  e : p.e.n ≤ 1048576
  s : p.s.n ≤ 1048576
/-- lists as the machine has them -/
structure HMax (h : Hd) (p : Hp) : Prop where
  o : p.o.n ≤ maxLen
  c : p.c.n ≤ maxLen
  l : p.l.n ≤ maxLen
  ll : ∀ t ∈ h.lab, t.length ≤ maxLen
  n : p.n.n ≤ maxLen
  e : p.e.n ≤ maxLen
  s : p.s.n ≤ maxLen

end Go.Proofs.Ytiidomopnmjhbaa
namespace Go.Proofs.Ytiidomopnmjhbaa
open Go.RowKit

abbrev orV (num op : Int) (e : Sx) (v : Int) : Value := .agg #[.int .i64 num, .int .i64 op, e.v, .int .i64 v]
abbrev tkV (h : Hd) (e : Sx) : Value := .agg #[.int .i64 h.i, .int .i64 h.o, .int .i64 h.a, .int .i64 h.b, .int .i64 h.sh, .int .i64 h.num, .int .i64 h.op, e.v, .int .i64 h.v]
theorem belA (w : World) (o : Obj) : Below w.heap.size w (w.alloc o) := (Below.refl _ _).alloc (Nat.le_refl _) _
end Go.Proofs.Ytiidomopnmjhbaa
namespace Go.Proofs.Ytiidomopnmjhbaa
open Go.RowKit

/-- cells k, k + 1 .. of block b are set -/
def setA (w : World) (b : Nat) : Nat → List Value → World
  | _, [] => w
  | k, v :: vs => setA (w.setCell ⟨b, k, none⟩ v) b (k + 1) vs
def setV (cs : List Value) : Nat → List Value → List Value
  | _, [] => cs
  | k, v :: vs => setV (cs.set k v) (k + 1) vs
section
variable {w u : World} {b : Nat} {t : TypeId} {cs : Array Value}
theorem BxA.setA {l : List Value} (h : BxA w b t l.toArray) (k : Nat) (vs : List Value) : BxA (setA w b k vs) b t (setV l k vs).toArray := by
  induction vs generalizing w l k with
  | nil => exact h
  | cons v vs ih => exact ih (by have := h.set k v; rw [List.setIfInBounds_toArray] at this; exact this) (k + 1)
theorem BxA.at {l : List Value} (h : BxA w b t l.toArray) (i : Nat) {v : Value} (hv : l[i]? = some v) : w.cell? ⟨b, i, none⟩ = some v := h.cell i (by rw [List.getElem?_toArray]; exact hv)
theorem BxA.setAO {G : Nat} (h : BxA w b t cs) (k : Nat) (vs : List Value) (hG : b ≠ G) : BxA (Go.Proofs.Ytiidomopnmjhbaa.setA w G k vs) b t cs := by
  induction vs generalizing w k with
  | nil => exact h
  | cons v vs ih => exact ih (h.setO v hG) (k + 1)
theorem below_setA {C G : Nat} (h : Below C w u) (hb : C ≤ G) (k : Nat) (vs : List Value) : Below C w (Go.Proofs.Ytiidomopnmjhbaa.setA u G k vs) := by
  induction vs generalizing u k with
  | nil => exact h
  | cons v vs ih => exact ih (h.setCell (p := ⟨G, k, none⟩) hb v) (k + 1)
theorem own_lowA {B e s n G j : Nat} {x : Value} {xs : List Value} {y : Value} (h : w.ownsRow B e s x n xs) (hG : G < B) : (w.setCell ⟨G, j, none⟩ y).ownsRow B e s x n xs :=
  World.ownsRow.kept h (grownSet w G j y) (.inr (fun e => by have := (h.lt G e).1; omega))
theorem own_setA {B e s n G : Nat} {x : Value} {xs : List Value} (h : w.ownsRow B e s x n xs) (hG : G < B) (k : Nat) (vs : List Value) : (Go.Proofs.Ytiidomopnmjhbaa.setA w G k vs).ownsRow B e s x n xs := by
  induction vs generalizing w k with
  | nil => exact h
  | cons v vs ih => exact ih (own_lowA h hG) (k + 1)
theorem fb_setA {lo hi G : Nat} {a : Option Addr} {n c : Nat} {R : List Rw} (h : FB w lo hi a n c R) (hG : G < lo) (k : Nat) (vs : List Value) : FB (Go.Proofs.Ytiidomopnmjhbaa.setA w G k vs) lo hi a n c R := by
  induction vs generalizing w k with
  | nil => exact h
  | cons v vs ih => exact ih (h.setLow hG k v) (k + 1)
theorem size_setA (k : Nat) (vs : List Value) : (Go.Proofs.Ytiidomopnmjhbaa.setA w b k vs).heap.size = w.heap.size := by
  induction vs generalizing w k with
  | nil => rfl
  | cons v vs ih => unfold Go.Proofs.Ytiidomopnmjhbaa.setA; rw [ih]; simp [World.setCell]
end

/-- where a function stands that lays a struct anew: what came in, the result's box, the new one's -/
structure TH (w : World) (s : Nat) (tl ti : TypeId) (lv rv iv : List Value) (u : World) : Prop where
  lw : BxA u s tl lv.toArray
  rs : BxA u (s + 1) ti rv.toArray
  out : BxA u (s + 1 + 1) ti iv.toArray
  below : Below s w u
section
variable {w u v : World} {s : Nat} {tl ti : TypeId} {lv rv iv : List Value}
theorem TH.lt (h : TH w s tl ti lv rv iv u) : s + 3 ≤ u.heap.size := h.out.lt
theorem TH.up (h : TH w s tl ti lv rv iv u) (hb : Below u.heap.size u v) : TH w s tl ti lv rv iv v := ⟨h.lw.up hb, h.rs.up hb, h.out.up hb, h.below.trans (hb.mono (by have := h.lt; omega))⟩
theorem TH.set (h : TH w s tl ti lv rv iv u) (k : Nat) (vs : List Value) : TH w s tl ti lv rv (setV iv k vs) (setA u (s + 1 + 1) k vs) := ⟨h.lw.setAO k vs (by omega), h.rs.setAO k vs (by omega), h.out.setA k vs, below_setA h.below (by omega) k vs⟩
theorem TH.start (w : World) (tl ti : TypeId) (lv rv iv : List Value) : TH w w.heap.size tl ti lv rv iv (((w.alloc (.cells lv.toArray tl)).alloc (.cells rv.toArray ti)).alloc (.cells iv.toArray ti)) := by
  have h1 := (BxA.new w tl lv.toArray).up (belA _ (.cells rv.toArray ti))
  have h2 := BxA.new (w.alloc (.cells lv.toArray tl)) ti rv.toArray
  have h3 := BxA.new ((w.alloc (.cells lv.toArray tl)).alloc (.cells rv.toArray ti)) ti iv.toArray
  exact ⟨h1.up (belA _ _), by simpa using h2.up (belA _ (.cells iv.toArray ti)), by simpa using h3, (((Below.refl _ _).alloc (Nat.le_refl _) _).alloc (by simp) _).alloc (by simp; omega) _⟩
end

end Go.Proofs.Ytiidomopnmjhbaa
namespace Go.Proofs.Ytiidomopnmjhbaa
open Go.RowKit

/-- its lists are ours -/
structure HOwn (w : World) (B : Nat) (h : Hd) (p : Hp) (R : List Rw) : Prop where
  o : w.ownsRow B 3 1 p.o.v p.o.n (ic h.own)
  c : w.ownsRow B 107 2 p.c.v p.c.n (O.ecells h.cuts)
  l : FB w B w.heap.size p.l.a p.l.n p.l.c R
  r : rts R = h.lab
  n : w.ownsRow B 3 1 p.n.v p.n.n (ic h.nums)
  e : w.ownsRow B 107 2 p.e.v p.e.n (O.ecells h.es)
  s : w.ownsRow B 72 6 p.s.v p.s.n (scells h.said)
theorem Is_own {w : World} {B n c : Nat} {a : Option Addr} {ls : List Int} (h : w.ownsRow B 3 1 (.slice a n c) n (ic ls)) : Is w w.heap.size a n ls := Is_of_own h
theorem HOwn.inn {w : World} {B : Nat} {h : Hd} {p : Hp} {R : List Rw} (k : HOwn w B h p R) : HIn w h p := ⟨Is_own k.o, O.Es_of_own k.c, by rw [← k.r]; exact k.l.ts, Is_own k.n, O.Es_of_own k.e, Ss_of_own k.s⟩
theorem HOwn.up {w u : World} {B : Nat} {h : Hd} {p : Hp} {R : List Rw} (k : HOwn w B h p R) (hb : Below w.heap.size w u) : HOwn u B h p R := ⟨own_up k.o hb, own_up k.c hb, k.l.keep hb, k.r, own_up k.n hb, own_up k.e hb, own_up k.s hb⟩
theorem HOwn.low {w : World} {B B' : Nat} {h : Hd} {p : Hp} {R : List Rw} (k : HOwn w B h p R) (hB : B' ≤ B) : HOwn w B' h p R := ⟨own_mono k.o hB, own_mono k.c hB, k.l.lo hB, k.r, own_mono k.n hB, own_mono k.e hB, own_mono k.s hB⟩
theorem setV_all (l vs : List Value) (h : l.length = vs.length) : setV l 0 vs = vs := by
  have key : ∀ (vs pre l : List Value), l.length = vs.length → setV (pre ++ l) pre.length vs = pre ++ vs := by
    intro vs
    induction vs with
    | nil => intro pre l hl; rw [List.length_eq_zero_iff.1 hl]; rfl
    | cons v vs ih =>
      intro pre l hl
      cases l with
      | nil => simp at hl
      | cons x l =>
        have := ih (pre ++ [v]) l (by simpa using hl)
        rw [setV, List.set_append_right _ _ (Nat.le_refl _), Nat.sub_self, List.set_cons_zero]
        simpa using this
  exact key vs [] l h
theorem FB.setS {w : World} {lo G : Nat} {a : Option Addr} {n c : Nat} {R : List Rw} (h : FB w lo w.heap.size a n c R) (hG : G < lo) (k : Nat) (vs : List Value) : FB (setA w G k vs) lo (setA w G k vs).heap.size a n c R := by
  rw [size_setA]
  exact fb_setA h hG k vs

/-- lists as long, laid anew -/
abbrev newP (g1 g2 g3 g4 g5 g6 : Nat) (p : Hp) : Hp := ⟨⟨some ⟨g1, 0, none⟩, p.o.n, p.o.n⟩, ⟨some ⟨g2, 0, none⟩, p.c.n, p.c.n⟩, ⟨some ⟨g3, 0, none⟩, p.l.n, p.l.n⟩, ⟨some ⟨g4, 0, none⟩, p.n.n, p.n.n⟩, ⟨some ⟨g5, 0, none⟩, p.e.n, p.e.n⟩, ⟨some ⟨g6, 0, none⟩, p.s.n, p.s.n⟩⟩

end Go.Proofs.Ytiidomopnmjhbaa
