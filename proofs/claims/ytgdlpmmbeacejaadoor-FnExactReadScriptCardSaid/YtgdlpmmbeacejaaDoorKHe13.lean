/- toIntS: a list of ints laid anew. The laws' own functions over forests. Lists of what is said, in memory; the laws' own functions over them. Edges: when one is right; which comes first. Edges in a list, and what the laws' own functions over graphs answer. Heads in memory; the laws' own functions over them: szHead, toHead, eqHead. -/
import Derived.Test.YtgdlpmmbeacejaaDoorKFind6
import Derived.Test.YtgdlpmmbeacejaaDoorKMk7
import Derived.Deep.RegionHeld3
import Derived.Test.YtgdlpmmbeacejaaDoorProg
import GoSem.Claim
import GoSem.ClaimJoined
import GoSem.ClaimMapViews
import Derived.JoinedTies
import Derived.KernelRfl
import Derived.WalkKit
import Derived.WalkSpells
import Derived.WalkSmall
import Derived.OwnWalk
import Derived.BigQuiet
import Derived.Deep.QuietTactic
import Derived.Deep.MidRow
namespace Go.Proofs.YtgdlpmmbeacejaaDoor
open Go.RowKit

end Go.Proofs.YtgdlpmmbeacejaaDoor
namespace Go.Proofs.YtgdlpmmbeacejaaDoor
open Go.RowKit

/-- how many numbers the lists have -/
def lnS (ts : List (List Int)) : Nat := (ts.map List.length).sum
theorem lnS_snoc (ts : List (List Int)) (t : List Int) : lnS (ts ++ [t]) = lnS ts + t.length := by simp [lnS]
theorem lnS_take {ts : List (List Int)} {k : Nat} {t : List Int} (h : ts[k]? = some t) : lnS (ts.take (k + 1)) = lnS (ts.take k) + t.length := by
  rw [take_snocF ts k t h, lnS_snoc]
theorem lnS_take_le (ts : List (List Int)) (k : Nat) : lnS (ts.take k) ≤ lnS ts := by
  have : lnS ts = lnS (ts.take k) + lnS (ts.drop k) := by
    conv => lhs; rw [← List.take_append_drop k ts]
    rw [lnS, List.map_append, List.sum_append]
    rfl
  omega
theorem lnS_at {ts : List (List Int)} {k : Nat} {t : List Int} (h : ts[k]? = some t) : lnS (ts.take k) + t.length ≤ lnS ts := by
  rw [← lnS_take h]
  exact lnS_take_le ts (k + 1)
theorem lnS_mem {ts : List (List Int)} {t : List Int} (h : t ∈ ts) : t.length ≤ lnS ts := by
  obtain ⟨k, hk⟩ := List.mem_iff_getElem?.1 h
  have := lnS_at hk
  omega
theorem rn_lnS (R : List Rw) : rn R = lnS (rts R) := by
  induction R with
  | nil => rfl
  | cons r R ih => simp only [rn, ih]; simp [lnS, rts]
theorem lnS_zero (ts : List (List Int)) : lnS (ts.take 0) = 0 := by simp [lnS]

/-- what is left of the room -/
def szv (n : Nat) (ts : List (List Int)) : Int := if n + lnS ts ≤ 1048576 then 1048576 - (n : Int) - (lnS ts : Int) else -1

theorem infoIT : (Tryd.prog.info? 32).map (fun i => (i.zero, i.size, i.bytes)) = some (some (.slice none 0 0), 1, 24) := by kernel_rfl

/-- rows in the making: k of n are laid -/
structure FMk (w : World) (n : Nat) (R : List Rw) (u : World) : Prop where
  xs : ∃ xs : List Value, u.ownsRow w.heap.size 32 1 (.slice (some ⟨w.heap.size, 0, none⟩) n n) n xs ∧ xs.take R.length = rhs R
  ins : ∀ r ∈ R, RwB u r ∧ w.heap.size < r.g
  nod : R.Pairwise fun r s => r.g ≠ s.g
  bel : Below w.heap.size w u
theorem FMk.fb {w u : World} {n : Nat} {R : List Rw} (h : FMk w n R u) (hn : R.length = n) : FB u w.heap.size u.heap.size (some ⟨w.heap.size, 0, none⟩) n n R := by
  obtain ⟨xs, h1, h2⟩ := h.xs
  have hl := h1.1
  rw [List.take_of_length_le (by omega)] at h2
  subst h2
  exact ⟨hn, h1, fun g hg => (h1.lt g hg).2, Nat.le_refl _, fun r hr => ⟨(h.ins r hr).1, by have := (h.ins r hr).2; omega, (h.ins r hr).1.lt⟩, h.nod⟩
theorem FMk.add {w u v : World} {n : Nat} {R : List Rw} (h : FMk w n R u) {r : Rw} (hk : R.length < n) (hb : Below u.heap.size u v) (hr : RwB v r) (hg : u.heap.size ≤ r.g) : FMk w n (R ++ [r]) (v.setCell ⟨w.heap.size, R.length, none⟩ r.hdr) := by
  obtain ⟨xs, h1, h2⟩ := h.xs
  have h3 := own_up h1 hb
  have hst := h3.stored R.length r.hdr
  have hl := h1.1
  have hsz := (h1.lt w.heap.size rfl).2
  have hkeep : ∀ x, RwB v x → RwB (v.setCell ⟨w.heap.size, R.length, none⟩ r.hdr) x := fun x hx => hx.grown (grownSet v w.heap.size R.length r.hdr) (fun e => own_ne h3 hx (by simpa using e))
  refine ⟨⟨_, hst.1, ?_⟩, fun x hx => ?_, ?_, ?_⟩
  · rw [List.length_append, List.length_cons, List.length_nil, Nat.zero_add, List.take_add_one, List.take_set_of_le (Nat.le_refl _), h2, rhs_snoc]
    simp [show R.length < xs.length by omega]
  · rcases List.mem_append.1 hx with hx | hx
    · have := h.ins x hx
      exact ⟨hkeep x (this.1.rng (l2 := x.g + 1) (h2 := x.g + 1) (Rng.of_below hb) (.inl (Nat.le_refl _))), this.2⟩
    · simp at hx
      subst hx
      exact ⟨hkeep x hr, by omega⟩
  · rw [List.pairwise_append]
    refine ⟨h.nod, by simp, fun x hx y hy => ?_⟩
    simp at hy
    subst hy
    have := (h.ins x hx).1.lt
    omega
  · exact (h.bel.trans (hb.mono (by omega))).setCell (p := ⟨w.heap.size, R.length, none⟩) (Nat.le_refl _) _

/-- only the rows have turned -/
structure Tur (R : List Rw) (u v : World) : Prop where
  os : v.os = u.os
  tape : v.tape = u.tape
  output : v.output = u.output
  size : u.heap.size ≤ v.heap.size
  block : ∀ k, k < u.heap.size → (∀ r ∈ R, k ≠ r.g) → v.heap[k]? = u.heap[k]?
theorem Tur.rng {R : List Rw} {u v : World} {lo hi : Nat} (h : Tur R u v) (hr : ∀ r ∈ R, lo ≤ r.g ∧ r.g < hi) : Rng lo hi u v := ⟨h.os, h.tape, h.output, h.size, fun k hk ho => h.block k hk fun r hr2 e => by have := hr r hr2; omega⟩
theorem Tur.of_below {R : List Rw} {u v : World} (h : Below u.heap.size u v) : Tur R u v := ⟨h.os, h.tape, h.output, h.size, fun k hk _ => h.block k hk⟩
end Go.Proofs.YtgdlpmmbeacejaaDoor
namespace Go.Proofs.YtgdlpmmbeacejaaDoor
open Go.RowKit

/-- what is said of one question -/
structure Sd where
  id : Int
  i : Int
  o : Int
  a : Int
  b : Int
  s : Int
/-- one of them, as a walk reads it -/
structure SdAt (w : World) (b o : Nat) (x : Sd) : Prop where
  c0 : w.cell? ⟨b, o, none⟩ = some (.int .i64 x.id)
  c1 : w.cell? ⟨b, o + 1, none⟩ = some (.int .i64 x.i)
  c2 : w.cell? ⟨b, o + 2, none⟩ = some (.int .i64 x.o)
  c3 : w.cell? ⟨b, o + 3, none⟩ = some (.int .i64 x.a)
  c4 : w.cell? ⟨b, o + 4, none⟩ = some (.int .i64 x.b)
  c5 : w.cell? ⟨b, o + 5, none⟩ = some (.int .i64 x.s)
theorem SdAt.below {w u : World} {b o C : Nat} {x : Sd} (h : SdAt w b o x) (hb : Below C w u) (hC : b < C) : SdAt u b o x := by
  have e : ∀ o, u.cell? ⟨b, o, none⟩ = w.cell? ⟨b, o, none⟩ := fun o => hb.cell (p := ⟨b, o, none⟩) hC
  exact ⟨by rw [e]; exact h.c0, by rw [e]; exact h.c1, by rw [e]; exact h.c2, by rw [e]; exact h.c3, by rw [e]; exact h.c4, by rw [e]; exact h.c5⟩
/-- the list ss stands at a, n of them, below block B -/
def Ss (w : World) (B : Nat) (a : Option Addr) (n : Nat) (ss : List Sd) : Prop :=
  ss.length = n ∧ (n = 0 ∨ ∃ b off, a = some ⟨b, off, none⟩ ∧ b < B ∧ ∀ (j : Nat) (x : Sd), ss[j]? = some x → SdAt w b (off + j * 6) x)
theorem Ss.below {w w' : World} {B C : Nat} {a : Option Addr} {n : Nat} {ss : List Sd} (h : Ss w B a n ss) (hb : Below C w w') (hB : B ≤ C) : Ss w' B a n ss := by
  refine ⟨h.1, h.2.imp id ?_⟩
  rintro ⟨b, off, ha, hbl, hc⟩
  exact ⟨b, off, ha, hbl, fun j x hx => (hc j x hx).below hb (by omega)⟩
theorem Ss.mono {w : World} {B C : Nat} {a : Option Addr} {n : Nat} {ss : List Sd} (h : Ss w B a n ss) (hB : B ≤ C) : Ss w C a n ss := by
  refine ⟨h.1, h.2.imp id ?_⟩
  rintro ⟨b, off, ha, hbl, hc⟩
  exact ⟨b, off, ha, by omega, hc⟩
theorem Ss.up {w w' : World} {a : Option Addr} {n : Nat} {ss : List Sd} (h : Ss w w.heap.size a n ss) (hb : Below w.heap.size w w') : Ss w' w'.heap.size a n ss :=
  (h.below hb (Nat.le_refl _)).mono hb.size
theorem Ss.at {w : World} {B : Nat} {a : Option Addr} {n : Nat} {ss : List Sd} (h : Ss w B a n ss) {k : Nat} (hk : k < n) : ∃ b off x, a = some ⟨b, off, none⟩ ∧ b < B ∧ ss[k]? = some x ∧ SdAt w b (off + k * 6) x := by
  rcases h.2 with hz | ⟨b, off, ha, hb, hc⟩
  · omega
  · have hl := h.1
    have hx : ss[k]? = some (ss[k]'(by omega)) := List.getElem?_eq_getElem (by omega)
    exact ⟨b, off, _, ha, hb, hx, hc k _ hx⟩
def scell (x : Sd) : List Value := [.int .i64 x.id, .int .i64 x.i, .int .i64 x.o, .int .i64 x.a, .int .i64 x.b, .int .i64 x.s]
def scells (ss : List Sd) : List Value := ss.flatMap scell
theorem scells_length (ss : List Sd) : (scells ss).length = ss.length * 6 := by
  induction ss with
  | nil => rfl
  | cons f fs ih => simp only [scells, List.flatMap_cons, List.length_append, List.length_cons] at ih ⊢; rw [ih]; simp [scell]; omega
theorem scells_at (ss : List Sd) (j : Nat) (x : Sd) (h : ss[j]? = some x) (q : Nat) (hq : q < 6) : (scells ss)[j * 6 + q]? = (scell x)[q]? := by
  induction ss generalizing j with
  | nil => simp at h
  | cons g fs ih =>
    cases j with
    | zero =>
      simp at h
      subst h
      rw [show scells (g :: fs) = scell g ++ scells fs from rfl, List.getElem?_append_left (by show 0 * 6 + q < 6; omega)]
      simp
    | succ j =>
      have h2 := ih j (by simpa using h)
      rw [show scells (g :: fs) = scell g ++ scells fs from rfl, List.getElem?_append_right (by show 6 ≤ (j + 1) * 6 + q; omega), show (j + 1) * 6 + q - (scell g).length = j * 6 + q by show (j + 1) * 6 + q - 6 = _; omega]
      exact h2
theorem scells_snoc (ss : List Sd) (x : Sd) : scells (ss ++ [x]) = scells ss ++ scell x := by simp [scells]
theorem infoSd : (Tryd.prog.info? 158).map (fun i => (i.zero, i.size, i.bytes)) = some (some (.agg #[.int .i64 0, .int .i64 0, .int .i64 0, .int .i64 0, .int .i64 0, .int .i64 0]), 6, 48) := by kernel_rfl
theorem Ss_of_own {w : World} {B n c : Nat} {a : Option Addr} {ss : List Sd} (h : w.ownsRow B 158 6 (.slice a n c) n (scells ss)) : Ss w w.heap.size a n ss := by
  have hl := h.1
  rw [scells_length] at hl
  refine ⟨by omega, ?_⟩
  rcases h.2 with ⟨hv, h0⟩ | ⟨g, cap, cur, hv, hrest⟩
  · exact .inl h0
  · simp at hv
    obtain ⟨rfl, rfl⟩ := hv
    by_cases h0 : n = 0
    · exact .inl h0
    · refine .inr ⟨g, 0, rfl, (h.lt g rfl).2, fun j x hx => ?_⟩
      have hj : j < ss.length := (List.getElem?_eq_some_iff.1 hx).1
      have hc := scells_at ss j x hx
      rw [Nat.zero_add]
      have e0 := hc 0 (by omega)
      rw [Nat.add_zero] at e0
      exact ⟨by rw [h.cellAt (j * 6) (by omega)]; exact e0, by rw [h.cellAt (j * 6 + 1) (by omega)]; exact hc 1 (by omega), by rw [h.cellAt (j * 6 + 2) (by omega)]; exact hc 2 (by omega), by rw [h.cellAt (j * 6 + 3) (by omega)]; exact hc 3 (by omega), by rw [h.cellAt (j * 6 + 4) (by omega)]; exact hc 4 (by omega), by rw [h.cellAt (j * 6 + 5) (by omega)]; exact hc 5 (by omega)⟩
theorem ts1 (xs : List Value) (m : Nat) (a : Value) (h : m < xs.length) : (xs.set m a).take (m + 1) = xs.take m ++ [a] := by
  rw [List.take_add_one, List.take_set_of_le (Nat.le_refl _), List.getElem?_set_self h]
  rfl
theorem take_set6 (xs : List Value) (m : Nat) (a b c d e f : Value) (h : m + 6 ≤ xs.length) : ((((((xs.set m a).set (m + 1) b).set (m + 2) c).set (m + 3) d).set (m + 4) e).set (m + 5) f).take (m + 6) = xs.take m ++ [a, b, c, d, e, f] := by
  rw [ts1 _ (m + 5) f (by simp; omega), ts1 _ (m + 4) e (by simp; omega), ts1 _ (m + 3) d (by simp; omega), ts1 _ (m + 2) c (by simp; omega), ts1 _ (m + 1) b (by simp; omega), ts1 _ m a (by omega)]
  simp

/-- a question as a value -/
abbrev akV (i o a b : Int) : Value := .agg #[.int .i64 i, .int .i64 o, .int .i64 a, .int .i64 b]
abbrev sdV (x : Sd) : Value := .agg #[.int .i64 x.id, .int .i64 x.i, .int .i64 x.o, .int .i64 x.a, .int .i64 x.b, .int .i64 x.s]
theorem eqAsk_yes (i o a b : Int) (w : World) : Calls Tryd.prog 32 #[akV i o a b, akV i o a b] w fun e w' => e = .returned (.bool true) ∧ Below w.heap.size w w' := by
  go_enter Tryd.func32, Tryd.ntmps32
  go_wp2
  go_ret
  exact ⟨rfl, ((Below.refl _ _).alloc (Nat.le_refl _) _).alloc (by simp) _⟩

def SdC (W : World) (b o : Nat) (x : Sd) : Prop := ((W.cell? ⟨b, o, none⟩ = some (.int .i64 x.id) ∧ W.cell? ⟨b, o + 1, none⟩ = some (.int .i64 x.i)) ∧ (W.cell? ⟨b, o + 2, none⟩ = some (.int .i64 x.o) ∧ W.cell? ⟨b, o + 3, none⟩ = some (.int .i64 x.a))) ∧ (W.cell? ⟨b, o + 4, none⟩ = some (.int .i64 x.b) ∧ W.cell? ⟨b, o + 5, none⟩ = some (.int .i64 x.s))
end Go.Proofs.YtgdlpmmbeacejaaDoor
namespace Go.Proofs.YtgdlpmmbeacejaaDoor.O
open Go.RowKit

theorem hideIt {p : Prop} (h : p) : Hid p := h

/-- an operation that its guard passes over is taken first -/
theorem skipOp {P : Program} {ops : Array Oper} {Q : Exit → Go.Act → World → Prop} {md : Region.Mode} {i : Nat} {oi : Oper} {fuel : Nat} {listed : Array Bool} {a : Go.Act} {w : World} (hi : ops[i]? = some oi)
    (hs : Region.noSelect ops = true) (hf : Region.free md ops listed i = true) (hr : (Region.ready md ops listed).contains i = true) (hQ : ∀ c a w, Q (.panic c) (a.put oi.dst undef) w → Q (.panic c) a w)
    (hw : Region.wanted oi (yielded ops a.tmps) = false) (h : wpAny P md ops Q fuel (listed.setIfInBounds i true) (a.put oi.dst undef) w) : wpAny P md ops Q (fuel + 1) listed a w :=
  wpAny_take hi hs hf hr hQ (.inr ⟨hw, rfl⟩) h
/-- an operation that looks at no memory is taken first -/
theorem takeOp {P : Program} {ops : Array Oper} {Q : Exit → Go.Act → World → Prop} {md : Region.Mode} {i : Nat} {oi : Oper} {v : Value} {fuel : Nat} {listed : Array Bool} {a : Go.Act} {w : World} (hi : ops[i]? = some oi)
    (hs : Region.noSelect ops = true) (hf : Region.free md ops listed i = true) (hr : (Region.ready md ops listed).contains i = true) (hQ : ∀ c a w, Q (.panic c) (a.put oi.dst v) w → Q (.panic c) a w)
    (hw : Region.wanted oi (yielded ops a.tmps) = true) (hv : ∀ w, (execOp a.eval oi).run P w = .ok (.value v) w) (h : wpAny P md ops Q fuel (listed.setIfInBounds i true) (a.put oi.dst v) w) : wpAny P md ops Q (fuel + 1) listed a w :=
  wpAny_take hi hs hf hr hQ (.inl ⟨hw, hv⟩) h

/-- an edge -/
abbrev EdgeV := Int × Int

theorem bret {p q : Prop} [Decidable p] [Decidable q] (h : p ↔ q) : Ending.returned (.bool (decide p)) = Ending.returned (.bool (decide q)) := by rw [decide_eq_decide.2 h]

/-- the edge is right -/
def eB (n : Int) (e : EdgeV) : Bool := decide (1 ≤ n ∧ n ≤ 12 ∧ 0 ≤ e.1 ∧ e.1 < e.2 ∧ e.2 < n)

theorem l01In_any (x a b : Int) (w : World) : Calls Tryd.prog 35 #[.int .i64 x, .int .i64 a, .int .i64 b] w fun e w' => e = .returned (.bool (decide (a ≤ x ∧ x ≤ b))) ∧ w' = w := by
  by_cases h1 : a ≤ x
  · by_cases h2 : x ≤ b
    · have d1 : decide (a ≤ x) = true := by simpa using h1
      have d2 : decide (x ≤ b) = true := by simpa using h2
      go_enter Tryd.func35, Tryd.ntmps35
      go_wp2
      go_ret
      exact ⟨by simp [h1, h2], rfl⟩
    · have d1 : decide (a ≤ x) = true := by simpa using h1
      have d2 : decide (x ≤ b) = false := by simpa using h2
      go_enter Tryd.func35, Tryd.ntmps35
      go_wp2
      go_ret
      exact ⟨by simp, rfl⟩
  · have d1 : decide (a ≤ x) = false := by simpa using h1
    go_enter Tryd.func35, Tryd.ntmps35
    go_wp2
    go_ret
    exact ⟨by simp, rfl⟩

theorem vertsOk_any (x : Int) (w : World) : Calls Tryd.prog 61 #[.int .i64 x] w fun e w' => e = .returned (.bool (decide (1 ≤ x ∧ x ≤ 12))) ∧ w' = w := by
  by_cases h1 : 1 ≤ x
  · by_cases h2 : x ≤ 12
    · have d1 : decide (1 ≤ x) = true := by simpa using h1
      have d2 : decide (x ≤ 12) = true := by simpa using h2
      go_enter Tryd.func61, Tryd.ntmps61
      go_wp2
      go_ret
      exact ⟨by simp [h1, h2], rfl⟩
    · have d1 : decide (1 ≤ x) = true := by simpa using h1
      have d2 : decide (x ≤ 12) = false := by simpa using h2
      go_enter Tryd.func61, Tryd.ntmps61
      go_wp2
      go_ret
      exact ⟨by simp, rfl⟩
  · have d1 : decide (1 ≤ x) = false := by simpa using h1
    go_enter Tryd.func61, Tryd.ntmps61
    go_wp2
    go_ret
    exact ⟨by simp, rfl⟩

theorem iEdgeOk_any (n : Int) (e : EdgeV) (w : World) :
    Calls Tryd.prog 73 #[.int .i64 n, .agg #[.int .i64 e.1, .int .i64 e.2]] w fun x w' => x = .returned (.bool (eB n e)) ∧ Below w.heap.size w w' := by
  obtain ⟨a, b⟩ := e
  dsimp only
  have HI := hideIt vertsOk_any
  by_cases h1 : 1 ≤ n ∧ n ≤ 12
  · have r1 : decide (1 ≤ n ∧ n ≤ 12) = true := by simpa using h1
    by_cases h2 : 0 ≤ a
    · have r2 : decide (0 ≤ a) = true := by simpa using h2
      by_cases h3 : a < b
      · have r3 : decide (a < b) = true := by simpa using h3
        go_enter Tryd.func73, Tryd.ntmps73
        go_wp2_with (go_at_call 61; refine (HI.out _ _).mono ?_; rintro e w1 ⟨rfl, rfl⟩)
        go_ret
        exact ⟨bret (by dsimp only; omega), (Below.refl _ _).alloc (Nat.le_refl _) _⟩
      · have r3 : decide (a < b) = false := by simpa using h3
        go_enter Tryd.func73, Tryd.ntmps73
        go_wp2_with (go_at_call 61; refine (HI.out _ _).mono ?_; rintro e w1 ⟨rfl, rfl⟩)
        go_ret
        exact ⟨by simp [eB]; omega, (Below.refl _ _).alloc (Nat.le_refl _) _⟩
    · have r2 : decide (0 ≤ a) = false := by simpa using h2
      go_enter Tryd.func73, Tryd.ntmps73
      go_wp2_with (go_at_call 61; refine (HI.out _ _).mono ?_; rintro e w1 ⟨rfl, rfl⟩)
      go_ret
      exact ⟨by simp [eB]; omega, (Below.refl _ _).alloc (Nat.le_refl _) _⟩
  · have r1 : decide (1 ≤ n ∧ n ≤ 12) = false := by simpa using h1
    go_enter Tryd.func73, Tryd.ntmps73
    go_wp2_with (go_at_call 61; refine (HI.out _ _).mono ?_; rintro e w1 ⟨rfl, rfl⟩)
    go_ret
    exact ⟨by simp [eB]; omega, (Below.refl _ _).alloc (Nat.le_refl _) _⟩
end Go.Proofs.YtgdlpmmbeacejaaDoor.O
namespace Go.Proofs.YtgdlpmmbeacejaaDoor.O
open Go.RowKit

/-- the list of edges es stands at a, n of them, below block B -/
def Es (w : World) (B : Nat) (a : Option Addr) (n : Nat) (es : List EdgeV) : Prop :=
  es.length = n ∧ (n = 0 ∨ ∃ b off, a = some ⟨b, off, none⟩ ∧ b < B ∧ ∀ (j : Nat) (f : EdgeV), es[j]? = some f →
    w.cell? ⟨b, off + j * 2, none⟩ = some (.int .i64 f.1) ∧ w.cell? ⟨b, off + j * 2 + 1, none⟩ = some (.int .i64 f.2))

theorem take_snocF {α : Type} (fs : List α) (k : Nat) (f : α) (h : fs[k]? = some f) : fs.take (k + 1) = fs.take k ++ [f] := by
  obtain ⟨hk, rfl⟩ := List.getElem?_eq_some_iff.1 h
  rw [List.take_succ_eq_append_getElem hk]

theorem Es.alloc {w : World} {B : Nat} {a : Option Addr} {n : Nat} {fs : List EdgeV} (h : Es w B a n fs) (hB : B ≤ w.heap.size) (o : Obj) : Es (w.alloc o) B a n fs := by
  refine ⟨h.1, h.2.imp id ?_⟩
  rintro ⟨b, off, ha, hb, hc⟩
  refine ⟨b, off, ha, hb, fun j f hf => ?_⟩
  have hbl : b < w.heap.size := by omega
  obtain ⟨c0, c1⟩ := hc j f hf
  exact ⟨by rw [World.cell?_of_block (w := w) (Below.heap_alloc w o b hbl)]; exact c0, by rw [World.cell?_of_block (w := w) (Below.heap_alloc w o b hbl)]; exact c1⟩

theorem Es.below {w w' : World} {B C : Nat} {a : Option Addr} {n : Nat} {fs : List EdgeV} (h : Es w B a n fs) (hb : Below C w w') (hB : B ≤ C) : Es w' B a n fs := by
  refine ⟨h.1, h.2.imp id ?_⟩
  rintro ⟨b, off, ha, hbl, hc⟩
  refine ⟨b, off, ha, hbl, fun j f hf => ?_⟩
  obtain ⟨c0, c1⟩ := hc j f hf
  have hl : b < C := by omega
  exact ⟨by rw [hb.cell (p := ⟨b, _, none⟩) hl]; exact c0, by rw [hb.cell (p := ⟨b, _, none⟩) hl]; exact c1⟩

theorem Es.mono {w : World} {B C : Nat} {a : Option Addr} {n : Nat} {fs : List EdgeV} (h : Es w B a n fs) (hB : B ≤ C) : Es w C a n fs := by
  refine ⟨h.1, h.2.imp id ?_⟩
  rintro ⟨b, off, ha, hbl, hc⟩
  exact ⟨b, off, ha, by omega, hc⟩

theorem Es.up {w w' : World} {a : Option Addr} {n : Nat} {fs : List EdgeV} (h : Es w w.heap.size a n fs) (hb : Below w.heap.size w w') : Es w' w'.heap.size a n fs :=
  (h.below hb (Nat.le_refl _)).mono hb.size

/-- the cells of an edge -/
def ecell (f : EdgeV) : List Value := [.int .i64 f.1, .int .i64 f.2]
/-- the cells of a list of edges -/
def ecells (fs : List EdgeV) : List Value := fs.flatMap ecell

theorem ecells_length (fs : List EdgeV) : (ecells fs).length = fs.length * 2 := by
  induction fs with
  | nil => rfl
  | cons f fs ih => simp only [ecells, List.flatMap_cons, List.length_append, List.length_cons] at ih ⊢; rw [ih]; simp [ecell]; omega

theorem ecells_at (fs : List EdgeV) (j : Nat) (f : EdgeV) (h : fs[j]? = some f) :
    (ecells fs)[j * 2]? = some (.int .i64 f.1) ∧ (ecells fs)[j * 2 + 1]? = some (.int .i64 f.2) := by
  induction fs generalizing j with
  | nil => simp at h
  | cons g fs ih =>
    cases j with
    | zero => simp at h; subst h; simp [ecells, ecell]
    | succ j =>
      have h2 := ih j (by simpa using h)
      have e : ∀ m, (ecells (g :: fs))[m + 2]? = (ecells fs)[m]? := fun m => by simp [ecells, ecell]
      refine ⟨?_, ?_⟩
      · rw [show (j + 1) * 2 = j * 2 + 2 by omega, e]; exact h2.1
      · rw [show (j + 1) * 2 + 1 = j * 2 + 1 + 2 by omega, e]; exact h2.2

theorem take_set2 {α : Type} (xs : List α) (m : Nat) (a b : α) (h : m + 2 ≤ xs.length) : ((xs.set m a).set (m + 1) b).take (m + 2) = xs.take m ++ [a, b] := by
  apply List.ext_getElem?
  intro i
  have hl : (xs.take m).length = m := by simp; omega
  by_cases h1 : i < m
  · rw [List.getElem?_append_left (by omega), List.getElem?_take_of_lt h1, List.getElem?_take_of_lt (by omega), List.getElem?_set_ne (by omega), List.getElem?_set_ne (by omega)]
  · rw [List.getElem?_append_right (by omega), hl]
    by_cases h2 : i < m + 2
    · rw [List.getElem?_take_of_lt h2]
      rcases (show i = m ∨ i = m + 1 by omega) with rfl | rfl
      · rw [List.getElem?_set_ne (by omega), List.getElem?_set_self (by omega)]; simp
      · rw [List.getElem?_set_self (by simp; omega)]; simp
    · rw [List.getElem?_eq_none (by simp; omega), List.getElem?_eq_none (by simp; omega)]

theorem ecells_snoc (fs : List EdgeV) (f : EdgeV) : ecells (fs ++ [f]) = ecells fs ++ [.int .i64 f.1, .int .i64 f.2] := by simp [ecells, ecell]
theorem ecells_append (fs gs : List EdgeV) : ecells (fs ++ gs) = ecells fs ++ ecells gs := by simp [ecells]

theorem infoIE : (Tryd.prog.info? 100).map (fun i => (i.zero, i.size, i.bytes)) = some (some (.agg #[.int .i64 0, .int .i64 0]), 2, 16) := by kernel_rfl

theorem bcell {W w1 : World} (hb : Below W.heap.size W w1) : (∀ b o, b < W.heap.size → w1.cell? ⟨b, o, none⟩ = W.cell? ⟨b, o, none⟩) ∧ (∀ b o, b < W.heap.size → w1.frozen? ⟨b, o, none⟩ = W.frozen? ⟨b, o, none⟩) :=
  ⟨fun b o h => hb.cell (p := ⟨b, o, none⟩) h, fun b o h => hb.frozen (p := ⟨b, o, none⟩) h⟩

/-- a list of one's own reads as its edges -/
theorem Es_of_own {w : World} {B n c : Nat} {a : Option Addr} {fs : List EdgeV} (h : w.ownsRow B 100 2 (.slice a n c) n (ecells fs)) : Es w w.heap.size a n fs := by
  have hl := h.1
  rw [ecells_length] at hl
  refine ⟨by omega, ?_⟩
  rcases h.2 with ⟨hv, h0⟩ | ⟨g, cap, cur, hv, hrest⟩
  · exact .inl h0
  · simp at hv
    obtain ⟨rfl, rfl⟩ := hv
    by_cases h0 : n = 0
    · exact .inl h0
    · refine .inr ⟨g, 0, rfl, (h.lt g rfl).2, fun j f hf => ?_⟩
      have hj : j < fs.length := (List.getElem?_eq_some_iff.1 hf).1
      obtain ⟨c0, c1⟩ := ecells_at fs j f hf
      rw [Nat.zero_add]
      exact ⟨by rw [h.cellAt (j * 2) (by omega)]; exact c0, by rw [h.cellAt (j * 2 + 1) (by omega)]; exact c1⟩

theorem grownSet (w : World) (G j : Nat) (u : Value) : w.grownBy (w.setCell ⟨G, j, none⟩ u) (some G) :=
  ⟨rfl, rfl, rfl, by simp [World.setCell], fun k _ hk => heap_setCell_other w ⟨G, j, none⟩ k u (fun e => hk (by simp [e]))⟩

theorem own_setOther {w : World} {B e s g n cap : Nat} {xs : List Value} (h : w.ownsRow B e s (.slice (some ⟨g, 0, none⟩) n cap) n xs) (G j : Nat) (u : Value) (hG : g ≠ G) :
    (w.setCell ⟨G, j, none⟩ u).ownsRow B e s (.slice (some ⟨g, 0, none⟩) n cap) n xs :=
  World.ownsRow.kept h (grownSet w G j u) (.inr (by simp [Value.ownBlock]; exact fun e => hG e))

theorem own_mono {w : World} {B B' e s n : Nat} {v : Value} {xs : List Value} (h : w.ownsRow B e s v n xs) (hB : B' ≤ B) : w.ownsRow B' e s v n xs :=
  ⟨h.1, h.2.imp id (fun ⟨g, cap, cur, a, b, rest⟩ => ⟨g, cap, cur, a, Nat.le_trans hB b, rest⟩)⟩

end Go.Proofs.YtgdlpmmbeacejaaDoor.O
namespace Go.Proofs.YtgdlpmmbeacejaaDoor
open Go.RowKit

/-- a box of any cells -/
def BxA (w : World) (b : Nat) (t : TypeId) (vs : Array Value) : Prop := w.heap[b]? = some (.cells vs t (0, 0))
section
variable {w u : World} {b : Nat} {t : TypeId} {vs : Array Value}
theorem BxA.new (w : World) (t : TypeId) (vs : Array Value) : BxA (w.alloc (.cells vs t)) w.heap.size t vs := heap_alloc_new w _
theorem BxA.lt (h : BxA w b t vs) : b < w.heap.size := (Array.getElem?_eq_some_iff.1 h).1
theorem BxA.up (h : BxA w b t vs) (hb : Below w.heap.size w u) : BxA u b t vs := by unfold BxA; rw [hb.block b h.lt]; exact h
theorem BxA.cell (h : BxA w b t vs) (i : Nat) {v : Value} (hv : vs[i]? = some v) : w.cell? ⟨b, i, none⟩ = some v := by rw [cell_of_row w b i _ _ _ h]; exact hv
theorem BxA.set (h : BxA w b t vs) (i : Nat) (v : Value) : BxA (w.setCell ⟨b, i, none⟩ v) b t (vs.setIfInBounds i v) := heap_setCell_same w b i _ t v h
theorem BxA.setO {G j : Nat} (h : BxA w b t vs) (v : Value) (hG : b ≠ G) : BxA (w.setCell ⟨G, j, none⟩ v) b t vs := by
  unfold BxA
  rw [heap_setCell_other _ _ _ _ (by first | exact hG | exact fun e => hG e.symm)]
  exact h
theorem BxA.frozen (h : BxA w b t vs) (j : Nat) : w.frozen? ⟨b, j, none⟩ = false := frozen_of_row w b j _ _ h
end

/-- a slice's three words -/
structure Sx where
  a : Option Addr
  n : Nat
  c : Nat
abbrev Sx.v (s : Sx) : Value := .slice s.a s.n s.c
/-- a head -/
structure Hd where
  N : Int
  own : List Int
  cuts : List O.EdgeV
  lab : List (List Int)
  nums : List Int
  i : Int
  o : Int
  a : Int
  b : Int
  sh : Int
  num : Int
  op : Int
  es : List O.EdgeV
  v : Int
  said : List Sd
/-- its lists -/
structure Hp where
  o : Sx
  c : Sx
  l : Sx
  n : Sx
  e : Sx
  s : Sx
/-- its cells -/
abbrev hC (h : Hd) (p : Hp) : Array Value := #[.int .i64 h.N, p.o.v, p.c.v, p.l.v, p.n.v, .int .i64 h.i, .int .i64 h.o, .int .i64 h.a, .int .i64 h.b, .int .i64 h.sh, .int .i64 h.num, .int .i64 h.op, p.e.v, .int .i64 h.v, p.s.v]
/-- it stands in memory -/
structure HIn (w : World) (h : Hd) (p : Hp) : Prop where
  o : Is w w.heap.size p.o.a p.o.n h.own
  c : O.Es w w.heap.size p.c.a p.c.n h.cuts
  l : Ts w w.heap.size p.l.a p.l.n h.lab
  n : Is w w.heap.size p.n.a p.n.n h.nums
  e : O.Es w w.heap.size p.e.a p.e.n h.es
  s : Ss w w.heap.size p.s.a p.s.n h.said
theorem HIn.up {w u : World} {h : Hd} {p : Hp} (k : HIn w h p) (hb : Below w.heap.size w u) : HIn u h p := ⟨k.o.up hb, k.c.up hb, k.l.up hb, k.n.up hb, k.e.up hb, k.s.up hb⟩
/-- its lists are no greater than a law looks at -/
structure HFit (h : Hd) (p : Hp) : Prop where
  o : p.o.n ≤ 1048576
  c : p.c.n ≤ 1048576
  l : p.l.n + lnS h.lab ≤ 1048576
  n : p.n.n ≤ 1048576
  e : p.e.n ≤ 1048576
  s : p.s.n ≤ 1048576
/-- lists as the machine has them -/
structure HMax (h : Hd) (p : Hp) : Prop where
  o : p.o.n ≤ maxLen
  c : p.c.n ≤ maxLen
  l : p.l.n ≤ maxLen
  ll : ∀ t ∈ h.lab, t.length ≤ maxLen
  n : p.n.n ≤ maxLen
  e : p.e.n ≤ maxLen
  s : p.s.n ≤ maxLen

end Go.Proofs.YtgdlpmmbeacejaaDoor
