/- FnWebs: the closed facts of its row, one by one (together they want more memory than a process has here). Bytes in memory of the call's own. Lists of ints in memory; what the texts of chapter 6 share. What the draws' cursor gives: some byte, some number below a bound, some text; the cursor stays right, and nothing else that was there turns. Draws for forests. Tours, as lists: a walk that goes down to a new vertex, or back up to the one that it came from; a tour from another vertex on; two that are joined; one that is split. -/
import Derived.Test.YtkkplppcgnikoaaGreatRows
import Derived.KernelRfl
import Derived.JoinedOf
import Derived.RowKit
import Derived.WalkKit
import Derived.OwnWalk
import Derived.Laws.IdiomStrings
import Derived.Test.YtkkplppcgnikoaaGreatProg
import GoSem.Claim
import GoSem.ClaimJoined
import GoSem.ClaimMapViews
import Derived.JoinedTies
import Derived.WalkSpells
import Derived.WalkSmall
import Derived.BigQuiet
import Derived.Deep.QuietTactic
import Derived.Deep.MidRow
import Derived.Deep.RegionHeld3
import Derived.Deep.AppendLies
import Derived.Deep.DeepCutAuto
import Derived.Laws.Bits64b
namespace Go.Proofs.YtkkplppcgnikoaaGreat.fnWebs
open Go.RowKit

theorem and2 {a b : Bool} (ha : a = true) (hb : b = true) : (a && b) = true := by rw [ha, hb]; rfl
set_option maxRecDepth 100000 in
set_option maxHeartbeats 40000000 in
theorem closed : joinedFacts Tryz.pinned.checked.prog 3 Tryz.f3 Rows.fnWebsSpec Rows.fnWebsRow = true := by
  unfold joinedFacts
  repeat' (with_reducible refine and2 ?_ ?_)
  all_goals (as_aux_lemma => kernel_rfl)
end Go.Proofs.YtkkplppcgnikoaaGreat.fnWebs
namespace Go.Proofs.YtkkplppcgnikoaaGreat
open Go.RowKit

end Go.Proofs.YtkkplppcgnikoaaGreat
namespace Go.Proofs.YtkkplppcgnikoaaGreat
open Go.RowKit

theorem hideIt {p : Prop} (h : p) : Hid p := h

/-- an operation that its guard passes over is taken first -/
theorem skipOp {P : Program} {ops : Array Oper} {Q : Exit → Go.Act → World → Prop} {md : Region.Mode} {i : Nat} {oi : Oper} {fuel : Nat} {listed : Array Bool} {a : Go.Act} {w : World} (hi : ops[i]? = some oi)
    (hs : Region.noSelect ops = true) (hf : Region.free md ops listed i = true) (hr : (Region.ready md ops listed).contains i = true) (hQ : ∀ c a w, Q (.panic c) (a.put oi.dst undef) w → Q (.panic c) a w)
    (hw : Region.wanted oi (yielded ops a.tmps) = false) (h : wpAny P md ops Q fuel (listed.setIfInBounds i true) (a.put oi.dst undef) w) : wpAny P md ops Q (fuel + 1) listed a w :=
  wpAny_take hi hs hf hr hQ (.inr ⟨hw, rfl⟩) h

/-- an operation that looks at no memory is taken first -/
theorem takeOp {P : Program} {ops : Array Oper} {Q : Exit → Go.Act → World → Prop} {md : Region.Mode} {i : Nat} {oi : Oper} {v : Value} {fuel : Nat} {listed : Array Bool} {a : Go.Act} {w : World} (hi : ops[i]? = some oi)
    (hs : Region.noSelect ops = true) (hf : Region.free md ops listed i = true) (hr : (Region.ready md ops listed).contains i = true) (hQ : ∀ c a w, Q (.panic c) (a.put oi.dst v) w → Q (.panic c) a w)
    (hw : Region.wanted oi (yielded ops a.tmps) = true) (hv : ∀ w, (execOp a.eval oi).run P w = .ok (.value v) w) (h : wpAny P md ops Q fuel (listed.setIfInBounds i true) (a.put oi.dst v) w) : wpAny P md ops Q (fuel + 1) listed a w :=
  wpAny_take hi hs hf hr hQ (.inl ⟨hw, hv⟩) h

theorem bret {p q : Prop} [Decidable p] [Decidable q] (h : p ↔ q) : Ending.returned (.bool (decide p)) = Ending.returned (.bool (decide q)) := by rw [decide_eq_decide.2 h]

theorem l01In_any (x a b : Int) (w : World) : Calls Tryz.prog 81 #[.int .i64 x, .int .i64 a, .int .i64 b] w fun e w' => e = .returned (.bool (decide (a ≤ x ∧ x ≤ b))) ∧ w' = w := by
  by_cases h1 : a ≤ x
  · by_cases h2 : x ≤ b
    · have d1 : decide (a ≤ x) = true := by simpa using h1
      have d2 : decide (x ≤ b) = true := by simpa using h2
      go_enter Tryz.func81, Tryz.ntmps81
      go_wp2
      go_ret
      exact ⟨by simp [h1, h2], rfl⟩
    · have d1 : decide (a ≤ x) = true := by simpa using h1
      have d2 : decide (x ≤ b) = false := by simpa using h2
      go_enter Tryz.func81, Tryz.ntmps81
      go_wp2
      go_ret
      exact ⟨by simp, rfl⟩
  · have d1 : decide (a ≤ x) = false := by simpa using h1
    go_enter Tryz.func81, Tryz.ntmps81
    go_wp2
    go_ret
    exact ⟨by simp, rfl⟩

theorem take_snocF {α : Type} (fs : List α) (k : Nat) (f : α) (h : fs[k]? = some f) : fs.take (k + 1) = fs.take k ++ [f] := by
  obtain ⟨hk, rfl⟩ := List.getElem?_eq_some_iff.1 h
  rw [List.take_succ_eq_append_getElem hk]

theorem own_mono {w : World} {B B' e s n : Nat} {v : Value} {xs : List Value} (h : w.ownsRow B e s v n xs) (hB : B' ≤ B) : w.ownsRow B' e s v n xs :=
  ⟨h.1, h.2.imp id (fun ⟨g, cap, cur, a, b, rest⟩ => ⟨g, cap, cur, a, Nat.le_trans hB b, rest⟩)⟩

theorem grownSet (w : World) (G j : Nat) (u : Value) : w.grownBy (w.setCell ⟨G, j, none⟩ u) (some G) :=
  ⟨rfl, rfl, rfl, by simp [World.setCell], fun k _ hk => heap_setCell_other w ⟨G, j, none⟩ k u (fun e => hk (by simp [e]))⟩

theorem own_setOther {w : World} {B e s g n cap : Nat} {xs : List Value} (h : w.ownsRow B e s (.slice (some ⟨g, 0, none⟩) n cap) n xs) (G j : Nat) (u : Value) (hG : g ≠ G) :
    (w.setCell ⟨G, j, none⟩ u).ownsRow B e s (.slice (some ⟨g, 0, none⟩) n cap) n xs :=
  World.ownsRow.kept h (grownSet w G j u) (.inr (by simp [Value.ownBlock]; exact fun e => hG e))

theorem bcell {W w1 : World} (hb : Below W.heap.size W w1) : (∀ b o, b < W.heap.size → w1.cell? ⟨b, o, none⟩ = W.cell? ⟨b, o, none⟩) ∧ (∀ b o, b < W.heap.size → w1.frozen? ⟨b, o, none⟩ = W.frozen? ⟨b, o, none⟩) :=
  ⟨fun b o h => hb.cell (p := ⟨b, o, none⟩) h, fun b o h => hb.frozen (p := ⟨b, o, none⟩) h⟩

theorem grown_of_below {w w' : World} (h : Below w.heap.size w w') (row : Option Nat) : w.grownBy w' row :=
  ⟨h.os, h.tape, h.output, h.size, fun k hk _ => h.block k hk⟩

theorem grown_trans {a b c : World} {row : Option Nat} (h : a.grownBy b row) (k : b.grownBy c row) : a.grownBy c row :=
  ⟨k.os.trans h.os, k.tape.trans h.tape, k.output.trans h.output, Nat.le_trans h.size k.size, fun i hi hr => (k.block i (Nat.lt_of_lt_of_le hi h.size) hr).trans (h.block i hi hr)⟩

theorem own_form {w : World} {B e s n : Nat} {v : Value} {xs : List Value} (h : w.ownsRow B e s v n xs) : ∃ a c, v = .slice a n c := by
  rcases h.2 with ⟨hv, h0⟩ | ⟨g, cap, cur, hv, _⟩
  · subst h0; exact ⟨none, 0, hv⟩
  · exact ⟨_, cap, hv⟩

/-- nothing below has turned since w -/
def Good (w u : World) : Prop := Below w.heap.size w u

theorem Good.refl (w : World) : Good w w := Below.refl _ _

theorem Good.size {w u : World} (h : Good w u) : w.heap.size ≤ u.heap.size := Below.size h

theorem Good.up {w u v : World} (h : Good w u) (hb : Below u.heap.size u v) : Good w v := Below.trans h (hb.mono h.size)

theorem Good.alloc {w u : World} (h : Good w u) (o : Obj) : Good w (u.alloc o) := h.up ((Below.refl _ _).alloc (Nat.le_refl _) _)

theorem Good.drew {w u : World} (h : Good w u) : Good w u.drew := Below.drew h

theorem Good.cell {w u : World} (h : Good w u) {b o : Nat} (hb : b < w.heap.size) : u.cell? ⟨b, o, none⟩ = w.cell? ⟨b, o, none⟩ := Below.cell h hb

/-- what lies outside lo .. hi has not turned -/
structure Rng (lo hi : Nat) (u v : World) : Prop where
  os : v.os = u.os
  tape : v.tape = u.tape
  output : v.output = u.output
  size : u.heap.size ≤ v.heap.size
  block : ∀ k, k < u.heap.size → (k < lo ∨ hi ≤ k) → v.heap[k]? = u.heap[k]?

theorem Rng.of_below {u v : World} {lo hi : Nat} (h : Below u.heap.size u v) : Rng lo hi u v := ⟨h.os, h.tape, h.output, h.size, fun k hk _ => h.block k hk⟩

theorem own_up {w w' : World} {B e s n : Nat} {v : Value} {xs : List Value} (h : w.ownsRow B e s v n xs) (hb : Below w.heap.size w w') : w'.ownsRow B e s v n xs :=
  World.ownsRow.kept h (grown_of_below hb none) (by cases hv : v.ownBlock <;> simp)

/-- a slice as the machine has them -/
def Sl (a : Option Addr) (n c : Nat) : Prop := n ≤ c ∧ c ≤ maxLen ∧ (a = none ∧ n = 0 ∧ c = 0 ∨ ∃ b off, a = some ⟨b, off, none⟩)

theorem set_other {u : World} {G j x o : Nat} {v : Value} (h : x ≠ G) : (u.setCell ⟨G, j, none⟩ v).cell? ⟨x, o, none⟩ = u.cell? ⟨x, o, none⟩ := World.cell?_of_block (w := u) (heap_setCell_other u ⟨G, j, none⟩ x v h)

theorem own_setLow {w : World} {B e s n : Nat} {v : Value} {xs : List Value} (h : w.ownsRow B e s v n xs) (G j : Nat) (u : Value) (hG : G < B) : (w.setCell ⟨G, j, none⟩ u).ownsRow B e s v n xs :=
  World.ownsRow.kept h (grownSet w G j u) (.inr (fun e => by have := (h.lt G (by simpa using e)).1; omega))

/-- a list of ints stands in memory below B -/
def Is (w : World) (B : Nat) (a : Option Addr) (n : Nat) (ls : List Int) : Prop :=
  ls.length = n ∧ (n = 0 ∨ ∃ b off, a = some ⟨b, off, none⟩ ∧ b < B ∧ ∀ (j : Nat) (x : Int), ls[j]? = some x → w.cell? ⟨b, off + j, none⟩ = some (.int .i64 x))

theorem Is.below {w w' : World} {B C : Nat} {a : Option Addr} {n : Nat} {ls : List Int} (h : Is w B a n ls) (hb : Below C w w') (hB : B ≤ C) : Is w' B a n ls := by
  refine ⟨h.1, h.2.imp id ?_⟩
  rintro ⟨b, off, h1, h2, h3⟩
  exact ⟨b, off, h1, h2, fun j x hx => by rw [hb.cell (p := ⟨b, _, none⟩) (by show b < _; omega)]; exact h3 j x hx⟩

theorem Is.mono {w : World} {B C : Nat} {a : Option Addr} {n : Nat} {ls : List Int} (h : Is w B a n ls) (hB : B ≤ C) : Is w C a n ls := by
  refine ⟨h.1, h.2.imp id ?_⟩
  rintro ⟨b, off, h1, h2, h3⟩
  exact ⟨b, off, h1, by omega, h3⟩

theorem Is.up {w w' : World} {a : Option Addr} {n : Nat} {ls : List Int} (h : Is w w.heap.size a n ls) (hb : Below w.heap.size w w') : Is w' w'.heap.size a n ls :=
  (h.below hb (Nat.le_refl _)).mono hb.size

def ic (ls : List Int) : List Value := ls.map fun x => Value.int .i64 x

theorem ic_len (ls : List Int) : (ic ls).length = ls.length := by simp [ic]

theorem ic_snoc (ls : List Int) (x : Int) : ic (ls ++ [x]) = ic ls ++ [.int .i64 x] := by simp [ic]

theorem ic_at {ls : List Int} {j : Nat} {x : Int} (h : ls[j]? = some x) : (ic ls)[j]? = some (.int .i64 x) := by rw [ic, List.getElem?_map, h]; rfl

theorem Is_of_own {w : World} {B n c : Nat} {a : Option Addr} {ls : List Int} (h : w.ownsRow B 3 1 (.slice a n c) n (ic ls)) : Is w w.heap.size a n ls := by
  have hl := h.1
  rw [ic_len] at hl
  refine ⟨by omega, ?_⟩
  rcases h.2 with ⟨hv, h0⟩ | ⟨g, cap, cur, hv, hrest⟩
  · exact .inl h0
  · simp at hv
    obtain ⟨rfl, rfl⟩ := hv
    refine .inr ⟨g, 0, rfl, (h.lt g rfl).2, fun j x hx => ?_⟩
    have hj : j < ls.length := (List.getElem?_eq_some_iff.1 hx).1
    rw [Nat.zero_add, h.cellAt j (by omega)]
    exact ic_at hx

theorem info3i : (Tryz.prog.info? 3).map (fun i => (i.zero, i.size, i.bytes)) = some (some (.int .i64 0), 1, 8) := by kernel_rfl

/-- the answer of Around, Labels: a list of the answer's own -/
def IAns (w : World) (ls : List Int) (e : Ending) (w' : World) : Prop :=
  ∃ a m c, e = .returned (.slice a m c) ∧ w'.ownsRow w.heap.size 3 1 (.slice a m c) m (ic ls) ∧ Below w.heap.size w w'

/-- a list that is ours, in blocks lo .. hi -/
structure RBox (u : World) (lo hi : Nat) (a : Option Addr) (m c : Nat) (ls : List Int) : Prop where
  own : u.ownsRow lo 3 1 (.slice a m c) m (ic ls)
  row : ∀ g, (Value.slice a m c).ownBlock = some g → g < hi
  there : hi ≤ u.heap.size

theorem RBox.rng {u v : World} {lo hi l2 h2 : Nat} {a : Option Addr} {m c : Nat} {ls : List Int} (h : RBox u lo hi a m c ls) (hr : Rng l2 h2 u v) (ho : hi ≤ l2 ∨ h2 ≤ lo) : RBox v lo hi a m c ls := by
  have hth := h.there
  refine ⟨⟨h.own.1, ?_⟩, h.row, Nat.le_trans hth hr.size⟩
  rcases h.own.2 with h3 | ⟨g, cap, cur, hv, hg, hcur, hrest⟩
  · exact .inl h3
  · have hgh := h.row g (by rw [hv]; rfl)
    refine .inr ⟨g, cap, cur, hv, hg, ?_, hrest⟩
    rw [hr.block g (by omega) (by omega)]
    exact hcur

theorem RBox.is {u : World} {lo hi : Nat} {a : Option Addr} {m c : Nat} {ls : List Int} (h : RBox u lo hi a m c ls) : Is u u.heap.size a m ls := Is_of_own h.own

theorem RBox.len {u : World} {lo hi : Nat} {a : Option Addr} {m c : Nat} {ls : List Int} (h : RBox u lo hi a m c ls) : ls.length = m := by
  have := h.own.1; rw [ic_len] at this; omega

/-- nothing of wb has turned, and the row is ours -/
structure ISt (wb : World) (a : Option Addr) (m c : Nat) (ls : List Int) (u : World) : Prop where
  own : u.ownsRow wb.heap.size 3 1 (.slice a m c) m (ic ls)
  bel : Below wb.heap.size wb u

theorem ISt.size {wb : World} {a : Option Addr} {m c : Nat} {ls : List Int} {u : World} (h : ISt wb a m c ls u) : wb.heap.size ≤ u.heap.size := h.bel.size

theorem ISt.len {wb : World} {a : Option Addr} {m c : Nat} {ls : List Int} {u : World} (h : ISt wb a m c ls u) : ls.length = m := by have := h.own.1; rw [ic_len] at this; omega

theorem ISt.up {wb : World} {a : Option Addr} {m c : Nat} {ls : List Int} {u v : World} (h : ISt wb a m c ls u) (hb : Below u.heap.size u v) : ISt wb a m c ls v :=
  ⟨own_up h.own hb, h.bel.trans (hb.mono h.size)⟩

theorem ISt.app {wb : World} {a : Option Addr} {m c : Nat} {ls : List Int} {u : World} (h : ISt wb a m c ls u) {x : Int} {o : Obj} {v : Value} {u' : World}
    (ho : u'.ownsRow wb.heap.size 3 1 v (m + 1) (ic ls ++ [.int .i64 x])) (hg : (u.alloc o).grownBy u' (Value.slice a m c).ownBlock) :
    ∃ a' c', v = .slice a' (m + 1) c' ∧ ISt wb a' (m + 1) c' (ls ++ [x]) u' := by
  obtain ⟨a', c', rfl⟩ := own_form ho
  rw [← ic_snoc] at ho
  refine ⟨a', c', rfl, ho, ?_⟩
  exact (h.bel.alloc h.size _).grown hg (by have := h.size; simp; omega) (fun j hj => (h.own.lt j hj).1)

theorem ISt.start (wb : World) : ISt wb (some ⟨wb.heap.size, 0, none⟩) 0 0 [] (wb.alloc (.cells #[] 3)) := by
  refine ⟨?_, (Below.refl _ _).alloc (Nat.le_refl _) _⟩
  have h0 := World.ownsRow_lit (base := wb.heap.size) (e := 3) (size := 1) wb #[] 0 (Nat.le_refl _) (by unfold maxLen; omega) (by simp)
  simpa [ic] using h0

theorem newsI (w : World) (x : Int) : ∀ j u, ([Value.int .i64 x] : List Value)[j]? = some u → (w.alloc (.cells #[.int .i64 x] 3)).cell? ((⟨w.heap.size, 0, none⟩ : Addr).add j) = some u := by
  intro j u hj
  rcases j with _ | j
  · simp at hj; subst hj; simp [Addr.add]
  · simp at hj

theorem ians_nil {w u : World} (h : Below w.heap.size w u) : IAns w [] (.returned (.slice none 0 0)) u := ⟨none, 0, 0, rfl, World.ownsRow_nil _ _ _ _, h⟩

end Go.Proofs.YtkkplppcgnikoaaGreat
namespace Go.Proofs.YtkkplppcgnikoaaGreat
open Go.RowKit

theorem and_small (x : Int) (b : Nat) (hb : b < 4611686018427387904) : 0 ≤ bits .and .i64 x (b : Int) ∧ bits .and .i64 x (b : Int) ≤ (b : Int) := by
  have h2 : (BitVec.ofInt 64 (b : Int)).toNat = b := by
    rw [BitVec.ofInt_natCast, BitVec.toNat_ofNat]; exact Nat.mod_eq_of_lt (by omega)
  have e : bits .and .i64 x (b : Int) = IntKind.i64.wrap ((BitVec.ofInt 64 x &&& BitVec.ofInt 64 (b : Int)).toNat : Int) := rfl
  rw [e, BitVec.toNat_and, h2, IntKind.wrap_i64]
  have := Nat.and_le_right (n := (BitVec.ofInt 64 x).toNat) (m := b)
  omega

theorem and255 (x : Int) : 0 ≤ bits .and .i64 x 255 ∧ bits .and .i64 x 255 ≤ 255 := and_small x 255 (by omega)
theorem and30 (x : Int) : 0 ≤ bits .and .i64 x 1073741823 ∧ bits .and .i64 x 1073741823 ≤ 1073741823 := and_small x 1073741823 (by omega)

/-- the bytes that the draws are drawn from: none, or a row of bytes in a block of its own -/
def Code (w : World) (G : Nat) (a : Option Addr) (len : Nat) : Prop :=
  len = 0 ∨ ∃ b off, a = some ⟨b, off, none⟩ ∧ b < w.heap.size ∧ b ≠ G ∧ ∀ j, j < len → ∃ z : Nat, z ≤ 255 ∧ w.cell? ⟨b, off + j, none⟩ = some (.int .u8 (z : Int))

/-- the cursor in block G -/
def Cur (w : World) (G : Nat) (a : Option Addr) (len cap : Nat) : Prop :=
  ∃ (i : Nat) (h : Int), i ≤ len ∧ w.heap[G]? = some (.cells #[.slice a len cap, .int .i64 (i : Int), .int .i64 h] 202 (0, 0))

theorem grownT {a b c : World} {row : Option Nat} (h : a.grownBy b row) (k : b.grownBy c row) : a.grownBy c row :=
  ⟨k.os.trans h.os, k.tape.trans h.tape, k.output.trans h.output, Nat.le_trans h.size k.size, fun i hi hr => (k.block i (Nat.lt_of_lt_of_le hi h.size) hr).trans (h.block i hi hr)⟩

theorem Code.kept {w w' : World} {G : Nat} {a : Option Addr} {len : Nat} (h : Code w G a len) (hg : w.grownBy w' (some G)) : Code w' G a len := by
  rcases h with h | ⟨b, off, ha, hb, hn, hc⟩
  · exact .inl h
  · refine .inr ⟨b, off, ha, Nat.lt_of_lt_of_le hb hg.size, hn, fun j hj => ?_⟩
    obtain ⟨z, hz, hcell⟩ := hc j hj
    refine ⟨z, hz, ?_⟩
    rw [World.cell?_of_block (w := w) (hg.block b hb (by simp; exact hn))]
    exact hcell

theorem set1 {w : World} {G : Nat} {A B C D : Value} {t : TypeId} (h : w.heap[G]? = some (.cells #[A, B, C] t (0, 0))) : (w.setCell ⟨G, 1, none⟩ D).heap[G]? = some (.cells #[A, D, C] t (0, 0)) := by
  rw [heap_setCell_same w G 1 _ t D h]; rfl
theorem set2 {w : World} {G : Nat} {A B C D : Value} {t : TypeId} (h : w.heap[G]? = some (.cells #[A, B, C] t (0, 0))) : (w.setCell ⟨G, 2, none⟩ D).heap[G]? = some (.cells #[A, B, D] t (0, 0)) := by
  rw [heap_setCell_same w G 2 _ t D h]; rfl
theorem grown_set (w : World) (G j : Nat) (u : Value) : w.grownBy (w.setCell ⟨G, j, none⟩ u) (some G) :=
  ⟨rfl, rfl, rfl, by simp [World.setCell], fun k _ hk => heap_setCell_other w ⟨G, j, none⟩ k u (fun e => hk (by simp [e]))⟩
theorem grown_draws (w : World) (n : Nat) (row : Option Nat) : w.grownBy (w.drewN n) row := ⟨rfl, rfl, rfl, Nat.le_refl _, fun _ _ _ => rfl⟩

theorem fin_byte {y : Int} {R : Prop} (h : 0 ≤ y ∧ y ≤ 255) (hr : R) : ∃ x : Nat, x ≤ 255 ∧ Ending.returned (.int .i64 y) = .returned (.int .i64 (x : Int)) ∧ R :=
  ⟨y.toNat, by omega, by rw [Int.toNat_of_nonneg h.1], hr⟩

set_option maxRecDepth 100000 in
set_option maxHeartbeats 2000000 in
theorem l01Byte_any (w : World) (G : Nat) (a : Option Addr) (len cap : Nat) (hl : len ≤ 1048576) (hcur : Cur w G a len cap) (hcode : Code w G a len) :
    Calls Tryz.prog 100 #[.pointer (some ⟨G, 0, none⟩)] w fun e w' => ∃ x : Nat, x ≤ 255 ∧ e = .returned (.int .i64 (x : Int)) ∧ Cur w' G a len cap ∧ w.grownBy w' (some G) := by
  obtain ⟨i, h, hi, hG⟩ := hcur
  have c0 : w.cell? ⟨G, 0, none⟩ = some (.slice a len cap) := by rw [cell_of_row w G 0 _ _ _ hG]; rfl
  have c1 : w.cell? ⟨G, 1, none⟩ = some (.int .i64 (i : Int)) := by rw [cell_of_row w G 1 _ _ _ hG]; rfl
  have c2 : w.cell? ⟨G, 2, none⟩ = some (.int .i64 h) := by rw [cell_of_row w G 2 _ _ _ hG]; rfl
  have f1 : w.frozen? ⟨G, 1, none⟩ = false := frozen_of_row w G 1 _ _ hG
  have f2 : w.frozen? ⟨G, 2, none⟩ = false := frozen_of_row w G 2 _ _ hG
  have HG : Hid _ := hG
  clear hG
  by_cases hlt : i < len
  · have e1 : decide ((i : Int) < (len : Int)) = true := by simp; omega
    rcases hcode with h0 | ⟨b, off, rfl, hb, hne, hc⟩
    · omega
    · obtain ⟨z, hz, hcell⟩ := hc i hlt
      have b1 : (0 : Int) ≤ (i : Int) := by omega
      have b2 : (i : Int) < (len : Int) := by omega
      have hcell2 : ∀ v, (w.setCell ⟨G, 2, none⟩ v).cell? ⟨b, off + i, none⟩ = some (.int .u8 (z : Int)) := fun v => by
        rw [World.cell?_of_block (w := w) (heap_setCell_other w ⟨G, 2, none⟩ b v (by exact hne))]
        exact hcell
      clear hc
      go_enter Tryz.func100, Tryz.ntmps100
      go_wp2
      go_quiet (fail)
      go_wp2
      go_quiet (fail)
      go_wp2
      go_quiet (fail)
      go_wp2
      go_ret
      refine fin_byte (and255 _) ⟨?_, ?_⟩
      · exact ⟨i + 1, _, by omega, set1 (set2 HG.out)⟩
      · exact grownT (grownT (grown_set w G 2 _) (grown_set _ G 1 _)) (grown_draws _ _ _)
  · have e1 : decide ((i : Int) < (len : Int)) = false := by simp; omega
    go_enter Tryz.func100, Tryz.ntmps100
    go_wp2
    go_quiet (fail)
    go_wp2
    go_quiet (fail)
    go_wp2
    go_ret
    refine fin_byte (and255 _) ⟨?_, ?_⟩
    · exact ⟨i, _, hi, set2 HG.out⟩
    · exact grownT (grownT (grown_set w G 2 _) (grown_draws _ _ _)) (grown_draws _ _ _)

/-- what a draw leaves: the cursor, the bytes, the rest as it was -/
structure Drawn (w w' : World) (G : Nat) (a : Option Addr) (len cap : Nat) : Prop where
  cur : Cur w' G a len cap
  code : Code w' G a len
  grown : w.grownBy w' (some G)

theorem Drawn.trans {w w1 w2 : World} {G : Nat} {a : Option Addr} {len cap : Nat} (h : Drawn w w1 G a len cap) (k : Drawn w1 w2 G a len cap) : Drawn w w2 G a len cap :=
  ⟨k.cur, k.code, grownT h.grown k.grown⟩

theorem l01Byte_drawn (w : World) (G : Nat) (a : Option Addr) (len cap : Nat) (hl : len ≤ 1048576) (hcur : Cur w G a len cap) (hcode : Code w G a len) :
    Calls Tryz.prog 100 #[.pointer (some ⟨G, 0, none⟩)] w fun e w' => ∃ x : Nat, x ≤ 255 ∧ e = .returned (.int .i64 (x : Int)) ∧ Drawn w w' G a len cap :=
  (l01Byte_any w G a len cap hl hcur hcode).mono fun _ _ ⟨x, hx, he, hc, hg⟩ => ⟨x, hx, he, hc, hcode.kept hg, hg⟩

theorem fin_rem {y n : Int} {R : Prop} (h : 0 < n) (hr : R) : ∃ x : Nat, (x : Int) < n ∧ Ending.returned (.int .i64 (y % n)) = .returned (.int .i64 (x : Int)) ∧ R := by
  have h1 := Int.emod_lt_of_pos y h
  have h2 := Int.emod_nonneg y (show n ≠ 0 by omega)
  exact ⟨(y % n).toNat, by omega, by rw [Int.toNat_of_nonneg h2], hr⟩

set_option maxRecDepth 100000 in
set_option maxHeartbeats 2000000 in
theorem l01Below_any (n : Int) (h0 : 0 < n) (h1 : n ≤ 4294967296) (w : World) (G : Nat) (a : Option Addr) (len cap : Nat) (hl : len ≤ 1048576) (hcur : Cur w G a len cap) (hcode : Code w G a len) :
    Calls Tryz.prog 65 #[.pointer (some ⟨G, 0, none⟩), .int .i64 n] w fun e w' => ∃ x : Nat, (x : Int) < n ∧ e = .returned (.int .i64 (x : Int)) ∧ Drawn w w' G a len cap := by
  have B := fun (W : World) (hc : Cur W G a len cap) (hd : Code W G a len) => l01Byte_drawn W G a len cap hl hc hd
  have HB := (show ∀ {p : Prop}, p → Hid p from fun h => h) B
  clear B
  have H1 := (show ∀ {p : Prop}, p → Hid p from fun h => h) hcur
  have H2 := (show ∀ {p : Prop}, p → Hid p from fun h => h) hcode
  clear hcur hcode
  by_cases hs : n ≤ 256
  · go_enter Tryz.func65, Tryz.ntmps65
    go_wp2_with (go_at_call 100; refine (HB.out _ H1.out H2.out).mono ?_; rintro e w1 ⟨x, hx, rfl, hd⟩)
    go_ret
    exact fin_rem h0 hd
  · go_enter Tryz.func65, Tryz.ntmps65
    go_wp2_with (go_at_call 100; refine (HB.out _ H1.out H2.out).mono ?_; rintro e w1 ⟨x, hx, rfl, d1⟩; refine Hid.out ?_)
    refine (show ∀ {p : Prop}, p → Hid p from fun h => h) ?_
    go_wp2_with (go_at_call 100; refine (HB.out _ d1.cur d1.code).mono ?_; rintro e w2 ⟨y, hy, rfl, d2⟩; refine Hid.out ?_)
    refine (show ∀ {p : Prop}, p → Hid p from fun h => h) ?_
    go_wp2_with (go_at_call 100; refine (HB.out _ d2.cur d2.code).mono ?_; rintro e w3 ⟨z, hz, rfl, d3⟩; refine Hid.out ?_)
    refine (show ∀ {p : Prop}, p → Hid p from fun h => h) ?_
    go_wp2_with (go_at_call 100; refine (HB.out _ d3.cur d3.code).mono ?_; rintro e w4 ⟨v, hv, rfl, d4⟩; refine Hid.out ?_)
    refine (show ∀ {p : Prop}, p → Hid p from fun h => h) ?_
    go_wp2
    go_ret
    exact fin_rem h0 (d1.trans (d2.trans (d3.trans d4)))

theorem cur_new (w : World) (a : Option Addr) (len cap : Nat) (h : Int) : Cur (w.alloc (.cells #[.slice a len cap, .int .i64 0, .int .i64 h] 202)) w.heap.size a len cap :=
  ⟨0, h, Nat.zero_le _, heap_alloc_new w _⟩

theorem code_new {w : World} {a : Option Addr} {len : Nat} (h : Code w w.heap.size a len) (o : Obj) : Code (w.alloc o) w.heap.size a len := by
  rcases h with h | ⟨b, off, ha, hb, hn, hc⟩
  · exact .inl h
  · refine .inr ⟨b, off, ha, by simp; omega, hn, fun j hj => ?_⟩
    obtain ⟨z, hz, hcell⟩ := hc j hj
    exact ⟨z, hz, by rw [World.cell?_of_block (w := w) (Below.heap_alloc w o b hb)]; exact hcell⟩

set_option maxRecDepth 100000 in
set_option maxHeartbeats 2000000 in
theorem l01New_any (w : World) (a : Option Addr) (len cap : Nat) (hl : len ≤ 1048576) (hcode : Code w w.heap.size a len) :
    Calls Tryz.prog 62 #[.slice a len cap] w fun e w' => e = .returned (.pointer (some ⟨w.heap.size, 0, none⟩)) ∧ Cur w' w.heap.size a len cap ∧ Code w' w.heap.size a len ∧ Below w.heap.size w w' ∧ w.heap.size < w'.heap.size := by
  have HC := hideIt hcode
  clear hcode
  go_enter Tryz.func62, Tryz.ntmps62
  go_wp2
  go_loop [3, 4] (fun hh i => ∃ (k : Nat) (h : Int), k ≤ len ∧ 0 ≤ h ∧ h ≤ 2147483648 ∧ i = .int .i64 k ∧ hh = .int .i64 h) (fun _ i => len - (intOf i).toNat)
  case atStart => exact ⟨0, 13501 + (len : Int), by omega, by omega, by omega, rfl, rfl⟩
  case round =>
    obtain ⟨k, h, hk, h0, h1, rfl, rfl⟩ := hrel
    by_cases hlt : k < len
    · have e0 : decide ((k : Int) < (len : Int)) = true := by simp; omega
      by_cases h4 : k < 4000
      · have e1 : decide ((k : Int) < 4000) = true := by simp; omega
        rcases HC.out with hz | ⟨b, off, rfl, hb, hne, hc⟩
        · omega
        · obtain ⟨z, hz, hcell⟩ := hc k hlt
          have b1 : (0 : Int) ≤ (k : Int) := by omega
          have b2 : (k : Int) < (len : Int) := by omega
          clear hc HC
          go_wp2
          have ha := and30 (h * 131 + (z : Int) + 7)
          go_round
          case rel => exact ⟨k + 1, _, by omega, ha.1, by omega, by go_num, rfl⟩
          case measure => simp [intOf]; omega
      · have e1 : decide ((k : Int) < 4000) = false := by simp; omega
        go_wp2
        go_ret
        exact ⟨rfl, cur_new w a len cap h, code_new HC.out _, (Below.refl _ _).alloc (Nat.le_refl _) _, by simp⟩
    · have e0 : decide ((k : Int) < (len : Int)) = false := by simp; omega
      go_wp2
      go_ret
      exact ⟨rfl, cur_new w a len cap h, code_new HC.out _, (Below.refl _ _).alloc (Nat.le_refl _) _, by simp⟩

theorem l01Once_any (n : Int) (h0 : 0 < n) (h1 : n ≤ 4294967296) (w : World) (G : Nat) (a : Option Addr) (len cap : Nat) (hl : len ≤ 1048576) (hcur : Cur w G a len cap) (hcode : Code w G a len) :
    Calls Tryz.prog 64 #[.pointer (some ⟨G, 0, none⟩), .int .i64 n] w fun e w' => ∃ b : Bool, e = .returned (.bool b) ∧ Drawn w w' G a len cap := by
  have HB := hideIt (l01Below_any n h0 h1 w G a len cap hl hcur hcode)
  clear hcur hcode
  go_enter Tryz.func64, Tryz.ntmps64
  go_wp2_with (go_at_call 65; refine HB.out.mono ?_; rintro e w1 ⟨x, hx, rfl, hd⟩)
  go_ret
  exact ⟨_, rfl, hd⟩

end Go.Proofs.YtkkplppcgnikoaaGreat
namespace Go.Proofs.YtkkplppcgnikoaaGreat
open Go.RowKit

theorem Cur.up7 {u v : World} {G : Nat} {a : Option Addr} {len cap : Nat} (h : Cur u G a len cap) (hb : Below u.heap.size u v) : Cur v G a len cap := by
  obtain ⟨p, q, h1, h⟩ := h
  exact ⟨p, q, h1, by rw [hb.block G (Array.getElem?_eq_some_iff.1 h).1]; exact h⟩
theorem Code.up7 {u v : World} {G : Nat} {a : Option Addr} {len : Nat} (h : Code u G a len) (hb : Below u.heap.size u v) : Code v G a len :=
  h.kept ⟨hb.os, hb.tape, hb.output, hb.size, fun k hk _ => hb.block k hk⟩
theorem big7_any (w : World) (a : Option Addr) (len cap : Nat) : Calls Tryz.prog 10 #[.slice a len cap] w fun e w' => e = .returned (.bool (decide ((1048576 : Int) < (len : Int)))) ∧ w' = w := by
  go_enter Tryz.func10, Tryz.ntmps10
  go_wp2
  go_ret
  exact ⟨rfl, rfl⟩
theorem Cur.lt7 {u : World} {G : Nat} {a : Option Addr} {len cap : Nat} (h : Cur u G a len cap) : G < u.heap.size := by
  obtain ⟨p, q, _, h⟩ := h
  exact (Array.getElem?_eq_some_iff.1 h).1
end Go.Proofs.YtkkplppcgnikoaaGreat
namespace Go.Proofs.YtkkplppcgnikoaaGreat

/-- v is the vertex that the way came from -/
def isUp : List Int → Int → Bool
  | _ :: p :: _, v => decide (p = v)
  | _, _ => false
/-- one step: w is the way from the root, the last one first; s is what was seen -/
def tstep (w s : List Int) (v : Int) : Option (List Int × List Int) :=
  if isUp w v = true then some (w.tail, s) else if v ∈ s then none else some (v :: w, v :: s)
def trun (w s : List Int) : List Int → Option (List Int × List Int)
  | [] => some (w, s)
  | v :: r => match tstep w s v with
    | none => none
    | some x => trun x.1 x.2 r
/-- a number is that of a vertex -/
def vB (v : Int) : Bool := decide (0 ≤ v ∧ v < 12)
/-- the tour is right -/
def tB (t : List Int) : Bool := t.all vB && (match trun [] [] t with | some x => x.1.length == 1 | none => false)

theorem trun_append (w s a b : List Int) : trun w s (a ++ b) = (trun w s a).bind fun x => trun x.1 x.2 b := by
  induction a generalizing w s with
  | nil => rfl
  | cons v a ih =>
    simp only [List.cons_append, trun]
    cases tstep w s v with
    | none => rfl
    | some x => exact ih _ _
theorem trun_up {w s : List Int} {v : Int} {r : List Int} (h : isUp w v = true) : trun w s (v :: r) = trun w.tail s r := by simp [trun, tstep, h]
theorem trun_down {w s : List Int} {v : Int} {r : List Int} (h : isUp w v = false) (hs : v ∉ s) : trun w s (v :: r) = trun (v :: w) (v :: s) r := by simp [trun, tstep, h, hs]
theorem trun_bad {w s : List Int} {v : Int} {r : List Int} (h : isUp w v = false) (hs : v ∈ s) : trun w s (v :: r) = none := by simp [trun, tstep, h, hs]
/-- a step that is done is one of the two -/
theorem trun_cons {w s : List Int} {v : Int} {r : List Int} {x : List Int × List Int} (h : trun w s (v :: r) = some x) :
    (isUp w v = true ∧ trun w.tail s r = some x) ∨ (isUp w v = false ∧ v ∉ s ∧ trun (v :: w) (v :: s) r = some x) := by
  cases hu : isUp w v with
  | true => rw [trun_up hu] at h; exact .inl ⟨rfl, h⟩
  | false =>
    by_cases hs : v ∈ s
    · rw [trun_bad hu hs] at h; simp at h
    · rw [trun_down hu hs] at h; exact .inr ⟨rfl, hs, h⟩
theorem isUp_some {w : List Int} {v : Int} (h : isUp w v = true) : ∃ c q, w = c :: v :: q := by
  match w, h with
  | c :: p :: q, h => simp [isUp] at h; exact ⟨c, q, by rw [h]⟩
theorem isUp_mem {w : List Int} {v : Int} (h : isUp w v = true) : v ∈ w := by obtain ⟨c, q, rfl⟩ := isUp_some h; simp

/-- what is seen: what was, and what stands in the list -/
theorem trun_seen {t w s w' s' : List Int} (h : trun w s t = some (w', s')) (hw : ∀ x ∈ w, x ∈ s) : (∀ x, x ∈ s' ↔ x ∈ s ∨ x ∈ t) ∧ ∀ x ∈ w', x ∈ s' := by
  induction t generalizing w s with
  | nil => simp [trun] at h; obtain ⟨rfl, rfl⟩ := h; exact ⟨fun x => by simp, hw⟩
  | cons v r ih =>
    rcases trun_cons h with ⟨hu, h1⟩ | ⟨hu, hs, h1⟩
    · obtain ⟨a, b⟩ := ih h1 (fun x hx => hw x (List.mem_of_mem_tail hx))
      refine ⟨fun x => ?_, b⟩
      rw [a x]
      have := hw v (isUp_mem hu)
      simp
      constructor
      · rintro (h | h) <;> simp [h]
      · rintro (h | rfl | h)
        · exact .inl h
        · exact .inl this
        · exact .inr h
    · obtain ⟨a, b⟩ := ih h1 (fun x hx => by rcases List.mem_cons.1 hx with rfl | hx; · simp
                                             · exact List.mem_cons_of_mem _ (hw x hx))
      refine ⟨fun x => ?_, b⟩
      rw [a x]
      simp
      constructor
      · rintro ((h | h) | h) <;> simp [h]
      · rintro (h | h | h) <;> simp [h]
theorem trun_nodup {t w s w' s' : List Int} (h : trun w s t = some (w', s')) (hs : s.Nodup) : s'.Nodup := by
  induction t generalizing w s with
  | nil => simp [trun] at h; obtain ⟨rfl, rfl⟩ := h; exact hs
  | cons v r ih =>
    rcases trun_cons h with ⟨hu, h1⟩ | ⟨hu, hv, h1⟩
    · exact ih h1 hs
    · exact ih h1 (List.nodup_cons.2 ⟨hv, hs⟩)
theorem trun_len {t w s w' s' : List Int} (h : trun w s t = some (w', s')) : t.length + w'.length + 2 * s.length = w.length + 2 * s'.length := by
  induction t generalizing w s with
  | nil => simp [trun] at h; obtain ⟨rfl, rfl⟩ := h; simp
  | cons v r ih =>
    rcases trun_cons h with ⟨hu, h1⟩ | ⟨hu, hv, h1⟩
    · obtain ⟨c, q, rfl⟩ := isUp_some hu
      have := ih h1
      simp at this ⊢
      omega
    · have := ih h1
      simp at this ⊢
      omega
theorem trun_top {t w s w' s' : List Int} {z : Int} (h : trun w s (t ++ [z]) = some (w', s')) : w'.head? = some z := by
  rw [trun_append] at h
  cases hq : trun w s t with
  | none => rw [hq] at h; simp at h
  | some x =>
    rw [hq] at h
    rcases trun_cons h with ⟨hu, h1⟩ | ⟨hu, hv, h1⟩
    · obtain ⟨c, q, e⟩ := isUp_some hu
      simp [trun] at h1
      rw [← h1.1, e]
      rfl
    · simp [trun] at h1
      rw [← h1.1]
      rfl

theorem tB_iff (t : List Int) : tB t = true ↔ (∀ v ∈ t, vB v = true) ∧ ∃ x s, trun [] [] t = some ([x], s) := by
  unfold tB
  rw [Bool.and_eq_true, List.all_eq_true]
  refine and_congr Iff.rfl ?_
  cases trun [] [] t with
  | none => simp
  | some p =>
    obtain ⟨w, s⟩ := p
    simp
    constructor
    · intro h
      match w, h with
      | [x], _ => exact ⟨x, rfl⟩
    · rintro ⟨x, rfl⟩; rfl
theorem tB_of {x : Int} {r s : List Int} (hv : ∀ v ∈ x :: r, vB v = true) (h : trun [x] [x] r = some ([x], s)) : tB (x :: r) = true :=
  (tB_iff _).2 ⟨hv, x, s, by rw [trun_down (by rfl) (by simp)]; exact h⟩
/-- so many numbers below n, no two alike, are n at most -/
theorem nodup_le (n : Nat) (s : List Int) (hs : s.Nodup) (hv : ∀ v ∈ s, 0 ≤ v ∧ v < (n : Int)) : s.length ≤ n := by
  induction n generalizing s with
  | zero =>
    cases s with
    | nil => simp
    | cons a s => have := hv a (by simp); omega
  | succ n ih =>
    by_cases hm : (n : Int) ∈ s
    · have h1 := ih (s.erase (n : Int)) (hs.erase _) (fun v hv' => by
        obtain ⟨h2, h3⟩ := (hs.mem_erase_iff).1 hv'
        have := hv v h3
        omega)
      rw [List.length_erase_of_mem hm] at h1
      omega
    · have h1 := ih s hs (fun v hv' => by
        have := hv v hv'
        have : v ≠ (n : Int) := fun e => hm (e ▸ hv')
        omega)
      omega
theorem nodup_short (s : List Int) (hs : s.Nodup) (hv : ∀ v ∈ s, vB v = true) : s.length ≤ 12 :=
  nodup_le 12 s hs fun v h => by have := hv v h; simpa [vB] using this
theorem tB_len {t : List Int} (h : tB t = true) : 1 ≤ t.length ∧ t.length ≤ 23 := by
  obtain ⟨hv, x, s, h⟩ := (tB_iff t).1 h
  have hl := trun_len h
  have hs := trun_nodup h (by simp)
  have hm := (trun_seen h (by simp)).1
  have := nodup_short s hs (fun v hvs => hv v (by rcases (hm v).1 hvs with h | h; · simp at h
                                                  · exact h))
  simp at hl
  omega
end Go.Proofs.YtkkplppcgnikoaaGreat
