/- Lists of ints: how they stand in memory; eqIntS, markIntS, heldIntS; an answer that is a list of ints. -/
import Derived.Test.YtfkoddhojcjohaaLawSt5
namespace Go.Proofs.Ytfkoddhojcjohaa
open Go.RowKit

/-- a list of ints stands in memory below B -/
def Is (w : World) (B : Nat) (a : Option Addr) (n : Nat) (ls : List Int) : Prop :=
  ls.length = n ∧ (n = 0 ∨ ∃ b off, a = some ⟨b, off, none⟩ ∧ b < B ∧ ∀ (j : Nat) (x : Int), ls[j]? = some x → w.cell? ⟨b, off + j, none⟩ = some (.int .i64 x))
theorem Is.below {w w' : World} {B C : Nat} {a : Option Addr} {n : Nat} {ls : List Int} (h : Is w B a n ls) (hb : Below C w w') (hB : B ≤ C) : Is w' B a n ls := by
  refine ⟨h.1, h.2.imp id ?_⟩
  rintro ⟨b, off, h1, h2, h3⟩
  exact ⟨b, off, h1, h2, fun j x hx => by rw [hb.cell (p := ⟨b, _, none⟩) (by show b < _; omega)]; exact h3 j x hx⟩
theorem Is.mono {w : World} {B C : Nat} {a : Option Addr} {n : Nat} {ls : List Int} (h : Is w B a n ls) (hB : B ≤ C) : Is w C a n ls := by
  refine ⟨h.1, h.2.imp id ?_⟩
  rintro ⟨b, off, h1, h2, h3⟩
  exact ⟨b, off, h1, by omega, h3⟩
theorem Is.up {w w' : World} {a : Option Addr} {n : Nat} {ls : List Int} (h : Is w w.heap.size a n ls) (hb : Below w.heap.size w w') : Is w' w'.heap.size a n ls :=
  (h.below hb (Nat.le_refl _)).mono hb.size
def ic (ls : List Int) : List Value := ls.map fun x => Value.int .i64 x
theorem ic_len (ls : List Int) : (ic ls).length = ls.length := by simp [ic]
theorem ic_snoc (ls : List Int) (x : Int) : ic (ls ++ [x]) = ic ls ++ [.int .i64 x] := by simp [ic]
theorem ic_at {ls : List Int} {j : Nat} {x : Int} (h : ls[j]? = some x) : (ic ls)[j]? = some (.int .i64 x) := by rw [ic, List.getElem?_map, h]; rfl
theorem Is_of_own {w : World} {B n c : Nat} {a : Option Addr} {ls : List Int} (h : w.ownsRow B 3 1 (.slice a n c) n (ic ls)) : Is w w.heap.size a n ls := by
  have hl := h.1
  rw [ic_len] at hl
  refine ⟨by omega, ?_⟩
  rcases h.2 with ⟨hv, h0⟩ | ⟨g, cap, cur, hv, hrest⟩
  · exact .inl h0
  · simp at hv
    obtain ⟨rfl, rfl⟩ := hv
    refine .inr ⟨g, 0, rfl, (h.lt g rfl).2, fun j x hx => ?_⟩
    have hj : j < ls.length := (List.getElem?_eq_some_iff.1 hx).1
    rw [Nat.zero_add, h.cellAt j (by omega)]
    exact ic_at hx
theorem info3i : (Try.prog.info? 3).map (fun i => (i.zero, i.size, i.bytes)) = some (some (.int .i64 0), 1, 8) := by kernel_rfl

/-- n marks from k0 on -/
def imarks (k0 n : Nat) : List Int := (List.range n).map fun (t : Nat) => (k0 : Int) + (t : Int)
theorem imarks_snoc (k0 n : Nat) : imarks k0 (n + 1) = imarks k0 n ++ [(k0 : Int) + (n : Int)] := by simp [imarks, List.range_succ]
theorem imarks_at (k0 n j : Nat) (h : j < n) : (imarks k0 n)[j]? = some ((k0 : Int) + (j : Int)) := by simp [imarks, h]

/-- the answer of Around, Labels: a list of the answer's own -/
def IAns (w : World) (ls : List Int) (e : Ending) (w' : World) : Prop :=
  ∃ a m c, e = .returned (.slice a m c) ∧ w'.ownsRow w.heap.size 3 1 (.slice a m c) m (ic ls) ∧ Below w.heap.size w w'

/-- a list that is ours, in blocks lo .. hi -/
structure RBox (u : World) (lo hi : Nat) (a : Option Addr) (m c : Nat) (ls : List Int) : Prop where
  own : u.ownsRow lo 3 1 (.slice a m c) m (ic ls)
  row : ∀ g, (Value.slice a m c).ownBlock = some g → g < hi
  there : hi ≤ u.heap.size
theorem RBox.rng {u v : World} {lo hi l2 h2 : Nat} {a : Option Addr} {m c : Nat} {ls : List Int} (h : RBox u lo hi a m c ls) (hr : Rng l2 h2 u v) (ho : hi ≤ l2 ∨ h2 ≤ lo) : RBox v lo hi a m c ls := by
  have hth := h.there
  refine ⟨⟨h.own.1, ?_⟩, h.row, Nat.le_trans hth hr.size⟩
  rcases h.own.2 with h3 | ⟨g, cap, cur, hv, hg, hcur, hrest⟩
  · exact .inl h3
  · have hgh := h.row g (by rw [hv]; rfl)
    refine .inr ⟨g, cap, cur, hv, hg, ?_, hrest⟩
    rw [hr.block g (by omega) (by omega)]
    exact hcur
theorem RBox.up {u v : World} {lo hi : Nat} {a : Option Addr} {m c : Nat} {ls : List Int} (h : RBox u lo hi a m c ls) (hb : Below u.heap.size u v) : RBox v lo hi a m c ls :=
  h.rng (l2 := hi) (h2 := hi) (Rng.of_below hb) (.inl (Nat.le_refl _))
theorem RBox.is {u : World} {lo hi : Nat} {a : Option Addr} {m c : Nat} {ls : List Int} (h : RBox u lo hi a m c ls) : Is u u.heap.size a m ls := Is_of_own h.own
theorem RBox.len {u : World} {lo hi : Nat} {a : Option Addr} {m c : Nat} {ls : List Int} (h : RBox u lo hi a m c ls) : ls.length = m := by
  have := h.own.1; rw [ic_len] at this; omega
theorem RBox.laid {u : World} {lo : Nat} {a : Option Addr} {m c : Nat} {ls : List Int} (ho : u.ownsRow lo 3 1 (.slice a m c) m (ic ls)) : RBox u lo u.heap.size a m c ls :=
  ⟨ho, fun g hg => (ho.lt g hg).2, Nat.le_refl _⟩
end Go.Proofs.Ytfkoddhojcjohaa
