/- What the specification's l03Without and l03Put answer at every list of files. -/
import Derived.Test.YtegknhnmfaafmaaSAt
import Derived.Test.YtegknhnmfaafmaaLawKit
import Derived.Deep.AppendLies
import Derived.Deep.RegionLaw
namespace Go.Proofs.Ytegknhnmfaafmaa
open Go.RowKit

/-- one value in a block of its own -/
def Box (w : World) (b : Nat) (t : TypeId) (v : Value) : Prop := w.heap[b]? = some (.cells #[v] t (0, 0))
theorem Box.cell {w : World} {b : Nat} {t : TypeId} {v : Value} (h : Box w b t v) : w.cell? ⟨b, 0, none⟩ = some v := by rw [cell_of_row w b 0 _ _ _ h]; rfl
theorem Box.frozen {w : World} {b : Nat} {t : TypeId} {v : Value} (h : Box w b t v) : w.frozen? ⟨b, 0, none⟩ = false := frozen_of_row w b 0 _ _ h
theorem Box.lt {w : World} {b : Nat} {t : TypeId} {v : Value} (h : Box w b t v) : b < w.heap.size := (Array.getElem?_eq_some_iff.1 h).1
theorem Box.new (w : World) (t : TypeId) (v : Value) (b : Nat) (hb : w.heap.size = b) : Box (w.alloc (.cells #[v] t)) b t v := by subst hb; exact heap_alloc_new w _
theorem Box.grown {w w' : World} {b : Nat} {t : TypeId} {v : Value} {row : Option Nat} (h : Box w b t v) (hg : w.grownBy w' row) (hr : some b ≠ row) : Box w' b t v := by
  unfold Box; rw [hg.block b h.lt hr]; exact h
theorem Box.alloc {w : World} {b : Nat} {t : TypeId} {v : Value} (h : Box w b t v) (o : Obj) : Box (w.alloc o) b t v := by
  unfold Box; rw [Below.heap_alloc w o b h.lt]; exact h
theorem Box.set {w : World} {b : Nat} {t : TypeId} {v : Value} (h : Box w b t v) (u : Value) : Box (w.setCell ⟨b, 0, none⟩ u) b t u := by
  unfold Box; rw [heap_setCell_same w b 0 _ t u h]; rfl
theorem Box.setOther {w : World} {b b' j : Nat} {t : TypeId} {v : Value} (h : Box w b t v) (u : Value) (hb : b ≠ b') : Box (w.setCell ⟨b', j, none⟩ u) b t v := by
  unfold Box; rw [heap_setCell_other w ⟨b', j, none⟩ b u hb]; exact h
theorem Box.below {w w' : World} {b C : Nat} {t : TypeId} {v : Value} (h : Box w b t v) (hb : Below C w w') (hC : b < C) : Box w' b t v := by
  unfold Box; rw [hb.block b hC]; exact h

theorem set_other {u : World} {G j x o : Nat} {v : Value} (h : x ≠ G) : (u.setCell ⟨G, j, none⟩ v).cell? ⟨x, o, none⟩ = u.cell? ⟨x, o, none⟩ := World.cell?_of_block (w := u) (heap_setCell_other u ⟨G, j, none⟩ x v h)

theorem own_setLow {w : World} {B e s n : Nat} {v : Value} {xs : List Value} (h : w.ownsRow B e s v n xs) (G j : Nat) (u : Value) (hG : G < B) : (w.setCell ⟨G, j, none⟩ u).ownsRow B e s v n xs :=
  World.ownsRow.kept h (grownSet w G j u) (.inr (fun e => by have := (h.lt G (by simpa using e)).1; omega))

/-- the files without that of a name -/
def without (fs : List FileV) (name : ByteArray) : List FileV := fs.filter fun f => !(hasName name f)
theorem without_snoc (fs : List FileV) (name : ByteArray) (f : FileV) : without (fs ++ [f]) name = without fs name ++ (if hasName name f then [] else [f]) := by
  unfold without
  cases h : hasName name f <;> simp [h]
theorem without_le (fs : List FileV) (name : ByteArray) : (without fs name).length ≤ fs.length := List.length_filter_le _ _

set_option maxRecDepth 100000 in
set_option maxHeartbeats 4000000 in
theorem l03Without_any (fs : List FileV) (name : ByteArray) (n : Nat) (a : Option Addr) (c : Nat) (hn : n ≤ 1048576) (w : World) (h : Fs w w.heap.size a n fs) :
    Calls Try.prog 52 #[.agg #[.slice a n c], .string name] w fun e w' => ∃ a' m c', e = .returned (.agg #[.slice a' m c']) ∧ w'.ownsRow w.heap.size 36 3 (.slice a' m c') m (fcells (without fs name)) ∧ Below w.heap.size w w' := by
  obtain ⟨i0, hi, hz0, hz1, hz2⟩ := info_parts infoIF
  obtain ⟨hlen, hrow⟩ := h
  have HR := hideIt hrow
  clear hrow
  go_enter Try.func52, Try.ntmps52
  go_wp2
  go_loopw [6] (fun i wr => ∃ (k m : Nat) (a' : Option Addr) (c' : Nat), k ≤ n ∧ m ≤ k ∧ i = .int .i64 (k : Int) ∧ Box wr w.heap.size 26 (.slice a n c) ∧ Box wr (w.heap.size + 1) 26 (.slice none 0 0) ∧ Box wr (w.heap.size + 1 + 1) 26 (.slice a' m c') ∧
      wr.ownsRow (w.heap.size + 1 + 1 + 1) 36 3 (.slice a' m c') m (fcells (without (fs.take k) name)) ∧ Below w.heap.size w wr) (fun i _ => n - (intOf i).toNat)
  case atStart =>
    refine ⟨0, 0, none, 0, by omega, by omega, rfl, ?_, ?_, ?_, by simpa [without, fcells] using World.ownsRow_nil _ _ _ _, ?_⟩
    · exact ((Box.new w _ _ _ rfl).alloc _).alloc _
    · exact (Box.new _ _ _ _ (by simp)).alloc _
    · exact Box.new _ _ _ _ (by simp)
    · exact (((Below.refl _ _).alloc (Nat.le_refl _) _).alloc (by simp) _).alloc (by simp; omega) _
  case round =>
    obtain ⟨k, m, a', c', hk, hmk, rfl, x0, x1, x2, hown, hb⟩ := hrel
    have e0 := x0.cell
    have e1 := x2.cell
    have e2 := x2.frozen
    have l2 := x2.lt
    by_cases hlt : k < n
    · rcases HR.out with hz | ⟨b, off, rfl, hbl, hc⟩
      · omega
      · obtain ⟨f, hf⟩ : ∃ f, fs[k]? = some f := ⟨fs[k]'(by omega), List.getElem?_eq_getElem (by omega)⟩
        obtain ⟨c0, c1, c2⟩ := hc k f hf
        have d0 : wr.cell? ⟨b, off + k * 3, none⟩ = some (.string f.name) := by rw [hb.cell hbl]; exact c0
        have d1 : wr.cell? ⟨b, off + k * 3 + 1, none⟩ = some (.string f.text) := by rw [hb.cell hbl]; exact c1
        have d2 : wr.cell? ⟨b, off + k * 3 + 2, none⟩ = some (.int .i64 f.kept) := by rw [hb.cell hbl]; exact c2
        have b1 : (0 : Int) ≤ (k : Int) := by omega
        have b2 : (k : Int) < (n : Int) := by omega
        cases hh : hasName name f with
        | true =>
          have HX : Hid (without (fs.take (k + 1)) name = without (fs.take k) name) := by
            show _ = _
            rw [take_snocF fs k f hf, without_snoc, hh]; simp
          have HO := hideIt hown
          unfold hasName at hh
          clear hc c0 c1 c2 hown hf
          go_wp2
          exact ⟨⟨k + 1, m, a', c', by omega, by omega, by go_num, x0, x1, x2, by rw [HX.out]; exact HO.out, hb⟩, by simp [intOf]; omega⟩
        | false =>
          have HX : Hid (fcells (without (fs.take (k + 1)) name) = fcells (without (fs.take k) name) ++ [.string f.name, .string f.text, .int .i64 f.kept]) := by
            show _ = _
            rw [take_snocF fs k f hf, without_snoc, hh, if_neg (by simp), fcells_snoc]
          have hrow : ∀ x, x < w.heap.size + 1 + 1 + 1 → some x ≠ (Value.slice a' m c').ownBlock := fun x hx e => by
            have := (hown.lt x e.symm).1
            omega
          have HK : Hid (∀ w1 : World, ((wr.alloc (.cells #[.string f.name, .string f.text, .int .i64 f.kept] 36)).drew).grownBy w1 (Value.slice a' m c').ownBlock →
              (w1.cell? ⟨w.heap.size, 0, none⟩ = some (.slice (some ⟨b, off, none⟩) n c) ∧ w1.cell? ⟨b, off + k * 3, none⟩ = some (.string f.name) ∧ w1.cell? ⟨b, off + k * 3 + 1, none⟩ = some (.string f.text) ∧ w1.cell? ⟨b, off + k * 3 + 2, none⟩ = some (.int .i64 f.kept)) ∧
              Box w1 w.heap.size 26 (.slice (some ⟨b, off, none⟩) n c) ∧ Box w1 (w.heap.size + 1) 26 (.slice none 0 0) ∧ Box w1 (w.heap.size + 1 + 1) 26 (.slice a' m c') ∧ Below w.heap.size w w1) := fun w1 hg => by
            have y0 := (x0.alloc (.cells #[.string f.name, .string f.text, .int .i64 f.kept] 36)).grown (w' := w1) ⟨hg.os, hg.tape, hg.output, hg.size, hg.block⟩ (hrow _ (by omega))
            have y1 := (x1.alloc (.cells #[.string f.name, .string f.text, .int .i64 f.kept] 36)).grown (w' := w1) ⟨hg.os, hg.tape, hg.output, hg.size, hg.block⟩ (hrow _ (by omega))
            have y2 := (x2.alloc (.cells #[.string f.name, .string f.text, .int .i64 f.kept] 36)).grown (w' := w1) ⟨hg.os, hg.tape, hg.output, hg.size, hg.block⟩ (hrow _ (by omega))
            have hb1 : Below w.heap.size w w1 := ((hb.alloc (by omega) _).drew).grown hg (by simp; omega) (fun j hj => by have := (hown.lt j hj).1; omega)
            exact ⟨⟨y0.cell, by rw [hb1.cell hbl]; exact c0, by rw [hb1.cell hbl]; exact c1, by rw [hb1.cell hbl]; exact c2⟩, y0, y1, y2, hb1⟩
          unfold hasName at hh
          clear hc c0 c1 c2 hf
          go_wp2
          go_region_law (refine step_append_lies _ (by rfl) _ _ _ (by rfl) (w.heap.size + 1 + 1 + 1) 36 i0 _ 3 40 Try.underlying24 hi hz0 hz1 hz2 rfl (by omega) _ m _ (by rfl) ((hown.alloc _).drew) ⟨wr.heap.size, 0, none⟩ 1 1 [.string f.name, .string f.text, .int .i64 f.kept] (by rfl) (by rfl) (World.news_of_block (cs := #[.string f.name, .string f.text, .int .i64 f.kept]) (t := 36) (fr := (0, 0)) (heap_alloc_new wr _)) (by simp [Value.oneCell']) (by omega) (by unfold maxLen; omega) (by omega) (by simp; omega) (wr.heap.size + 1) (by simp) ?_; intro g1 cap1 w1 hown1 hg1 hat1 hlt1; obtain ⟨S1, y0, y1, y2, hb1⟩ := HK.out _ hg1; have z1 := y2.cell; have z2 := y2.frozen)
          all_goals
            have lg := (hown1.lt g1 rfl).1
            have HO := hideIt (own_setOther hown1 (w.heap.size + 1 + 1) 0 (.slice (some ⟨g1, 0, none⟩) (m + 1) cap1) (by omega))
            have q0 := y0.setOther (j := 0) (.slice (some ⟨g1, 0, none⟩) (m + 1) cap1) (show w.heap.size ≠ w.heap.size + 1 + 1 by omega)
            have q1 := y1.setOther (j := 0) (.slice (some ⟨g1, 0, none⟩) (m + 1) cap1) (show w.heap.size + 1 ≠ w.heap.size + 1 + 1 by omega)
            have q2 := y2.set (.slice (some ⟨g1, 0, none⟩) (m + 1) cap1)
            have q3 := hb1.setCell (p := ⟨w.heap.size + 1 + 1, 0, none⟩) (by show _ ≤ w.heap.size + 1 + 1; omega) (.slice (some ⟨g1, 0, none⟩) (m + 1) cap1)
            clear hown1 hg1 hown S1 HK hrow
            go_wp2
            exact ⟨⟨k + 1, m + 1, _, _, by omega, by omega, by go_num, q0, q1, q2, by rw [HX.out]; exact HO.out, q3⟩, by simp [intOf]; omega⟩
    · have e : fs.take k = fs := List.take_of_length_le (by omega)
      rw [e] at hown
      have HO := hideIt hown
      have r0 := x1.cell
      have r1 := x1.frozen
      clear hown e
      have s1 := (x1.set (.slice a' m c')).cell
      have HO2 := hideIt (own_setLow HO.out (w.heap.size + 1) 0 (.slice a' m c') (by omega))
      have q3 := hb.setCell (p := ⟨w.heap.size + 1, 0, none⟩) (by show _ ≤ w.heap.size + 1; omega) (.slice a' m c')
      go_wp2
      exact bodyPost_ret (v := .agg #[.slice a' m c']) (by simp [results, Try.results52, go_sem, s1]) rfl ⟨a', m, c', rfl, own_mono HO2.out (by omega), q3⟩
end Go.Proofs.Ytegknhnmfaafmaa
