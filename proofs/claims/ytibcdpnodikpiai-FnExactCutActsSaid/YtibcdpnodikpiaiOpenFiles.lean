/- A list of files that comes in, as the walks want it. -/
import Derived.Test.YtibcdpnodikpiaiFiles
import Derived.WalkKit
import Derived.ProofKit
import Derived.OpenShut
import Derived.ChangeOld
import Derived.ChangeArms
import Derived.Below
namespace Go.Proofs.Ytibcdpnodikpiai
open Go.ChangeShapes Go.WideShapes Go.ChangeAt Go.RowKit

theorem cellsLF : Try.prog.cellsOf 80 = 3 := by kernel_rfl
theorem cells9 : Try.prog.cellsOf 9 = 1 := by kernel_rfl
theorem cells3 : Try.prog.cellsOf 3 = 1 := by kernel_rfl

/-- a file as the machine bears it -/
def FitF (f : FileV) : Prop := f.name.size ≤ maxLen ∧ f.text.size ≤ maxLen ∧ (Lit.int .i64 f.kept).wf = true

theorem three {α : Type} {l : List α} (h : l.length = 3) : ∃ a b c, l = [a, b, c] := by
  cases l with
  | nil => simp at h
  | cons a l =>
    cases l with
    | nil => simp at h
    | cons b l =>
      cases l with
      | nil => simp at h
      | cons c l =>
        cases l with
        | nil => exact ⟨a, b, c, rfl⟩
        | cons d l => simp at h

theorem open_file {H : Type} {enc : TypeId × Value → H} {W : World} {fuel : Nat} {cs : List Value} {y : DataW H × List MemPlace}
    (h : DataW.trod enc Try.prog W 0 (fun _ => true) true fuel 80 cs = some y) : ∃ f : FileV, cs = [.string f.name, .string f.text, .int .i64 f.kept] ∧ FitF f := by
  obtain ⟨xs, n, _, _, hl, hlen, hf⟩ := DataW.trod_struct Try.underlying80 h
  rw [cellsLF] at hl
  obtain ⟨c0, c1, c2, rfl⟩ := three hl
  have h0 : DataW.trod enc Try.prog W 0 (fun _ => true) true n 9 (([c0, c1, c2].drop 0).take (Try.prog.cellsOf 9)) = xs[0]? := hf 0 _ rfl
  have h1 : DataW.trod enc Try.prog W 0 (fun _ => true) true n 9 (([c0, c1, c2].drop 1).take (Try.prog.cellsOf 9)) = xs[1]? := hf 1 _ rfl
  have h2 : DataW.trod enc Try.prog W 0 (fun _ => true) true n 3 (([c0, c1, c2].drop 2).take (Try.prog.cellsOf 3)) = xs[2]? := hf 2 _ rfl
  rw [cells9] at h0 h1
  rw [cells3] at h2
  have g : ∀ i, i < 3 → ∃ z, xs[i]? = some z := fun i hi => ⟨xs[i]'(by simp at hlen; omega), List.getElem?_eq_getElem _⟩
  obtain ⟨z0, e0⟩ := g 0 (by omega)
  obtain ⟨z1, e1⟩ := g 1 (by omega)
  obtain ⟨z2, e2⟩ := g 2 (by omega)
  rw [e0] at h0
  rw [e1] at h1
  rw [e2] at h2
  obtain ⟨s0, hs0, _, w0⟩ := DataW.trod_string Try.underlying9 h0
  obtain ⟨s1, hs1, _, w1⟩ := DataW.trod_string Try.underlying9 h1
  obtain ⟨k, hk, _, w2⟩ := DataW.trod_int Try.underlying3 h2
  simp at hs0 hs1 hk
  subst hs0 hs1 hk
  exact ⟨⟨s0, s1, k⟩, rfl, w0, w1, w2⟩

theorem open_files {H : Type} {enc : TypeId × Value → H} {W : World} {a : Option Addr} {len cap fuel : Nat} {x : DataW H × List MemPlace}
    (h : DataW.trod enc Try.prog W 0 (fun _ => true) true fuel 22 [.slice a len cap] = some x) : len ≤ maxLen ∧ ∃ fs : List FileV, Fs W W.heap.size a len fs ∧ ∀ f ∈ fs, FitF f := by
  rcases DataW.trod_slice Try.underlying22 h with ⟨hcs, _⟩ | ⟨ad, l, c, elems, rest, n, _, hcs, _, _, hlc, hm, hel, hei, _, _⟩
  · simp at hcs
    obtain ⟨rfl, rfl, rfl⟩ := hcs
    exact ⟨by unfold maxLen; omega, [], ⟨rfl, .inl rfl⟩, by simp⟩
  · simp at hcs
    obtain ⟨rfl, rfl, rfl⟩ := hcs
    refine ⟨by omega, ?_⟩
    have each : ∀ i, i < len → ∃ f : FileV, (W.cell? ((ad.add (i * 3)).add 0) = some (.string f.name) ∧ W.cell? ((ad.add (i * 3)).add 1) = some (.string f.text) ∧ W.cell? ((ad.add (i * 3)).add 2) = some (.int .i64 f.kept)) ∧ FitF f := by
      intro i hi
      have h1 := hei i hi
      obtain ⟨y, hy⟩ : ∃ y, elems[i]? = some y := ⟨elems[i]'(by omega), List.getElem?_eq_getElem _⟩
      rw [hy, Option.bind_eq_some_iff] at h1
      obtain ⟨cs', hc, ht⟩ := h1
      obtain ⟨f, rfl, hfit⟩ := open_file ht
      rw [cellsLF] at hc
      have hcell := (World.cells?_some hc).2.2
      refine ⟨f, ⟨?_, ?_, ?_⟩, hfit⟩
      · simpa using hcell 0 (by omega)
      · simpa using hcell 1 (by omega)
      · simpa using hcell 2 (by omega)
    by_cases h0 : len = 0
    · subst h0
      exact ⟨[], ⟨rfl, .inl rfl⟩, by simp⟩
    · obtain ⟨f0, ⟨hc0, _, _⟩, _⟩ := each 0 (by omega)
      obtain ⟨b, off, spot⟩ := ad
      have hspot : spot = none := by simpa [Addr.add] using World.cell?_spot hc0
      subst hspot
      have hb : b < W.heap.size := by
        have := World.block_lt_of_cell? W _ hc0
        simpa [Addr.add] using this
      obtain ⟨F, hF⟩ := Classical.axiomOfChoice (fun i : Fin len => each i.1 i.2)
      refine ⟨List.ofFn F, ⟨by simp, .inr ⟨b, off, rfl, hb, fun j f hf => ?_⟩⟩, fun f hf => ?_⟩
      · obtain ⟨hj, rfl⟩ := List.getElem?_eq_some_iff.1 hf
        have hj' : j < len := by simpa using hj
        obtain ⟨⟨c0, c1, c2⟩, _⟩ := hF ⟨j, hj'⟩
        rw [add_plain, add_plain] at c0 c1 c2
        simp only [List.getElem_ofFn]
        exact ⟨c0, c1, c2⟩
      · obtain ⟨i, rfl⟩ := List.mem_ofFn.1 hf
        exact (hF i).2

set_option maxRecDepth 100000 in
/-- a disk that comes in -/
theorem open_disk {H : Type} {enc : TypeId × Value → H} {W : World} {r : Reach} {base : Nat} {v : Value} {d : DataW H} {p : List MemPlace}
    (hv : Value.okWide Try.prog W r base 24 v) (h : DataW.Trod enc Try.prog W 0 (fun _ => true) true 24 v d p) :
    ∃ (a : Option Addr) (n c : Nat) (fs : List FileV), v = .agg #[.slice a n c] ∧ n ≤ maxLen ∧ Fs W W.heap.size a n fs ∧ ∀ f ∈ fs, FitF f := by
  obtain ⟨cs, rfl, hcs⟩ := okWide_struct Try.underlying24 hv
  obtain ⟨fuel, hf⟩ := h
  obtain ⟨y0, n, _, hl, ht⟩ := trod_struct1 Try.underlying24 hf
  have ht' : DataW.trod enc Try.prog W 0 (fun _ => true) true n 22 (((Value.agg cs).cells.toList.drop 0).take (Try.prog.cellsOf 22)) = some y0 := ht
  rw [show Try.prog.cellsOf 22 = 1 by kernel_rfl] at ht'
  rw [show Try.prog.cellsOf 24 = 1 by kernel_rfl] at hcs
  obtain ⟨x, rfl⟩ : ∃ x, cs = #[x] := by
    obtain ⟨l⟩ := cs
    cases l with
    | nil => simp at hcs
    | cons x l =>
      cases l with
      | nil => exact ⟨x, rfl⟩
      | cons y l => simp at hcs
  simp [Value.cells] at ht'
  rcases DataW.trod_slice Try.underlying22 ht' with ⟨hx, _⟩ | ⟨ad, l, c, _, _, _, _, hx, _⟩
  · simp at hx
    subst hx
    obtain ⟨h1, fs, h2, h3⟩ := open_files ht'
    exact ⟨_, _, _, fs, rfl, h1, h2, h3⟩
  · simp at hx
    subst hx
    obtain ⟨h1, fs, h2, h3⟩ := open_files ht'
    exact ⟨_, _, _, fs, rfl, h1, h2, h3⟩
end Go.Proofs.Ytibcdpnodikpiai
