/- What the specification's DoAct answers at every list of files and every act. A list of files that comes in, as the walks want it. What the laws' own functions over acts answer. Lists of acts: how they stand in memory. Bytes in memory of the call's own. Plain mathematics on numerals: no program is named here. -/
import Derived.Test.YthnibebljbljdaaGreatDoorKSAct6
import Derived.Test.YthnibebljbljdaaGreatDoorKSPut2
import Derived.WalkKit
import Derived.ProofKit
import Derived.OpenShut
import Derived.ChangeOld
import Derived.ChangeArms
import Derived.Below
import Derived.Test.YthnibebljbljdaaGreatDoorProg
import GoSem.Claim
import GoSem.ClaimJoined
import GoSem.ClaimMapViews
import Derived.JoinedTies
import Derived.KernelRfl
import Derived.RowKit
import Derived.OwnWalk
import Derived.Laws.IdiomStrings
import Derived.Lib.ItoaLen
namespace Go.Proofs.YthnibebljbljdaaGreatDoor.F
open Go.RowKit

open Classical in
/-- what an act makes of the files, ahead of the look at what comes -/
noncomputable def actOut (fs : List FileV) (x : ActV) : Option (List FileV) :=
  if x.kind = 1 then some (put fs (match fileOf fs x.name with | some f => ⟨f.name, f.text ++ x.text, f.kept⟩ | none => ⟨x.name, ⟨#[]⟩ ++ x.text, 0⟩))
  else match fileOf fs x.name with
    | none => none
    | some f =>
      if x.kind = 2 then some (put fs ⟨f.name, f.text, f.text.size⟩)
      else if x.kind = 3 then (if f.kept < f.text.size ∨ x.to = x.name ∨ ¬ NameOk x.to then none else some (put (without fs x.name) ⟨x.to, f.text, f.kept⟩))
      else if x.kind = 4 then some (without fs x.name)
      else none

open Classical in
/-- what DoAct answers -/
noncomputable def doAct (fs : List FileV) (x : ActV) : Option (List FileV) :=
  if DiskR fs ∧ ¬ ActBad x then (actOut fs x).bind fun gs => if DiskR gs then some gs else none else none

theorem fileOf_none {fs : List FileV} {name : ByteArray} (h : fileOf fs name = none) : atN fs name = none := by
  unfold fileOf at h
  cases hA : atN fs name with
  | none => rfl
  | some k =>
    rw [hA] at h
    have := atN_lt hA
    simp at h
    omega
theorem fileOf_some {fs : List FileV} {name : ByteArray} {f : FileV} (h : fileOf fs name = some f) : ∃ k, atN fs name = some k ∧ fs[k]? = some f := by
  unfold fileOf at h
  cases hA : atN fs name with
  | none => rw [hA] at h; simp at h
  | some k => rw [hA] at h; exact ⟨k, rfl, h⟩

theorem put_mem {fs : List FileV} {f g : FileV} (h : g ∈ put fs f) : g ∈ fs ∨ g = f := by
  unfold put at h
  simp only [List.mem_append, List.mem_filter, List.mem_singleton] at h
  rcases h with (h | h) | h
  · exact .inl h.1
  · exact .inr h
  · exact .inl h.1
theorem put_len (fs : List FileV) (f : FileV) : (put fs f).length ≤ 2 * fs.length + 1 := by
  unfold put
  have h1 := List.length_filter_le (fun g : FileV => lessB g.name f.name) fs
  have h2 := List.length_filter_le (fun g : FileV => moreB g.name f.name) fs
  simp only [List.length_append, List.length_cons, List.length_nil]
  omega
theorem put_fits {fs : List FileV} {f : FileV} (h : FitsF fs) (h1 : f.name.size ≤ maxLen) (h2 : f.text.size ≤ maxLen) : FitsF (put fs f) := fun g hg => by
  rcases put_mem hg with hg | rfl
  · exact h g hg
  · exact ⟨h1, h2⟩
theorem without_fits {fs : List FileV} {name : ByteArray} (h : FitsF fs) : FitsF (without fs name) := fun g hg => h g (List.mem_filter.1 hg).1

theorem fine_of {fs : List FileV} {x : ActV} (hd : DiskR fs) (hx : ¬ ActBad x) : ActFine fs x := by
  unfold ActBad at hx
  refine ⟨hd, ?_, ?_, ?_⟩
  · exact Classical.byContradiction fun h => hx (.inl h)
  · by_cases h : x.kind = 3
    · exact .inl h
    · exact .inr (Classical.byContradiction fun h2 => hx (.inr (.inl ⟨h, h2⟩)))
  · by_cases h : x.kind = 1
    · exact .inl h
    · exact .inr (Classical.byContradiction fun h2 => hx (.inr (.inr ⟨h, h2⟩)))

/-- an act as the machine bears it -/
def FitA (x : ActV) : Prop := x.name.size ≤ 1048576 ∧ x.text.size ≤ 1048576 ∧ x.to.size ≤ 1048576

end Go.Proofs.YthnibebljbljdaaGreatDoor.F
namespace Go.Proofs.YthnibebljbljdaaGreatDoor.F
open Go.ChangeShapes Go.WideShapes Go.ChangeAt Go.RowKit

theorem cellsLF : Tryz.prog.cellsOf 123 = 3 := by kernel_rfl
theorem cells9 : Tryz.prog.cellsOf 9 = 1 := by kernel_rfl
theorem cells3 : Tryz.prog.cellsOf 3 = 1 := by kernel_rfl

/-- a file as the machine bears it -/
def FitF (f : FileV) : Prop := f.name.size ≤ maxLen ∧ f.text.size ≤ maxLen ∧ (Lit.int .i64 f.kept).wf = true

theorem three {α : Type} {l : List α} (h : l.length = 3) : ∃ a b c, l = [a, b, c] := by
  cases l with
  | nil => simp at h
  | cons a l =>
    cases l with
    | nil => simp at h
    | cons b l =>
      cases l with
      | nil => simp at h
      | cons c l =>
        cases l with
        | nil => exact ⟨a, b, c, rfl⟩
        | cons d l => simp at h

theorem open_file {H : Type} {enc : TypeId × Value → H} {W : World} {fuel : Nat} {cs : List Value} {y : DataW H × List MemPlace}
    (h : DataW.trod enc Tryz.prog W 0 (fun _ => true) true fuel 123 cs = some y) : ∃ f : FileV, cs = [.string f.name, .string f.text, .int .i64 f.kept] ∧ FitF f := by
  obtain ⟨xs, n, _, _, hl, hlen, hf⟩ := DataW.trod_struct Tryz.underlying123 h
  rw [cellsLF] at hl
  obtain ⟨c0, c1, c2, rfl⟩ := three hl
  have h0 : DataW.trod enc Tryz.prog W 0 (fun _ => true) true n 9 (([c0, c1, c2].drop 0).take (Tryz.prog.cellsOf 9)) = xs[0]? := hf 0 _ rfl
  have h1 : DataW.trod enc Tryz.prog W 0 (fun _ => true) true n 9 (([c0, c1, c2].drop 1).take (Tryz.prog.cellsOf 9)) = xs[1]? := hf 1 _ rfl
  have h2 : DataW.trod enc Tryz.prog W 0 (fun _ => true) true n 3 (([c0, c1, c2].drop 2).take (Tryz.prog.cellsOf 3)) = xs[2]? := hf 2 _ rfl
  rw [cells9] at h0 h1
  rw [cells3] at h2
  have g : ∀ i, i < 3 → ∃ z, xs[i]? = some z := fun i hi => ⟨xs[i]'(by simp at hlen; omega), List.getElem?_eq_getElem _⟩
  obtain ⟨z0, e0⟩ := g 0 (by omega)
  obtain ⟨z1, e1⟩ := g 1 (by omega)
  obtain ⟨z2, e2⟩ := g 2 (by omega)
  rw [e0] at h0
  rw [e1] at h1
  rw [e2] at h2
  obtain ⟨s0, hs0, _, w0⟩ := DataW.trod_string Tryz.underlying9 h0
  obtain ⟨s1, hs1, _, w1⟩ := DataW.trod_string Tryz.underlying9 h1
  obtain ⟨k, hk, _, w2⟩ := DataW.trod_int Tryz.underlying3 h2
  simp at hs0 hs1 hk
  subst hs0 hs1 hk
  exact ⟨⟨s0, s1, k⟩, rfl, w0, w1, w2⟩

theorem open_files {H : Type} {enc : TypeId × Value → H} {W : World} {a : Option Addr} {len cap fuel : Nat} {x : DataW H × List MemPlace}
    (h : DataW.trod enc Tryz.prog W 0 (fun _ => true) true fuel 28 [.slice a len cap] = some x) : len ≤ maxLen ∧ ∃ fs : List FileV, Fs W W.heap.size a len fs ∧ ∀ f ∈ fs, FitF f := by
  rcases DataW.trod_slice Tryz.underlying28 h with ⟨hcs, _⟩ | ⟨ad, l, c, elems, rest, n, _, hcs, _, _, hlc, hm, hel, hei, _, _⟩
  · simp at hcs
    obtain ⟨rfl, rfl, rfl⟩ := hcs
    exact ⟨by unfold maxLen; omega, [], ⟨rfl, .inl rfl⟩, by simp⟩
  · simp at hcs
    obtain ⟨rfl, rfl, rfl⟩ := hcs
    refine ⟨by omega, ?_⟩
    have each : ∀ i, i < len → ∃ f : FileV, (W.cell? ((ad.add (i * 3)).add 0) = some (.string f.name) ∧ W.cell? ((ad.add (i * 3)).add 1) = some (.string f.text) ∧ W.cell? ((ad.add (i * 3)).add 2) = some (.int .i64 f.kept)) ∧ FitF f := by
      intro i hi
      have h1 := hei i hi
      obtain ⟨y, hy⟩ : ∃ y, elems[i]? = some y := ⟨elems[i]'(by omega), List.getElem?_eq_getElem _⟩
      rw [hy, Option.bind_eq_some_iff] at h1
      obtain ⟨cs', hc, ht⟩ := h1
      obtain ⟨f, rfl, hfit⟩ := open_file ht
      rw [cellsLF] at hc
      have hcell := (World.cells?_some hc).2.2
      refine ⟨f, ⟨?_, ?_, ?_⟩, hfit⟩
      · simpa using hcell 0 (by omega)
      · simpa using hcell 1 (by omega)
      · simpa using hcell 2 (by omega)
    by_cases h0 : len = 0
    · subst h0
      exact ⟨[], ⟨rfl, .inl rfl⟩, by simp⟩
    · obtain ⟨f0, ⟨hc0, _, _⟩, _⟩ := each 0 (by omega)
      obtain ⟨b, off, spot⟩ := ad
      have hspot : spot = none := by simpa [Addr.add] using World.cell?_spot hc0
      subst hspot
      have hb : b < W.heap.size := by
        have := World.block_lt_of_cell? W _ hc0
        simpa [Addr.add] using this
      obtain ⟨F, hF⟩ := Classical.axiomOfChoice (fun i : Fin len => each i.1 i.2)
      refine ⟨List.ofFn F, ⟨by simp, .inr ⟨b, off, rfl, hb, fun j f hf => ?_⟩⟩, fun f hf => ?_⟩
      · obtain ⟨hj, rfl⟩ := List.getElem?_eq_some_iff.1 hf
        have hj' : j < len := by simpa using hj
        obtain ⟨⟨c0, c1, c2⟩, _⟩ := hF ⟨j, hj'⟩
        rw [add_plain, add_plain] at c0 c1 c2
        simp only [List.getElem_ofFn]
        exact ⟨c0, c1, c2⟩
      · obtain ⟨i, rfl⟩ := List.mem_ofFn.1 hf
        exact (hF i).2

set_option maxRecDepth 100000 in
/-- a disk that comes in -/
theorem open_disk {H : Type} {enc : TypeId × Value → H} {W : World} {r : Reach} {base : Nat} {v : Value} {d : DataW H} {p : List MemPlace}
    (hv : Value.okWide Tryz.prog W r base 30 v) (h : DataW.Trod enc Tryz.prog W 0 (fun _ => true) true 30 v d p) :
    ∃ (a : Option Addr) (n c : Nat) (fs : List FileV), v = .agg #[.slice a n c] ∧ n ≤ maxLen ∧ Fs W W.heap.size a n fs ∧ ∀ f ∈ fs, FitF f := by
  obtain ⟨cs, rfl, hcs⟩ := okWide_struct Tryz.underlying30 hv
  obtain ⟨fuel, hf⟩ := h
  obtain ⟨y0, n, _, hl, ht⟩ := trod_struct1 Tryz.underlying30 hf
  have ht' : DataW.trod enc Tryz.prog W 0 (fun _ => true) true n 28 (((Value.agg cs).cells.toList.drop 0).take (Tryz.prog.cellsOf 28)) = some y0 := ht
  rw [show Tryz.prog.cellsOf 28 = 1 by kernel_rfl] at ht'
  rw [show Tryz.prog.cellsOf 30 = 1 by kernel_rfl] at hcs
  obtain ⟨x, rfl⟩ : ∃ x, cs = #[x] := by
    obtain ⟨l⟩ := cs
    cases l with
    | nil => simp at hcs
    | cons x l =>
      cases l with
      | nil => exact ⟨x, rfl⟩
      | cons y l => simp at hcs
  simp [Value.cells] at ht'
  rcases DataW.trod_slice Tryz.underlying28 ht' with ⟨hx, _⟩ | ⟨ad, l, c, _, _, _, _, hx, _⟩
  · simp at hx
    subst hx
    obtain ⟨h1, fs, h2, h3⟩ := open_files ht'
    exact ⟨_, _, _, fs, rfl, h1, h2, h3⟩
  · simp at hx
    subst hx
    obtain ⟨h1, fs, h2, h3⟩ := open_files ht'
    exact ⟨_, _, _, fs, rfl, h1, h2, h3⟩
end Go.Proofs.YthnibebljbljdaaGreatDoor.F
namespace Go.Proofs.YthnibebljbljdaaGreatDoor.F
open Go.RowKit

/-- what is left of a measure behind an act -/
def szA (left : Int) (x : ActV) : Int := if (x.name.size : Int) + x.text.size + x.to.size ≤ left then left - x.name.size - x.text.size - x.to.size else -1
theorem szA_no (left : Int) (x : ActV) (h : ¬ (x.name.size : Int) + x.text.size + x.to.size ≤ left) : szA left x = -1 := by unfold szA; rw [if_neg h]
theorem szA_yes (left : Int) (x : ActV) (h : (x.name.size : Int) + x.text.size + x.to.size ≤ left) : szA left x = left - x.name.size - x.text.size - x.to.size := by unfold szA; rw [if_pos h]

/-- an act's texts as the machine bears them -/
def BearA (x : ActV) : Prop := x.name.size ≤ maxLen ∧ x.text.size ≤ maxLen ∧ x.to.size ≤ maxLen

theorem four {α : Type} {l : List α} (h : l.length = 4) : ∃ a b c d, l = [a, b, c, d] := by
  cases l with
  | nil => simp at h
  | cons a l => obtain ⟨b, c, d, rfl⟩ := three (l := l) (by simpa using h); exact ⟨a, b, c, d, rfl⟩

end Go.Proofs.YthnibebljbljdaaGreatDoor.F
namespace Go.Proofs.YthnibebljbljdaaGreatDoor.F
open Go.RowKit

/-- a list of acts stands in memory below B -/
def As (w : World) (B : Nat) (a : Option Addr) (n : Nat) (xs : List ActV) : Prop :=
  xs.length = n ∧ (n = 0 ∨ ∃ b off, a = some ⟨b, off, none⟩ ∧ b < B ∧ ∀ (j : Nat) (x : ActV), xs[j]? = some x →
    w.cell? ⟨b, off + j * 4, none⟩ = some (.int .i64 x.kind) ∧ w.cell? ⟨b, off + j * 4 + 1, none⟩ = some (.string x.name) ∧ w.cell? ⟨b, off + j * 4 + 2, none⟩ = some (.string x.text) ∧ w.cell? ⟨b, off + j * 4 + 3, none⟩ = some (.string x.to))
theorem As.below {w w' : World} {B C : Nat} {a : Option Addr} {n : Nat} {xs : List ActV} (h : As w B a n xs) (hb : Below C w w') (hB : B ≤ C) : As w' B a n xs := by
  refine ⟨h.1, h.2.imp id ?_⟩
  rintro ⟨b, off, h1, h2, h3⟩
  refine ⟨b, off, h1, h2, fun j x hx => ?_⟩
  have hc : ∀ o, w'.cell? ⟨b, o, none⟩ = w.cell? ⟨b, o, none⟩ := fun o => hb.cell (p := ⟨b, o, none⟩) (by show b < _; omega)
  obtain ⟨c0, c1, c2, c3⟩ := h3 j x hx
  exact ⟨by rw [hc]; exact c0, by rw [hc]; exact c1, by rw [hc]; exact c2, by rw [hc]; exact c3⟩
theorem As.mono {w : World} {B C : Nat} {a : Option Addr} {n : Nat} {xs : List ActV} (h : As w B a n xs) (hB : B ≤ C) : As w C a n xs := by
  refine ⟨h.1, h.2.imp id ?_⟩
  rintro ⟨b, off, h1, h2, h3⟩
  exact ⟨b, off, h1, by omega, h3⟩
theorem As.up {w w' : World} {a : Option Addr} {n : Nat} {xs : List ActV} (h : As w w.heap.size a n xs) (hb : Below w.heap.size w w') : As w' w'.heap.size a n xs :=
  (h.below hb (Nat.le_refl _)).mono hb.size
def acell (x : ActV) : List Value := [.int .i64 x.kind, .string x.name, .string x.text, .string x.to]
def acells (xs : List ActV) : List Value := xs.flatMap acell
theorem acells_length (xs : List ActV) : (acells xs).length = xs.length * 4 := by
  induction xs with
  | nil => rfl
  | cons f fs ih => simp only [acells, List.flatMap_cons, List.length_append, List.length_cons] at ih ⊢; rw [ih]; simp [acell]; omega
theorem acells_snoc (xs : List ActV) (x : ActV) : acells (xs ++ [x]) = acells xs ++ [.int .i64 x.kind, .string x.name, .string x.text, .string x.to] := by simp [acells, acell]
theorem acells_at (xs : List ActV) (j : Nat) (x : ActV) (h : xs[j]? = some x) :
    (acells xs)[j * 4]? = some (.int .i64 x.kind) ∧ (acells xs)[j * 4 + 1]? = some (.string x.name) ∧ (acells xs)[j * 4 + 2]? = some (.string x.text) ∧ (acells xs)[j * 4 + 3]? = some (.string x.to) := by
  induction xs generalizing j with
  | nil => simp at h
  | cons g fs ih =>
    cases j with
    | zero => simp at h; subst h; simp [acells, acell]
    | succ j =>
      have h2 := ih j (by simpa using h)
      have e : ∀ m, (acells (g :: fs))[m + 4]? = (acells fs)[m]? := fun m => by simp [acells, acell]
      refine ⟨?_, ?_, ?_, ?_⟩
      · rw [show (j + 1) * 4 = j * 4 + 4 by omega, e]; exact h2.1
      · rw [show (j + 1) * 4 + 1 = j * 4 + 1 + 4 by omega, e]; exact h2.2.1
      · rw [show (j + 1) * 4 + 2 = j * 4 + 2 + 4 by omega, e]; exact h2.2.2.1
      · rw [show (j + 1) * 4 + 3 = j * 4 + 3 + 4 by omega, e]; exact h2.2.2.2
theorem add_off (g j : Nat) : ((⟨g, 0, none⟩ : Addr).add j) = ⟨g, j, none⟩ := by
  by_cases h0 : j = 0
  · subst h0; rfl
  · simp [Addr.add, h0]
theorem As_of_own {w : World} {B g n cap : Nat} {xs : List ActV} (h : w.ownsRow B 83 4 (.slice (some ⟨g, 0, none⟩) n cap) n (acells xs)) : As w w.heap.size (some ⟨g, 0, none⟩) n xs := by
  have hl := h.1
  rw [acells_length] at hl
  refine ⟨by omega, .inr ⟨g, 0, rfl, (h.lt g rfl).2, fun j x hx => ?_⟩⟩
  obtain ⟨c0, c1, c2, c3⟩ := acells_at xs j x hx
  have hc := fun o v (hv : (acells xs)[o]? = some v) => h.cells (g := g) rfl o v hv
  simp only [add_off] at hc
  simp only [Nat.zero_add]
  exact ⟨hc _ _ c0, hc _ _ c1, hc _ _ c2, hc _ _ c3⟩
/-- the letters of a list of acts -/
def lettersA (xs : List ActV) : Nat := (xs.map fun x => x.name.size + x.text.size + x.to.size).sum
theorem lettersA_snoc (xs : List ActV) (x : ActV) : lettersA (xs ++ [x]) = lettersA xs + (x.name.size + x.text.size + x.to.size) := by simp [lettersA]
theorem lettersA_take (xs : List ActV) (k : Nat) : lettersA (xs.take k) ≤ lettersA xs := by
  have h := congrArg lettersA (List.take_append_drop k xs)
  have e : ∀ a b : List ActV, lettersA (a ++ b) = lettersA a + lettersA b := fun a b => by simp [lettersA]
  have := e (xs.take k) (xs.drop k)
  omega
theorem lettersA_mem {xs : List ActV} {x : ActV} (h : x ∈ xs) : x.name.size + x.text.size + x.to.size ≤ lettersA xs := by
  obtain ⟨j, hj⟩ := List.getElem?_of_mem h
  have h1 := lettersA_take xs (j + 1)
  rw [take_snocF xs j x hj, lettersA_snoc] at h1
  omega
theorem infoIA : (Tryz.prog.info? 83).map (fun i => (i.zero, i.size, i.bytes)) = some (some (.agg #[.int .i64 0, .string .empty, .string .empty, .string .empty]), 4, 56) := by kernel_rfl
/-- all acts fit -/
def FitsA (xs : List ActV) : Prop := ∀ x ∈ xs, FitA x
end Go.Proofs.YthnibebljbljdaaGreatDoor.F
namespace Go.Proofs.YthnibebljbljdaaGreatDoor
open Go.RowKit

theorem info5 : (Tryz.prog.info? 5).map (fun i => (i.zero, i.size, i.bytes)) = some (some (.int .u8 0), 1, 1) := by kernel_rfl

/-- the cells of the bytes l -/
def bv (l : List UInt8) : List Value := l.map fun b => Value.int .u8 (b.toNat : Int)

theorem bv_snoc (l : List UInt8) (b : UInt8) (n : Int) (h : (b.toNat : Int) = n) : bv l ++ [Value.int .u8 n] = bv (l ++ [b]) := by
  subst h; simp [bv]

theorem one_new (w : World) (v : Value) (t : TypeId) : ∀ j u, [v][j]? = some u → (w.alloc (.cells #[v] t)).cell? ((⟨w.heap.size, 0, none⟩ : Addr).add j) = some u := by
  intro j u hj
  match j, hj with
  | 0, hj => simp at hj; subst hj; simp [Addr.add]

/-- behind an append to a row of the call's own, nothing below B has turned -/
theorem below_app {B : Nat} {w wr w1 : World} {v : Value} {n : Nat} {xs : List Value} {o : Obj} (hb : Below B w wr) (hB : B ≤ w.heap.size)
    (hown : wr.ownsRow B 5 1 v n xs) (hg : (wr.alloc o).grownBy w1 v.ownBlock) : Below B w w1 :=
  (hb.alloc (by have := hb.size; omega) _).grown hg (by have := hb.size; simp; omega) (fun k hk => (hown.lt k hk).1)

theorem below_appD {B : Nat} {w wr w1 : World} {v : Value} {n : Nat} {xs : List Value} {o : Obj} (hb : Below B w wr) (hB : B ≤ w.heap.size)
    (hown : wr.ownsRow B 5 1 v n xs) (hg : ((wr.alloc o).drew).grownBy w1 v.ownBlock) : Below B w w1 :=
  below_app (o := o) hb hB hown ⟨hg.os, hg.tape, hg.output, hg.size, hg.block⟩

/-- 'string(out)' of a row of bytes of the call's own -/
theorem conv_own {B n : Nat} {v : Value} {l : List UInt8} {w : World} (hown : w.ownsRow B 5 1 v n (bv l)) (hv : ¬ v = .slice none 0 0) :
    ∃ g cap, v = .slice (some ⟨g, 0, none⟩) l.length cap ∧ (convert 136 9 (.slice (some ⟨g, 0, none⟩) l.length cap)).run Tryz.prog w = .ok (.string ⟨l.toArray⟩) w := by
  have hn : l.length = n := by have := hown.1; simpa [bv] using this
  subst hn
  have hown0 := hown
  rcases hown.2 with ⟨h, _⟩ | ⟨g, cap, cur, rfl, -, -, -, -, -, -⟩
  · exact absurd h hv
  · exact ⟨g, cap, rfl, run_convert_bytes_back (P := Tryz.prog) w 136 9 5 ⟨g, 0, none⟩ cap l Tryz.underlying136 Tryz.underlying5 Tryz.underlying9 (fun j hj => hown0.cells (g := g) rfl j _ (by simp [bv, hj]))⟩

theorem conv_at {B n g cap : Nat} {l : List UInt8} {w : World} (hown : w.ownsRow B 5 1 (.slice (some ⟨g, 0, none⟩) n cap) n (bv l)) :
    (convert 136 9 (.slice (some ⟨g, 0, none⟩) n cap)).run Tryz.prog w = .ok (.string ⟨l.toArray⟩) w := by
  obtain ⟨g', cap', hv, hcv⟩ := conv_own hown (by simp)
  rw [hv]
  exact hcv

end Go.Proofs.YthnibebljbljdaaGreatDoor
namespace Go.Proofs.YthnibebljbljdaaGreatDoor.Dg
open Go.Lib (decDigits itoa nDigits)

/-- the figures of u that are still to be laid -/
def dg0 (u : Nat) : List UInt8 := if u = 0 then [] else decDigits u

theorem dg0_step (u : Nat) (h : u ≠ 0) : dg0 u = dg0 (u / 10) ++ [UInt8.ofNat (48 + u % 10)] := by
  unfold dg0
  rw [if_neg h]
  by_cases h1 : u < 10
  · rw [Go.Lib.decDigits_one h1, if_pos (by omega), Nat.mod_eq_of_lt h1]
    rfl
  · rw [if_neg (by omega), decDigits, dif_neg h1]

theorem dg0_pos (u : Nat) (h : u ≠ 0) : dg0 u = decDigits u := by unfold dg0; rw [if_neg h]

theorem dec_length (u : Nat) (h : u < 18446744073709551616) : (decDigits u).length ≤ 20 := by
  rw [Go.Lib.decDigits_length]; exact Go.Lib.nDigits_le20 u h

/-- a text of one byte -/
def one (b : UInt8) : ByteArray := ⟨#[b]⟩
theorem one_size (b : UInt8) : (one b).size = 1 := rfl
theorem one_app (b : UInt8) (S : ByteArray) : (one b ++ S).data.toList = b :: S.data.toList := by
  simp [one, ByteArray.data_append]
theorem one_app_size (b : UInt8) (S : ByteArray) : (one b ++ S).size = S.size + 1 := by
  have := congrArg List.length (one_app b S)
  simpa using this

end Go.Proofs.YthnibebljbljdaaGreatDoor.Dg
