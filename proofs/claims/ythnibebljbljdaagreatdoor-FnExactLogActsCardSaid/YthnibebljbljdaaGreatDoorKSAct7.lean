/- What the specification's DoAct answers where disk and act are as they must be. What the specification's DoAct answers where it adds, keeps, moves, drops. What the specification's DoAct answers where it keeps and drops. What the specification's DoAct answers where the kind is none, and where it does not move. What the specification's DoAct answers where it moves. What the specification's DoAct answers at every list of files and every act. -/
import Derived.Test.YthnibebljbljdaaGreatDoorKSAct
namespace Go.Proofs.YthnibebljbljdaaGreatDoor.F
open Go.RowKit

/-- disk and act are as they must be -/
structure ActFine (fs : List FileV) (x : ActV) : Prop where
  disk : DiskR fs
  name : NameOk x.name
  to : x.kind = 3 ∨ x.to.size = 0
  text : x.kind = 1 ∨ x.text.size = 0

theorem ActFine.d1 {fs : List FileV} {x : ActV} (h : ActFine fs x) : (x.kind != 3 && !x.to.toList.isEmpty) = false := by
  rcases h.to with h | h
  · simp [h]
  · simp [str_empty h]
theorem ActFine.d2 {fs : List FileV} {x : ActV} (h : ActFine fs x) : (x.kind != 1 && !x.text.toList.isEmpty) = false := by
  rcases h.text with h | h
  · simp [h]
  · simp [str_empty h]

theorem disk_n {fs : List FileV} {n : Nat} {w : World} {B : Nat} {a : Option Addr} (hd : DiskR fs) (h : Fs w B a n fs) : n ≤ 30 := by rw [← h.1]; exact hd.1

/-- the four looks at kind, To and Text, decided -/
def Looks (x : ActV) (p q r t : Bool) : Prop := (x.kind != 3) = p ∧ x.to.toList.isEmpty = q ∧ (x.kind != 1) = r ∧ x.text.toList.isEmpty = t

theorem looks3 {fs : List FileV} {x : ActV} (h : ActFine fs x) (hk : x.kind = 3) : ∃ q, Looks x false q true true :=
  ⟨_, by simp [hk], rfl, by simp [hk], str_empty (by rcases h.text with h | h <;> omega)⟩
theorem looks1 {fs : List FileV} {x : ActV} (h : ActFine fs x) (hk : x.kind = 1) : ∃ t, Looks x true true false t :=
  ⟨_, by simp [hk], str_empty (by rcases h.to with h | h <;> omega), by simp [hk], rfl⟩
theorem looks0 {fs : List FileV} {x : ActV} (h : ActFine fs x) (h1 : x.kind ≠ 1) (h3 : x.kind ≠ 3) : Looks x true true true true :=
  ⟨by simp [h3], str_empty (by rcases h.to with h | h <;> omega), by simp [h1], str_empty (by rcases h.text with h | h <;> omega)⟩

end Go.Proofs.YthnibebljbljdaaGreatDoor.F
namespace Go.Proofs.YthnibebljbljdaaGreatDoor.F
open Go.RowKit

theorem Fs_of_ownv {w : World} {B m c' : Nat} {a' : Option Addr} {gs : List FileV} (h : w.ownsRow B 130 3 (.slice a' m c') m (fcells gs)) : Fs w w.heap.size a' m gs := by
  have hl := h.1
  rw [fcells_length] at hl
  rcases h.2 with ⟨hv, hm⟩ | ⟨g, cap, cur, hv, _⟩
  · exact ⟨by omega, .inl hm⟩
  · simp at hv
    obtain ⟨rfl, rfl⟩ := hv
    exact Fs_of_own h

/-- what DoAct answers: a disk of its own, or none -/
def ActAns (w : World) (o : Option (List FileV)) (e : Ending) (w' : World) : Prop :=
  match o with
  | none => e = .returned (.tuple #[.agg #[.slice none 0 0], .bool false]) ∧ Below w.heap.size w w'
  | some gs => ∃ a' m c', e = .returned (.tuple #[.agg #[.slice a' m c'], .bool true]) ∧ w'.ownsRow w.heap.size 130 3 (.slice a' m c') m (fcells gs) ∧ Below w.heap.size w w'

theorem grown_of_below' {w w' : World} (h : Below w.heap.size w w') (row : Option Nat) : w.grownBy w' row :=
  ⟨h.os, h.tape, h.output, h.size, fun k hk _ => h.block k hk⟩

theorem disk_fits {gs : List FileV} (h : DiskR gs) : FitsF gs := fun f hf => by
  obtain ⟨j, hj⟩ := List.getElem?_of_mem hf
  have := (h.2 j (List.getElem?_eq_some_iff.1 hj).1 f hj).1
  obtain ⟨⟨_, h1⟩, h2, _⟩ := this
  unfold maxLen
  omega

end Go.Proofs.YthnibebljbljdaaGreatDoor.F
namespace Go.Proofs.YthnibebljbljdaaGreatDoor.F
open Go.RowKit

end Go.Proofs.YthnibebljbljdaaGreatDoor.F
namespace Go.Proofs.YthnibebljbljdaaGreatDoor.F
open Go.RowKit

theorem str_ne {a b : ByteArray} (h : ¬ a = b) : (a.toList == b.toList) = false := by
  have h1 : ¬ a.toList = b.toList := by
    rw [Lib.toList_data, Lib.toList_data]
    intro e
    apply h
    cases a; cases b
    simpa using e
  simp [h1]

end Go.Proofs.YthnibebljbljdaaGreatDoor.F
namespace Go.Proofs.YthnibebljbljdaaGreatDoor.F
open Go.RowKit

end Go.Proofs.YthnibebljbljdaaGreatDoor.F
namespace Go.Proofs.YthnibebljbljdaaGreatDoor.F
open Go.RowKit

open Classical in
/-- what an act makes of the files, ahead of the look at what comes -/
noncomputable def actOut (fs : List FileV) (x : ActV) : Option (List FileV) :=
  if x.kind = 1 then some (put fs (match fileOf fs x.name with | some f => ⟨f.name, f.text ++ x.text, f.kept⟩ | none => ⟨x.name, ⟨#[]⟩ ++ x.text, 0⟩))
  else match fileOf fs x.name with
    | none => none
    | some f =>
      if x.kind = 2 then some (put fs ⟨f.name, f.text, f.text.size⟩)
      else if x.kind = 3 then (if f.kept < f.text.size ∨ x.to = x.name ∨ ¬ NameOk x.to then none else some (put (without fs x.name) ⟨x.to, f.text, f.kept⟩))
      else if x.kind = 4 then some (without fs x.name)
      else none

open Classical in
/-- what DoAct answers -/
noncomputable def doAct (fs : List FileV) (x : ActV) : Option (List FileV) :=
  if DiskR fs ∧ ¬ ActBad x then (actOut fs x).bind fun gs => if DiskR gs then some gs else none else none

theorem fileOf_none {fs : List FileV} {name : ByteArray} (h : fileOf fs name = none) : atN fs name = none := by
  unfold fileOf at h
  cases hA : atN fs name with
  | none => rfl
  | some k =>
    rw [hA] at h
    have := atN_lt hA
    simp at h
    omega
theorem fileOf_some {fs : List FileV} {name : ByteArray} {f : FileV} (h : fileOf fs name = some f) : ∃ k, atN fs name = some k ∧ fs[k]? = some f := by
  unfold fileOf at h
  cases hA : atN fs name with
  | none => rw [hA] at h; simp at h
  | some k => rw [hA] at h; exact ⟨k, rfl, h⟩

theorem put_mem {fs : List FileV} {f g : FileV} (h : g ∈ put fs f) : g ∈ fs ∨ g = f := by
  unfold put at h
  simp only [List.mem_append, List.mem_filter, List.mem_singleton] at h
  rcases h with (h | h) | h
  · exact .inl h.1
  · exact .inr h
  · exact .inl h.1
theorem put_len (fs : List FileV) (f : FileV) : (put fs f).length ≤ 2 * fs.length + 1 := by
  unfold put
  have h1 := List.length_filter_le (fun g : FileV => lessB g.name f.name) fs
  have h2 := List.length_filter_le (fun g : FileV => moreB g.name f.name) fs
  simp only [List.length_append, List.length_cons, List.length_nil]
  omega
theorem put_fits {fs : List FileV} {f : FileV} (h : FitsF fs) (h1 : f.name.size ≤ maxLen) (h2 : f.text.size ≤ maxLen) : FitsF (put fs f) := fun g hg => by
  rcases put_mem hg with hg | rfl
  · exact h g hg
  · exact ⟨h1, h2⟩
theorem without_fits {fs : List FileV} {name : ByteArray} (h : FitsF fs) : FitsF (without fs name) := fun g hg => h g (List.mem_filter.1 hg).1

theorem fine_of {fs : List FileV} {x : ActV} (hd : DiskR fs) (hx : ¬ ActBad x) : ActFine fs x := by
  unfold ActBad at hx
  refine ⟨hd, ?_, ?_, ?_⟩
  · exact Classical.byContradiction fun h => hx (.inl h)
  · by_cases h : x.kind = 3
    · exact .inl h
    · exact .inr (Classical.byContradiction fun h2 => hx (.inr (.inl ⟨h, h2⟩)))
  · by_cases h : x.kind = 1
    · exact .inl h
    · exact .inr (Classical.byContradiction fun h2 => hx (.inr (.inr ⟨h, h2⟩)))

/-- an act as the machine bears it -/
def FitA (x : ActV) : Prop := x.name.size ≤ 1048576 ∧ x.text.size ≤ 1048576 ∧ x.to.size ≤ 1048576

end Go.Proofs.YthnibebljbljdaaGreatDoor.F
