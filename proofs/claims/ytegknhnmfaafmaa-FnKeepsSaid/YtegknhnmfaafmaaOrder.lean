/- Files in the order of their names; what an act makes of them: pure. -/
import Derived.Test.YtegknhnmfaafmaaSAct7
import Derived.Sort.Walk0
namespace Go.Proofs.Ytegknhnmfaafmaa
open Go.RowKit

theorem bytes_ext {a b : ByteArray} (h : a.data.toList = b.data.toList) : a = b := by
  cases a; cases b
  simpa using h
theorem lt_asym {a b : List UInt8} (h : a < b) : ¬ b < a := fun k => Std.lt_irrefl (Std.lt_trans h k)
theorem lessB_iff (a b : ByteArray) : lessB a b = true ↔ a.data.toList < b.data.toList := by
  unfold lessB
  rw [bytesLess_eq, Lib.toList_data, Lib.toList_data]
  simp
theorem moreB_iff (a b : ByteArray) : moreB a b = true ↔ b.data.toList < a.data.toList := by
  unfold moreB
  rw [bytesLess_eq, Lib.toList_data, Lib.toList_data]
  rcases Std.lt_trichotomy a.data.toList b.data.toList with h | h | h
  · have := lt_asym h
    simp [h, this]
  · simp [h]
  · have h1 := lt_asym h
    have h2 : ¬ a.data.toList = b.data.toList := fun e => by rw [e] at h; exact Std.lt_irrefl h
    simp only [h1, h, decide_false, Bool.false_or, Bool.not_eq_true', beq_eq_false_iff_ne]
    exact ⟨fun _ => trivial, fun _ => h2⟩
theorem hasName_iff (nm : ByteArray) (f : FileV) : hasName nm f = true ↔ f.name = nm := by
  unfold hasName
  rw [Lib.toList_data, Lib.toList_data]
  constructor
  · intro h
    exact bytes_ext (by simpa using h)
  · rintro rfl
    simp

/-- the bytes of a file's name -/
def nmOf (f : FileV) : List UInt8 := f.name.data.toList
theorem nm_inj {f g : FileV} (h : nmOf f = nmOf g) : f.name = g.name := bytes_ext h
def Sorted (fs : List FileV) : Prop := fs.Pairwise fun f g => nmOf f < nmOf g

theorem Sorted.ne {fs : List FileV} (h : Sorted fs) : fs.Pairwise fun f g => f.name ≠ g.name :=
  List.Pairwise.imp (fun {f g} (hlt : nmOf f < nmOf g) e => by
    have : nmOf f = nmOf g := by unfold nmOf; rw [e]
    rw [this] at hlt
    exact Std.lt_irrefl hlt) h
theorem Sorted.inj {fs : List FileV} (h : Sorted fs) {f g : FileV} (hf : f ∈ fs) (hg : g ∈ fs) (e : f.name = g.name) : f = g := by
  have hn := h.ne
  clear h
  induction fs with
  | nil => cases hf
  | cons x xs ih =>
    rw [List.pairwise_cons] at hn
    rcases List.mem_cons.1 hf with rfl | hf'
    · rcases List.mem_cons.1 hg with rfl | hg'
      · rfl
      · exact absurd e (hn.1 g hg')
    · rcases List.mem_cons.1 hg with rfl | hg'
      · exact absurd e.symm (hn.1 f hf')
      · exact ih hf' hg' hn.2

theorem sorted_of_adj {fs : List FileV} (h : ∀ (k : Nat) (f g : FileV), fs[k]? = some f → fs[k + 1]? = some g → nmOf f < nmOf g) : Sorted fs := by
  induction fs with
  | nil => exact List.Pairwise.nil
  | cons x xs ih =>
    have hxs : Sorted xs := ih fun k f g hf hg => h (k + 1) f g (by simpa using hf) (by simpa using hg)
    refine List.pairwise_cons.2 ⟨?_, hxs⟩
    cases xs with
    | nil => intro a ha; cases ha
    | cons y ys =>
      have hxy : nmOf x < nmOf y := h 0 x y rfl rfl
      intro a ha
      rcases List.mem_cons.1 ha with rfl | ha'
      · exact hxy
      · exact Std.lt_trans hxy ((List.pairwise_cons.1 hxs).1 a ha')
theorem adj_of_sorted {fs : List FileV} (h : Sorted fs) (k : Nat) (f g : FileV) (hf : fs[k]? = some f) (hg : fs[k + 1]? = some g) : nmOf f < nmOf g := by
  have hk := List.getElem?_eq_some_iff.1 hf
  have hk1 := List.getElem?_eq_some_iff.1 hg
  have := (List.pairwise_iff_getElem.1 h) k (k + 1) hk.1 hk1.1 (by omega)
  rw [hk.2, hk1.2] at this
  exact this

theorem disk_iff (fs : List FileV) : DiskR fs ↔ fs.length ≤ 30 ∧ (∀ f ∈ fs, FileOk f) ∧ Sorted fs := by
  constructor
  · rintro ⟨h1, h2⟩
    refine ⟨h1, fun f hf => ?_, sorted_of_adj fun k f g hf hg => ?_⟩
    · obtain ⟨k, hk⟩ := List.getElem?_of_mem hf
      exact (h2 k (List.getElem?_eq_some_iff.1 hk).1 f hk).1
    · have := (h2 (k + 1) (List.getElem?_eq_some_iff.1 hg).1 g hg).2 f (by omega) (by simpa using hf)
      exact (lessB_iff _ _).1 this
  · rintro ⟨h1, h2, h3⟩
    refine ⟨h1, fun k hk f hf => ⟨h2 f (List.mem_of_getElem? hf), fun g h0 hg => ?_⟩⟩
    obtain ⟨m, rfl⟩ : ∃ m, k = m + 1 := ⟨k - 1, by omega⟩
    exact (lessB_iff _ _).2 (adj_of_sorted h3 m g f (by simpa using hg) hf)

theorem mem_without {fs : List FileV} {nm : ByteArray} {g : FileV} : g ∈ without fs nm ↔ g ∈ fs ∧ g.name ≠ nm := by
  unfold without
  rw [List.mem_filter]
  have := hasName_iff nm g
  cases hh : hasName nm g
  · simp [hh] at this ⊢
    exact fun _ => this
  · simp [hh] at this ⊢
    exact fun _ => this
theorem lt_or_of_ne {f g : FileV} (h : g.name ≠ f.name) : lessB g.name f.name = true ∨ moreB g.name f.name = true := by
  rw [lessB_iff, moreB_iff]
  rcases Std.lt_trichotomy g.name.data.toList f.name.data.toList with h1 | h1 | h1
  · exact .inl h1
  · exact absurd (bytes_ext h1) h
  · exact .inr h1
theorem less_ne {a b : ByteArray} (h : lessB a b = true) : a ≠ b := fun e => by
  rw [lessB_iff, e] at h
  exact Std.lt_irrefl h
theorem more_ne {a b : ByteArray} (h : moreB a b = true) : a ≠ b := fun e => by
  rw [moreB_iff, e] at h
  exact Std.lt_irrefl h
theorem mem_put {fs : List FileV} {f g : FileV} : g ∈ put fs f ↔ g = f ∨ (g ∈ fs ∧ g.name ≠ f.name) := by
  unfold put
  simp only [List.mem_append, List.mem_filter, List.mem_singleton]
  constructor
  · rintro ((⟨h1, h2⟩ | h) | ⟨h1, h2⟩)
    · exact .inr ⟨h1, less_ne h2⟩
    · exact .inl h
    · exact .inr ⟨h1, more_ne h2⟩
  · rintro (h | ⟨h1, h2⟩)
    · exact .inl (.inr h)
    · rcases lt_or_of_ne h2 with h3 | h3
      · exact .inl (.inl ⟨h1, h3⟩)
      · exact .inr ⟨h1, h3⟩

theorem sorted_without {fs : List FileV} (h : Sorted fs) (nm : ByteArray) : Sorted (without fs nm) := List.Pairwise.filter _ h
theorem sorted_put {fs : List FileV} (h : Sorted fs) (f : FileV) : Sorted (put fs f) := by
  unfold put
  have hl : ∀ g ∈ fs.filter (fun g => lessB g.name f.name), nmOf g < nmOf f := fun g hg => (lessB_iff _ _).1 (List.mem_filter.1 hg).2
  have hm : ∀ g ∈ fs.filter (fun g => moreB g.name f.name), nmOf f < nmOf g := fun g hg => (moreB_iff _ _).1 (List.mem_filter.1 hg).2
  refine List.pairwise_append.2 ⟨List.pairwise_append.2 ⟨List.Pairwise.filter _ h, List.pairwise_singleton _ _, ?_⟩, List.Pairwise.filter _ h, ?_⟩
  · intro a ha b hb
    rw [List.mem_singleton] at hb
    subst hb
    exact hl a ha
  · intro a ha b hb
    rcases List.mem_append.1 ha with ha | ha
    · exact Std.lt_trans (hl a ha) (hm b hb)
    · rw [List.mem_singleton] at ha
      subst ha
      exact hm b hb

/-- whether there is a file of this name -/
def isIn (fs : List FileV) (nm : ByteArray) : Bool := fs.any (hasName nm)
theorem isIn_iff {fs : List FileV} {nm : ByteArray} : isIn fs nm = true ↔ ∃ f ∈ fs, f.name = nm := by
  unfold isIn
  rw [List.any_eq_true]
  constructor
  · rintro ⟨f, h1, h2⟩; exact ⟨f, h1, (hasName_iff _ _).1 h2⟩
  · rintro ⟨f, h1, h2⟩; exact ⟨f, h1, (hasName_iff _ _).2 h2⟩
theorem isIn_no {fs : List FileV} {nm : ByteArray} (h : ∀ f ∈ fs, f.name ≠ nm) : isIn fs nm = false := by
  cases hh : isIn fs nm
  · rfl
  · obtain ⟨f, h1, h2⟩ := isIn_iff.1 hh
    exact absurd h2 (h f h1)
theorem len_without {fs : List FileV} (h : Sorted fs) (nm : ByteArray) : (without fs nm).length + (if isIn fs nm then 1 else 0) = fs.length := by
  induction fs with
  | nil => simp [without, isIn]
  | cons x xs ih =>
    have hx := (List.pairwise_cons.1 h.ne).1
    have ih := ih (List.pairwise_cons.1 h).2
    by_cases hn : hasName nm x = true
    · have hall : ∀ g ∈ xs, g.name ≠ nm := fun g hg e => hx g hg (by rw [(hasName_iff _ _).1 hn, e])
      have h1 := isIn_no hall
      rw [h1] at ih
      have e1 : without (x :: xs) nm = without xs nm := by unfold without; rw [List.filter_cons]; simp [hn]
      have e2 : isIn (x :: xs) nm = true := by unfold isIn; simp [hn]
      rw [e1, e2]
      simp at ih ⊢
      omega
    · have hn' : hasName nm x = false := by simpa using hn
      have e1 : without (x :: xs) nm = x :: without xs nm := by unfold without; rw [List.filter_cons]; simp [hn']
      have e2 : isIn (x :: xs) nm = isIn xs nm := by unfold isIn; simp [hn']
      rw [e1, e2]
      simp only [List.length_cons]
      omega
theorem len_parts (fs : List FileV) (f : FileV) : (fs.filter fun g => lessB g.name f.name).length + (fs.filter fun g => moreB g.name f.name).length = (without fs f.name).length := by
  induction fs with
  | nil => rfl
  | cons x xs ih =>
    unfold without at *
    rw [List.filter_cons, List.filter_cons, List.filter_cons]
    by_cases hn : x.name = f.name
    · have h1 : lessB x.name f.name = false := by cases hh : lessB x.name f.name; rfl; exact absurd hn (less_ne hh)
      have h2 : moreB x.name f.name = false := by cases hh : moreB x.name f.name; rfl; exact absurd hn (more_ne hh)
      have h3 : hasName f.name x = true := (hasName_iff _ _).2 hn
      simp only [h1, h2, h3]
      simpa using ih
    · have h3 : hasName f.name x = false := by cases hh : hasName f.name x; rfl; exact absurd ((hasName_iff _ _).1 hh) hn
      rcases lt_or_of_ne hn with h1 | h1
      · have h2 : moreB x.name f.name = false := by
          cases hh : moreB x.name f.name
          · rfl
          · exact absurd ((moreB_iff _ _).1 hh) (lt_asym ((lessB_iff _ _).1 h1))
        simp only [h1, h2, h3]
        simp at ih ⊢
        omega
      · have h2 : lessB x.name f.name = false := by
          cases hh : lessB x.name f.name
          · rfl
          · exact absurd ((lessB_iff _ _).1 hh) (lt_asym ((moreB_iff _ _).1 h1))
        simp only [h1, h2, h3]
        simp at ih ⊢
        omega
theorem len_put {fs : List FileV} (h : Sorted fs) (f : FileV) : (put fs f).length + (if isIn fs f.name then 1 else 0) = fs.length + 1 := by
  have h1 := len_parts fs f
  have h2 := len_without h f.name
  unfold put
  simp only [List.length_append, List.length_cons, List.length_nil]
  omega

theorem fileOf_is {fs : List FileV} {nm : ByteArray} {f : FileV} (h : fileOf fs nm = some f) : f ∈ fs ∧ f.name = nm := by
  obtain ⟨k, hk, hf⟩ := fileOf_some h
  refine ⟨List.mem_of_getElem? hf, ?_⟩
  unfold atN at hk
  obtain ⟨h1, h2, _⟩ := List.findIdx?_eq_some_iff_getElem.1 hk
  rw [List.getElem?_eq_getElem h1] at hf
  cases hf
  exact (hasName_iff _ _).1 h2
theorem fileOf_not {fs : List FileV} {nm : ByteArray} (h : fileOf fs nm = none) : ∀ f ∈ fs, f.name ≠ nm := by
  intro f hf e
  have := fileOf_none h
  unfold atN at this
  have := List.findIdx?_eq_none_iff.1 this f hf
  rw [(hasName_iff _ _).2 e] at this
  cases this
theorem fileOf_mem {fs : List FileV} {f : FileV} (hs : Sorted fs) (hf : f ∈ fs) : fileOf fs f.name = some f := by
  cases h : fileOf fs f.name with
  | none => exact absurd rfl (fileOf_not h f hf)
  | some g =>
    obtain ⟨h1, h2⟩ := fileOf_is h
    rw [hs.inj h1 hf h2]
theorem isIn_of {fs : List FileV} {nm : ByteArray} : isIn fs nm = (fileOf fs nm).isSome := by
  cases h : fileOf fs nm with
  | none => exact isIn_no (fileOf_not h)
  | some f => exact isIn_iff.2 ⟨f, fileOf_is h⟩

theorem disk_without {fs : List FileV} (h : DiskR fs) (nm : ByteArray) : DiskR (without fs nm) := by
  rw [disk_iff] at h ⊢
  exact ⟨Nat.le_trans (without_le _ _) h.1, fun f hf => h.2.1 f (mem_without.1 hf).1, sorted_without h.2.2 nm⟩
theorem disk_put {fs : List FileV} (h : DiskR fs) {f : FileV} (hf : FileOk f) (hl : (put fs f).length ≤ 30) : DiskR (put fs f) := by
  rw [disk_iff] at h ⊢
  refine ⟨hl, fun g hg => ?_, sorted_put h.2.2 f⟩
  rcases mem_put.1 hg with rfl | hg
  · exact hf
  · exact h.2.1 g hg.1
theorem disk_put_no {fs : List FileV} {f : FileV} (h : ¬ FileOk f ∨ 30 < (put fs f).length) : ¬ DiskR (put fs f) := fun hd => by
  rw [disk_iff] at hd
  rcases h with h | h
  · exact h (hd.2.1 f (mem_put.2 (.inl rfl)))
  · omega
theorem len_put_in {fs : List FileV} (h : DiskR fs) (f : FileV) (hi : isIn fs f.name = true) : (put fs f).length = fs.length := by
  have := len_put ((disk_iff fs).1 h).2.2 f
  rw [hi] at this
  simpa using this
theorem len_put_new {fs : List FileV} (h : DiskR fs) (f : FileV) (hi : isIn fs f.name = false) : (put fs f).length = fs.length + 1 := by
  have := len_put ((disk_iff fs).1 h).2.2 f
  rw [hi] at this
  simpa using this
end Go.Proofs.Ytegknhnmfaafmaa
