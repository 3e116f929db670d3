/- What an act makes of the files, arm by arm: pure. -/
import Derived.Test.YtibcdpnodikpiaiOrder
namespace Go.Proofs.Ytibcdpnodikpiai
open Go.RowKit

def Shape (x : ActV) : Prop := (x.kind = 1 ∨ x.text.size = 0) ∧ (x.kind = 3 ∨ x.to.size = 0)

theorem not_bad {x : ActV} (hs : Shape x) (hn : NameOk x.name) : ¬ ActBad x := by
  rintro (h | ⟨h1, h2⟩ | ⟨h1, h2⟩)
  · exact h hn
  · rcases hs.2 with h | h
    · exact h1 h
    · exact h2 h
  · rcases hs.1 with h | h
    · exact h1 h
    · exact h2 h
theorem doAct_bad {fs : List FileV} {x : ActV} (h : ActBad x) : doAct fs x = none := by
  unfold doAct
  rw [if_neg (fun hh => hh.2 h)]
theorem doAct_shape {fs : List FileV} {x : ActV} (h : ¬ Shape x) : doAct fs x = none := by
  apply doAct_bad
  by_cases h1 : x.kind = 1 ∨ x.text.size = 0
  · have h2 : ¬ (x.kind = 3 ∨ x.to.size = 0) := fun h2 => h ⟨h1, h2⟩
    exact .inr (.inl ⟨fun e => h2 (.inl e), fun e => h2 (.inr e)⟩)
  · exact .inr (.inr ⟨fun e => h1 (.inl e), fun e => h1 (.inr e)⟩)
open Classical in
theorem doAct_out {fs : List FileV} {x : ActV} (hd : DiskR fs) (hs : Shape x) (hn : NameOk x.name) {gs : List FileV} (ho : actOut fs x = some gs) (hg : DiskR gs) : doAct fs x = some gs := by
  unfold doAct
  rw [if_pos ⟨hd, not_bad hs hn⟩, ho]
  show (if DiskR gs then some gs else none) = some gs
  rw [if_pos hg]
open Classical in
theorem doAct_out_no {fs : List FileV} {x : ActV} {gs : List FileV} (ho : actOut fs x = some gs) (hg : ¬ DiskR gs) : doAct fs x = none := by
  unfold doAct
  split
  · rw [ho]
    show (if DiskR gs then some gs else none) = none
    rw [if_neg hg]
  · rfl
open Classical in
theorem doAct_disk {fs : List FileV} {x : ActV} {gs : List FileV} (ho : doAct fs x = some gs) : DiskR gs := by
  unfold doAct at ho
  split at ho
  · cases hq : actOut fs x with
    | none => rw [hq] at ho; cases ho
    | some ks =>
      rw [hq] at ho
      have ho' : (if DiskR ks then some ks else none) = some gs := ho
      split at ho'
      · cases ho'; assumption
      · cases ho'
  · cases ho
theorem doAct_nothing {fs : List FileV} {x : ActV} (ho : actOut fs x = none) : doAct fs x = none := by
  unfold doAct
  split
  · rw [ho]; rfl
  · rfl
theorem name_of {fs : List FileV} {x : ActV} {f : FileV} (hd : DiskR fs) (h : fileOf fs x.name = some f) : NameOk x.name ∧ FileOk f ∧ f ∈ fs ∧ f.name = x.name := by
  obtain ⟨h1, h2⟩ := fileOf_is h
  have h3 := ((disk_iff fs).1 hd).2.1 f h1
  exact ⟨h2 ▸ h3.1, h3, h1, h2⟩

/-- the file that an addition to f makes -/
def fAdd (f : FileV) (t : ByteArray) : FileV := ⟨f.name, f.text ++ t, f.kept⟩
def fNew (nm t : ByteArray) : FileV := ⟨nm, ⟨#[]⟩ ++ t, 0⟩
def fKeep (f : FileV) : FileV := ⟨f.name, f.text, f.text.size⟩
def fMove (f : FileV) (to : ByteArray) : FileV := ⟨to, f.text, f.kept⟩

theorem app_size (a b : ByteArray) : (a ++ b).size = a.size + b.size := by simp
theorem fAdd_ok {f : FileV} (h : FileOk f) (t : ByteArray) (ht : f.text.size + t.size ≤ 20000) : FileOk (fAdd f t) := by
  obtain ⟨h1, h2, h3, h4⟩ := h
  refine ⟨h1, ?_, h3, ?_⟩
  · show (f.text ++ t).size ≤ _
    rw [app_size]; omega
  · show f.kept ≤ ((f.text ++ t).size : Int)
    rw [app_size]; omega
theorem act_add {fs : List FileV} {x : ActV} {f : FileV} (hd : DiskR fs) (hs : Shape x) (hk : x.kind = 1) (hf : fileOf fs x.name = some f) (ht : f.text.size + x.text.size ≤ 20000) : doAct fs x = some (put fs (fAdd f x.text)) := by
  obtain ⟨h1, h2, h3, h4⟩ := name_of hd hf
  refine doAct_out hd hs h1 ?_ (disk_put hd (fAdd_ok h2 _ ht) ?_)
  · unfold actOut; rw [if_pos hk, hf]; rfl
  · rw [len_put_in hd (fAdd f x.text) (isIn_iff.2 ⟨f, h3, rfl⟩)]; exact hd.1
theorem act_add_no {fs : List FileV} {x : ActV} {f : FileV} (hk : x.kind = 1) (hf : fileOf fs x.name = some f) (ht : ¬ f.text.size + x.text.size ≤ 20000) : doAct fs x = none := by
  refine doAct_out_no (gs := put fs (fAdd f x.text)) ?_ (disk_put_no (.inl fun h => ht ?_))
  · unfold actOut; rw [if_pos hk, hf]; rfl
  · have := h.2.1
    show f.text.size + x.text.size ≤ _
    rw [← app_size]
    exact this
theorem empty_app (t : ByteArray) : (⟨#[]⟩ ++ t : ByteArray).size = t.size := by rw [app_size]; exact Nat.zero_add _
theorem act_new {fs : List FileV} {x : ActV} (hd : DiskR fs) (hs : Shape x) (hk : x.kind = 1) (hf : fileOf fs x.name = none) (hn : NameOk x.name) (hl : fs.length ≠ 30) (ht : x.text.size ≤ 20000) : doAct fs x = some (put fs (fNew x.name x.text)) := by
  refine doAct_out hd hs hn ?_ (disk_put hd ⟨hn, ?_, by show (0 : Int) ≤ 0; omega, ?_⟩ ?_)
  · unfold actOut; rw [if_pos hk, hf]; rfl
  · show (⟨#[]⟩ ++ x.text : ByteArray).size ≤ _
    rw [empty_app]; exact ht
  · show (0 : Int) ≤ _
    omega
  · rw [len_put_new hd _ (isIn_no (fileOf_not hf))]
    have := hd.1
    omega
theorem act_new_name {fs : List FileV} {x : ActV} (hn : ¬ NameOk x.name) : doAct fs x = none := doAct_bad (.inl hn)
theorem act_new_no {fs : List FileV} {x : ActV} (hd : DiskR fs) (hk : x.kind = 1) (hf : fileOf fs x.name = none) (h : fs.length = 30 ∨ ¬ x.text.size ≤ 20000) : doAct fs x = none := by
  refine doAct_out_no (gs := put fs (fNew x.name x.text)) ?_ (disk_put_no ?_)
  · unfold actOut; rw [if_pos hk, hf]; rfl
  · rcases h with h | h
    · refine .inr ?_
      rw [len_put_new hd _ (isIn_no (fileOf_not hf))]
      omega
    · refine .inl fun ho => h ?_
      have : (⟨#[]⟩ ++ x.text : ByteArray).size ≤ _ := ho.2.1
      rw [empty_app] at this
      exact this
theorem act_none {fs : List FileV} {x : ActV} (hk : x.kind ≠ 1) (hf : fileOf fs x.name = none) : doAct fs x = none := by
  apply doAct_nothing
  unfold actOut
  rw [if_neg hk, hf]
theorem act_keep {fs : List FileV} {x : ActV} {f : FileV} (hd : DiskR fs) (hs : Shape x) (hk : x.kind = 2) (hf : fileOf fs x.name = some f) : doAct fs x = some (put fs (fKeep f)) := by
  obtain ⟨h1, h2, h3, h4⟩ := name_of hd hf
  refine doAct_out hd hs h1 ?_ (disk_put hd ⟨h2.1, h2.2.1, by show (0 : Int) ≤ (f.text.size : Int); omega, by show (f.text.size : Int) ≤ (f.text.size : Int); omega⟩ ?_)
  · unfold actOut; rw [if_neg (by omega), hf]; dsimp only; rw [if_pos hk]; rfl
  · rw [len_put_in hd (fKeep f) (isIn_iff.2 ⟨f, h3, rfl⟩)]; exact hd.1
theorem act_drop {fs : List FileV} {x : ActV} {f : FileV} (hd : DiskR fs) (hs : Shape x) (hk : x.kind = 4) (hf : fileOf fs x.name = some f) : doAct fs x = some (without fs x.name) := by
  obtain ⟨h1, h2, h3, h4⟩ := name_of hd hf
  refine doAct_out hd hs h1 ?_ (disk_without hd _)
  unfold actOut; rw [if_neg (by omega), hf]; dsimp only; rw [if_neg (by omega), if_neg (by omega), if_pos hk]
theorem act_other {fs : List FileV} {x : ActV} (h1 : x.kind ≠ 1) (h2 : x.kind ≠ 2) (h3 : x.kind ≠ 3) (h4 : x.kind ≠ 4) : doAct fs x = none := by
  apply doAct_nothing
  unfold actOut
  rw [if_neg h1]
  split
  · rfl
  · rw [if_neg h2, if_neg h3, if_neg h4]
theorem act_move_no {fs : List FileV} {x : ActV} {f : FileV} (hk : x.kind = 3) (hf : fileOf fs x.name = some f) (h : f.kept < f.text.size ∨ x.to = x.name ∨ ¬ NameOk x.to) : doAct fs x = none := by
  apply doAct_nothing
  unfold actOut
  rw [if_neg (by omega), hf]
  dsimp only
  rw [if_neg (by omega), if_pos hk, if_pos h]
theorem act_move {fs : List FileV} {x : ActV} {f : FileV} (hd : DiskR fs) (hs : Shape x) (hk : x.kind = 3) (hf : fileOf fs x.name = some f) (h : ¬ (f.kept < f.text.size ∨ x.to = x.name ∨ ¬ NameOk x.to)) : doAct fs x = some (put (without fs x.name) (fMove f x.to)) := by
  obtain ⟨h1, h2, h3, h4⟩ := name_of hd hf
  have hto : NameOk x.to := Classical.byContradiction fun hh => h (.inr (.inr hh))
  refine doAct_out hd hs h1 ?_ (disk_put (disk_without hd _) ⟨hto, h2.2⟩ ?_)
  · unfold actOut
    rw [if_neg (by omega), hf]
    dsimp only
    rw [if_neg (by omega), if_pos hk, if_neg h]
    rfl
  · have e1 := len_put (sorted_without ((disk_iff fs).1 hd).2.2 x.name) (fMove f x.to)
    have e2 := len_without ((disk_iff fs).1 hd).2.2 x.name
    rw [isIn_iff.2 ⟨f, h3, h4⟩] at e2
    have := hd.1
    simp at e2
    omega
end Go.Proofs.Ytibcdpnodikpiai
