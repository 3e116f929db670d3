/- What the specification's DoAct answers at every list of files and every act. -/
import Derived.Test.YtegknhnmfaafmaaSAct4
import Derived.Test.YtegknhnmfaafmaaSAct6
namespace Go.Proofs.Ytegknhnmfaafmaa
open Go.RowKit

open Classical in
/-- what an act makes of the files, ahead of the look at what comes -/
noncomputable def actOut (fs : List FileV) (x : ActV) : Option (List FileV) :=
  if x.kind = 1 then some (put fs (match fileOf fs x.name with | some f => ⟨f.name, f.text ++ x.text, f.kept⟩ | none => ⟨x.name, ⟨#[]⟩ ++ x.text, 0⟩))
  else match fileOf fs x.name with
    | none => none
    | some f =>
      if x.kind = 2 then some (put fs ⟨f.name, f.text, f.text.size⟩)
      else if x.kind = 3 then (if f.kept < f.text.size ∨ x.to = x.name ∨ ¬ NameOk x.to then none else some (put (without fs x.name) ⟨x.to, f.text, f.kept⟩))
      else if x.kind = 4 then some (without fs x.name)
      else none

open Classical in
/-- what DoAct answers -/
noncomputable def doAct (fs : List FileV) (x : ActV) : Option (List FileV) :=
  if DiskR fs ∧ ¬ ActBad x then (actOut fs x).bind fun gs => if DiskR gs then some gs else none else none

theorem fileOf_none {fs : List FileV} {name : ByteArray} (h : fileOf fs name = none) : atN fs name = none := by
  unfold fileOf at h
  cases hA : atN fs name with
  | none => rfl
  | some k =>
    rw [hA] at h
    have := atN_lt hA
    simp at h
    omega
theorem fileOf_some {fs : List FileV} {name : ByteArray} {f : FileV} (h : fileOf fs name = some f) : ∃ k, atN fs name = some k ∧ fs[k]? = some f := by
  unfold fileOf at h
  cases hA : atN fs name with
  | none => rw [hA] at h; simp at h
  | some k => rw [hA] at h; exact ⟨k, rfl, h⟩

theorem put_mem {fs : List FileV} {f g : FileV} (h : g ∈ put fs f) : g ∈ fs ∨ g = f := by
  unfold put at h
  simp only [List.mem_append, List.mem_filter, List.mem_singleton] at h
  rcases h with (h | h) | h
  · exact .inl h.1
  · exact .inr h
  · exact .inl h.1
theorem put_len (fs : List FileV) (f : FileV) : (put fs f).length ≤ 2 * fs.length + 1 := by
  unfold put
  have h1 := List.length_filter_le (fun g : FileV => lessB g.name f.name) fs
  have h2 := List.length_filter_le (fun g : FileV => moreB g.name f.name) fs
  simp only [List.length_append, List.length_cons, List.length_nil]
  omega
theorem put_fits {fs : List FileV} {f : FileV} (h : FitsF fs) (h1 : f.name.size ≤ maxLen) (h2 : f.text.size ≤ maxLen) : FitsF (put fs f) := fun g hg => by
  rcases put_mem hg with hg | rfl
  · exact h g hg
  · exact ⟨h1, h2⟩
theorem without_fits {fs : List FileV} {name : ByteArray} (h : FitsF fs) : FitsF (without fs name) := fun g hg => h g (List.mem_filter.1 hg).1

theorem fine_of {fs : List FileV} {x : ActV} (hd : DiskR fs) (hx : ¬ ActBad x) : ActFine fs x := by
  unfold ActBad at hx
  refine ⟨hd, ?_, ?_, ?_⟩
  · exact Classical.byContradiction fun h => hx (.inl h)
  · by_cases h : x.kind = 3
    · exact .inl h
    · exact .inr (Classical.byContradiction fun h2 => hx (.inr (.inl ⟨h, h2⟩)))
  · by_cases h : x.kind = 1
    · exact .inl h
    · exact .inr (Classical.byContradiction fun h2 => hx (.inr (.inr ⟨h, h2⟩)))

/-- an act as the machine bears it -/
def FitA (x : ActV) : Prop := x.name.size ≤ 1048576 ∧ x.text.size ≤ 1048576 ∧ x.to.size ≤ 1048576

open Classical in
theorem sDoAct_any (fs : List FileV) (hlet : fs.length + letters fs ≤ 1048576) (n : Nat) (a : Option Addr) (c : Nat) (x : ActV) (hx : FitA x) (w : World) (h : Fs w w.heap.size a n fs) :
    Calls Try.prog 36 #[.agg #[.slice a n c], .agg #[.int .i64 x.kind, .string x.name, .string x.text, .string x.to]] w (ActAns w (doAct fs x)) := by
  have hfit := fits_of hlet
  have hn : n ≤ maxLen := by unfold maxLen; have := h.1; omega
  have hl := h.1
  obtain ⟨x1, x2, x3⟩ := hx
  have mx : (1048576 : Nat) ≤ maxLen := by unfold maxLen; omega
  have fsz : ∀ {f : FileV}, f ∈ fs → f.name.size ≤ 1048576 ∧ f.text.size ≤ 1048576 := fun hf => by have := letters_mem hf; omega
  unfold doAct
  by_cases hd : DiskR fs
  · by_cases hb : ActBad x
    · rw [if_neg (by simp [hb])]
      exact sDoAct_actbad fs hfit n a c hn x (by omega) w h hd hb
    · rw [if_pos ⟨hd, hb⟩]
      have hf := fine_of hd hb
      have h30 : fs.length ≤ 30 := hd.1
      unfold actOut
      by_cases k1 : x.kind = 1
      · rw [if_pos k1]
        cases hfo : fileOf fs x.name with
        | none =>
          have hat := fileOf_none hfo
          show Calls _ _ _ _ (ActAns w (if DiskR (put fs ⟨x.name, ⟨#[]⟩ ++ x.text, 0⟩) then some (put fs ⟨x.name, ⟨#[]⟩ ++ x.text, 0⟩) else none))
          by_cases hg : DiskR (put fs ⟨x.name, ⟨#[]⟩ ++ x.text, 0⟩)
          · rw [if_pos hg]
            exact sDoAct_addnew fs hfit n a c x x2 w h hf k1 hat _ rfl hg
          · rw [if_neg hg]
            refine sDoAct_addnewno fs hfit n a c x x2 w h hf k1 hat _ rfl (put_fits hfit (by show x.name.size ≤ _; omega) ?_) (by have := put_len fs ⟨x.name, ⟨#[]⟩ ++ x.text, 0⟩; omega) hg
            show (⟨#[]⟩ ++ x.text : ByteArray).size ≤ _
            rw [ByteArray.size_append]
            show 0 + x.text.size ≤ _
            omega
        | some f =>
          obtain ⟨k, hat, hfk⟩ := fileOf_some hfo
          have hfm := fsz (List.mem_of_getElem? hfk)
          show Calls _ _ _ _ (ActAns w (if DiskR (put fs ⟨f.name, f.text ++ x.text, f.kept⟩) then some (put fs ⟨f.name, f.text ++ x.text, f.kept⟩) else none))
          by_cases hg : DiskR (put fs ⟨f.name, f.text ++ x.text, f.kept⟩)
          · rw [if_pos hg]
            exact sDoAct_addfound fs hfit n a c x x2 w h hf k1 k f hfm.2 hat hfk _ rfl hg
          · rw [if_neg hg]
            refine sDoAct_addfoundno fs hfit n a c x x2 w h hf k1 k f hfm.2 hat hfk _ rfl (put_fits hfit (by show f.name.size ≤ _; omega) ?_) (by have := put_len fs ⟨f.name, f.text ++ x.text, f.kept⟩; omega) hg
            show (f.text ++ x.text : ByteArray).size ≤ _
            rw [ByteArray.size_append]
            unfold maxLen
            omega
      · rw [if_neg k1]
        cases hfo : fileOf fs x.name with
        | none => exact sDoAct_none fs hfit n a c x w h hf k1 (fileOf_none hfo)
        | some f =>
          obtain ⟨k, hat, hfk⟩ := fileOf_some hfo
          have hfm := fsz (List.mem_of_getElem? hfk)
          dsimp only
          by_cases k2 : x.kind = 2
          · rw [if_pos k2]
            show Calls _ _ _ _ (ActAns w (if DiskR (put fs ⟨f.name, f.text, f.text.size⟩) then some (put fs ⟨f.name, f.text, f.text.size⟩) else none))
            by_cases hg : DiskR (put fs ⟨f.name, f.text, f.text.size⟩)
            · rw [if_pos hg]
              exact sDoAct_keep fs hfit n a c x w h hf k2 k f hat hfk _ rfl hg
            · rw [if_neg hg]
              exact sDoAct_keepno fs hfit n a c x w h hf k2 k f hat hfk _ rfl (put_fits hfit (by show f.name.size ≤ _; omega) (by show f.text.size ≤ _; omega)) (by have := put_len fs ⟨f.name, f.text, f.text.size⟩; omega) hg
          · rw [if_neg k2]
            by_cases k3 : x.kind = 3
            · rw [if_pos k3]
              by_cases hm : f.kept < f.text.size ∨ x.to = x.name ∨ ¬ NameOk x.to
              · rw [if_pos hm]
                exact sDoAct_movebad fs hfit n a c x w h hf k3 (by omega) k f hat hfk hm
              · rw [if_neg hm]
                have m1 : ¬ f.kept < f.text.size := fun h => hm (.inl h)
                have m2 : ¬ x.to = x.name := fun h => hm (.inr (.inl h))
                have m3 : NameOk x.to := Classical.byContradiction fun h => hm (.inr (.inr h))
                show Calls _ _ _ _ (ActAns w (if DiskR (put (without fs x.name) ⟨x.to, f.text, f.kept⟩) then some (put (without fs x.name) ⟨x.to, f.text, f.kept⟩) else none))
                have wl := without_le fs x.name
                by_cases hg : DiskR (put (without fs x.name) ⟨x.to, f.text, f.kept⟩)
                · rw [if_pos hg]
                  exact sDoAct_move fs hfit n a c x w h hf k3 k f hat hfk m1 m2 m3 _ rfl hg
                · rw [if_neg hg]
                  exact sDoAct_moveno fs hfit n a c x w h hf k3 k f hat hfk m1 m2 m3 _ rfl (put_fits (without_fits hfit) (by show x.to.size ≤ _; omega) (by show f.text.size ≤ _; omega)) (by have := put_len (without fs x.name) ⟨x.to, f.text, f.kept⟩; omega) hg
            · rw [if_neg k3]
              by_cases k4 : x.kind = 4
              · rw [if_pos k4]
                show Calls _ _ _ _ (ActAns w (if DiskR (without fs x.name) then some (without fs x.name) else none))
                have wl := without_le fs x.name
                by_cases hg : DiskR (without fs x.name)
                · rw [if_pos hg]
                  exact sDoAct_drop fs hfit n a c x w h hf k4 k f hat hfk _ rfl hg
                · rw [if_neg hg]
                  exact sDoAct_dropno fs hfit n a c x w h hf k4 k f hat hfk _ rfl (without_fits hfit) (by omega) hg
              · rw [if_neg k4]
                exact sDoAct_other fs hfit n a c x w h hf ⟨k1, k2, k3, k4⟩ k f hat hfk
  · rw [if_neg (by simp [hd])]
    exact sDoAct_bad fs hfit n a c hn x w h hd
end Go.Proofs.Ytegknhnmfaafmaa
