/- Lists of acts: how they stand in memory. What an act makes of the files, arm by arm: pure. Acts one behind the other: pure. Acts drawn. A disk, acts, a place and numbers of what is left, drawn. What an act leaves of the file that it names; how far acts ran. -/
import Derived.Test.YthffflpclmpamaaKActs
import Derived.Test.YthffflpclmpamaaKOrder
namespace Go.Proofs.Ythffflpclmpamaa
open Go.RowKit

/-- a list of acts stands in memory below B -/
def As (w : World) (B : Nat) (a : Option Addr) (n : Nat) (xs : List ActV) : Prop :=
  xs.length = n ∧ (n = 0 ∨ ∃ b off, a = some ⟨b, off, none⟩ ∧ b < B ∧ ∀ (j : Nat) (x : ActV), xs[j]? = some x →
    w.cell? ⟨b, off + j * 4, none⟩ = some (.int .i64 x.kind) ∧ w.cell? ⟨b, off + j * 4 + 1, none⟩ = some (.string x.name) ∧ w.cell? ⟨b, off + j * 4 + 2, none⟩ = some (.string x.text) ∧ w.cell? ⟨b, off + j * 4 + 3, none⟩ = some (.string x.to))
theorem As.below {w w' : World} {B C : Nat} {a : Option Addr} {n : Nat} {xs : List ActV} (h : As w B a n xs) (hb : Below C w w') (hB : B ≤ C) : As w' B a n xs := by
  refine ⟨h.1, h.2.imp id ?_⟩
  rintro ⟨b, off, h1, h2, h3⟩
  refine ⟨b, off, h1, h2, fun j x hx => ?_⟩
  have hc : ∀ o, w'.cell? ⟨b, o, none⟩ = w.cell? ⟨b, o, none⟩ := fun o => hb.cell (p := ⟨b, o, none⟩) (by show b < _; omega)
  obtain ⟨c0, c1, c2, c3⟩ := h3 j x hx
  exact ⟨by rw [hc]; exact c0, by rw [hc]; exact c1, by rw [hc]; exact c2, by rw [hc]; exact c3⟩
theorem As.mono {w : World} {B C : Nat} {a : Option Addr} {n : Nat} {xs : List ActV} (h : As w B a n xs) (hB : B ≤ C) : As w C a n xs := by
  refine ⟨h.1, h.2.imp id ?_⟩
  rintro ⟨b, off, h1, h2, h3⟩
  exact ⟨b, off, h1, by omega, h3⟩
theorem As.up {w w' : World} {a : Option Addr} {n : Nat} {xs : List ActV} (h : As w w.heap.size a n xs) (hb : Below w.heap.size w w') : As w' w'.heap.size a n xs :=
  (h.below hb (Nat.le_refl _)).mono hb.size
def acell (x : ActV) : List Value := [.int .i64 x.kind, .string x.name, .string x.text, .string x.to]
def acells (xs : List ActV) : List Value := xs.flatMap acell
theorem acells_length (xs : List ActV) : (acells xs).length = xs.length * 4 := by
  induction xs with
  | nil => rfl
  | cons f fs ih => simp only [acells, List.flatMap_cons, List.length_append, List.length_cons] at ih ⊢; rw [ih]; simp [acell]; omega
theorem acells_snoc (xs : List ActV) (x : ActV) : acells (xs ++ [x]) = acells xs ++ [.int .i64 x.kind, .string x.name, .string x.text, .string x.to] := by simp [acells, acell]
theorem acells_at (xs : List ActV) (j : Nat) (x : ActV) (h : xs[j]? = some x) :
    (acells xs)[j * 4]? = some (.int .i64 x.kind) ∧ (acells xs)[j * 4 + 1]? = some (.string x.name) ∧ (acells xs)[j * 4 + 2]? = some (.string x.text) ∧ (acells xs)[j * 4 + 3]? = some (.string x.to) := by
  induction xs generalizing j with
  | nil => simp at h
  | cons g fs ih =>
    cases j with
    | zero => simp at h; subst h; simp [acells, acell]
    | succ j =>
      have h2 := ih j (by simpa using h)
      have e : ∀ m, (acells (g :: fs))[m + 4]? = (acells fs)[m]? := fun m => by simp [acells, acell]
      refine ⟨?_, ?_, ?_, ?_⟩
      · rw [show (j + 1) * 4 = j * 4 + 4 by omega, e]; exact h2.1
      · rw [show (j + 1) * 4 + 1 = j * 4 + 1 + 4 by omega, e]; exact h2.2.1
      · rw [show (j + 1) * 4 + 2 = j * 4 + 2 + 4 by omega, e]; exact h2.2.2.1
      · rw [show (j + 1) * 4 + 3 = j * 4 + 3 + 4 by omega, e]; exact h2.2.2.2
theorem add_off (g j : Nat) : ((⟨g, 0, none⟩ : Addr).add j) = ⟨g, j, none⟩ := by
  by_cases h0 : j = 0
  · subst h0; rfl
  · simp [Addr.add, h0]
theorem As_of_own {w : World} {B g n cap : Nat} {xs : List ActV} (h : w.ownsRow B 37 4 (.slice (some ⟨g, 0, none⟩) n cap) n (acells xs)) : As w w.heap.size (some ⟨g, 0, none⟩) n xs := by
  have hl := h.1
  rw [acells_length] at hl
  refine ⟨by omega, .inr ⟨g, 0, rfl, (h.lt g rfl).2, fun j x hx => ?_⟩⟩
  obtain ⟨c0, c1, c2, c3⟩ := acells_at xs j x hx
  have hc := fun o v (hv : (acells xs)[o]? = some v) => h.cells (g := g) rfl o v hv
  simp only [add_off] at hc
  simp only [Nat.zero_add]
  exact ⟨hc _ _ c0, hc _ _ c1, hc _ _ c2, hc _ _ c3⟩
/-- the letters of a list of acts -/
def lettersA (xs : List ActV) : Nat := (xs.map fun x => x.name.size + x.text.size + x.to.size).sum
theorem lettersA_snoc (xs : List ActV) (x : ActV) : lettersA (xs ++ [x]) = lettersA xs + (x.name.size + x.text.size + x.to.size) := by simp [lettersA]
theorem lettersA_take (xs : List ActV) (k : Nat) : lettersA (xs.take k) ≤ lettersA xs := by
  have h := congrArg lettersA (List.take_append_drop k xs)
  have e : ∀ a b : List ActV, lettersA (a ++ b) = lettersA a + lettersA b := fun a b => by simp [lettersA]
  have := e (xs.take k) (xs.drop k)
  omega
theorem lettersA_mem {xs : List ActV} {x : ActV} (h : x ∈ xs) : x.name.size + x.text.size + x.to.size ≤ lettersA xs := by
  obtain ⟨j, hj⟩ := List.getElem?_of_mem h
  have h1 := lettersA_take xs (j + 1)
  rw [take_snocF xs j x hj, lettersA_snoc] at h1
  omega
theorem infoIA : (Try.prog.info? 37).map (fun i => (i.zero, i.size, i.bytes)) = some (some (.agg #[.int .i64 0, .string .empty, .string .empty, .string .empty]), 4, 56) := by kernel_rfl
/-- all acts fit -/
def FitsA (xs : List ActV) : Prop := ∀ x ∈ xs, FitA x
end Go.Proofs.Ythffflpclmpamaa
namespace Go.Proofs.Ythffflpclmpamaa
open Go.RowKit

def Shape (x : ActV) : Prop := (x.kind = 1 ∨ x.text.size = 0) ∧ (x.kind = 3 ∨ x.to.size = 0)

theorem not_bad {x : ActV} (hs : Shape x) (hn : NameOk x.name) : ¬ ActBad x := by
  rintro (h | ⟨h1, h2⟩ | ⟨h1, h2⟩)
  · exact h hn
  · rcases hs.2 with h | h
    · exact h1 h
    · exact h2 h
  · rcases hs.1 with h | h
    · exact h1 h
    · exact h2 h
theorem doAct_bad {fs : List FileV} {x : ActV} (h : ActBad x) : doAct fs x = none := by
  unfold doAct
  rw [if_neg (fun hh => hh.2 h)]
theorem doAct_shape {fs : List FileV} {x : ActV} (h : ¬ Shape x) : doAct fs x = none := by
  apply doAct_bad
  by_cases h1 : x.kind = 1 ∨ x.text.size = 0
  · have h2 : ¬ (x.kind = 3 ∨ x.to.size = 0) := fun h2 => h ⟨h1, h2⟩
    exact .inr (.inl ⟨fun e => h2 (.inl e), fun e => h2 (.inr e)⟩)
  · exact .inr (.inr ⟨fun e => h1 (.inl e), fun e => h1 (.inr e)⟩)
open Classical in
theorem doAct_out {fs : List FileV} {x : ActV} (hd : DiskR fs) (hs : Shape x) (hn : NameOk x.name) {gs : List FileV} (ho : actOut fs x = some gs) (hg : DiskR gs) : doAct fs x = some gs := by
  unfold doAct
  rw [if_pos ⟨hd, not_bad hs hn⟩, ho]
  show (if DiskR gs then some gs else none) = some gs
  rw [if_pos hg]
open Classical in
theorem doAct_out_no {fs : List FileV} {x : ActV} {gs : List FileV} (ho : actOut fs x = some gs) (hg : ¬ DiskR gs) : doAct fs x = none := by
  unfold doAct
  split
  · rw [ho]
    show (if DiskR gs then some gs else none) = none
    rw [if_neg hg]
  · rfl
open Classical in
theorem doAct_disk {fs : List FileV} {x : ActV} {gs : List FileV} (ho : doAct fs x = some gs) : DiskR gs := by
  unfold doAct at ho
  split at ho
  · cases hq : actOut fs x with
    | none => rw [hq] at ho; cases ho
    | some ks =>
      rw [hq] at ho
      have ho' : (if DiskR ks then some ks else none) = some gs := ho
      split at ho'
      · cases ho'; assumption
      · cases ho'
  · cases ho
theorem doAct_nothing {fs : List FileV} {x : ActV} (ho : actOut fs x = none) : doAct fs x = none := by
  unfold doAct
  split
  · rw [ho]; rfl
  · rfl
theorem name_of {fs : List FileV} {x : ActV} {f : FileV} (hd : DiskR fs) (h : fileOf fs x.name = some f) : NameOk x.name ∧ FileOk f ∧ f ∈ fs ∧ f.name = x.name := by
  obtain ⟨h1, h2⟩ := fileOf_is h
  have h3 := ((disk_iff fs).1 hd).2.1 f h1
  exact ⟨h2 ▸ h3.1, h3, h1, h2⟩

/-- the file that an addition to f makes -/
def fAdd (f : FileV) (t : ByteArray) : FileV := ⟨f.name, f.text ++ t, f.kept⟩
def fNew (nm t : ByteArray) : FileV := ⟨nm, ⟨#[]⟩ ++ t, 0⟩
def fKeep (f : FileV) : FileV := ⟨f.name, f.text, f.text.size⟩
def fMove (f : FileV) (nt : ByteArray) : FileV := ⟨nt, f.text, f.kept⟩

theorem app_size (a b : ByteArray) : (a ++ b).size = a.size + b.size := by simp
theorem fAdd_ok {f : FileV} (h : FileOk f) (t : ByteArray) (ht : f.text.size + t.size ≤ 20000) : FileOk (fAdd f t) := by
  obtain ⟨h1, h2, h3, h4⟩ := h
  refine ⟨h1, ?_, h3, ?_⟩
  · show (f.text ++ t).size ≤ _
    rw [app_size]; omega
  · show f.kept ≤ ((f.text ++ t).size : Int)
    rw [app_size]; omega
theorem act_add {fs : List FileV} {x : ActV} {f : FileV} (hd : DiskR fs) (hs : Shape x) (hk : x.kind = 1) (hf : fileOf fs x.name = some f) (ht : f.text.size + x.text.size ≤ 20000) : doAct fs x = some (put fs (fAdd f x.text)) := by
  obtain ⟨h1, h2, h3, h4⟩ := name_of hd hf
  refine doAct_out hd hs h1 ?_ (disk_put hd (fAdd_ok h2 _ ht) ?_)
  · unfold actOut; rw [if_pos hk, hf]; rfl
  · rw [len_put_in hd (fAdd f x.text) (isIn_iff.2 ⟨f, h3, rfl⟩)]; exact hd.1
theorem act_add_no {fs : List FileV} {x : ActV} {f : FileV} (hk : x.kind = 1) (hf : fileOf fs x.name = some f) (ht : ¬ f.text.size + x.text.size ≤ 20000) : doAct fs x = none := by
  refine doAct_out_no (gs := put fs (fAdd f x.text)) ?_ (disk_put_no (.inl fun h => ht ?_))
  · unfold actOut; rw [if_pos hk, hf]; rfl
  · have := h.2.1
    show f.text.size + x.text.size ≤ _
    rw [← app_size]
    exact this
theorem empty_app (t : ByteArray) : (⟨#[]⟩ ++ t : ByteArray).size = t.size := by rw [app_size]; exact Nat.zero_add _
theorem act_new {fs : List FileV} {x : ActV} (hd : DiskR fs) (hs : Shape x) (hk : x.kind = 1) (hf : fileOf fs x.name = none) (hn : NameOk x.name) (hl : fs.length ≠ 30) (ht : x.text.size ≤ 20000) : doAct fs x = some (put fs (fNew x.name x.text)) := by
  refine doAct_out hd hs hn ?_ (disk_put hd ⟨hn, ?_, by show (0 : Int) ≤ 0; omega, ?_⟩ ?_)
  · unfold actOut; rw [if_pos hk, hf]; rfl
  · show (⟨#[]⟩ ++ x.text : ByteArray).size ≤ _
    rw [empty_app]; exact ht
  · show (0 : Int) ≤ _
    omega
  · rw [len_put_new hd _ (isIn_no (fileOf_not hf))]
    have := hd.1
    omega
theorem act_new_name {fs : List FileV} {x : ActV} (hn : ¬ NameOk x.name) : doAct fs x = none := doAct_bad (.inl hn)
theorem act_new_no {fs : List FileV} {x : ActV} (hd : DiskR fs) (hk : x.kind = 1) (hf : fileOf fs x.name = none) (h : fs.length = 30 ∨ ¬ x.text.size ≤ 20000) : doAct fs x = none := by
  refine doAct_out_no (gs := put fs (fNew x.name x.text)) ?_ (disk_put_no ?_)
  · unfold actOut; rw [if_pos hk, hf]; rfl
  · rcases h with h | h
    · refine .inr ?_
      rw [len_put_new hd _ (isIn_no (fileOf_not hf))]
      omega
    · refine .inl fun ho => h ?_
      have : (⟨#[]⟩ ++ x.text : ByteArray).size ≤ _ := ho.2.1
      rw [empty_app] at this
      exact this
theorem act_none {fs : List FileV} {x : ActV} (hk : x.kind ≠ 1) (hf : fileOf fs x.name = none) : doAct fs x = none := by
  apply doAct_nothing
  unfold actOut
  rw [if_neg hk, hf]
theorem act_keep {fs : List FileV} {x : ActV} {f : FileV} (hd : DiskR fs) (hs : Shape x) (hk : x.kind = 2) (hf : fileOf fs x.name = some f) : doAct fs x = some (put fs (fKeep f)) := by
  obtain ⟨h1, h2, h3, h4⟩ := name_of hd hf
  refine doAct_out hd hs h1 ?_ (disk_put hd ⟨h2.1, h2.2.1, by show (0 : Int) ≤ (f.text.size : Int); omega, by show (f.text.size : Int) ≤ (f.text.size : Int); omega⟩ ?_)
  · unfold actOut; rw [if_neg (by omega), hf]; dsimp only; rw [if_pos hk]; rfl
  · rw [len_put_in hd (fKeep f) (isIn_iff.2 ⟨f, h3, rfl⟩)]; exact hd.1
theorem act_drop {fs : List FileV} {x : ActV} {f : FileV} (hd : DiskR fs) (hs : Shape x) (hk : x.kind = 4) (hf : fileOf fs x.name = some f) : doAct fs x = some (without fs x.name) := by
  obtain ⟨h1, h2, h3, h4⟩ := name_of hd hf
  refine doAct_out hd hs h1 ?_ (disk_without hd _)
  unfold actOut; rw [if_neg (by omega), hf]; dsimp only; rw [if_neg (by omega), if_neg (by omega), if_pos hk]
theorem act_other {fs : List FileV} {x : ActV} (h1 : x.kind ≠ 1) (h2 : x.kind ≠ 2) (h3 : x.kind ≠ 3) (h4 : x.kind ≠ 4) : doAct fs x = none := by
  apply doAct_nothing
  unfold actOut
  rw [if_neg h1]
  split
  · rfl
  · rw [if_neg h2, if_neg h3, if_neg h4]
theorem act_move_no {fs : List FileV} {x : ActV} {f : FileV} (hk : x.kind = 3) (hf : fileOf fs x.name = some f) (h : f.kept < f.text.size ∨ x.to = x.name ∨ ¬ NameOk x.to) : doAct fs x = none := by
  apply doAct_nothing
  unfold actOut
  rw [if_neg (by omega), hf]
  dsimp only
  rw [if_neg (by omega), if_pos hk, if_pos h]
theorem act_move {fs : List FileV} {x : ActV} {f : FileV} (hd : DiskR fs) (hs : Shape x) (hk : x.kind = 3) (hf : fileOf fs x.name = some f) (h : ¬ (f.kept < f.text.size ∨ x.to = x.name ∨ ¬ NameOk x.to)) : doAct fs x = some (put (without fs x.name) (fMove f x.to)) := by
  obtain ⟨h1, h2, h3, h4⟩ := name_of hd hf
  have hto : NameOk x.to := Classical.byContradiction fun hh => h (.inr (.inr hh))
  refine doAct_out hd hs h1 ?_ (disk_put (disk_without hd _) ⟨hto, h2.2⟩ ?_)
  · unfold actOut
    rw [if_neg (by omega), hf]
    dsimp only
    rw [if_neg (by omega), if_pos hk, if_neg h]
    rfl
  · have e1 := len_put (sorted_without ((disk_iff fs).1 hd).2.2 x.name) (fMove f x.to)
    have e2 := len_without ((disk_iff fs).1 hd).2.2 x.name
    rw [isIn_iff.2 ⟨f, h3, h4⟩] at e2
    have := hd.1
    simp at e2
    omega
end Go.Proofs.Ythffflpclmpamaa
namespace Go.Proofs.Ythffflpclmpamaa
open Go.RowKit

/-- what acts make of the files, up to the first that is false; how many were true -/
noncomputable def runActs : List FileV → List ActV → List FileV × Nat
  | fs, [] => (fs, 0)
  | fs, x :: xs => match doAct fs x with
    | none => (fs, 0)
    | some gs => ((runActs gs xs).1, (runActs gs xs).2 + 1)
/-- behind k acts that were true the files are gs -/
def Ran (fs : List FileV) (xs : List ActV) (k : Nat) (gs : List FileV) : Prop := runActs fs xs = ((runActs gs (xs.drop k)).1, (runActs gs (xs.drop k)).2 + k)
theorem Ran.start (fs : List FileV) (xs : List ActV) : Ran fs xs 0 fs := rfl
theorem drop_at {α : Type} {xs : List α} {k : Nat} {x : α} (h : xs[k]? = some x) : xs.drop k = x :: xs.drop (k + 1) := by
  obtain ⟨hk, rfl⟩ := List.getElem?_eq_some_iff.1 h
  exact List.drop_eq_getElem_cons hk
theorem Ran.stop {fs : List FileV} {xs : List ActV} {k : Nat} {gs : List FileV} (h : Ran fs xs k gs) {x : ActV} (hx : xs[k]? = some x) (hn : doAct gs x = none) : runActs fs xs = (gs, k) := by
  unfold Ran at h
  rw [h, drop_at hx]
  simp [runActs, hn]
theorem Ran.step {fs : List FileV} {xs : List ActV} {k : Nat} {gs hs : List FileV} (h : Ran fs xs k gs) {x : ActV} (hx : xs[k]? = some x) (hn : doAct gs x = some hs) : Ran fs xs (k + 1) hs := by
  unfold Ran at h ⊢
  rw [h, drop_at hx]
  simp only [runActs, hn]
  rw [Nat.add_assoc, Nat.add_comm 1 k]
theorem Ran.done {fs : List FileV} {xs : List ActV} {gs : List FileV} (h : Ran fs xs xs.length gs) : runActs fs xs = (gs, xs.length) := by
  unfold Ran at h
  rw [h, List.drop_length]
  simp [runActs]
theorem run_bad {fs : List FileV} (h : ¬ DiskR fs) (xs : List ActV) : runActs fs xs = (fs, 0) := by
  cases xs with
  | nil => rfl
  | cons x xs =>
    have : doAct fs x = none := by unfold doAct; rw [if_neg (fun hh => h hh.1)]
    simp [runActs, this]
theorem run_le (xs : List ActV) : ∀ fs : List FileV, (runActs fs xs).2 ≤ xs.length := by
  induction xs with
  | nil => intro fs; simp [runActs]
  | cons x xs ih =>
    intro fs
    simp only [runActs]
    split
    · simp
    · rename_i gs _
      have := ih gs
      simp only [List.length_cons]
      omega
theorem run_disk (xs : List ActV) : ∀ fs : List FileV, DiskR fs → DiskR (runActs fs xs).1 := by
  induction xs with
  | nil => intro fs h; exact h
  | cons x xs ih =>
    intro fs h
    simp only [runActs]
    split
    · exact h
    · rename_i gs hg
      exact ih gs (doAct_disk hg)
end Go.Proofs.Ythffflpclmpamaa
namespace Go.Proofs.Ythffflpclmpamaa
open Go.RowKit

theorem sm_letters {fs : List FileV} (h : SmF fs) : letters fs ≤ fs.length * 30100 := by
  induction fs with
  | nil => simp [letters]
  | cons d fs ih =>
    have h1 := ih (fun f hf => h f (List.mem_cons_of_mem _ hf))
    have h2 := h d (List.mem_cons_self ..)
    simp only [letters, List.map_cons, List.sum_cons, List.length_cons] at h1 ⊢
    omega
theorem sm_fits {fs : List FileV} (h : SmF fs) (hl : fs.length ≤ 32) : fs.length + letters fs ≤ 1048576 := by
  have := sm_letters h
  omega
theorem low_up {a : Option Addr} {len B B2 : Nat} (h : Low a len B) (hb : B ≤ B2) : Low a len B2 := by
  rcases h with h | h
  · exact .inl h
  · exact .inr fun b off e => Nat.lt_of_lt_of_le (h b off e) hb
theorem disk_lettersX {gs : List FileV} (h : DiskR gs) : gs.length + letters gs ≤ 1048576 := by
  have h1 := ((disk_iff gs).1 h).2.1
  have h30 := h.1
  have : ∀ l : List FileV, (∀ f ∈ l, FileOk f) → letters l ≤ l.length * 20008 := by
    intro l
    induction l with
    | nil => intro _; simp [letters]
    | cons f fs ih =>
      intro hf
      have h2 := ih fun g hg => hf g (List.mem_cons_of_mem _ hg)
      obtain ⟨⟨_, h3⟩, h4, _⟩ := hf f (List.mem_cons_self ..)
      simp only [letters, List.map_cons, List.sum_cons, List.length_cons] at h2 ⊢
      omega
  have h2 := this gs h1
  have h3 : gs.length * 20008 ≤ 30 * 20008 := Nat.mul_le_mul_right _ h30
  omega

theorem tIA_ne : 37 ≠ 49 := by decide
theorem tIDA_ne : 26 ≠ 37 := by decide
theorem heap_up {u v : World} {b : Nat} {o : Obj} (h : u.heap[b]? = some o) (hb : Below u.heap.size u v) : v.heap[b]? = some o := by rw [hb.block b (Array.getElem?_eq_some_iff.1 h).1]; exact h
theorem heap_dr {u v : World} {b G : Nat} {o : Obj} {a : Option Addr} {len cap : Nat} (h : u.heap[b]? = some o) (d : Drawn u v G a len cap) (hb : b ≠ G) : v.heap[b]? = some o := by rw [d.grown.block b (Array.getElem?_eq_some_iff.1 h).1 (by simpa using hb)]; exact h
theorem own_heap {u : World} {lo g n cap e s : Nat} {xs : List Value} (h : u.ownsRow lo e s (.slice (some ⟨g, 0, none⟩) n cap) n xs) : ∃ cs, u.heap[g]? = some (.cells cs e (0, 0)) := by
  rcases h.2 with ⟨hv, _⟩ | ⟨g', cap', cur, hv, _, hc, _⟩
  · simp at hv
  · simp at hv
    obtain ⟨rfl, _⟩ := hv
    exact ⟨cur, hc⟩
/-- where the drawing of acts stands: the disk's box and its files, the acts' row -/
structure ACS (w : World) (G : Nat) (a : Option Addr) (len cap : Nat) (fs : List FileV) (a1 : Option Addr) (m c1 : Nat) (xs : List ActV) (ga na ca : Nat) (u : World) : Prop where
  d : Drawn w u G a len cap
  b : Box u w.heap.size 26 (.slice a1 m c1)
  own : u.ownsRow (G + 1) 49 3 (.slice a1 m c1) m (fcells fs)
  row : u.ownsRow (w.heap.size + 1) 37 4 (.slice (some ⟨ga, 0, none⟩) na ca) na (acells xs)
  hG : G < w.heap.size
  low : Low a len w.heap.size
section
variable {w u v : World} {G : Nat} {a : Option Addr} {len cap : Nat} {fs : List FileV} {a1 : Option Addr} {m c1 : Nat} {xs : List ActV} {ga na ca : Nat}
theorem ACS.drawn (h : ACS w G a len cap fs a1 m c1 xs ga na ca u) (d : Drawn u v G a len cap) : ACS w G a len cap fs a1 m c1 xs ga na ca v :=
  ⟨h.d.trans d, d.box h.b (by have := h.hG; omega), d.row h.own (by omega), d.row h.row (by have := h.hG; omega), h.hG, h.low⟩
theorem ACS.up (h : ACS w G a len cap fs a1 m c1 xs ga na ca u) (hb : Below u.heap.size u v) : ACS w G a len cap fs a1 m c1 xs ga na ca v :=
  ⟨h.d.app h.low h.hG (row := none) ⟨hb.os, hb.tape, hb.output, hb.size, fun k hk _ => hb.block k hk⟩ (fun k hk => by cases hk), h.b.below hb h.b.lt,
    World.ownsRow.kept h.own (row := none) ⟨hb.os, hb.tape, hb.output, hb.size, fun k hk _ => hb.block k hk⟩ (by cases hv : (Value.slice a1 m c1).ownBlock <;> simp),
    World.ownsRow.kept h.row (row := none) ⟨hb.os, hb.tape, hb.output, hb.size, fun k hk _ => hb.block k hk⟩ (by simp [Value.ownBlock]), h.hG, h.low⟩
theorem ACS.alloc (h : ACS w G a len cap fs a1 m c1 xs ga na ca u) (o : Obj) : ACS w G a len cap fs a1 m c1 xs ga na ca (u.alloc o) := h.up ((Below.refl _ _).alloc (Nat.le_refl _) o)
/-- an act comes behind -/
theorem ACS.app {ys : List ActV} {g2 n2 c2 : Nat} (h : ACS w G a len cap fs a1 m c1 xs ga na ca u) (hg : u.grownBy v (Value.slice (some ⟨ga, 0, none⟩) na ca).ownBlock) (ho : v.ownsRow (w.heap.size + 1) 37 4 (.slice (some ⟨g2, 0, none⟩) n2 c2) n2 (acells ys)) : ACS w G a len cap fs a1 m c1 ys g2 n2 c2 v := by
  obtain ⟨cs, hc⟩ := own_heap h.row
  exact ⟨h.d.app h.low h.hG hg (fun k hk => by have := (h.row.lt k hk).1; omega), h.b.grown hg (own_blkF h.row h.b tIDA_ne), World.ownsRow.kept h.own hg (.inr (fun e => own_blkF h.own hc tIA_ne (by rw [e]; rfl))), ho, h.hG, h.low⟩
theorem ACS.keepF {B n2 : Nat} {v2 : Value} {ys2 : List Value} (h : ACS w G a len cap fs a1 m c1 xs ga na ca u) (hg : u.grownBy v (Value.slice (some ⟨ga, 0, none⟩) na ca).ownBlock) (o2 : u.ownsRow B 49 3 v2 n2 ys2) : v.ownsRow B 49 3 v2 n2 ys2 := by
  obtain ⟨cs, hc⟩ := own_heap h.row
  exact World.ownsRow.kept o2 hg (.inr (fun e => own_blkF o2 hc tIA_ne (by rw [e]; rfl)))
theorem ACS.keepB {Z : Nat} {x : Value} (h : ACS w G a len cap fs a1 m c1 xs ga na ca u) (hg : u.grownBy v (Value.slice (some ⟨ga, 0, none⟩) na ca).ownBlock) (hz : Box u Z 26 x) : Box v Z 26 x := hz.grown hg (own_blkF h.row hz tIDA_ne)
/-- another disk comes into the box -/
theorem ACS.turn {hs : List FileV} {a2 : Option Addr} {m2 c2 : Nat} (h : ACS w G a len cap fs a1 m c1 xs ga na ca u) (ho : u.ownsRow (G + 1) 49 3 (.slice a2 m2 c2) m2 (fcells hs)) : ACS w G a len cap hs a2 m2 c2 xs ga na ca (u.setCell ⟨w.heap.size, 0, none⟩ (.slice a2 m2 c2)) :=
  ⟨h.d.app h.low h.hG (grown_set u w.heap.size 0 _) (fun k hk => by simp at hk; omega), h.b.set _, own_kindF ho h.b tID_ne, own_kindF h.row h.b tIDA_ne, h.hG, h.low⟩
end


set_option maxRecDepth 100000 in
set_option maxHeartbeats 8000000 in
theorem l03Acts_any (fs0 : List FileV) (a0 : Option Addr) (m0 c0 : Nat) (hlet : fs0.length + letters fs0 ≤ 1048576) (w : World) (G : Nat) (a : Option Addr) (len cap : Nat) (hl : len ≤ 1048576) (hlow : Low a len w.heap.size) (hcur : Cur w G a len cap) (hcode : Code w G a len) (ho : w.ownsRow (G + 1) 49 3 (.slice a0 m0 c0) m0 (fcells fs0)) :
    Calls Try.prog 15 #[.pointer (some ⟨G, 0, none⟩), .agg #[.slice a0 m0 c0]] w fun e w' => ∃ (xs : List ActV) (g n c : Nat), (n ≤ 9 ∧ ∀ x ∈ xs, FitB x) ∧ e = .returned (.slice (some ⟨g, 0, none⟩) n c) ∧ w'.ownsRow w.heap.size 37 4 (.slice (some ⟨g, 0, none⟩) n c) n (acells xs) ∧ Drawn w w' G a len cap := by
  obtain ⟨i0, hi, hz0, hz1, hz2⟩ := info_parts infoIA
  have hGl := hcur.lt
  have HB := hideIt (fun (n : Int) (h0 : 0 < n) (h1 : n ≤ 4294967296) (W : World) (d : Drawn w W G a len cap) => l01Below_any n h0 h1 W G a len cap hl d.cur d.code)
  have HO := hideIt (fun (W : World) (d : Drawn w W G a len cap) => l01Once_any 20 (by omega) (by omega) W G a len cap hl d.cur d.code)
  have HA := hideIt (fun (W : World) (d : Drawn w W G a len cap) => l03Act_any W G a len cap hl (low_up hlow d.grown.size) d.cur d.code)
  have S0 : ACS w G a len cap fs0 a0 m0 c0 [] (w.heap.size + 1) 0 0 ((w.alloc (.cells #[.slice a0 m0 c0] 26)).alloc (.cells #[] 37)) := by
    have hr := World.ownsRow_lit (base := w.heap.size + 1) (e := 37) (size := 4) (w.alloc (.cells #[.slice a0 m0 c0] 26)) #[] 0 (by simp) (by unfold maxLen; omega) (by simp)
    rw [show (w.alloc (.cells #[.slice a0 m0 c0] 26)).heap.size = w.heap.size + 1 by simp] at hr
    exact ⟨(Drawn.refl hcur hcode).app hlow hGl (row := none) ⟨rfl, rfl, rfl, by simp; omega, fun k hk _ => by rw [Below.heap_alloc _ _ k (by simp; omega), Below.heap_alloc _ _ k hk]⟩ (fun k hk => by cases hk), (Box.new w _ _ _ rfl).alloc _, (ho.alloc _).alloc _, hr, hGl, hlow⟩
  have HS0 := hideIt S0
  have HL0 := hideIt hlet
  clear hcur hcode S0 ho hlet
  go_enter Try.func15, Try.ntmps15
  go_wp2
  go_loopw [5, 6] (fun v i wr => ∃ (k : Nat) (fs : List FileV) (a1 : Option Addr) (m c1 : Nat) (xs : List ActV) (ga na ca : Nat), k ≤ 9 ∧ i = .int .i64 (k : Int) ∧ v = .slice (some ⟨ga, 0, none⟩) na ca ∧ na ≤ k ∧ Hid ((∀ x ∈ xs, FitB x) ∧ fs.length + letters fs ≤ 1048576) ∧ Hid (ACS w G a len cap fs a1 m c1 xs ga na ca wr)) (fun _ i _ => 10 - (intOf i).toNat)
  case atStart => exact ⟨0, fs0, a0, m0, c0, [], _, 0, 0, by omega, rfl, rfl, by omega, ⟨by simp, HL0.out⟩, HS0⟩
  case round =>
    obtain ⟨k, fs, a1, m, c1, xs, ga, na, ca, hk, rfl, rfl, hna, hR, hD⟩ := hrel
    clear HS0
    have HX := hideIt (HB.out 9 (by omega) (by omega) wr hD.out.d)
    go_wp2_with (go_at_call 29; refine HX.out.mono ?_; rintro e w2 ⟨y, hy, rfl, dr2⟩; refine Hid.out ?_)
    refine (show ∀ {p : Prop}, p → Hid p from fun h => h) ?_
    have D2 := hideIt (hD.out.drawn dr2)
    clear HX dr2 hD
    by_cases hky : k < y
    · have d1 : decide ((k : Int) < (y : Int)) = true := by simp; omega
      have HX := hideIt (HA.out w2 D2.out.d)
      go_wp2_with (go_at_call 37; refine HX.out.mono ?_; rintro e w3 ⟨x, hx, rfl, dr3⟩; refine Hid.out ?_)
      refine (show ∀ {p : Prop}, p → Hid p from fun h => h) ?_
      have D3 := hideIt ((D2.out.drawn dr3).alloc (.cells #[.int .i64 x.kind, .string x.name, .string x.text, .string x.to] 37))
      have y0 : (w3.alloc (.cells #[.int .i64 x.kind, .string x.name, .string x.text, .string x.to] 37)).heap[w3.heap.size]? = some (.cells #[.int .i64 x.kind, .string x.name, .string x.text, .string x.to] 37 (0, 0)) := heap_alloc_new w3 _
      have D2b := hideIt (D2.out.drawn dr3)
      clear HX dr3 D2
      unfold actV
      obtain ⟨W3, hW3⟩ : ∃ W3, W3 = w3.alloc (.cells #[.int .i64 x.kind, .string x.name, .string x.text, .string x.to] 37) := ⟨_, rfl⟩
      rw [← hW3] at D3 y0
      go_upto_region 6 with fail
      rw [← hW3]
      clear hW3
      have hYw : w.heap.size < w3.heap.size := by have := (D2b.out).b.lt; exact this
      generalize w3.heap.size = Y at *
      have bl := D3.out.b.lt
      have b0 := D3.out.b.cell
      have t0 : W3.cell? ⟨Y, 0, none⟩ = some (.int .i64 x.kind) := by rw [cell_of_row W3 Y 0 _ _ _ y0]; rfl
      have t1 : W3.cell? ⟨Y, 1, none⟩ = some (.string x.name) := by rw [cell_of_row W3 Y 1 _ _ _ y0]; rfl
      have t2 : W3.cell? ⟨Y, 2, none⟩ = some (.string x.text) := by rw [cell_of_row W3 Y 2 _ _ _ y0]; rfl
      have t3 : W3.cell? ⟨Y, 3, none⟩ = some (.string x.to) := by rw [cell_of_row W3 Y 3 _ _ _ y0]; rfl
      have HDo := hideIt (sDoAct_any fs hR.out.2 m a1 c1 x hx.fit W3 (Fs_of_ownv D3.out.own))
      cases hdo : doAct fs x with
      | none =>
        rw [hdo] at HDo
        clear hdo
        go_wp2_with (go_at_call 23; refine HDo.out.mono ?_; rintro e w4 ⟨rfl, hb4⟩; refine Hid.out ?_)
        refine (show ∀ {p : Prop}, p → Hid p from fun h => h) ?_
        have D5 := hideIt ((D3.out.up hb4).alloc (.cells #[.slice none 0 0] 26))
        have y5 : (w4.alloc (.cells #[.slice none 0 0] 26)).heap[Y]? = some (.cells #[.int .i64 x.kind, .string x.name, .string x.text, .string x.to] 37 (0, 0)) := heap_up (heap_up y0 hb4) ((Below.refl _ _).alloc (Nat.le_refl _) _)
        have z5 : Box (w4.alloc (.cells #[.slice none 0 0] 26)) w4.heap.size 26 (.slice none 0 0) := Box.new _ _ _ _ rfl
        obtain ⟨U5, hU5⟩ : ∃ U5, U5 = w4.alloc (.cells #[.slice none 0 0] 26) := ⟨_, rfl⟩
        have hYw : w.heap.size < Y := hYw
        have hZw : w.heap.size < w4.heap.size := by have := (D3.out.up hb4).b.lt; exact this
        rw [← hU5] at D5 y5 z5
        go_upto_region 7 with fail
        rw [← hU5]
        clear hU5 hb4 HDo D3 y0 t0 t1 t2 t3 b0 bl
        generalize w4.heap.size = Z at *
        have HO5 := hideIt (HO.out U5 D5.out.d)
        go_wp2_with (go_at_call 38; refine HO5.out.mono ?_; rintro e w6 ⟨b, rfl, dr6⟩; refine Hid.out ?_)
        refine (show ∀ {p : Prop}, p → Hid p from fun h => h) ?_
        have D6 := hideIt (D5.out.drawn dr6)
        have y6 := heap_dr y5 dr6 (show Y ≠ G by omega)
        have z6 : Box w6 Z 26 (.slice none 0 0) := heap_dr z5 dr6 (show Z ≠ G by omega)
        clear HO5 dr6 D5 y5 z5
        cases b with
        | false =>
          go_wp2
          exact ⟨⟨k + 1, fs, a1, m, c1, xs, ga, na, ca, by omega, by go_num, rfl, by omega, hR, D6⟩, by simp [intOf]; omega⟩
        | true =>
          obtain ⟨t0, t1, t2, t3⟩ : w6.cell? ⟨Y, 0, none⟩ = some (.int .i64 x.kind) ∧ w6.cell? ⟨Y, 1, none⟩ = some (.string x.name) ∧ w6.cell? ⟨Y, 2, none⟩ = some (.string x.text) ∧ w6.cell? ⟨Y, 3, none⟩ = some (.string x.to) := by refine ⟨?_, ?_, ?_, ?_⟩ <;> (rw [cell_of_row w6 Y _ _ _ _ y6]; rfl)
          have S7 := hideIt (D6.out.alloc (.cells #[.int .i64 x.kind, .string x.name, .string x.text, .string x.to] 37))
          have kl := D6.out.b.lt
          have O7 := hideIt (World.ownsRow.alloc (World.ownsRow_nil w6 (w.heap.size + 1) 49 3) (.cells #[.int .i64 x.kind, .string x.name, .string x.text, .string x.to] 37))
          have B7 := hideIt (Box.alloc (z6) (.cells #[.int .i64 x.kind, .string x.name, .string x.text, .string x.to] 37))
          go_wp2_with (at_builtin; refine wpList_append_lies _ rfl _ _ 27 rfl (w.heap.size + 1) 37 i0 _ 4 56 Try.underlying27 hi hz0 hz1 hz2 rfl (by decide) _ na _ rfl S7.out.row ⟨w6.heap.size, 0, none⟩ 1 1 [.int .i64 x.kind, .string x.name, .string x.text, .string x.to] rfl rfl (World.news_of_block (cs := #[.int .i64 x.kind, .string x.name, .string x.text, .string x.to]) (t := 37) (fr := (0, 0)) (heap_alloc_new w6 _)) (by intro u hu; simp at hu; rcases hu with rfl | rfl | rfl | rfl <;> rfl) (by omega) (by unfold maxLen; omega) (by omega) (by simp; omega) (w6.heap.size + 1) (by simp) ?_; intro g8 c8 w8 ho8 hg8 _ _; refine Hid.out ?_)
          refine (show ∀ {p : Prop}, p → Hid p from fun h => h) ?_
          have S8 := S7.out.app (ys := xs ++ [x]) hg8 (by rw [acells_snoc]; exact ho8)
          have O8 := S7.out.keepF hg8 O7.out
          have B8 := S7.out.keepB hg8 B7.out
          have S9 := hideIt (S8.turn (hs := ([] : List FileV)) (own_mono O8 (by omega)))
          have z0 := B8.cell
          have b0 := S8.b.cell
          have bf := S8.b.frozen
          have bl := S8.b.lt
          have HR9 : Hid ((∀ z ∈ xs ++ [x], FitB z) ∧ (([] : List FileV)).length + letters (([] : List FileV)) ≤ 1048576) := ⟨fun z hz => by
            rcases List.mem_append.1 hz with hz | hz
            · exact hR.out.1 z hz
            · simp at hz; subst hz; exact hx, by simp [letters]⟩
          clear S8 O8 B8 ho8 hg8 S7 O7 B7 t0 t1 t2 t3 kl
          go_wp2
          exact ⟨⟨k + 1, _, _, _, _, _, g8, na + 1, c8, by omega, by go_num, rfl, by omega, HR9, S9⟩, by simp [intOf]; omega⟩
      | some gs =>
        rw [hdo] at HDo
        have hLg := hideIt (disk_lettersX (doAct_disk hdo))
        clear hdo
        go_wp2_with (go_at_call 23; refine HDo.out.mono ?_; rintro e w4 ⟨a4, m4, c4, rfl, ho4, hb4⟩; refine Hid.out ?_)
        refine (show ∀ {p : Prop}, p → Hid p from fun h => h) ?_
        have D5 := hideIt ((D3.out.up hb4).alloc (.cells #[.slice a4 m4 c4] 26))
        have y5 : (w4.alloc (.cells #[.slice a4 m4 c4] 26)).heap[Y]? = some (.cells #[.int .i64 x.kind, .string x.name, .string x.text, .string x.to] 37 (0, 0)) := heap_up (heap_up y0 hb4) ((Below.refl _ _).alloc (Nat.le_refl _) _)
        have z5 : Box (w4.alloc (.cells #[.slice a4 m4 c4] 26)) w4.heap.size 26 (.slice a4 m4 c4) := Box.new _ _ _ _ rfl
        have o5 : (w4.alloc (.cells #[.slice a4 m4 c4] 26)).ownsRow (w.heap.size + 1) 49 3 (.slice a4 m4 c4) m4 (fcells gs) := own_mono (ho4.alloc _) (by omega)
        obtain ⟨U5, hU5⟩ : ∃ U5, U5 = w4.alloc (.cells #[.slice a4 m4 c4] 26) := ⟨_, rfl⟩
        rw [← hU5] at D5 y5 z5 o5
        go_upto_region 8 with fail
        rw [← hU5]
        clear hU5 hb4 HDo D3 y0 t0 t1 t2 t3 b0 bl ho4
        generalize w4.heap.size = Z at *
        obtain ⟨t0, t1, t2, t3⟩ : U5.cell? ⟨Y, 0, none⟩ = some (.int .i64 x.kind) ∧ U5.cell? ⟨Y, 1, none⟩ = some (.string x.name) ∧ U5.cell? ⟨Y, 2, none⟩ = some (.string x.text) ∧ U5.cell? ⟨Y, 3, none⟩ = some (.string x.to) := by refine ⟨?_, ?_, ?_, ?_⟩ <;> (rw [cell_of_row U5 Y _ _ _ _ y5]; rfl)
        have S7 := hideIt (D5.out.alloc (.cells #[.int .i64 x.kind, .string x.name, .string x.text, .string x.to] 37))
        have kl := D5.out.b.lt
        have O7 := hideIt (World.ownsRow.alloc (o5) (.cells #[.int .i64 x.kind, .string x.name, .string x.text, .string x.to] 37))
        have B7 := hideIt (Box.alloc (z5) (.cells #[.int .i64 x.kind, .string x.name, .string x.text, .string x.to] 37))
        go_wp2_with (at_builtin; refine wpList_append_lies _ rfl _ _ 27 rfl (w.heap.size + 1) 37 i0 _ 4 56 Try.underlying27 hi hz0 hz1 hz2 rfl (by decide) _ na _ rfl S7.out.row ⟨U5.heap.size, 0, none⟩ 1 1 [.int .i64 x.kind, .string x.name, .string x.text, .string x.to] rfl rfl (World.news_of_block (cs := #[.int .i64 x.kind, .string x.name, .string x.text, .string x.to]) (t := 37) (fr := (0, 0)) (heap_alloc_new U5 _)) (by intro u hu; simp at hu; rcases hu with rfl | rfl | rfl | rfl <;> rfl) (by omega) (by unfold maxLen; omega) (by omega) (by simp; omega) (U5.heap.size + 1) (by simp) ?_; intro g8 c8 w8 ho8 hg8 _ _; refine Hid.out ?_)
        refine (show ∀ {p : Prop}, p → Hid p from fun h => h) ?_
        have S8 := S7.out.app (ys := xs ++ [x]) hg8 (by rw [acells_snoc]; exact ho8)
        have O8 := S7.out.keepF hg8 O7.out
        have B8 := S7.out.keepB hg8 B7.out
        have S9 := hideIt (S8.turn (hs := gs) (own_mono O8 (by omega)))
        have z0 := B8.cell
        have b0 := S8.b.cell
        have bf := S8.b.frozen
        have bl := S8.b.lt
        have HR9 : Hid ((∀ z ∈ xs ++ [x], FitB z) ∧ (gs).length + letters (gs) ≤ 1048576) := ⟨fun z hz => by
          rcases List.mem_append.1 hz with hz | hz
          · exact hR.out.1 z hz
          · simp at hz; subst hz; exact hx, hLg.out⟩
        clear S8 O8 B8 ho8 hg8 S7 O7 B7 t0 t1 t2 t3 kl
        go_wp2
        exact ⟨⟨k + 1, _, _, _, _, _, g8, na + 1, c8, by omega, by go_num, rfl, by omega, HR9, S9⟩, by simp [intOf]; omega⟩
    · have d1 : decide ((k : Int) < (y : Int)) = false := by simp; omega
      have HF := hideIt D2.out
      clear D2
      go_wp2
      go_ret
      exact ⟨xs, ga, na, ca, ⟨by omega, hR.out.1⟩, rfl, own_mono HF.out.row (by omega), HF.out.d⟩
end Go.Proofs.Ythffflpclmpamaa
namespace Go.Proofs.Ythffflpclmpamaa
open Go.RowKit

theorem code_upH {w w' : World} {a : Option Addr} {len : Nat} (h : Code w w.heap.size a len) (hb : Below w.heap.size w w') : Code w' w'.heap.size a len := by
  rcases h with h | ⟨b, off, ha, hbl, hn, hc⟩
  · exact .inl h
  · have := hb.size
    refine .inr ⟨b, off, ha, by omega, by omega, fun j hj => ?_⟩
    obtain ⟨z, hz, hz2⟩ := hc j hj
    exact ⟨z, hz, by rw [hb.cell hbl]; exact hz2⟩
/-- what DrawCutActs answers -/
structure DCA (w : World) (fs : List FileV) (a1 : Option Addr) (m c1 : Nat) (xs : List ActV) (ga na ca : Nat) (ls : List Int) (gl nl cl : Nat) (u : World) : Prop where
  f : u.ownsRow w.heap.size 49 3 (.slice a1 m c1) m (fcells fs)
  x : u.ownsRow w.heap.size 37 4 (.slice (some ⟨ga, 0, none⟩) na ca) na (acells xs)
  l : u.ownsRow w.heap.size 3 1 (.slice (some ⟨gl, 0, none⟩) nl cl) nl (ic ls)
  b : Below w.heap.size w u
set_option maxRecDepth 100000 in
set_option maxHeartbeats 8000000 in
theorem drawCutActs_any (w : World) (a : Option Addr) (len cap : Nat) (hl : len ≤ 1048576) (hcode : Code w w.heap.size a len) :
    Calls Try.prog 5 #[.slice a len cap] w fun e w' => ∃ (fs : List FileV) (a1 : Option Addr) (m c1 : Nat) (xs : List ActV) (ga na ca : Nat) (z : Int) (ls : List Int) (gl nl cl : Nat), ((m ≤ 32 ∧ SmF fs) ∧ (na ≤ 9 ∧ ∀ x ∈ xs, FitB x) ∧ nl ≤ 6) ∧ e = .returned (.tuple #[.agg #[.slice a1 m c1], .slice (some ⟨ga, 0, none⟩) na ca, .int .i64 z, .slice (some ⟨gl, 0, none⟩) nl cl]) ∧ DCA w fs a1 m c1 xs ga na ca ls gl nl cl w' := by
  have HLow := hideIt (code_low (B := w.heap.size) hcode (Nat.le_refl _))
  have hb0 : Below w.heap.size w (w.alloc (.cells #[.slice none 0 0] 26)) := (Below.refl _ _).alloc (Nat.le_refl _) _
  have HN := hideIt (l01New_any (w.alloc (.cells #[.slice none 0 0] 26)) a len cap hl (code_upH hcode hb0))
  rw [show (w.alloc (.cells #[.slice none 0 0] 26)).heap.size = w.heap.size + 1 by simp] at HN
  have R0 : Box (w.alloc (.cells #[.slice none 0 0] 26)) w.heap.size 26 (.slice none 0 0) := Box.new w _ _ _ rfl
  have hs0 : (w.alloc (.cells #[.slice none 0 0] 26)).heap.size = w.heap.size + 1 := by simp
  clear hcode
  go_enter Try.func5, Try.ntmps5
  go_wp2_with (go_at_call 13; refine HN.out.mono ?_; rintro x w1 ⟨rfl, hc, hd, hb, hsz⟩; refine Hid.out ?_)
  refine (show ∀ {p : Prop}, p → Hid p from fun h => h) ?_
  have B1 : Below w.heap.size w w1 := hb0.trans (hb.mono (by omega))
  have r1 : Box w1 w.heap.size 26 (.slice none 0 0) := R0.below hb (by omega)
  have HD1 := hideIt (l03Disk_any w1 (w.heap.size + 1) a len cap hl (low_up HLow.out (by omega)) hc hd)
  clear HN hb hb0 R0 hs0 hc hd
  go_wp2_with (go_at_call 14; refine HD1.out.mono ?_; rintro x w2 ⟨fs, a1, m, c1, hm, rfl, ho2, d2⟩; refine Hid.out ?_)
  refine (show ∀ {p : Prop}, p → Hid p from fun h => h) ?_
  have hz2 := d2.grown.size
  have B3 : Below w.heap.size w (w2.alloc (.cells #[.slice a1 m c1] 26)) := (B1.grown d2.grown B1.size (fun j hj => by simp at hj; omega)).alloc (by omega) _
  have r3 : Box (w2.alloc (.cells #[.slice a1 m c1] 26)) w.heap.size 26 (.slice none 0 0) := (d2.box r1 (by omega)).alloc _
  have g3 : Box (w2.alloc (.cells #[.slice a1 m c1] 26)) w2.heap.size 26 (.slice a1 m c1) := Box.new _ _ _ _ rfl
  have o3 : (w2.alloc (.cells #[.slice a1 m c1] 26)).ownsRow (w.heap.size + 1 + 1) 49 3 (.slice a1 m c1) m (fcells fs) := own_mono (ho2.alloc _) (by omega)
  have c3 : Cur (w2.alloc (.cells #[.slice a1 m c1] 26)) (w.heap.size + 1) a len cap := d2.cur.alloc _
  have k3 : Code (w2.alloc (.cells #[.slice a1 m c1] 26)) (w.heap.size + 1) a len := d2.code.alloc _
  have zX : w.heap.size + 1 < w2.heap.size := by omega
  obtain ⟨W3, hW3⟩ : ∃ W3, W3 = w2.alloc (.cells #[.slice a1 m c1] 26) := ⟨_, rfl⟩
  have zW : w2.heap.size < W3.heap.size := by rw [hW3]; simp
  rw [← hW3] at B3 r3 g3 o3 c3 k3
  go_upto_region 3 with fail
  rw [← hW3]
  clear hW3 HD1 ho2 d2 B1 r1
  generalize w2.heap.size = X at *
  have x0 := g3.cell
  have HA3 := hideIt (l03Acts_any fs a1 m c1 (sm_fits hm.2 (by have := o3.1; rw [fcells_length] at this; omega)) W3 (w.heap.size + 1) a len cap hl (low_up HLow.out (by omega)) c3 k3 o3)
  go_wp2_with (go_at_call 15; refine HA3.out.mono ?_; rintro x w4 ⟨xs, ga, na, ca, hx, rfl, ho4, d4⟩; refine Hid.out ?_)
  refine (show ∀ {p : Prop}, p → Hid p from fun h => h) ?_
  have z4 := d4.grown.size
  have B4 := B3.grown d4.grown B3.size (fun j hj => by simp at hj; omega)
  have r4 := d4.box r3 (by omega)
  have g4 := d4.box g3 (by omega)
  have o4 := d4.row o3 (by omega)
  have x4 := own_mono ho4 (show w.heap.size + 1 + 1 ≤ W3.heap.size by omega)
  have c4 := d4.cur
  have k4 := d4.code
  clear HA3 ho4 d4 B3 r3 g3 o3 c3 k3 x0
  have hS4 : w4.drew.cell? ⟨X, 0, none⟩ = some (.slice a1 m c1) := g4.cell
  have HP4 := hideIt (l01Place_any ((na : Int) + 1) (by omega) (by omega) w4.drew (w.heap.size + 1) a len cap hl c4 k4)
  have hwr : IntKind.i64.wrap ((na : Int) + 1) = (na : Int) + 1 := by rw [IntKind.wrap_i64]; omega
  go_upto_region 4 with fail
  go_region_held3 (fun u => u.cell? ⟨X, 0, none⟩ = some (.slice a1 m c1))
    (first | exact hS4 | exact hS5 | exact hS6 | exact hS7)
    (first
    | (go_at_call 16; refine HP4.out.mono ?_; rintro x w5 ⟨z, rfl, d5⟩; have g5 := d5.box (show Box w4.drew X 26 (.slice a1 m c1) from g4) (by omega); have hS5 := g5.cell)
    | (go_at_call 17; refine (l03Left_any w5 (w.heap.size + 1) a len cap hl (low_up HLow.out (by have := d5.grown.size; have e : w4.drew.heap.size = w4.heap.size := rfl; omega)) d5.cur d5.code).mono ?_; rintro x w6 ⟨gl, nl, cl, ls, hnl, rfl, ho6, d6⟩; have g6 := d6.box g5 (by omega); have hS6 := g6.cell; have r6 := d6.box (d5.box (show Box w4.drew w.heap.size 26 (.slice none 0 0) from r4) (by omega)) (by omega); have q0 := r6.cell; have qf := r6.frozen; have hS7 := (g6.setOther (b' := w.heap.size) (j := 0) (.slice a1 m c1) (by omega)).cell))
  all_goals
    have e4 : w4.drew.heap.size = w4.heap.size := rfl
    have z5 := d5.grown.size
    have z6 := d6.grown.size
    have o6 := d6.row (d5.row o4.drew (by omega)) (by omega)
    have x6 := d6.row (d5.row x4.drew (by omega)) (by omega)
    have B6 := (B4.drew.grown d5.grown (by omega) (fun j hj => by simp at hj; omega)).grown d6.grown (by omega) (fun j hj => by simp at hj; omega)
    have s1 := (r6.set (.slice a1 m c1)).cell
    have HF : Hid (DCA w fs a1 m c1 xs ga na ca ls gl nl cl (w6.setCell ⟨w.heap.size, 0, none⟩ (.slice a1 m c1))) := ⟨own_mono (own_setLow o6 w.heap.size 0 _ (by omega)) (by omega), own_mono (own_setLow x6 w.heap.size 0 _ (by omega)) (by omega), own_mono (own_setLow ho6 w.heap.size 0 _ (by omega)) (by omega), B6.setCell (p := ⟨w.heap.size, 0, none⟩) (Nat.le_refl _) _⟩
    clear o6 x6 B6 ho6 d5 d6 g5 g6 r6 hS4 hS5 hS6 hS7 r4 g4 o4 x4 c4 k4 B4
    go_wp2
    exact bodyPost_ret (v := .tuple #[.agg #[.slice a1 m c1], .slice (some ⟨ga, 0, none⟩) na ca, .int .i64 z, .slice (some ⟨gl, 0, none⟩) nl cl]) (by simp [results, Try.results5, go_sem, s1]) rfl ⟨fs, a1, m, c1, xs, ga, na, ca, z, ls, gl, nl, cl, ⟨hm, hx, hnl⟩, rfl, HF.out⟩
end Go.Proofs.Ythffflpclmpamaa
namespace Go.Proofs.Ythffflpclmpamaa
open Go.RowKit

theorem fileOf_put (fs : List FileV) (f : FileV) : fileOf (put fs f) f.name = some f := by
  cases h : fileOf (put fs f) f.name with
  | none => exact absurd rfl (fileOf_not h f (mem_put.2 (.inl rfl)))
  | some g =>
    obtain ⟨h1, h2⟩ := fileOf_is h
    rcases mem_put.1 h1 with rfl | h3
    · rfl
    · exact absurd h2 h3.2
theorem fileOf_without (fs : List FileV) (nm : ByteArray) : fileOf (without fs nm) nm = none := by
  cases h : fileOf (without fs nm) nm with
  | none => rfl
  | some g =>
    obtain ⟨h1, h2⟩ := fileOf_is h
    exact absurd h2 (mem_without.1 h1).2
/-- the text of a file that may be none -/
def txO : Option FileV → ByteArray
  | none => ⟨#[]⟩
  | some f => f.text
theorem doAct_outQ {fs gs : List FileV} {x : ActV} (h : doAct fs x = some gs) : actOut fs x = some gs := by
  unfold doAct at h
  split at h
  · cases ha : actOut fs x with
    | none => rw [ha] at h; simp at h
    | some hs =>
      rw [ha] at h
      simp only [Option.bind_some] at h
      split at h
      · exact h
      · simp at h
  · simp at h
/-- behind an add the file's text is the old one with the act's behind it -/
theorem act_addQ {fs gs : List FileV} {x : ActV} (h : doAct fs x = some gs) (hk : x.kind = 1) : ∃ f, fileOf gs x.name = some f ∧ f.text = txO (fileOf fs x.name) ++ x.text := by
  have h1 := doAct_outQ h
  unfold actOut at h1
  rw [if_pos hk] at h1
  cases hf : fileOf fs x.name with
  | none =>
    rw [hf] at h1
    simp only [Option.some.injEq] at h1
    subst h1
    exact ⟨_, fileOf_put fs ⟨x.name, ⟨#[]⟩ ++ x.text, 0⟩, rfl⟩
  | some f =>
    rw [hf] at h1
    simp only [Option.some.injEq] at h1
    subst h1
    have hn := (fileOf_is hf).2
    have := fileOf_put fs ⟨f.name, f.text ++ x.text, f.kept⟩
    rw [← hn]
    exact ⟨_, this, rfl⟩
/-- behind a drop it is not there -/
theorem act_dropQ {fs gs : List FileV} {x : ActV} (h : doAct fs x = some gs) (hk : x.kind = 4) : fileOf gs x.name = none := by
  have h1 := doAct_outQ h
  unfold actOut at h1
  rw [if_neg (by omega)] at h1
  cases hf : fileOf fs x.name with
  | none => rw [hf] at h1; simp at h1
  | some f =>
    rw [hf] at h1
    dsimp only at h1
    rw [if_neg (by omega), if_neg (by omega), if_pos hk] at h1
    simp only [Option.some.injEq] at h1
    subst h1
    exact fileOf_without fs x.name
theorem ran_at {fs gs : List FileV} {xs : List ActV} {k : Nat} {x : ActV} (h : Ran fs xs k gs) (hk : k < (runActs fs xs).2) (hx : xs[k]? = some x) : ∃ hs, doAct gs x = some hs := by
  cases hd : doAct gs x with
  | none =>
    have := h.stop hx hd
    rw [this] at hk
    exact absurd hk (Nat.lt_irrefl _)
  | some hs => exact ⟨hs, rfl⟩
theorem run_zero {gs : List FileV} {xs : List ActV} (h : (runActs gs xs).2 = 0) : (runActs gs xs).1 = gs := by
  cases xs with
  | nil => rfl
  | cons x xs =>
    unfold runActs at h ⊢
    split at h
    · simp
    · simp at h
theorem ran_end {fs gs : List FileV} {xs : List ActV} (h : Ran fs xs (runActs fs xs).2 gs) : (runActs fs xs).1 = gs := by
  unfold Ran at h
  have h2 := congrArg Prod.snd h
  have h1 := congrArg Prod.fst h
  dsimp only at h1 h2
  rw [h1]
  exact run_zero (by omega)
end Go.Proofs.Ythffflpclmpamaa
