/- The program's table of files: a map from names to files that lie in blocks of their own. -/
import Derived.Test.YtibcdpnodikpiaiActIs
import Derived.Maps.OwnSet
import Derived.Maps.Ext
namespace Go.Proofs.Ytibcdpnodikpiai
open Go.RowKit Go.WideMaps Go.Maps

theorem keyLaw : Keyed Try.prog 9 := string_keyed Try.underlying9
theorem zeroPF (w : World) : (zeroValue 82).run Try.prog w = .ok (.pointer none) w := by kernel_rfl

/-- how a pointer reads -/
def ptrR : Value → Option (DataW Unit × List MemPlace)
  | .pointer (some ⟨b, 0, none⟩) => some (.lit (.int .i64 (b : Int)), [])
  | .pointer none => some (.lit (.bool false), [])
  | _ => none
theorem ptrR_at {v : Value} {b : Nat} {ps : List MemPlace} (h : ptrR v = some (.lit (.int .i64 (b : Int)), ps)) : v = .pointer (some ⟨b, 0, none⟩) := by
  unfold ptrR at h
  split at h
  · simp at h
    obtain ⟨h, _⟩ := h
    have : _ = b := Int.ofNat.inj h
    rw [this]
  · simp at h
  · cases h
theorem ptrR_nil {v : Value} {ps : List MemPlace} (h : ptrR v = some (.lit (.bool false), ps)) : v = .pointer none := by
  unfold ptrR at h
  split at h
  · simp at h
  · rfl
  · cases h

def keyL (s : ByteArray) : Lit := .string s.data.toList
theorem keyL_ne {s t : ByteArray} (h : s ≠ t) : keyL s ≠ keyL t := fun e => h (bytes_ext (by simpa [keyL] using e))
theorem keyL_is (s : ByteArray) : WideAt.IsKeyLit (keyL s) := trivial
theorem keyL_of {s : ByteArray} (h : s.size ≤ maxLen) : keyOf Try.prog 9 (.string s) = some (keyL s) := keyOf_string_mk Try.underlying9 h

/-- a file in a block of its own -/
def FBox (W : World) (b : Nat) (f : FileV) : Prop := W.heap[b]? = some (.cells #[.string f.name, .string f.text, .int .i64 f.kept] 63 (0, 0))
theorem FBox.lt {W : World} {b : Nat} {f : FileV} (h : FBox W b f) : b < W.heap.size := (Array.getElem?_eq_some_iff.1 h).1
theorem FBox.cells {W : World} {b : Nat} {f : FileV} (h : FBox W b f) : W.cell? ⟨b, 0, none⟩ = some (.string f.name) ∧ W.cell? ⟨b, 1, none⟩ = some (.string f.text) ∧ W.cell? ⟨b, 2, none⟩ = some (.int .i64 f.kept) :=
  ⟨by rw [cell_of_row W b 0 _ _ _ h]; rfl, by rw [cell_of_row W b 1 _ _ _ h]; rfl, by rw [cell_of_row W b 2 _ _ _ h]; rfl⟩
theorem FBox.frozen {W : World} {b : Nat} {f : FileV} (h : FBox W b f) (j : Nat) : W.frozen? ⟨b, j, none⟩ = false := frozen_of_row W b j _ _ h
theorem FBox.grown {w w' : World} {b : Nat} {f : FileV} {row : Option Nat} (h : FBox w b f) (hg : w.grownBy w' row) (hr : some b ≠ row) : FBox w' b f := by
  unfold FBox; rw [hg.block b h.lt hr]; exact h
theorem FBox.new (w : World) (f : FileV) : FBox (w.alloc (.cells #[.string f.name, .string f.text, .int .i64 f.kept] 63)) w.heap.size f := heap_alloc_new w _
theorem FBox.below {w w' : World} {b : Nat} {f : FileV} (h : FBox w b f) (hb : Below w.heap.size w w') : FBox w' b f := by
  unfold FBox; rw [hb.block b h.lt]; exact h
theorem FBox.text {w : World} {b : Nat} {f : FileV} (h : FBox w b f) (t : ByteArray) : FBox (w.setCell ⟨b, 1, none⟩ (.string t)) b ⟨f.name, t, f.kept⟩ := by
  unfold FBox; rw [heap_setCell_same w b 1 _ 63 _ h]; rfl
theorem FBox.name {w : World} {b : Nat} {f : FileV} (h : FBox w b f) (t : ByteArray) : FBox (w.setCell ⟨b, 0, none⟩ (.string t)) b ⟨t, f.text, f.kept⟩ := by
  unfold FBox; rw [heap_setCell_same w b 0 _ 63 _ h]; rfl
theorem FBox.kept {w : World} {b : Nat} {f : FileV} (h : FBox w b f) (t : Int) : FBox (w.setCell ⟨b, 2, none⟩ (.int .i64 t)) b ⟨f.name, f.text, t⟩ := by
  unfold FBox; rw [heap_setCell_same w b 2 _ 63 _ h]; rfl

theorem own_size {W : World} {M n : Nat} {D : DataW Unit} (h : W.ownsMap Try.prog 9 ptrR M n D) : W.ownsMap Try.prog 9 ptrR M (Maps.size D) D := by
  obtain ⟨es, clock, hb, F, hs, rfl⟩ := h
  refine ⟨es, clock, hb, F, ?_, rfl⟩
  rw [size_eq, length_read]
  exact Nat.le_refl _

/-- the table of the files fs, in block M; the file of a name lies in block 'loc' of it; all lie from B on -/
structure Tab (W : World) (B M : Nat) (loc : ByteArray → Nat) (fs : List FileV) (D : DataW Unit) : Prop where
  own : W.ownsMap Try.prog 9 ptrR M fs.length D
  size : Maps.size D = fs.length
  has : ∀ s : ByteArray, Maps.has D (keyL s) = isIn fs s
  elt : ∀ f ∈ fs, ∀ z, D.atKey (keyL f.name) z = .lit (.int .i64 (loc f.name : Int))
  box : ∀ f ∈ fs, FBox W (loc f.name) f
  apart : ∀ f ∈ fs, loc f.name ≠ M ∧ B ≤ loc f.name
  inj : ∀ f ∈ fs, ∀ g ∈ fs, loc f.name = loc g.name → f.name = g.name
  base : B ≤ M

theorem grownOf {w w' : World} (h : Below w.heap.size w w') (row : Option Nat) : w.grownBy w' row :=
  ⟨h.os, h.tape, h.output, h.size, fun k hk _ => h.block k hk⟩
theorem Tab.up {W W' : World} {B M : Nat} {loc : ByteArray → Nat} {fs : List FileV} {D : DataW Unit} (h : Tab W B M loc fs D) (hb : Below W.heap.size W W') : Tab W' B M loc fs D :=
  { h with own := h.own.kept (grownOf hb none) (by simp), box := fun f hf => (h.box f hf).below hb }
theorem Tab.alloc {W : World} {B M : Nat} {loc : ByteArray → Nat} {fs : List FileV} {D : DataW Unit} (h : Tab W B M loc fs D) (o : Obj) : Tab (W.alloc o) B M loc fs D :=
  h.up ((Below.refl _ _).alloc (Nat.le_refl _) _)
theorem Tab.congr {W : World} {B M : Nat} {loc : ByteArray → Nat} {fs gs : List FileV} {D : DataW Unit} (h : Tab W B M loc fs D) (hm : ∀ g, g ∈ gs ↔ g ∈ fs) (hl : gs.length = fs.length) : Tab W B M loc gs D where
  own := by rw [hl]; exact h.own
  size := by rw [hl]; exact h.size
  has := fun s => by
    rw [h.has]
    cases h1 : isIn gs s
    · refine isIn_no fun f hf e => ?_
      have := isIn_iff.2 ⟨f, (hm f).2 hf, e⟩
      rw [h1] at this
      cases this
    · obtain ⟨f, hf, e⟩ := isIn_iff.1 h1
      exact isIn_iff.2 ⟨f, (hm f).1 hf, e⟩
  elt := fun f hf => h.elt f ((hm f).1 hf)
  box := fun f hf => h.box f ((hm f).1 hf)
  apart := fun f hf => h.apart f ((hm f).1 hf)
  inj := fun f hf g hg => h.inj f ((hm f).1 hf) g ((hm g).1 hg)
  base := h.base

theorem Tab.made (w : World) (B : Nat) (loc : ByteArray → Nat) (hB : B ≤ w.heap.size) : Tab (w.alloc (.map #[] 0)) B w.heap.size loc [] (.map []) where
  own := World.ownsMap_made w _ _ _
  size := rfl
  has := fun s => rfl
  elt := fun f hf => by cases hf
  box := fun f hf => by cases hf
  apart := fun f hf => by cases hf
  inj := fun f hf => by cases hf
  base := hB

open Classical in
noncomputable def upd (loc : ByteArray → Nat) (nm : ByteArray) (b : Nat) : ByteArray → Nat := fun s => if s = nm then b else loc s
theorem upd_same (loc : ByteArray → Nat) (nm : ByteArray) (b : Nat) : upd loc nm b nm = b := by simp [upd]
theorem upd_other (loc : ByteArray → Nat) (nm : ByteArray) (b : Nat) {s : ByteArray} (h : s ≠ nm) : upd loc nm b s = loc s := by simp [upd, h]

/-- a file is put into the table -/
theorem Tab.put {W W' : World} {B M : Nat} {loc : ByteArray → Nat} {fs gs : List FileV} {D : DataW Unit} (h : Tab W B M loc fs D) {f : FileV} {b n : Nat} (hbox : FBox W b f) (hb1 : b ≠ M) (hb2 : B ≤ b)
    (hfree : ∀ g ∈ fs, g.name ≠ f.name → loc g.name ≠ b) (hown : W'.ownsMap Try.prog 9 ptrR M n (D.put (keyL f.name) (.lit (.int .i64 (b : Int))))) (hg : W.grownBy W' (some M))
    (hm : ∀ g, g ∈ gs ↔ g = f ∨ (g ∈ fs ∧ g.name ≠ f.name)) (hl : gs.length + (if isIn fs f.name then 1 else 0) = fs.length + 1) : Tab W' B M (upd loc f.name b) gs (D.put (keyL f.name) (.lit (.int .i64 (b : Int)))) := by
  have hsz : Maps.size (D.put (keyL f.name) (.lit (.int .i64 (b : Int)))) = gs.length := by
    rw [size_put (h.own.tidy keyLaw), h.has, h.size]
    cases hi : isIn fs f.name <;> rw [hi] at hl <;> simp at hl ⊢ <;> omega
  exact {
    own := by have := own_size hown; rw [hsz] at this; exact this
    size := hsz
    has := fun s => by
      by_cases e : s = f.name
      · subst e
        rw [has_put_same h.own.isMap (keyL_is _)]
        exact (isIn_iff.2 ⟨f, (hm f).2 (.inl rfl), rfl⟩).symm
      · rw [has_put_other (keyL_ne e), h.has]
        cases h1 : isIn gs s
        · refine isIn_no fun g hg' e' => ?_
          have := isIn_iff.2 ⟨g, (hm g).2 (.inr ⟨hg', fun e2 => e (by rw [← e', e2])⟩), e'⟩
          rw [h1] at this
          cases this
        · obtain ⟨g, hg', e'⟩ := isIn_iff.1 h1
          rcases (hm g).1 hg' with rfl | ⟨h2, _⟩
          · exact absurd e'.symm e
          · exact isIn_iff.2 ⟨g, h2, e'⟩
    elt := fun g hg' z => by
      rcases (hm g).1 hg' with rfl | ⟨h2, h3⟩
      · rw [atKey_put_same h.own.isMap (keyL_is _), upd_same]
      · rw [atKey_put_other (keyL_ne h3), upd_other _ _ _ h3]
        exact h.elt g h2 z
    box := fun g hg' => by
      rcases (hm g).1 hg' with rfl | ⟨h2, h3⟩
      · rw [upd_same]; exact hbox.grown hg (by simpa using hb1)
      · rw [upd_other _ _ _ h3]
        exact (h.box g h2).grown hg (by simpa using (h.apart g h2).1)
    apart := fun g hg' => by
      rcases (hm g).1 hg' with rfl | ⟨h2, h3⟩
      · rw [upd_same]; exact ⟨hb1, hb2⟩
      · rw [upd_other _ _ _ h3]; exact h.apart g h2
    inj := fun g hg' g' hg'' e => by
      rcases (hm g).1 hg' with rfl | ⟨h2, h3⟩ <;> rcases (hm g').1 hg'' with rfl | ⟨h4, h5⟩
      · rfl
      · rw [upd_same, upd_other _ _ _ h5] at e
        exact absurd e.symm (hfree g' h4 h5)
      · rw [upd_same, upd_other _ _ _ h3] at e
        exact absurd e (hfree g h2 h3)
      · rw [upd_other _ _ _ h3, upd_other _ _ _ h5] at e
        exact h.inj g h2 g' h4 e
    base := h.base }

/-- a file is struck from the table -/
theorem Tab.del {W W' : World} {B M : Nat} {loc : ByteArray → Nat} {fs gs : List FileV} {D : DataW Unit} (h : Tab W B M loc fs D) (nm : ByteArray) {n : Nat} (hown : W'.ownsMap Try.prog 9 ptrR M n (D.del (keyL nm))) (hg : W.grownBy W' (some M))
    (hm : ∀ g, g ∈ gs ↔ g ∈ fs ∧ g.name ≠ nm) (hl : gs.length + (if isIn fs nm then 1 else 0) = fs.length) : Tab W' B M loc gs (D.del (keyL nm)) := by
  have hsz : Maps.size (D.del (keyL nm)) = gs.length := by
    have := size_del (k := keyL nm) (h.own.tidy keyLaw)
    rw [h.has, h.size] at this
    omega
  exact {
    own := by have := own_size hown; rw [hsz] at this; exact this
    size := hsz
    has := fun s => by
      by_cases e : s = nm
      · subst e
        rw [has_del_same]
        exact (isIn_no fun g hg' => ((hm g).1 hg').2).symm
      · rw [has_del_other (keyL_ne e), h.has]
        cases h1 : isIn gs s
        · refine isIn_no fun g hg' e' => ?_
          have := isIn_iff.2 ⟨g, (hm g).2 ⟨hg', fun e2 => e (by rw [← e', e2])⟩, e'⟩
          rw [h1] at this
          cases this
        · obtain ⟨g, hg', e'⟩ := isIn_iff.1 h1
          exact isIn_iff.2 ⟨g, ((hm g).1 hg').1, e'⟩
    elt := fun g hg' z => by
      obtain ⟨h2, h3⟩ := (hm g).1 hg'
      rw [atKey_del_other (keyL_ne h3)]
      exact h.elt g h2 z
    box := fun g hg' => (h.box g ((hm g).1 hg').1).grown hg (by simpa using (h.apart g ((hm g).1 hg').1).1)
    apart := fun g hg' => h.apart g ((hm g).1 hg').1
    inj := fun g hg' g' hg'' e => h.inj g ((hm g).1 hg').1 g' ((hm g').1 hg'').1 e
    base := h.base }

/-- one file's own block has turned -/
theorem Tab.turn {W W' : World} {B M : Nat} {loc : ByteArray → Nat} {fs gs : List FileV} {D : DataW Unit} (h : Tab W B M loc fs D) {f f' : FileV} (hf : f ∈ fs) (hn : f'.name = f.name) (hg : W.grownBy W' (some (loc f.name))) (hbox : FBox W' (loc f.name) f')
    (hm : ∀ g, g ∈ gs ↔ g = f' ∨ (g ∈ fs ∧ g.name ≠ f.name)) (hl : gs.length = fs.length) : Tab W' B M loc gs D where
  own := by rw [hl]; exact h.own.kept hg (by simpa using Ne.symm (h.apart f hf).1)
  size := by rw [hl]; exact h.size
  has := fun s => by
    rw [h.has]
    cases h1 : isIn gs s
    · refine isIn_no fun g hg' e' => ?_
      by_cases e : g.name = f.name
      · have := isIn_iff.2 ⟨f', (hm f').2 (.inl rfl), by rw [hn, ← e, e']⟩
        rw [h1] at this
        cases this
      · have := isIn_iff.2 ⟨g, (hm g).2 (.inr ⟨hg', e⟩), e'⟩
        rw [h1] at this
        cases this
    · obtain ⟨g, hg', e'⟩ := isIn_iff.1 h1
      rcases (hm g).1 hg' with rfl | ⟨h2, _⟩
      · exact isIn_iff.2 ⟨f, hf, by rw [← hn, e']⟩
      · exact isIn_iff.2 ⟨g, h2, e'⟩
  elt := fun g hg' z => by
    rcases (hm g).1 hg' with rfl | ⟨h2, _⟩
    · rw [hn]; exact h.elt f hf z
    · exact h.elt g h2 z
  box := fun g hg' => by
    rcases (hm g).1 hg' with rfl | ⟨h2, h3⟩
    · rw [hn]; exact hbox
    · exact (h.box g h2).grown hg (by simpa using fun e => h3 (h.inj g h2 f hf e))
  apart := fun g hg' => by
    rcases (hm g).1 hg' with rfl | ⟨h2, _⟩
    · rw [hn]; exact h.apart f hf
    · exact h.apart g h2
  inj := fun g hg' g' hg'' e => by
    rcases (hm g).1 hg' with rfl | ⟨h2, h3⟩ <;> rcases (hm g').1 hg'' with rfl | ⟨h4, h5⟩
    · rfl
    · rw [hn] at e; exact absurd (h.inj f hf g' h4 e).symm h5
    · rw [hn] at e; exact absurd (h.inj g h2 f hf e) h3
    · exact h.inj g h2 g' h4 e
  base := h.base

section
variable {ops : Array Oper} {rest : List Oper} {o : Oper} {a : Go.Act} {Q : Exit → Go.Act → World → Prop}

/-- the look for a file that is there -/
theorem look_yes (w : World) (hg : o.guard = none) (m x : Operand) (hop : o.op = Op.lookup 68 m x true) {B M : Nat} {loc : ByteArray → Nat} {fs : List FileV} {D : DataW Unit} (T : Tab w B M loc fs D) {f : FileV} (hf : f ∈ fs) {nm : ByteArray} (hn : f.name = nm) (hsz : nm.size ≤ maxLen)
    (hm : a.eval m = .map (some M)) (hx : a.eval x = .string nm) (hK : wpList Try.prog ops Q rest (a.put o.dst (.tuple #[.pointer (some ⟨loc nm, 0, none⟩), .bool true])) w) : wpList Try.prog ops Q (o :: rest) a w := by
  subst hn
  refine wpList_lookup_own_ok w hg m x 68 hop 9 82 keyLaw Try.underlying68 ptrR (zeroPF _) (.lit (.bool false)) [] rfl M _ D hm T.own _ (keyL f.name) hx (keyL_of hsz) ?_
  intro v ps hv
  rw [T.elt f hf] at hv
  obtain rfl := ptrR_at hv
  rw [T.has, isIn_iff.2 ⟨f, hf, rfl⟩]
  exact hK
/-- the look for a file that is not there -/
theorem look_no (w : World) (hg : o.guard = none) (m x : Operand) (hop : o.op = Op.lookup 68 m x true) {B M : Nat} {loc : ByteArray → Nat} {fs : List FileV} {D : DataW Unit} (T : Tab w B M loc fs D) {nm : ByteArray} (hno : isIn fs nm = false) (hsz : nm.size ≤ maxLen)
    (hm : a.eval m = .map (some M)) (hx : a.eval x = .string nm) (hK : wpList Try.prog ops Q rest (a.put o.dst (.tuple #[.pointer none, .bool false])) w) : wpList Try.prog ops Q (o :: rest) a w := by
  refine wpList_lookup_own_ok w hg m x 68 hop 9 82 keyLaw Try.underlying68 ptrR (zeroPF _) (.lit (.bool false)) [] rfl M _ D hm T.own _ (keyL nm) hx (keyL_of hsz) ?_
  intro v ps hv
  rw [atKey_of_not_has (by rw [T.has]; exact hno)] at hv
  obtain rfl := ptrR_nil hv
  rw [T.has, hno]
  exact hK
/-- 'table[name]' of a file that is there -/
theorem look_at (w : World) (hg : o.guard = none) (m x : Operand) (hop : o.op = Op.lookup 68 m x false) {B M : Nat} {loc : ByteArray → Nat} {fs : List FileV} {D : DataW Unit} (T : Tab w B M loc fs D) {f : FileV} (hf : f ∈ fs) {nm : ByteArray} (hn : f.name = nm) (hsz : nm.size ≤ maxLen)
    (hm : a.eval m = .map (some M)) (hx : a.eval x = .string nm) (hK : wpList Try.prog ops Q rest (a.put o.dst (.pointer (some ⟨loc nm, 0, none⟩))) w) : wpList Try.prog ops Q (o :: rest) a w := by
  subst hn
  refine wpList_plain hg fun K' hK' => ?_
  obtain ⟨v, ps, hrun, hv⟩ := T.own.lookup keyLaw Try.underlying68 (zeroPF _) (zd := .lit (.bool false)) (zp := []) rfl (keyL_of hsz)
  rw [T.elt f hf] at hv
  obtain rfl := ptrR_at hv
  unfold Oper.wp
  simp [execOp, hop, hm, hx, hrun, Result.andThen]
  exact hK' _ _ hK
/-- 'table[name] = f' -/
theorem put_at (w : World) (hg : o.guard = none) (m x v : Operand) (hop : o.op = Op.mapUpdate 68 m x v) {B M b : Nat} {loc : ByteArray → Nat} {fs gs : List FileV} {D : DataW Unit} (T : Tab w B M loc fs D) (h30 : fs.length ≤ 1048576) {f : FileV} {nm : ByteArray} (hn : f.name = nm) (hsz : nm.size ≤ maxLen)
    (hbox : FBox w b f) (hb1 : b ≠ M) (hb2 : B ≤ b) (hfree : ∀ g ∈ fs, g.name ≠ f.name → loc g.name ≠ b) (hmm : ∀ g, g ∈ gs ↔ g = f ∨ (g ∈ fs ∧ g.name ≠ f.name)) (hl : gs.length + (if isIn fs f.name then 1 else 0) = fs.length + 1)
    (hm : a.eval m = .map (some M)) (hx : a.eval x = .string nm) (hv : a.eval v = .pointer (some ⟨b, 0, none⟩))
    (hK : ∀ w', (∃ D', Tab w' B M (upd loc nm b) gs D') → w.grownBy w' (some M) → wpList Try.prog ops Q rest (a.put o.dst undef) w') : wpList Try.prog ops Q (o :: rest) a w := by
  subst hn
  refine wpList_mapUpdate_own w hg m x v 68 hop 9 82 keyLaw Try.underlying68 ptrR M _ D hm T.own (by unfold maxLen; omega) _ _ (keyL f.name) hx hv (keyL_of hsz) (.lit (.int .i64 (b : Int))) [] rfl ?_
  intro w' hown hgr
  exact hK w' ⟨_, T.put hbox hb1 hb2 hfree hown hgr hmm hl⟩ hgr
/-- 'delete(table, name)' -/
theorem del_at (w : World) (hg : o.guard = none) (m x : Operand) (hop : o.op = Op.call { callee := Callee.builtin Builtin.delete, args := #[m, x], argTypes := #[68, 9] }) {B M : Nat} {loc : ByteArray → Nat} {fs gs : List FileV} {D : DataW Unit} (T : Tab w B M loc fs D) {nm : ByteArray} (hsz : nm.size ≤ maxLen)
    (hmm : ∀ g, g ∈ gs ↔ g ∈ fs ∧ g.name ≠ nm) (hl : gs.length + (if isIn fs nm then 1 else 0) = fs.length)
    (hm : a.eval m = .map (some M)) (hx : a.eval x = .string nm)
    (hK : ∀ w', (∃ D', Tab w' B M loc gs D') → w.grownBy w' (some M) → wpList Try.prog ops Q rest (a.put o.dst (.tuple #[])) w') : wpList Try.prog ops Q (o :: rest) a w := by
  refine wpList_delete_own w hg m x 68 9 hop 82 keyLaw Try.underlying68 ptrR M _ D hm T.own _ (keyL nm) hx (keyL_of hsz) ?_
  intro w' hown ht
  exact hK w' ⟨_, T.del nm hown ht.grown hmm hl⟩ ht.grown
/-- 'len(table)' -/
theorem len_at (w : World) (hg : o.guard = none) (m : Operand) (hop : o.op = Op.call { callee := Callee.builtin Builtin.len, args := #[m], argTypes := #[68] }) {B M : Nat} {loc : ByteArray → Nat} {fs : List FileV} {D : DataW Unit} (T : Tab w B M loc fs D)
    (hm : a.eval m = .map (some M)) (hK : wpList Try.prog ops Q rest (a.put o.dst (.int .i64 (fs.length : Int))) w) : wpList Try.prog ops Q (o :: rest) a w := by
  refine wpList_len_own w hg m 68 hop 9 82 Try.underlying68 ptrR M _ D hm T.own ?_
  rw [T.size]
  exact hK
end

theorem Tab.map_lt {W : World} {B M : Nat} {loc : ByteArray → Nat} {fs : List FileV} {D : DataW Unit} (h : Tab W B M loc fs D) : M < W.heap.size := h.own.lt
end Go.Proofs.Ytibcdpnodikpiai
