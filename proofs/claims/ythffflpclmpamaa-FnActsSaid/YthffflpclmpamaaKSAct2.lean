/- What the specification's l03At answers at every list of files. What the laws over disks share. What the specification's l03Without and l03Put answer at every list of files. What the specification's l03Put answers at every list of files. What the specification's DoAct answers at every list of files and every act. What the specification's DoAct answers where disk and act are as they must be. -/
import Derived.Test.YthffflpclmpamaaKSFiles
import Derived.Deep.AppendLies
import Derived.Deep.RegionLaw
import Derived.Lib.Strings
namespace Go.Proofs.Ythffflpclmpamaa
open Go.RowKit

/-- whether a file has this name -/
def hasName (name : ByteArray) (f : FileV) : Bool := f.name.toList == name.toList
/-- the place of the file of this name -/
def atN (fs : List FileV) (name : ByteArray) : Option Nat := fs.findIdx? (hasName name)
def atI : Option Nat → Int
  | none => -1
  | some k => (k : Int)

theorem atN_some {fs : List FileV} {name : ByteArray} {k : Nat} {f : FileV} (hf : fs[k]? = some f) (hn : hasName name f = true) (hb : ∀ j g, j < k → fs[j]? = some g → hasName name g = false) : atN fs name = some k := by
  obtain ⟨hk, rfl⟩ := List.getElem?_eq_some_iff.1 hf
  unfold atN
  rw [List.findIdx?_eq_some_iff_getElem]
  refine ⟨hk, hn, fun j hj => ?_⟩
  have := hb j (fs[j]'(by omega)) hj (List.getElem?_eq_getElem _)
  simp [this]

theorem atN_none {fs : List FileV} {name : ByteArray} (hb : ∀ (j : Nat) (g : FileV), fs[j]? = some g → hasName name g = false) : atN fs name = none := by
  unfold atN
  rw [List.findIdx?_eq_none_iff]
  intro f hf
  obtain ⟨j, hj⟩ := List.getElem?_of_mem hf
  exact hb j f hj

theorem atN_lt {fs : List FileV} {name : ByteArray} {k : Nat} (h : atN fs name = some k) : k < fs.length := by
  unfold atN at h
  rw [List.findIdx?_eq_some_iff_getElem] at h
  exact h.1

set_option maxRecDepth 100000 in
set_option maxHeartbeats 2000000 in
theorem l03At_any (fs : List FileV) (name : ByteArray) (n : Nat) (a : Option Addr) (c : Nat) (hn : n ≤ maxLen) (w : World) (h : Fs w w.heap.size a n fs) :
    Calls Try.prog 44 #[.agg #[.slice a n c], .string name] w fun e w' => e = .returned (.int .i64 (atI (atN fs name))) ∧ Below w.heap.size w w' := by
  unfold maxLen at hn
  obtain ⟨hlen, hrow⟩ := h
  have HR := hideIt hrow
  clear hrow
  generalize hP : atN fs name = P
  have HP := hideIt hP
  clear hP
  go_enter Try.func44, Try.ntmps44
  go_wp2
  go_loopw [5] (fun i wr => ∃ k : Nat, k ≤ n ∧ i = .int .i64 (k : Int) ∧ Hid (∀ j g, j < k → fs[j]? = some g → hasName name g = false) ∧ wr = w.alloc (.cells #[.slice a n c] 26)) (fun i _ => n - (intOf i).toNat)
  case atStart => exact ⟨0, by omega, rfl, fun j g hj => by omega, rfl⟩
  case round =>
    obtain ⟨k, hk, rfl, hno, rfl⟩ := hrel
    by_cases hlt : k < n
    · rcases HR.out with hz | ⟨b, off, rfl, hbl, hc⟩
      · omega
      · obtain ⟨f, hf⟩ : ∃ f, fs[k]? = some f := ⟨fs[k]'(by omega), List.getElem?_eq_getElem (by omega)⟩
        obtain ⟨c0, c1, c2⟩ := hc k f hf
        have b1 : (0 : Int) ≤ (k : Int) := by omega
        have b2 : (k : Int) < (n : Int) := by omega
        cases hh : hasName name f with
        | true =>
          have HA := hideIt (atN_some hf hh hno.out)
          unfold hasName at hh
          clear hc c1 c2 hf hno
          go_wp2
          go_ret
          exact ⟨by rw [← HP.out, HA.out]; rfl, (Below.refl _ _).alloc (Nat.le_refl _) _⟩
        | false =>
          have HO : Hid (∀ j g, j < k + 1 → fs[j]? = some g → hasName name g = false) := fun j g hj hg => by
            by_cases e : j = k
            · subst e
              rw [hf] at hg
              cases hg
              exact hh
            · exact hno.out j g (by omega) hg
          unfold hasName at hh
          clear hc c1 c2 hf hno
          go_wp2
          exact ⟨⟨k + 1, by omega, by go_num, HO, trivial⟩, by simp [intOf]; omega⟩
    · have HA := hideIt (atN_none (fs := fs) (name := name) (fun j g hg => hno.out j g (by have := (List.getElem?_eq_some_iff.1 hg).1; omega) hg))
      clear hno
      go_wp2
      go_ret
      exact ⟨by rw [← HP.out, HA.out]; rfl, (Below.refl _ _).alloc (Nat.le_refl _) _⟩

/-- the file of this name -/
def fileOf (fs : List FileV) (name : ByteArray) : Option FileV := (atN fs name).bind fun k => fs[k]?

end Go.Proofs.Ythffflpclmpamaa
namespace Go.Proofs.Ythffflpclmpamaa
open Go.RowKit

theorem letters_mem {fs : List FileV} {f : FileV} (h : f ∈ fs) : f.name.size + f.text.size ≤ letters fs := by
  induction fs with
  | nil => simp at h
  | cons g fs ih =>
    simp only [letters, List.map_cons, List.sum_cons] at ih ⊢
    rcases List.mem_cons.1 h with rfl | h
    · omega
    · have := ih h; omega

theorem fits_of {fs : List FileV} (h : fs.length + letters fs ≤ 1048576) : FitsF fs := fun f hf => by
  have := letters_mem hf
  unfold maxLen
  omega

/-- an own list, somewhere below -/
theorem Fs.up {w w' : World} {a : Option Addr} {n : Nat} {fs : List FileV} (h : Fs w w.heap.size a n fs) (hb : Below w.heap.size w w') : Fs w' w'.heap.size a n fs :=
  (h.below hb (Nat.le_refl _)).mono hb.size

/-- nothing below has turned since w -/
def Good (w u : World) : Prop := Below w.heap.size w u
theorem Good.fs {w u : World} (h : Good w u) {a : Option Addr} {n : Nat} {fs : List FileV} (hf : Fs w w.heap.size a n fs) : Fs u u.heap.size a n fs := hf.up h
theorem Good.cell {w u : World} (h : Good w u) {b o : Nat} (hb : b < w.heap.size) : u.cell? ⟨b, o, none⟩ = w.cell? ⟨b, o, none⟩ := Below.cell h hb

end Go.Proofs.Ythffflpclmpamaa
namespace Go.Proofs.Ythffflpclmpamaa
open Go.RowKit

/-- one value in a block of its own -/
def Box (w : World) (b : Nat) (t : TypeId) (v : Value) : Prop := w.heap[b]? = some (.cells #[v] t (0, 0))
theorem Box.cell {w : World} {b : Nat} {t : TypeId} {v : Value} (h : Box w b t v) : w.cell? ⟨b, 0, none⟩ = some v := by rw [cell_of_row w b 0 _ _ _ h]; rfl
theorem Box.frozen {w : World} {b : Nat} {t : TypeId} {v : Value} (h : Box w b t v) : w.frozen? ⟨b, 0, none⟩ = false := frozen_of_row w b 0 _ _ h
theorem Box.lt {w : World} {b : Nat} {t : TypeId} {v : Value} (h : Box w b t v) : b < w.heap.size := (Array.getElem?_eq_some_iff.1 h).1
theorem Box.new (w : World) (t : TypeId) (v : Value) (b : Nat) (hb : w.heap.size = b) : Box (w.alloc (.cells #[v] t)) b t v := by subst hb; exact heap_alloc_new w _
theorem Box.grown {w w' : World} {b : Nat} {t : TypeId} {v : Value} {row : Option Nat} (h : Box w b t v) (hg : w.grownBy w' row) (hr : some b ≠ row) : Box w' b t v := by
  unfold Box; rw [hg.block b h.lt hr]; exact h
theorem Box.alloc {w : World} {b : Nat} {t : TypeId} {v : Value} (h : Box w b t v) (o : Obj) : Box (w.alloc o) b t v := by
  unfold Box; rw [Below.heap_alloc w o b h.lt]; exact h
theorem Box.set {w : World} {b : Nat} {t : TypeId} {v : Value} (h : Box w b t v) (u : Value) : Box (w.setCell ⟨b, 0, none⟩ u) b t u := by
  unfold Box; rw [heap_setCell_same w b 0 _ t u h]; rfl
theorem Box.setOther {w : World} {b b' j : Nat} {t : TypeId} {v : Value} (h : Box w b t v) (u : Value) (hb : b ≠ b') : Box (w.setCell ⟨b', j, none⟩ u) b t v := by
  unfold Box; rw [heap_setCell_other w ⟨b', j, none⟩ b u hb]; exact h
theorem Box.below {w w' : World} {b C : Nat} {t : TypeId} {v : Value} (h : Box w b t v) (hb : Below C w w') (hC : b < C) : Box w' b t v := by
  unfold Box; rw [hb.block b hC]; exact h

theorem set_other {u : World} {G j x o : Nat} {v : Value} (h : x ≠ G) : (u.setCell ⟨G, j, none⟩ v).cell? ⟨x, o, none⟩ = u.cell? ⟨x, o, none⟩ := World.cell?_of_block (w := u) (heap_setCell_other u ⟨G, j, none⟩ x v h)

theorem own_setLow {w : World} {B e s n : Nat} {v : Value} {xs : List Value} (h : w.ownsRow B e s v n xs) (G j : Nat) (u : Value) (hG : G < B) : (w.setCell ⟨G, j, none⟩ u).ownsRow B e s v n xs :=
  World.ownsRow.kept h (grownSet w G j u) (.inr (fun e => by have := (h.lt G (by simpa using e)).1; omega))

/-- the files without that of a name -/
def without (fs : List FileV) (name : ByteArray) : List FileV := fs.filter fun f => !(hasName name f)
theorem without_snoc (fs : List FileV) (name : ByteArray) (f : FileV) : without (fs ++ [f]) name = without fs name ++ (if hasName name f then [] else [f]) := by
  unfold without
  cases h : hasName name f <;> simp [h]
theorem without_le (fs : List FileV) (name : ByteArray) : (without fs name).length ≤ fs.length := List.length_filter_le _ _

set_option maxRecDepth 100000 in
set_option maxHeartbeats 4000000 in
theorem l03Without_any (fs : List FileV) (name : ByteArray) (n : Nat) (a : Option Addr) (c : Nat) (hn : n ≤ 1048576) (w : World) (h : Fs w w.heap.size a n fs) :
    Calls Try.prog 45 #[.agg #[.slice a n c], .string name] w fun e w' => ∃ a' m c', e = .returned (.agg #[.slice a' m c']) ∧ w'.ownsRow w.heap.size 49 3 (.slice a' m c') m (fcells (without fs name)) ∧ Below w.heap.size w w' := by
  obtain ⟨i0, hi, hz0, hz1, hz2⟩ := info_parts infoIF
  obtain ⟨hlen, hrow⟩ := h
  have HR := hideIt hrow
  clear hrow
  go_enter Try.func45, Try.ntmps45
  go_wp2
  go_loopw [6] (fun i wr => ∃ (k m : Nat) (a' : Option Addr) (c' : Nat), k ≤ n ∧ m ≤ k ∧ i = .int .i64 (k : Int) ∧ Box wr w.heap.size 26 (.slice a n c) ∧ Box wr (w.heap.size + 1) 26 (.slice none 0 0) ∧ Box wr (w.heap.size + 1 + 1) 26 (.slice a' m c') ∧
      wr.ownsRow (w.heap.size + 1 + 1 + 1) 49 3 (.slice a' m c') m (fcells (without (fs.take k) name)) ∧ Below w.heap.size w wr) (fun i _ => n - (intOf i).toNat)
  case atStart =>
    refine ⟨0, 0, none, 0, by omega, by omega, rfl, ?_, ?_, ?_, by simpa [without, fcells] using World.ownsRow_nil _ _ _ _, ?_⟩
    · exact ((Box.new w _ _ _ rfl).alloc _).alloc _
    · exact (Box.new _ _ _ _ (by simp)).alloc _
    · exact Box.new _ _ _ _ (by simp)
    · exact (((Below.refl _ _).alloc (Nat.le_refl _) _).alloc (by simp) _).alloc (by simp; omega) _
  case round =>
    obtain ⟨k, m, a', c', hk, hmk, rfl, x0, x1, x2, hown, hb⟩ := hrel
    have e0 := x0.cell
    have e1 := x2.cell
    have e2 := x2.frozen
    have l2 := x2.lt
    by_cases hlt : k < n
    · rcases HR.out with hz | ⟨b, off, rfl, hbl, hc⟩
      · omega
      · obtain ⟨f, hf⟩ : ∃ f, fs[k]? = some f := ⟨fs[k]'(by omega), List.getElem?_eq_getElem (by omega)⟩
        obtain ⟨c0, c1, c2⟩ := hc k f hf
        have d0 : wr.cell? ⟨b, off + k * 3, none⟩ = some (.string f.name) := by rw [hb.cell hbl]; exact c0
        have d1 : wr.cell? ⟨b, off + k * 3 + 1, none⟩ = some (.string f.text) := by rw [hb.cell hbl]; exact c1
        have d2 : wr.cell? ⟨b, off + k * 3 + 2, none⟩ = some (.int .i64 f.kept) := by rw [hb.cell hbl]; exact c2
        have b1 : (0 : Int) ≤ (k : Int) := by omega
        have b2 : (k : Int) < (n : Int) := by omega
        cases hh : hasName name f with
        | true =>
          have HX : Hid (without (fs.take (k + 1)) name = without (fs.take k) name) := by
            show _ = _
            rw [take_snocF fs k f hf, without_snoc, hh]; simp
          have HO := hideIt hown
          unfold hasName at hh
          clear hc c0 c1 c2 hown hf
          go_wp2
          exact ⟨⟨k + 1, m, a', c', by omega, by omega, by go_num, x0, x1, x2, by rw [HX.out]; exact HO.out, hb⟩, by simp [intOf]; omega⟩
        | false =>
          have HX : Hid (fcells (without (fs.take (k + 1)) name) = fcells (without (fs.take k) name) ++ [.string f.name, .string f.text, .int .i64 f.kept]) := by
            show _ = _
            rw [take_snocF fs k f hf, without_snoc, hh, if_neg (by simp), fcells_snoc]
          have hrow : ∀ x, x < w.heap.size + 1 + 1 + 1 → some x ≠ (Value.slice a' m c').ownBlock := fun x hx e => by
            have := (hown.lt x e.symm).1
            omega
          have HK : Hid (∀ w1 : World, ((wr.alloc (.cells #[.string f.name, .string f.text, .int .i64 f.kept] 49)).drew).grownBy w1 (Value.slice a' m c').ownBlock →
              (w1.cell? ⟨w.heap.size, 0, none⟩ = some (.slice (some ⟨b, off, none⟩) n c) ∧ w1.cell? ⟨b, off + k * 3, none⟩ = some (.string f.name) ∧ w1.cell? ⟨b, off + k * 3 + 1, none⟩ = some (.string f.text) ∧ w1.cell? ⟨b, off + k * 3 + 2, none⟩ = some (.int .i64 f.kept)) ∧
              Box w1 w.heap.size 26 (.slice (some ⟨b, off, none⟩) n c) ∧ Box w1 (w.heap.size + 1) 26 (.slice none 0 0) ∧ Box w1 (w.heap.size + 1 + 1) 26 (.slice a' m c') ∧ Below w.heap.size w w1) := fun w1 hg => by
            have y0 := (x0.alloc (.cells #[.string f.name, .string f.text, .int .i64 f.kept] 49)).grown (w' := w1) ⟨hg.os, hg.tape, hg.output, hg.size, hg.block⟩ (hrow _ (by omega))
            have y1 := (x1.alloc (.cells #[.string f.name, .string f.text, .int .i64 f.kept] 49)).grown (w' := w1) ⟨hg.os, hg.tape, hg.output, hg.size, hg.block⟩ (hrow _ (by omega))
            have y2 := (x2.alloc (.cells #[.string f.name, .string f.text, .int .i64 f.kept] 49)).grown (w' := w1) ⟨hg.os, hg.tape, hg.output, hg.size, hg.block⟩ (hrow _ (by omega))
            have hb1 : Below w.heap.size w w1 := ((hb.alloc (by omega) _).drew).grown hg (by simp; omega) (fun j hj => by have := (hown.lt j hj).1; omega)
            exact ⟨⟨y0.cell, by rw [hb1.cell hbl]; exact c0, by rw [hb1.cell hbl]; exact c1, by rw [hb1.cell hbl]; exact c2⟩, y0, y1, y2, hb1⟩
          unfold hasName at hh
          clear hc c0 c1 c2 hf
          go_wp2
          go_region_law (refine step_append_lies _ (by rfl) _ _ _ (by rfl) (w.heap.size + 1 + 1 + 1) 49 i0 _ 3 40 Try.underlying24 hi hz0 hz1 hz2 rfl (by omega) _ m _ (by rfl) ((hown.alloc _).drew) ⟨wr.heap.size, 0, none⟩ 1 1 [.string f.name, .string f.text, .int .i64 f.kept] (by rfl) (by rfl) (World.news_of_block (cs := #[.string f.name, .string f.text, .int .i64 f.kept]) (t := 49) (fr := (0, 0)) (heap_alloc_new wr _)) (by simp [Value.oneCell']) (by omega) (by unfold maxLen; omega) (by omega) (by simp; omega) (wr.heap.size + 1) (by simp) ?_; intro g1 cap1 w1 hown1 hg1 hat1 hlt1; obtain ⟨S1, y0, y1, y2, hb1⟩ := HK.out _ hg1; have z1 := y2.cell; have z2 := y2.frozen)
          all_goals
            have lg := (hown1.lt g1 rfl).1
            have HO := hideIt (own_setOther hown1 (w.heap.size + 1 + 1) 0 (.slice (some ⟨g1, 0, none⟩) (m + 1) cap1) (by omega))
            have q0 := y0.setOther (j := 0) (.slice (some ⟨g1, 0, none⟩) (m + 1) cap1) (show w.heap.size ≠ w.heap.size + 1 + 1 by omega)
            have q1 := y1.setOther (j := 0) (.slice (some ⟨g1, 0, none⟩) (m + 1) cap1) (show w.heap.size + 1 ≠ w.heap.size + 1 + 1 by omega)
            have q2 := y2.set (.slice (some ⟨g1, 0, none⟩) (m + 1) cap1)
            have q3 := hb1.setCell (p := ⟨w.heap.size + 1 + 1, 0, none⟩) (by show _ ≤ w.heap.size + 1 + 1; omega) (.slice (some ⟨g1, 0, none⟩) (m + 1) cap1)
            clear hown1 hg1 hown S1 HK hrow
            go_wp2
            exact ⟨⟨k + 1, m + 1, _, _, by omega, by omega, by go_num, q0, q1, q2, by rw [HX.out]; exact HO.out, q3⟩, by simp [intOf]; omega⟩
    · have e : fs.take k = fs := List.take_of_length_le (by omega)
      rw [e] at hown
      have HO := hideIt hown
      have r0 := x1.cell
      have r1 := x1.frozen
      clear hown e
      have s1 := (x1.set (.slice a' m c')).cell
      have HO2 := hideIt (own_setLow HO.out (w.heap.size + 1) 0 (.slice a' m c') (by omega))
      have q3 := hb.setCell (p := ⟨w.heap.size + 1, 0, none⟩) (by show _ ≤ w.heap.size + 1; omega) (.slice a' m c')
      go_wp2
      exact bodyPost_ret (v := .agg #[.slice a' m c']) (by simp [results, Try.results45, go_sem, s1]) rfl ⟨a', m, c', rfl, own_mono HO2.out (by omega), q3⟩
end Go.Proofs.Ythffflpclmpamaa
namespace Go.Proofs.Ythffflpclmpamaa
open Go.RowKit

def moreB (a b : ByteArray) : Bool := !(Op.bytesLess a.toList b.toList || a.toList == b.toList)
/-- the files with one put in its place -/
def put (fs : List FileV) (f : FileV) : List FileV := fs.filter (fun g => lessB g.name f.name) ++ [f] ++ fs.filter (fun g => moreB g.name f.name)

/-- where l03Put stands: her boxes, the list that grows -/
structure PutAt (w : World) (B : Nat) (a : Option Addr) (n c : Nat) (f : FileV) (a' : Option Addr) (m c' : Nat) (gs : List FileV) (u : World) : Prop where
  x0 : Box u B 26 (.slice a n c)
  x1 : u.heap[B + 1]? = some (.cells #[.string f.name, .string f.text, .int .i64 f.kept] 49 (0, 0))
  x2 : Box u (B + 1 + 1) 26 (.slice none 0 0)
  x3 : Box u (B + 1 + 1 + 1) 26 (.slice a' m c')
  own : u.ownsRow (B + 1 + 1 + 1 + 1) 49 3 (.slice a' m c') m (fcells gs)
  below : Below B w u

theorem PutAt.append {w : World} {B : Nat} {a : Option Addr} {n c : Nat} {f : FileV} {a' : Option Addr} {m c' : Nat} {gs : List FileV} {u w1 : World} (h : PutAt w B a n c f a' m c' gs u) (hB : B = w.heap.size) {o : Obj} {g1 cap1 : Nat} {h' : FileV}
    (hown : w1.ownsRow (B + 1 + 1 + 1 + 1) 49 3 (.slice (some ⟨g1, 0, none⟩) (m + 1) cap1) (m + 1) (fcells gs ++ [.string h'.name, .string h'.text, .int .i64 h'.kept])) (hg : (u.alloc o).grownBy w1 (Value.slice a' m c').ownBlock) :
    PutAt w B a n c f a' m c' gs (u.alloc o) → PutAt w B a n c f (some ⟨g1, 0, none⟩) (m + 1) cap1 (gs ++ [h']) (w1.setCell ⟨B + 1 + 1 + 1, 0, none⟩ (.slice (some ⟨g1, 0, none⟩) (m + 1) cap1)) := by
  intro hu
  have hrow : ∀ x, x < B + 1 + 1 + 1 + 1 → some x ≠ (Value.slice a' m c').ownBlock := fun x hx e => by
    have := (h.own.lt x e.symm).1
    omega
  have l3 := h.x3.lt
  have y0 := hu.x0.grown hg (hrow _ (by omega))
  have y2 := hu.x2.grown hg (hrow _ (by omega))
  have y3 := hu.x3.grown hg (hrow _ (by omega))
  have y1 : w1.heap[B + 1]? = some (.cells #[.string f.name, .string f.text, .int .i64 f.kept] 49 (0, 0)) := by rw [hg.block (B + 1) (by simp; omega) (hrow _ (by omega))]; exact hu.x1
  have hb1 : Below B w w1 := hu.below.grown hg (by simp; omega) (fun j hj => by have := (h.own.lt j hj).1; omega)
  have lg := (hown.lt g1 rfl).1
  refine ⟨y0.setOther _ (by omega), ?_, y2.setOther _ (by omega), y3.set _, ?_, hb1.setCell (p := ⟨B + 1 + 1 + 1, 0, none⟩) (by show B ≤ B + 1 + 1 + 1; omega) _⟩
  · rw [heap_setCell_other w1 ⟨B + 1 + 1 + 1, 0, none⟩ (B + 1) _ (by show B + 1 ≠ B + 1 + 1 + 1; omega)]; exact y1
  · rw [fcells_snoc]; exact own_setOther hown _ 0 _ (by omega)

theorem PutAt.alloc {w : World} {B : Nat} {a : Option Addr} {n c : Nat} {f : FileV} {a' : Option Addr} {m c' : Nat} {gs : List FileV} {u : World} (h : PutAt w B a n c f a' m c' gs u) (o : Obj) : PutAt w B a n c f a' m c' gs (u.alloc o) :=
  have l3 := h.x3.lt
  ⟨h.x0.alloc o, by rw [Below.heap_alloc u o (B + 1) (by omega)]; exact h.x1, h.x2.alloc o, h.x3.alloc o, h.own.alloc o, h.below.alloc (by omega) o⟩

theorem PutAt.drewN {w : World} {B : Nat} {a : Option Addr} {n c : Nat} {f : FileV} {a' : Option Addr} {m c' : Nat} {gs : List FileV} {u : World} (h : PutAt w B a n c f a' m c' gs u) (q : Nat) : PutAt w B a n c f a' m c' gs (u.drewN q) :=
  ⟨h.x0, h.x1, h.x2, h.x3, h.own, below_drewN h.below q⟩
theorem PutAt.drew {w : World} {B : Nat} {a : Option Addr} {n c : Nat} {f : FileV} {a' : Option Addr} {m c' : Nat} {gs : List FileV} {u : World} (h : PutAt w B a n c f a' m c' gs u) : PutAt w B a n c f a' m c' gs u.drew :=
  ⟨h.x0, h.x1, h.x2, h.x3, h.own, h.below.drew⟩
theorem PutAt.fcell {w : World} {B : Nat} {a : Option Addr} {n c : Nat} {f : FileV} {a' : Option Addr} {m c' : Nat} {gs : List FileV} {u : World} (h : PutAt w B a n c f a' m c' gs u) :
    u.cell? ⟨B + 1, 0, none⟩ = some (.string f.name) ∧ u.cell? ⟨B + 1, 1, none⟩ = some (.string f.text) ∧ u.cell? ⟨B + 1, 2, none⟩ = some (.int .i64 f.kept) :=
  ⟨by rw [cell_of_row u (B + 1) 0 _ _ _ h.x1]; rfl, by rw [cell_of_row u (B + 1) 1 _ _ _ h.x1]; rfl, by rw [cell_of_row u (B + 1) 2 _ _ _ h.x1]; rfl⟩

set_option maxRecDepth 100000 in
set_option maxHeartbeats 8000000 in
theorem l03Put_any (fs : List FileV) (f : FileV) (n : Nat) (a : Option Addr) (c : Nat) (hn : n ≤ 1048576) (w : World) (h : Fs w w.heap.size a n fs) :
    Calls Try.prog 31 #[.agg #[.slice a n c], .agg #[.string f.name, .string f.text, .int .i64 f.kept]] w fun e w' => ∃ a' m c', e = .returned (.agg #[.slice a' m c']) ∧ w'.ownsRow w.heap.size 49 3 (.slice a' m c') m (fcells (put fs f)) ∧ Below w.heap.size w w' := by
  obtain ⟨i0, hi, hz0, hz1, hz2⟩ := info_parts infoIF
  obtain ⟨hlen, hrow⟩ := h
  have HR := hideIt hrow
  clear hrow
  go_enter Try.func31, Try.ntmps31
  go_wp2
  go_loopw [6] (fun i wr => ∃ (k m : Nat) (a' : Option Addr) (c' : Nat), k ≤ n ∧ m ≤ k ∧ i = .int .i64 (k : Int) ∧ PutAt w w.heap.size a n c f a' m c' ((fs.take k).filter (fun g => lessB g.name f.name)) wr) (fun i _ => n - (intOf i).toNat)
  case atStart =>
    refine ⟨0, 0, none, 0, by omega, by omega, rfl, ?_, ?_, ?_, ?_, by simpa [fcells] using World.ownsRow_nil _ _ _ _, ?_⟩
    · exact (((Box.new w _ _ _ rfl).alloc _).alloc _).alloc _
    · have h2 : ((w.alloc (.cells #[.slice a n c] 26)).alloc (.cells #[.string f.name, .string f.text, .int .i64 f.kept] 49)).heap[w.heap.size + 1]? = some (.cells #[.string f.name, .string f.text, .int .i64 f.kept] 49 (0, 0)) := by
        have := heap_alloc_new (w.alloc (.cells #[.slice a n c] 26)) (.cells #[.string f.name, .string f.text, .int .i64 f.kept] 49)
        simpa using this
      rw [Below.heap_alloc _ _ _ (by simp), Below.heap_alloc _ _ _ (by simp)]
      exact h2
    · exact (Box.new _ _ _ _ (by simp)).alloc _
    · exact Box.new _ _ _ _ (by simp)
    · exact ((((Below.refl _ _).alloc (Nat.le_refl _) _).alloc (by simp) _).alloc (by simp; omega) _).alloc (by simp; omega) _
  case round =>
    obtain ⟨k, m, a', c', hk, hmk, rfl, hp⟩ := hrel
    by_cases hlt : k < n
    · rcases HR.out with hz | ⟨b, off, rfl, hbl, hc⟩
      · omega
      · obtain ⟨g, hg⟩ : ∃ g, fs[k]? = some g := ⟨fs[k]'(by omega), List.getElem?_eq_getElem (by omega)⟩
        obtain ⟨c0, c1, c2⟩ := hc k g hg
        have HC : Hid (∀ u, Below w.heap.size w u → u.cell? ⟨b, off + k * 3, none⟩ = some (.string g.name) ∧ u.cell? ⟨b, off + k * 3 + 1, none⟩ = some (.string g.text) ∧ u.cell? ⟨b, off + k * 3 + 2, none⟩ = some (.int .i64 g.kept)) := fun u hu =>
          ⟨by rw [hu.cell hbl]; exact c0, by rw [hu.cell hbl]; exact c1, by rw [hu.cell hbl]; exact c2⟩
        have b1 : (0 : Int) ≤ (k : Int) := by omega
        have b2 : (k : Int) < (n : Int) := by omega
        have e0 := hp.x0.cell
        have e1 := hp.fcell.1
        obtain ⟨d0, d1, d2⟩ := HC.out _ hp.below
        have HP := hideIt hp
        clear hc c0 c1 c2 hp
        cases hh : lessB g.name f.name with
        | false =>
          have HX : Hid ((fs.take (k + 1)).filter (fun g => lessB g.name f.name) = (fs.take k).filter (fun g => lessB g.name f.name)) := by
            show _ = _
            rw [take_snocF fs k g hg, List.filter_append]; simp [hh]
          unfold lessB at hh
          clear hg HC
          go_wp2
          go_quiet (fail)
          go_wp2
          exact ⟨⟨k + 1, m, a', c', by omega, by omega, by go_num, by rw [HX.out]; exact HP.out.drewN _⟩, by simp [intOf]; omega⟩
        | true =>
          have HX : Hid ((fs.take (k + 1)).filter (fun g => lessB g.name f.name) = (fs.take k).filter (fun g => lessB g.name f.name) ++ [g]) := by
            show _ = _
            rw [take_snocF fs k g hg, List.filter_append]; simp [hh]
          unfold lessB at hh
          clear hg
          go_wp2
          go_quiet (fail)
          go_wp2
          have HQ := hideIt (HP.out.drewN nq)
          clear d0 d1 d2 e0 e1 HP
          generalize wr.drewN nq = wq at HQ ⊢
          have e0 := HQ.out.x0.cell
          have e3 := HQ.out.x3.cell
          have f3 := HQ.out.x3.frozen
          have l3 := HQ.out.x3.lt
          have hown := HQ.out.own
          obtain ⟨d0, d1, d2⟩ := HC.out _ HQ.out.below
          have HK : Hid (∀ w1 : World, ((wq.alloc (.cells #[.string g.name, .string g.text, .int .i64 g.kept] 49)).drew).grownBy w1 (Value.slice a' m c').ownBlock →
              (w1.cell? ⟨w.heap.size, 0, none⟩ = some (.slice (some ⟨b, off, none⟩) n c) ∧ w1.cell? ⟨b, off + k * 3, none⟩ = some (.string g.name) ∧ w1.cell? ⟨b, off + k * 3 + 1, none⟩ = some (.string g.text) ∧ w1.cell? ⟨b, off + k * 3 + 2, none⟩ = some (.int .i64 g.kept)) ∧
              w1.cell? ⟨w.heap.size + 1 + 1 + 1, 0, none⟩ = some (.slice a' m c') ∧ w1.frozen? ⟨w.heap.size + 1 + 1 + 1, 0, none⟩ = false) := fun w1 hg => by
            have hg' : (wq.alloc (.cells #[.string g.name, .string g.text, .int .i64 g.kept] 49)).grownBy w1 (Value.slice a' m c').ownBlock := ⟨hg.os, hg.tape, hg.output, hg.size, hg.block⟩
            have hrow : ∀ x, x < w.heap.size + 1 + 1 + 1 + 1 → some x ≠ (Value.slice a' m c').ownBlock := fun x hx e => by
              have := (hown.lt x e.symm).1
              omega
            have ha := HQ.out.alloc (.cells #[.string g.name, .string g.text, .int .i64 g.kept] 49)
            have y0 := ha.x0.grown hg' (hrow _ (by omega))
            have y3 := ha.x3.grown hg' (hrow _ (by omega))
            have hb1 : Below w.heap.size w w1 := ha.below.grown hg' (by simp; omega) (fun j hj => by have := (hown.lt j hj).1; omega)
            exact ⟨⟨y0.cell, HC.out _ hb1⟩, y3.cell, y3.frozen⟩
          go_region_law (refine step_append_lies _ (by rfl) _ _ _ (by rfl) (w.heap.size + 1 + 1 + 1 + 1) 49 i0 _ 3 40 Try.underlying24 hi hz0 hz1 hz2 rfl (by omega) _ m _ (by rfl) ((hown.alloc _).drew) ⟨wq.heap.size, 0, none⟩ 1 1 [.string g.name, .string g.text, .int .i64 g.kept] (by rfl) (by rfl) (World.news_of_block (cs := #[.string g.name, .string g.text, .int .i64 g.kept]) (t := 49) (fr := (0, 0)) (heap_alloc_new wq _)) (by simp [Value.oneCell']) (by omega) (by unfold maxLen; omega) (by omega) (by simp; omega) (wq.heap.size + 1) (by simp) ?_; intro g1 cap1 w1 hown1 hg1 hat1 hlt1; obtain ⟨S1, z1, z2⟩ := HK.out _ hg1)
          all_goals
            have HN := hideIt (HQ.out.append rfl (o := .cells #[.string g.name, .string g.text, .int .i64 g.kept] 49) hown1 ⟨hg1.os, hg1.tape, hg1.output, hg1.size, hg1.block⟩ (HQ.out.alloc _))
            clear hown1 hg1 hown S1 HK HQ HC
            go_wp2
            exact ⟨⟨k + 1, m + 1, _, _, by omega, by omega, by go_num, by rw [HX.out]; exact HN.out⟩, by simp [intOf]; omega⟩
    · have e : fs.take k = fs := List.take_of_length_le (by omega)
      rw [e] at hp
      have HP := hideIt hp
      have e3 := hp.x3.cell
      have f3 := hp.x3.frozen
      have l3 := hp.x3.lt
      have hown := hp.own
      obtain ⟨v0, v1, v2⟩ := hp.fcell
      have e0 := hp.x0.cell
      clear hp e
      go_wp2_with (at_builtin; refine wpList_append_lies _ rfl _ _ 24 rfl (w.heap.size + 1 + 1 + 1 + 1) 49 i0 _ 3 40 Try.underlying24 hi hz0 hz1 hz2 rfl (by decide) _ _ _ rfl (hown.alloc _) ⟨wr.heap.size, 0, none⟩ 1 1 [.string f.name, .string f.text, .int .i64 f.kept] rfl rfl (World.news_of_block (cs := #[.string f.name, .string f.text, .int .i64 f.kept]) (t := 49) (fr := (0, 0)) (heap_alloc_new wr _)) (by simp [Value.oneCell']) (by omega) (by unfold maxLen; omega) (by omega) (by simp; omega) (wr.heap.size + 1) (by simp) ?_)
      intro g1 cap1 w1 hown1 hg1 _ _
      have hrow : ∀ x, x < w.heap.size + 1 + 1 + 1 + 1 → some x ≠ (Value.slice a' m c').ownBlock := fun x hx e => by
        have := (hown.lt x e.symm).1
        omega
      have y3 := (HP.out.alloc (.cells #[.string f.name, .string f.text, .int .i64 f.kept] 49)).x3.grown hg1 (hrow _ (by omega))
      have z1 := y3.cell
      have z2 := y3.frozen
      have HN := hideIt (HP.out.append rfl (o := .cells #[.string f.name, .string f.text, .int .i64 f.kept] 49) hown1 hg1 (HP.out.alloc _))
      clear hown1 hg1 hown y3 hrow e0 e3 f3 v0 v1 v2
      go_wp2
      go_loopw [7] (fun i wr => ∃ (k m : Nat) (a' : Option Addr) (c' : Nat), k ≤ n ∧ m ≤ n + 1 + k ∧ i = .int .i64 (k : Int) ∧ PutAt w w.heap.size a n c f a' m c' (fs.filter (fun g => lessB g.name f.name) ++ [f] ++ (fs.take k).filter (fun g => moreB g.name f.name)) wr) (fun i _ => n - (intOf i).toNat)
      case atStart => exact ⟨0, m + 1, _, _, by omega, by omega, rfl, by simpa using HN.out⟩
      case round =>
        obtain ⟨k, m, a', c', hk, hmk, rfl, hp⟩ := hrel
        by_cases hlt : k < n
        · rcases HR.out with hz | ⟨b, off, rfl, hbl, hc⟩
          · omega
          · obtain ⟨g, hg⟩ : ∃ g, fs[k]? = some g := ⟨fs[k]'(by omega), List.getElem?_eq_getElem (by omega)⟩
            obtain ⟨c0, c1, c2⟩ := hc k g hg
            have HC : Hid (∀ u, Below w.heap.size w u → u.cell? ⟨b, off + k * 3, none⟩ = some (.string g.name) ∧ u.cell? ⟨b, off + k * 3 + 1, none⟩ = some (.string g.text) ∧ u.cell? ⟨b, off + k * 3 + 2, none⟩ = some (.int .i64 g.kept)) := fun u hu =>
              ⟨by rw [hu.cell hbl]; exact c0, by rw [hu.cell hbl]; exact c1, by rw [hu.cell hbl]; exact c2⟩
            have b1 : (0 : Int) ≤ (k : Int) := by omega
            have b2 : (k : Int) < (n : Int) := by omega
            have e0 := hp.x0.cell
            have e1 := hp.fcell.1
            obtain ⟨d0, d1, d2⟩ := HC.out _ hp.below
            have HP := hideIt hp
            clear hc c0 c1 c2 hp
            cases hh : moreB g.name f.name with
            | false =>
              have HX : Hid (fs.filter (fun g => lessB g.name f.name) ++ [f] ++ (fs.take (k + 1)).filter (fun g => moreB g.name f.name) = fs.filter (fun g => lessB g.name f.name) ++ [f] ++ (fs.take k).filter (fun g => moreB g.name f.name)) := by
                show _ = _
                rw [take_snocF fs k g hg, List.filter_append]; simp [hh, List.append_assoc]
              unfold moreB at hh
              clear hg HC
              go_wp2
              go_quiet (fail)
              go_wp2
              exact ⟨⟨k + 1, m, a', c', by omega, by omega, by go_num, by rw [HX.out]; exact HP.out.drewN _⟩, by simp [intOf]; omega⟩
            | true =>
              have HX : Hid (fs.filter (fun g => lessB g.name f.name) ++ [f] ++ (fs.take (k + 1)).filter (fun g => moreB g.name f.name) = fs.filter (fun g => lessB g.name f.name) ++ [f] ++ (fs.take k).filter (fun g => moreB g.name f.name) ++ [g]) := by
                show _ = _
                rw [take_snocF fs k g hg, List.filter_append]; simp [hh, List.append_assoc]
              unfold moreB at hh
              clear hg
              go_wp2
              go_quiet (fail)
              go_wp2
              have HQ := hideIt (HP.out.drewN nq)
              clear d0 d1 d2 e0 e1 HP
              generalize wr.drewN nq = wq at HQ ⊢
              have e0 := HQ.out.x0.cell
              have e3 := HQ.out.x3.cell
              have f3 := HQ.out.x3.frozen
              have l3 := HQ.out.x3.lt
              have hown := HQ.out.own
              obtain ⟨d0, d1, d2⟩ := HC.out _ HQ.out.below
              have HK : Hid (∀ w1 : World, ((wq.alloc (.cells #[.string g.name, .string g.text, .int .i64 g.kept] 49)).drew).grownBy w1 (Value.slice a' m c').ownBlock →
                  (w1.cell? ⟨w.heap.size, 0, none⟩ = some (.slice (some ⟨b, off, none⟩) n c) ∧ w1.cell? ⟨b, off + k * 3, none⟩ = some (.string g.name) ∧ w1.cell? ⟨b, off + k * 3 + 1, none⟩ = some (.string g.text) ∧ w1.cell? ⟨b, off + k * 3 + 2, none⟩ = some (.int .i64 g.kept)) ∧
                  w1.cell? ⟨w.heap.size + 1 + 1 + 1, 0, none⟩ = some (.slice a' m c') ∧ w1.frozen? ⟨w.heap.size + 1 + 1 + 1, 0, none⟩ = false) := fun w1 hg => by
                have hg' : (wq.alloc (.cells #[.string g.name, .string g.text, .int .i64 g.kept] 49)).grownBy w1 (Value.slice a' m c').ownBlock := ⟨hg.os, hg.tape, hg.output, hg.size, hg.block⟩
                have hrow : ∀ x, x < w.heap.size + 1 + 1 + 1 + 1 → some x ≠ (Value.slice a' m c').ownBlock := fun x hx e => by
                  have := (hown.lt x e.symm).1
                  omega
                have ha := HQ.out.alloc (.cells #[.string g.name, .string g.text, .int .i64 g.kept] 49)
                have y0 := ha.x0.grown hg' (hrow _ (by omega))
                have y3 := ha.x3.grown hg' (hrow _ (by omega))
                have hb1 : Below w.heap.size w w1 := ha.below.grown hg' (by simp; omega) (fun j hj => by have := (hown.lt j hj).1; omega)
                exact ⟨⟨y0.cell, HC.out _ hb1⟩, y3.cell, y3.frozen⟩
              go_region_law (refine step_append_lies _ (by rfl) _ _ _ (by rfl) (w.heap.size + 1 + 1 + 1 + 1) 49 i0 _ 3 40 Try.underlying24 hi hz0 hz1 hz2 rfl (by omega) _ m _ (by rfl) ((hown.alloc _).drew) ⟨wq.heap.size, 0, none⟩ 1 1 [.string g.name, .string g.text, .int .i64 g.kept] (by rfl) (by rfl) (World.news_of_block (cs := #[.string g.name, .string g.text, .int .i64 g.kept]) (t := 49) (fr := (0, 0)) (heap_alloc_new wq _)) (by simp [Value.oneCell']) (by omega) (by unfold maxLen; omega) (by omega) (by simp; omega) (wq.heap.size + 1) (by simp) ?_; intro g1 cap1 w1 hown1 hg1 hat1 hlt1; obtain ⟨S1, z1, z2⟩ := HK.out _ hg1)
              all_goals
                have HN := hideIt (HQ.out.append rfl (o := .cells #[.string g.name, .string g.text, .int .i64 g.kept] 49) hown1 ⟨hg1.os, hg1.tape, hg1.output, hg1.size, hg1.block⟩ (HQ.out.alloc _))
                clear hown1 hg1 hown S1 HK HQ HC
                go_wp2
                exact ⟨⟨k + 1, m + 1, _, _, by omega, by omega, by go_num, by rw [HX.out]; exact HN.out⟩, by simp [intOf]; omega⟩
        · have e : fs.take k = fs := List.take_of_length_le (by omega)
          rw [e] at hp
          have r0 := hp.x2.cell
          have r1 := hp.x2.frozen
          have e3 := hp.x3.cell
          have e0 := hp.x0.cell
          have s1 := (hp.x2.set (.slice a' m c')).cell
          have HO2 := hideIt (own_setLow hp.own (w.heap.size + 1 + 1) 0 (.slice a' m c') (by omega))
          have q3 := hp.below.setCell (p := ⟨w.heap.size + 1 + 1, 0, none⟩) (by show _ ≤ w.heap.size + 1 + 1; omega) (.slice a' m c')
          clear hp e HN
          go_wp2
          exact bodyPost_ret (v := .agg #[.slice a' m c']) (by simp [results, Try.results31, go_sem, s1]) rfl ⟨a', m, c', rfl, own_mono HO2.out (by omega), q3⟩
end Go.Proofs.Ythffflpclmpamaa
namespace Go.Proofs.Ythffflpclmpamaa
open Go.RowKit

/-- an act -/
structure ActV where
  kind : Int
  name : ByteArray
  text : ByteArray
  to : ByteArray

def actV (x : ActV) : Value := .agg #[.int .i64 x.kind, .string x.name, .string x.text, .string x.to]

/-- a name as it must be -/
def NameOk (s : ByteArray) : Prop := 1 ≤ s.size ∧ s.size ≤ 8

/-- the worlds of the two arguments and the answer laid -/
def w3 (w : World) (a : Option Addr) (n c : Nat) (x : ActV) : World :=
  ((w.alloc (.cells #[.slice a n c] 26)).alloc (.cells #[.int .i64 x.kind, .string x.name, .string x.text, .string x.to] 37)).alloc (.cells #[.slice none 0 0] 26)

theorem w3_below (w : World) (a : Option Addr) (n c : Nat) (x : ActV) : Below w.heap.size w (w3 w a n c x) :=
  (((Below.refl _ _).alloc (Nat.le_refl _) _).alloc (by simp) _).alloc (by simp; omega) _
theorem w3_size (w : World) (a : Option Addr) (n c : Nat) (x : ActV) : (w3 w a n c x).heap.size = w.heap.size + 3 := by simp [w3]
theorem w3_fs {w : World} {a : Option Addr} {n c : Nat} {x : ActV} {fs : List FileV} (h : Fs w w.heap.size a n fs) : Fs (w3 w a n c x) (w3 w a n c x).heap.size a n fs := h.up (w3_below w a n c x)

/-- where DoAct stands: her two arguments, her answer, all else as it was -/
structure ActAt (w : World) (a : Option Addr) (n c : Nat) (x : ActV) (u : World) : Prop where
  x0 : Box u w.heap.size 26 (.slice a n c)
  x1 : u.heap[w.heap.size + 1]? = some (.cells #[.int .i64 x.kind, .string x.name, .string x.text, .string x.to] 37 (0, 0))
  x2 : Box u (w.heap.size + 1 + 1) 26 (.slice none 0 0)
  size : w.heap.size + 3 ≤ u.heap.size
  below : Below w.heap.size w u

theorem ActAt.start (w : World) (a : Option Addr) (n c : Nat) (x : ActV) : ActAt w a n c x (w3 w a n c x) := by
  refine ⟨((Box.new w _ _ _ rfl).alloc _).alloc _, ?_, Box.new _ _ _ _ (by simp), by rw [w3_size]; omega, w3_below w a n c x⟩
  have h2 : ((w.alloc (.cells #[.slice a n c] 26)).alloc (.cells #[.int .i64 x.kind, .string x.name, .string x.text, .string x.to] 37)).heap[w.heap.size + 1]? = some (.cells #[.int .i64 x.kind, .string x.name, .string x.text, .string x.to] 37 (0, 0)) := by
    have := heap_alloc_new (w.alloc (.cells #[.slice a n c] 26)) (.cells #[.int .i64 x.kind, .string x.name, .string x.text, .string x.to] 37)
    simpa using this
  unfold w3
  rw [Below.heap_alloc _ _ _ (by simp)]
  exact h2

theorem ActAt.up {w : World} {a : Option Addr} {n c : Nat} {x : ActV} {u u' : World} (h : ActAt w a n c x u) (hb : Below u.heap.size u u') : ActAt w a n c x u' := by
  have := h.size
  exact ⟨h.x0.below hb (by omega), by rw [hb.block _ (by omega)]; exact h.x1, h.x2.below hb (by omega), Nat.le_trans h.size hb.size, h.below.trans (hb.mono (by omega))⟩

theorem ActAt.alloc {w : World} {a : Option Addr} {n c : Nat} {x : ActV} {u : World} (h : ActAt w a n c x u) (o : Obj) : ActAt w a n c x (u.alloc o) := h.up ((Below.refl _ _).alloc (Nat.le_refl _) _)
theorem ActAt.set {w : World} {a : Option Addr} {n c : Nat} {x : ActV} {u : World} (h : ActAt w a n c x u) (G j : Nat) (v : Value) (hG : w.heap.size + 3 ≤ G) : ActAt w a n c x (u.setCell ⟨G, j, none⟩ v) :=
  ⟨h.x0.setOther v (by omega), by rw [heap_setCell_other u ⟨G, j, none⟩ _ v (by show w.heap.size + 1 ≠ G; omega)]; exact h.x1, h.x2.setOther v (by omega), by simpa [World.setCell] using h.size, h.below.setCell (p := ⟨G, j, none⟩) (by show w.heap.size ≤ G; omega) v⟩

theorem ActAt.cells {w : World} {a : Option Addr} {n c : Nat} {x : ActV} {u : World} (h : ActAt w a n c x u) :
    u.cell? ⟨w.heap.size, 0, none⟩ = some (.slice a n c) ∧ u.cell? ⟨w.heap.size + 1, 0, none⟩ = some (.int .i64 x.kind) ∧ u.cell? ⟨w.heap.size + 1, 1, none⟩ = some (.string x.name) ∧ u.cell? ⟨w.heap.size + 1, 2, none⟩ = some (.string x.text) ∧ u.cell? ⟨w.heap.size + 1, 3, none⟩ = some (.string x.to) ∧
      u.cell? ⟨w.heap.size + 1 + 1, 0, none⟩ = some (.slice none 0 0) ∧ u.frozen? ⟨w.heap.size + 1 + 1, 0, none⟩ = false :=
  ⟨h.x0.cell, by rw [cell_of_row u _ 0 _ _ _ h.x1]; rfl, by rw [cell_of_row u _ 1 _ _ _ h.x1]; rfl, by rw [cell_of_row u _ 2 _ _ _ h.x1]; rfl, by rw [cell_of_row u _ 3 _ _ _ h.x1]; rfl, h.x2.cell, h.x2.frozen⟩

/-- what a refusal leaves -/
theorem ActAt.refused {w : World} {a : Option Addr} {n c : Nat} {x : ActV} {u : World} (h : ActAt w a n c x u) :
    (u.setCell ⟨w.heap.size + 1 + 1, 0, none⟩ (.slice none 0 0)).cell? ⟨w.heap.size + 1 + 1, 0, none⟩ = some (.slice none 0 0) ∧ Below w.heap.size w (u.setCell ⟨w.heap.size + 1 + 1, 0, none⟩ (.slice none 0 0)) :=
  ⟨(h.x2.set _).cell, h.below.setCell (p := ⟨w.heap.size + 1 + 1, 0, none⟩) (by show w.heap.size ≤ w.heap.size + 1 + 1; omega) _⟩

set_option maxRecDepth 100000 in
set_option maxHeartbeats 4000000 in
theorem sDoAct_bad (fs : List FileV) (hfit : FitsF fs) (n : Nat) (a : Option Addr) (c : Nat) (hn : n ≤ maxLen) (x : ActV) (w : World) (h : Fs w w.heap.size a n fs) (hd : ¬ DiskR fs) :
    Calls Try.prog 23 #[.agg #[.slice a n c], .agg #[.int .i64 x.kind, .string x.name, .string x.text, .string x.to]] w fun e w' => e = .returned (.tuple #[.agg #[.slice none 0 0], .bool false]) ∧ Below w.heap.size w w' := by
  have H := sDiskOk_any fs hfit n a c hn (w3 w a n c x) (w3_fs h)
  rw [dB_false hd] at H
  have HD := hideIt H
  clear H hd h
  go_enter Try.func23, Try.ntmps23
  go_wp2_with (go_at_call 42; refine (show Calls Try.prog 42 #[.agg #[.slice a n c]] (w3 w a n c x) _ from HD.out).mono ?_; rintro e w1 ⟨rfl, hb1⟩; refine Hid.out ?_)
  refine (show ∀ {p : Prop}, p → Hid p from fun h => h) ?_
  have hA := (ActAt.start w a n c x).up hb1
  obtain ⟨c0, c1, c2, c3, c4, c5, f5⟩ := hA.cells
  obtain ⟨s1, q1⟩ := hA.refused
  clear HD hb1 hA
  go_wp2
  exact bodyPost_ret (v := .tuple #[.agg #[.slice none 0 0], .bool false]) (by simp [results, Try.results23, go_sem, s1]) rfl ⟨rfl, q1⟩

/-- the rest of what is looked at first -/
def ActBad (x : ActV) : Prop := ¬ NameOk x.name ∨ (x.kind ≠ 3 ∧ x.to.size ≠ 0) ∨ (x.kind ≠ 1 ∧ x.text.size ≠ 0)

theorem str_empty {s : ByteArray} (h : s.size = 0) : s.toList.isEmpty = true := by
  have : s.data.toList.length = 0 := by simpa using h
  rw [Lib.toList_data, List.length_eq_zero_iff.1 this]; rfl
theorem str_nonempty {s : ByteArray} (h : s.size ≠ 0) : s.toList.isEmpty = false := by
  rw [Lib.toList_data]
  cases hl : s.data.toList with
  | nil =>
    exfalso
    apply h
    have := congrArg List.length hl
    simpa using this
  | cons x l => rfl

set_option maxRecDepth 100000 in
set_option maxHeartbeats 4000000 in
theorem sDoAct_actbad (fs : List FileV) (hfit : FitsF fs) (n : Nat) (a : Option Addr) (c : Nat) (hn : n ≤ maxLen) (x : ActV) (hxn : x.name.size ≤ maxLen) (w : World) (h : Fs w w.heap.size a n fs) (hd : DiskR fs) (hx : ActBad x) :
    Calls Try.prog 23 #[.agg #[.slice a n c], .agg #[.int .i64 x.kind, .string x.name, .string x.text, .string x.to]] w fun e w' => e = .returned (.tuple #[.agg #[.slice none 0 0], .bool false]) ∧ Below w.heap.size w w' := by
  have H := sDiskOk_any fs hfit n a c hn (w3 w a n c x) (w3_fs h)
  rw [dB_true hd] at H
  have HD := hideIt H
  have HX := hideIt hx
  clear H hd h hx
  go_enter Try.func23, Try.ntmps23
  go_wp2_with (go_at_call 42; refine (show Calls Try.prog 42 #[.agg #[.slice a n c]] (w3 w a n c x) _ from HD.out).mono ?_; rintro e w1 ⟨rfl, hb1⟩; refine Hid.out ?_)
  refine (show ∀ {p : Prop}, p → Hid p from fun h => h) ?_
  have hA := (ActAt.start w a n c x).up hb1
  obtain ⟨c0, c1, c2, c3, c4, c5, f5⟩ := hA.cells
  obtain ⟨s1, q1⟩ := hA.refused
  clear HD hb1 hA
  by_cases hnm : NameOk x.name
  · have HN := hideIt (fun W => l03Name_yes x.name hnm.1 hnm.2 W)
    by_cases k3 : x.kind = 3
    · have d1 : (x.kind != 3) = false := by simp [k3]
      have d3 : (x.kind != 1) = true := by simp [k3]
      have d4 := str_nonempty (s := x.text) (by
        rcases HX.out with h | h | h
        · exact absurd hnm h
        · exact absurd k3 h.1
        · exact h.2)
      clear HX hnm k3
      go_wp2_with (go_at_call 43; refine (HN.out _).mono ?_; rintro e w2 ⟨rfl, rfl⟩)
      exact bodyPost_ret (v := .tuple #[.agg #[.slice none 0 0], .bool false]) (by simp [results, Try.results23, go_sem, s1]) rfl ⟨rfl, q1⟩
    · have d1 : (x.kind != 3) = true := by simp [k3]
      by_cases ht : x.to.size = 0
      · have d2 := str_empty ht
        have hh : x.kind ≠ 1 ∧ x.text.size ≠ 0 := by
          rcases HX.out with h | h | h
          · exact absurd hnm h
          · exact absurd ht h.2
          · exact h
        have d3 : (x.kind != 1) = true := by simp [hh.1]
        have d4 := str_nonempty hh.2
        clear HX hnm k3 hh ht
        go_wp2_with (go_at_call 43; refine (HN.out _).mono ?_; rintro e w2 ⟨rfl, rfl⟩)
        exact bodyPost_ret (v := .tuple #[.agg #[.slice none 0 0], .bool false]) (by simp [results, Try.results23, go_sem, s1]) rfl ⟨rfl, q1⟩
      · have d2 := str_nonempty ht
        clear HX hnm k3 ht
        go_wp2_with (go_at_call 43; refine (HN.out _).mono ?_; rintro e w2 ⟨rfl, rfl⟩)
        exact bodyPost_ret (v := .tuple #[.agg #[.slice none 0 0], .bool false]) (by simp [results, Try.results23, go_sem, s1]) rfl ⟨rfl, q1⟩
  · have HN := hideIt (fun W => l03Name_no x.name hxn (by unfold NameOk at hnm; omega) W)
    clear HX hnm
    go_wp2_with (go_at_call 43; refine (HN.out _).mono ?_; rintro e w2 ⟨rfl, rfl⟩)
    exact bodyPost_ret (v := .tuple #[.agg #[.slice none 0 0], .bool false]) (by simp [results, Try.results23, go_sem, s1]) rfl ⟨rfl, q1⟩
end Go.Proofs.Ythffflpclmpamaa
namespace Go.Proofs.Ythffflpclmpamaa
open Go.RowKit

/-- disk and act are as they must be -/
structure ActFine (fs : List FileV) (x : ActV) : Prop where
  disk : DiskR fs
  name : NameOk x.name
  to : x.kind = 3 ∨ x.to.size = 0
  text : x.kind = 1 ∨ x.text.size = 0

theorem ActFine.d1 {fs : List FileV} {x : ActV} (h : ActFine fs x) : (x.kind != 3 && !x.to.toList.isEmpty) = false := by
  rcases h.to with h | h
  · simp [h]
  · simp [str_empty h]
theorem ActFine.d2 {fs : List FileV} {x : ActV} (h : ActFine fs x) : (x.kind != 1 && !x.text.toList.isEmpty) = false := by
  rcases h.text with h | h
  · simp [h]
  · simp [str_empty h]

theorem disk_n {fs : List FileV} {n : Nat} {w : World} {B : Nat} {a : Option Addr} (hd : DiskR fs) (h : Fs w B a n fs) : n ≤ 30 := by rw [← h.1]; exact hd.1

/-- the four looks at kind, To and Text, decided -/
def Looks (x : ActV) (p q r t : Bool) : Prop := (x.kind != 3) = p ∧ x.to.toList.isEmpty = q ∧ (x.kind != 1) = r ∧ x.text.toList.isEmpty = t

theorem looks3 {fs : List FileV} {x : ActV} (h : ActFine fs x) (hk : x.kind = 3) : ∃ q, Looks x false q true true :=
  ⟨_, by simp [hk], rfl, by simp [hk], str_empty (by rcases h.text with h | h <;> omega)⟩
theorem looks1 {fs : List FileV} {x : ActV} (h : ActFine fs x) (hk : x.kind = 1) : ∃ t, Looks x true true false t :=
  ⟨_, by simp [hk], str_empty (by rcases h.to with h | h <;> omega), by simp [hk], rfl⟩
theorem looks0 {fs : List FileV} {x : ActV} (h : ActFine fs x) (h1 : x.kind ≠ 1) (h3 : x.kind ≠ 3) : Looks x true true true true :=
  ⟨by simp [h3], str_empty (by rcases h.to with h | h <;> omega), by simp [h1], str_empty (by rcases h.text with h | h <;> omega)⟩

set_option maxRecDepth 100000 in
set_option maxHeartbeats 4000000 in
theorem sDoAct_none (fs : List FileV) (hfit : FitsF fs) (n : Nat) (a : Option Addr) (c : Nat) (x : ActV) (w : World) (h : Fs w w.heap.size a n fs) (hf : ActFine fs x) (hk : x.kind ≠ 1) (hat : atN fs x.name = none) :
    Calls Try.prog 23 #[.agg #[.slice a n c], .agg #[.int .i64 x.kind, .string x.name, .string x.text, .string x.to]] w fun e w' => e = .returned (.tuple #[.agg #[.slice none 0 0], .bool false]) ∧ Below w.heap.size w w' := by
  have hn30 := disk_n hf.disk h
  have hnm : n ≤ maxLen := by unfold maxLen; omega
  have H := sDiskOk_any fs hfit n a c hnm (w3 w a n c x) (w3_fs h)
  rw [dB_true hf.disk] at H
  have HD := hideIt H
  have HN := hideIt (fun W => l03Name_yes x.name hf.name.1 hf.name.2 W)
  have HF := hideIt h
  have hl : (∃ q, Looks x false q true true) ∨ Looks x true true true true := by
    by_cases h3 : x.kind = 3
    · exact .inl (looks3 hf h3)
    · exact .inr (looks0 hf hk h3)
  have dk : (x.kind == 1) = false := by simp [hk]
  have HA := hideIt hat
  clear H h hf hk hat
  rcases hl with ⟨q, l1, l2, l3, l4⟩ | ⟨l1, l2, l3, l4⟩
  all_goals
    go_enter Try.func23, Try.ntmps23
    go_wp2_with (go_at_call 42; refine (show Calls Try.prog 42 #[.agg #[.slice a n c]] (w3 w a n c x) _ from HD.out).mono ?_; rintro e w1 ⟨rfl, hb1⟩; refine Hid.out ?_)
    refine (show ∀ {p : Prop}, p → Hid p from fun h => h) ?_
    have hA := (ActAt.start w a n c x).up hb1
    obtain ⟨c0, c1, c2, c3, c4, c5, f5⟩ := hA.cells
    have HAt := hideIt hA
    have HL := l03At_any fs x.name n a c hnm w1 ((w3_fs (c := c) (x := x) HF.out).up hb1)
    rw [HA.out] at HL
    have HLh := hideIt HL
    unfold atI at HLh
    clear HD hb1 hA HL
    go_wp2_with (first | (go_at_call 43; refine (HN.out _).mono ?_; rintro e w2 ⟨rfl, rfl⟩) | (go_at_call 44; refine HLh.out.mono ?_; rintro e w2 ⟨rfl, hb2⟩; refine Hid.out ?_))
    refine (show ∀ {p : Prop}, p → Hid p from fun h => h) ?_
    have hA := ((HAt.out.up hb2).alloc (.cells #[.string x.name, .string ⟨#[]⟩, .int .i64 0] 49)).alloc (.cells #[.slice none 0 0] 26)
    have hA0 := HAt.out.up hb2
    have hB := hA0.x2.set (.slice none 0 0)
    have s1 := ((hB.alloc (.cells #[.string x.name, .string ⟨#[]⟩, .int .i64 0] 49)).alloc (.cells #[.slice none 0 0] 26)).cell
    have q1 := (hA0.refused.2.alloc (by have := hA0.size; simp [World.setCell]; omega) (.cells #[.string x.name, .string ⟨#[]⟩, .int .i64 0] 49)).alloc (by have := hA0.size; simp [World.setCell]; omega) (.cells #[.slice none 0 0] 26)
    clear hB
    have m0 : w.heap.size < w2.heap.size := by have := hA0.size; omega
    have m1 : w.heap.size + 1 < w2.heap.size := by have := hA0.size; omega
    have m2 : w.heap.size + 1 + 1 < w2.heap.size := by have := hA0.size; omega
    clear c0 c1 c2 c3 c4 c5 f5
    obtain ⟨c0, c1, c2, c3, c4, c5, f5⟩ := hA0.cells
    clear HLh hb2 hA HAt hA0
    go_wp2
    exact bodyPost_ret (v := .tuple #[.agg #[.slice none 0 0], .bool false]) (by simp [results, Try.results23, go_sem, s1]) rfl ⟨rfl, q1⟩
end Go.Proofs.Ythffflpclmpamaa
