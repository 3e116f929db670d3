/- Files in a list, and what the laws' own functions over disks answer. -/
import Derived.Test.YtibcdpnodikpiaiRows
import Derived.WalkKit
import Derived.WalkSpells
import Derived.WalkSmall
import Derived.OwnWalk
import Derived.BigQuiet
import Derived.Deep.QuietTactic
import Derived.Deep.MidRow
import Derived.Deep.RegionHeld3
namespace Go.Proofs.Ytibcdpnodikpiai
open Go.RowKit

theorem hideIt {p : Prop} (h : p) : Hid p := h

/-- a file -/
structure FileV where
  name : ByteArray
  text : ByteArray
  kept : Int

/-- the list of files fs stands at a, n of them, below block B -/
def Fs (w : World) (B : Nat) (a : Option Addr) (n : Nat) (fs : List FileV) : Prop :=
  fs.length = n ∧ (n = 0 ∨ ∃ b off, a = some ⟨b, off, none⟩ ∧ b < B ∧ ∀ j f, fs[j]? = some f →
    w.cell? ⟨b, off + j * 3, none⟩ = some (.string f.name) ∧ w.cell? ⟨b, off + j * 3 + 1, none⟩ = some (.string f.text) ∧ w.cell? ⟨b, off + j * 3 + 2, none⟩ = some (.int .i64 f.kept))

/-- what is left of a measure behind a file -/
def szF (left : Int) (f : FileV) : Int := if left - f.name.size < 0 then -1 else if left - f.name.size - f.text.size < 0 then -1 else left - f.name.size - f.text.size

theorem szFile_any (f : FileV) (left : Int) (h0 : -1 ≤ left) (h1 : left ≤ 1048576) (hn : f.name.size ≤ maxLen) (ht : f.text.size ≤ maxLen) (w : World) :
    Calls Try.prog 51 #[.agg #[.string f.name, .string f.text, .int .i64 f.kept], .int .i64 left] w fun e w' => e = .returned (.int .i64 (szF left f)) ∧ Below w.heap.size w w' := by
  unfold maxLen at hn ht
  obtain ⟨nm, tx, kp⟩ := f
  dsimp only at hn ht ⊢
  unfold szF
  dsimp only
  by_cases g1 : left - nm.size < 0
  · rw [if_pos g1]
    have d1 : decide (left - (nm.size : Int) < 0) = true := by simp; omega
    go_enter Try.func51, Try.ntmps51
    go_wp2
    go_ret
    exact ⟨rfl, (Below.refl _ _).alloc (Nat.le_refl _) _⟩
  · rw [if_neg g1]
    by_cases g2 : left - nm.size - tx.size < 0
    · rw [if_pos g2]
      go_enter Try.func51, Try.ntmps51
      go_wp2
      go_ret
      exact ⟨rfl, (Below.refl _ _).alloc (Nat.le_refl _) _⟩
    · rw [if_neg g2]
      go_enter Try.func51, Try.ntmps51
      go_wp2
      go_ret
      exact ⟨rfl, (Below.refl _ _).alloc (Nat.le_refl _) _⟩

/-- the letters of a list of files -/
def letters (fs : List FileV) : Nat := (fs.map fun f => f.name.size + f.text.size).sum
theorem letters_snoc (fs : List FileV) (f : FileV) : letters (fs ++ [f]) = letters fs + (f.name.size + f.text.size) := by simp [letters]

theorem take_snocF {α : Type} (fs : List α) (k : Nat) (f : α) (h : fs[k]? = some f) : fs.take (k + 1) = fs.take k ++ [f] := by
  obtain ⟨hk, rfl⟩ := List.getElem?_eq_some_iff.1 h
  rw [List.take_succ_eq_append_getElem hk]

theorem letters_take (fs : List FileV) (k : Nat) : letters (fs.take k) ≤ letters fs := by
  have h := congrArg letters (List.take_append_drop k fs)
  have e : ∀ a b : List FileV, letters (a ++ b) = letters a + letters b := fun a b => by simp [letters]
  have := e (fs.take k) (fs.drop k)
  omega

theorem szF_yes (left : Int) (f : FileV) (h : 0 ≤ left - f.name.size - f.text.size) : szF left f = left - f.name.size - f.text.size := by
  unfold szF; rw [if_neg (by omega), if_neg (by omega)]
theorem szF_no (left : Int) (f : FileV) (h : left - f.name.size - f.text.size < 0) : szF left f = -1 := by
  unfold szF
  by_cases g : left - f.name.size < 0
  · rw [if_pos g]
  · rw [if_neg g, if_pos h]

/-- what is left of a measure behind a list of files -/
def szFs (left : Int) (fs : List FileV) : Int := if (fs.length : Int) + letters fs ≤ left then left - fs.length - letters fs else -1

theorem szFs_no (left : Int) (fs : List FileV) (h : ¬ (fs.length : Int) + letters fs ≤ left) : szFs left fs = -1 := by unfold szFs; rw [if_neg h]
theorem szFs_yes (left : Int) (fs : List FileV) (h : (fs.length : Int) + letters fs ≤ left) : szFs left fs = left - fs.length - letters fs := by unfold szFs; rw [if_pos h]

/-- the texts of the files are short enough for any machine -/
def FitsF (fs : List FileV) : Prop := ∀ f ∈ fs, f.name.size ≤ maxLen ∧ f.text.size ≤ maxLen

set_option maxHeartbeats 1000000 in
theorem szFileS_any (fs : List FileV) (hfit : FitsF fs) (left : Int) (h0 : -1 ≤ left) (h1 : left ≤ 1048576) (n : Nat) (a : Option Addr) (cap : Nat) (hn : n ≤ maxLen) (w : World) (hfs : Fs w w.heap.size a n fs) :
    Calls Try.prog 32 #[.slice a n cap, .int .i64 left] w fun e w' => e = .returned (.int .i64 (szFs left fs)) ∧ Below w.heap.size w w' := by
  unfold maxLen at hn
  obtain ⟨hlen, hrow⟩ := hfs
  by_cases g0 : left - n < 0
  · rw [szFs_no left fs (by omega)]
    have d1 : decide (left - (n : Int) < 0) = true := by simp; omega
    clear hrow
    go_enter Try.func32, Try.ntmps32
    go_wp2
    go_ret
    exact ⟨rfl, Below.refl _ _⟩
  · have d1 : decide (left - (n : Int) < 0) = false := by simp; omega
    have HR := hideIt hrow
    have HF := hideIt hfit
    clear hrow hfit
    go_enter Try.func32, Try.ntmps32
    go_wp2
    go_loopw [1, 5] (fun l i wr => ∃ (k : Nat) (q : Int), k ≤ n ∧ i = .int .i64 (k : Int) ∧ l = .int .i64 q ∧ Hid (q = left - n - letters (fs.take k)) ∧ 0 ≤ q ∧ q ≤ 1048576 ∧ Below w.heap.size w wr)
      (fun _ i _ => n - (intOf i).toNat)
    case atStart => exact ⟨0, _, by omega, rfl, rfl, by show _ = _; simp [letters], by omega, by omega, Below.refl _ _⟩
    case round =>
      obtain ⟨k, q, hk, rfl, rfl, hq, q0, q1, hb⟩ := hrel
      by_cases hlt : k < n
      · rcases HR.out with hz | ⟨b, off, rfl, hbl, hc⟩
        · omega
        · obtain ⟨f, hf⟩ : ∃ f, fs[k]? = some f := ⟨fs[k]'(by omega), List.getElem?_eq_getElem (by omega)⟩
          obtain ⟨c0, c1, c2⟩ := hc k f hf
          have e0 : wr.cell? ⟨b, off + k * 3, none⟩ = some (.string f.name) := by rw [hb.cell hbl]; exact c0
          have e1 : wr.cell? ⟨b, off + k * 3 + 1, none⟩ = some (.string f.text) := by rw [hb.cell hbl]; exact c1
          have e2 : wr.cell? ⟨b, off + k * 3 + 2, none⟩ = some (.int .i64 f.kept) := by rw [hb.cell hbl]; exact c2
          have b1 : (0 : Int) ≤ (k : Int) := by omega
          have b2 : (k : Int) < (n : Int) := by omega
          have hfit := HF.out f (List.mem_of_getElem? hf)
          have HS := hideIt (szFile_any f q (by omega) q1 hfit.1 hfit.2 wr)
          clear c0 c1 c2 hc
          have HT := hideIt (take_snocF fs k f hf)
          clear hf
          by_cases g1 : q - f.name.size - f.text.size < 0
          · have HL : Hid (¬ (fs.length : Int) + letters fs ≤ left) := by
              have h1 := letters_take fs (k + 1)
              rw [HT.out, letters_snoc] at h1
              have h2 := hq.out
              show ¬ _
              omega
            have hsz := szF_no q f g1
            rw [hsz] at HS
            go_wp2_with (go_at_call 51; refine HS.out.mono ?_; rintro e w1 ⟨rfl, hb1⟩)
            go_ret
            exact ⟨by rw [szFs_no left fs (by have := HL.out; omega)]; rfl, hb.trans (hb1.mono hb.size)⟩
          · have hsz := szF_yes q f (by omega)
            rw [hsz] at HS
            have d2 : decide (q - (f.name.size : Int) - (f.text.size : Int) < 0) = false := by simp; omega
            go_wp2_with (go_at_call 51; refine HS.out.mono ?_; rintro e w1 ⟨rfl, hb1⟩)
            go_roundw
            case rel => exact ⟨k + 1, _, by omega, by go_num, rfl, by show _ = _; rw [HT.out, letters_snoc, hq.out]; omega, by omega, by omega, hb.trans (hb1.mono hb.size)⟩
            case measure => simp [intOf]; omega
      · have e : fs.take k = fs := List.take_of_length_le (by omega)
        have HE : Hid (q = left - n - letters fs) := by show _ = _; rw [← e]; exact hq.out
        clear hq e
        go_wp2
        go_ret
        exact ⟨by rw [szFs_yes left fs (by have := HE.out; omega), HE.out, ← hlen]; rfl, hb⟩

theorem szFs_pos (left : Int) (fs : List FileV) : szFs left fs = -1 ∨ (0 ≤ szFs left fs ∧ (fs.length : Int) + letters fs ≤ left) := by
  by_cases h : (fs.length : Int) + letters fs ≤ left
  · exact .inr ⟨by rw [szFs_yes left fs h]; omega, h⟩
  · exact .inl (szFs_no left fs h)

theorem Fs.alloc {w : World} {B : Nat} {a : Option Addr} {n : Nat} {fs : List FileV} (h : Fs w B a n fs) (hB : B ≤ w.heap.size) (o : Obj) : Fs (w.alloc o) B a n fs := by
  refine ⟨h.1, h.2.imp id ?_⟩
  rintro ⟨b, off, ha, hb, hc⟩
  refine ⟨b, off, ha, hb, fun j f hf => ?_⟩
  have hbl : b < w.heap.size := by omega
  obtain ⟨c0, c1, c2⟩ := hc j f hf
  exact ⟨by rw [World.cell?_of_block (w := w) (Below.heap_alloc w o b hbl)]; exact c0, by rw [World.cell?_of_block (w := w) (Below.heap_alloc w o b hbl)]; exact c1, by rw [World.cell?_of_block (w := w) (Below.heap_alloc w o b hbl)]; exact c2⟩

theorem Fs.below {w w' : World} {B C : Nat} {a : Option Addr} {n : Nat} {fs : List FileV} (h : Fs w B a n fs) (hb : Below C w w') (hB : B ≤ C) : Fs w' B a n fs := by
  refine ⟨h.1, h.2.imp id ?_⟩
  rintro ⟨b, off, ha, hbl, hc⟩
  refine ⟨b, off, ha, hbl, fun j f hf => ?_⟩
  obtain ⟨c0, c1, c2⟩ := hc j f hf
  have hl : b < C := by omega
  exact ⟨by rw [hb.cell (p := ⟨b, _, none⟩) hl]; exact c0, by rw [hb.cell (p := ⟨b, _, none⟩) hl]; exact c1, by rw [hb.cell (p := ⟨b, _, none⟩) hl]; exact c2⟩

theorem Fs.mono {w : World} {B C : Nat} {a : Option Addr} {n : Nat} {fs : List FileV} (h : Fs w B a n fs) (hB : B ≤ C) : Fs w C a n fs := by
  refine ⟨h.1, h.2.imp id ?_⟩
  rintro ⟨b, off, ha, hbl, hc⟩
  exact ⟨b, off, ha, by omega, hc⟩

theorem szDisk_any (fs : List FileV) (hfit : FitsF fs) (left : Int) (h0 : -1 ≤ left) (h1 : left ≤ 1048576) (n : Nat) (a : Option Addr) (cap : Nat) (hn : n ≤ maxLen) (w : World) (hfs : Fs w w.heap.size a n fs) :
    Calls Try.prog 8 #[.agg #[.slice a n cap], .int .i64 left] w fun e w' => e = .returned (.int .i64 (szFs left fs)) ∧ Below w.heap.size w w' := by
  have hp := szFs_pos left fs
  have HS := hideIt (szFileS_any fs hfit left h0 h1 n a cap hn (w.alloc (.cells #[.slice a n cap] 24)) ((hfs.alloc (Nat.le_refl _) _).mono (by simp)))
  clear hfs hfit
  generalize szFs left fs = r at *
  by_cases g : r < 0
  · obtain rfl : r = -1 := by omega
    clear hp
    go_enter Try.func8, Try.ntmps8
    go_wp2_with (go_at_call 32; refine HS.out.mono ?_; rintro e w1 ⟨rfl, hb1⟩)
    go_ret
    exact ⟨rfl, ((Below.refl _ _).alloc (Nat.le_refl _) _).trans (hb1.mono (by simp))⟩
  · have d1 : decide (r < 0) = false := by simp; omega
    clear hp
    go_enter Try.func8, Try.ntmps8
    go_wp2_with (go_at_call 32; refine HS.out.mono ?_; rintro e w1 ⟨rfl, hb1⟩)
    go_ret
    exact ⟨rfl, ((Below.refl _ _).alloc (Nat.le_refl _) _).trans (hb1.mono (by simp))⟩

theorem toFile_any (f : FileV) (w : World) :
    Calls Try.prog 52 #[.agg #[.string f.name, .string f.text, .int .i64 f.kept]] w fun e w' => e = .returned (.agg #[.string f.name, .string f.text, .int .i64 f.kept]) ∧ Below w.heap.size w w' := by
  go_enter Try.func52, Try.ntmps52
  go_wp2
  exact bodyPost_ret (v := .agg #[.string f.name, .string f.text, .int .i64 f.kept]) (by simp [results, Try.results52, go_sem]) rfl ⟨rfl, (((Below.refl _ _).alloc (Nat.le_refl _) _).alloc (by simp) _).alloc (by simp; omega) _⟩

/-- the cells of a file -/
def fcell (f : FileV) : List Value := [.string f.name, .string f.text, .int .i64 f.kept]
/-- the cells of a list of files -/
def fcells (fs : List FileV) : List Value := fs.flatMap fcell

theorem fcells_length (fs : List FileV) : (fcells fs).length = fs.length * 3 := by
  induction fs with
  | nil => rfl
  | cons f fs ih => simp only [fcells, List.flatMap_cons, List.length_append, List.length_cons] at ih ⊢; rw [ih]; simp [fcell]; omega

theorem fcells_at (fs : List FileV) (j : Nat) (f : FileV) (h : fs[j]? = some f) :
    (fcells fs)[j * 3]? = some (.string f.name) ∧ (fcells fs)[j * 3 + 1]? = some (.string f.text) ∧ (fcells fs)[j * 3 + 2]? = some (.int .i64 f.kept) := by
  induction fs generalizing j with
  | nil => simp at h
  | cons g fs ih =>
    cases j with
    | zero => simp at h; subst h; simp [fcells, fcell]
    | succ j =>
      have h2 := ih j (by simpa using h)
      have e : ∀ m, (fcells (g :: fs))[m + 3]? = (fcells fs)[m]? := fun m => by simp [fcells, fcell]
      refine ⟨?_, ?_, ?_⟩
      · rw [show (j + 1) * 3 = j * 3 + 3 by omega, e]; exact h2.1
      · rw [show (j + 1) * 3 + 1 = j * 3 + 1 + 3 by omega, e]; exact h2.2.1
      · rw [show (j + 1) * 3 + 2 = j * 3 + 2 + 3 by omega, e]; exact h2.2.2

theorem take_set3 {α : Type} (xs : List α) (m : Nat) (a b c : α) (h : m + 3 ≤ xs.length) : (((xs.set m a).set (m + 1) b).set (m + 2) c).take (m + 3) = xs.take m ++ [a, b, c] := by
  apply List.ext_getElem?
  intro i
  have hl : (xs.take m).length = m := by simp; omega
  by_cases h1 : i < m
  · rw [List.getElem?_append_left (by omega), List.getElem?_take_of_lt h1, List.getElem?_take_of_lt (by omega), List.getElem?_set_ne (by omega), List.getElem?_set_ne (by omega), List.getElem?_set_ne (by omega)]
  · rw [List.getElem?_append_right (by omega), hl]
    by_cases h2 : i < m + 3
    · rw [List.getElem?_take_of_lt h2]
      rcases (show i = m ∨ i = m + 1 ∨ i = m + 2 by omega) with rfl | rfl | rfl
      · rw [List.getElem?_set_ne (by omega), List.getElem?_set_ne (by omega), List.getElem?_set_self (by omega)]; simp
      · rw [List.getElem?_set_ne (by omega), List.getElem?_set_self (by simp; omega)]; simp
      · rw [List.getElem?_set_self (by simp; omega)]; simp
    · rw [List.getElem?_eq_none (by simp; omega), List.getElem?_eq_none (by simp; omega)]

theorem fcells_snoc (fs : List FileV) (f : FileV) : fcells (fs ++ [f]) = fcells fs ++ [.string f.name, .string f.text, .int .i64 f.kept] := by simp [fcells, fcell]

theorem infoIF : (Try.prog.info? 63).map (fun i => (i.zero, i.size, i.bytes)) = some (some (.agg #[.string .empty, .string .empty, .int .i64 0]), 3, 40) := by kernel_rfl

set_option maxHeartbeats 1000000 in
theorem toFileS_any (fs : List FileV) (n : Nat) (a : Option Addr) (cap : Nat) (hn : n ≤ 1048576) (w : World) (hfs : Fs w w.heap.size a n fs) :
    Calls Try.prog 38 #[.slice a n cap] w fun e w' => ∃ g, e = .returned (.slice (some ⟨g, 0, none⟩) n n) ∧ w'.ownsRow w.heap.size 63 3 (.slice (some ⟨g, 0, none⟩) n n) n (fcells fs) ∧ Below w.heap.size w w' := by
  obtain ⟨i0, hi, hz0, hz1, hz2⟩ := info_parts infoIF
  obtain ⟨hlen, hrow⟩ := hfs
  have hmk : ∀ u : World, (Instr.makeSlice 29 (.int .i64 (n : Int)) (.int .i64 (n : Int))).run Try.prog u =
      .ok (.slice (some ⟨u.heap.size, 0, none⟩) n n) (u.alloc (.cells (madeCells #[.string .empty, .string .empty, .int .i64 0] (n * 3)) 63)) := fun u => by
    have h := run_make (P := Try.prog) u 29 63 i0 _ Try.underlying29 hi hz0 .i64 .i64 (n : Int) (n : Int) (by omega) (by omega) (by rw [hz2]; omega) (by omega)
    rw [Int.toNat_natCast] at h
    simpa [hz1, Value.cells] using h
  have HR := hideIt hrow
  clear hrow
  go_enter Try.func38, Try.ntmps38
  go_wp2
  go_loopw [4] (fun i wr => ∃ (k : Nat) (xs : List Value), k ≤ n ∧ i = .int .i64 (k : Int) ∧ Hid (xs.take (k * 3) = fcells (fs.take k)) ∧ wr.ownsRow w.heap.size 63 3 (.slice (some ⟨w.heap.size, 0, none⟩) n n) n xs ∧ Below w.heap.size w wr)
    (fun i _ => n - (intOf i).toNat)
  case atStart => exact ⟨0, _, by omega, rfl, by show _ = _; simp [fcells], World.ownsRow_lit (base := w.heap.size) (e := 63) (size := 3) w (madeCells #[.string .empty, .string .empty, .int .i64 0] (n * 3)) n (Nat.le_refl _) (by unfold maxLen; omega) (by simp [madeCells]), (Below.refl _ _).alloc (Nat.le_refl _) _⟩
  case round =>
    obtain ⟨k, xs, hk, rfl, hx, hown, hb⟩ := hrel
    by_cases hlt : k < n
    · rcases HR.out with hz | ⟨b, off, rfl, hbl, hc⟩
      · omega
      · obtain ⟨f, hf⟩ : ∃ f, fs[k]? = some f := ⟨fs[k]'(by omega), List.getElem?_eq_getElem (by omega)⟩
        obtain ⟨c0, c1, c2⟩ := hc k f hf
        have e0 : wr.cell? ⟨b, off + k * 3, none⟩ = some (.string f.name) := by rw [hb.cell hbl]; exact c0
        have e1 : wr.cell? ⟨b, off + k * 3 + 1, none⟩ = some (.string f.text) := by rw [hb.cell hbl]; exact c1
        have e2 : wr.cell? ⟨b, off + k * 3 + 2, none⟩ = some (.int .i64 f.kept) := by rw [hb.cell hbl]; exact c2
        have b1 : (0 : Int) ≤ (k : Int) := by omega
        have b2 : (k : Int) < (n : Int) := by omega
        have HT := hideIt (toFile_any f wr)
        have HTk := hideIt (take_snocF fs k f hf)
        clear c0 c1 c2 hc hf
        go_wp2_with (go_at_call 52; refine HT.out.mono ?_; rintro e w1 ⟨rfl, hb1⟩; refine Hid.out ?_)
        refine (show ∀ {p : Prop}, p → Hid p from fun h => h) ?_
        have hg1 : wr.grownBy w1 none := ⟨hb1.os, hb1.tape, hb1.output, hb1.size, fun i hi _ => hb1.block i hi⟩
        have hown1 := World.ownsRow.kept hown hg1 (.inr (by simp [Value.ownBlock]))
        have hl3 : xs.length = n * 3 := hown1.1
        have f0 := hown1.frozenAt (k * 3)
        have f1 := hown1.frozenAt (k * 3 + 1)
        have f2 := hown1.frozenAt (k * 3 + 2)
        have x0 : w1.cell? ⟨w.heap.size, k * 3, none⟩ = some (xs[k * 3]'(by omega)) := by rw [hown1.cellAt (k * 3) (by omega)]; exact List.getElem?_eq_getElem (by omega)
        have x1 : w1.cell? ⟨w.heap.size, k * 3 + 1, none⟩ = some (xs[k * 3 + 1]'(by omega)) := by rw [hown1.cellAt (k * 3 + 1) (by omega)]; exact List.getElem?_eq_getElem (by omega)
        have x2 : w1.cell? ⟨w.heap.size, k * 3 + 2, none⟩ = some (xs[k * 3 + 2]'(by omega)) := by rw [hown1.cellAt (k * 3 + 2) (by omega)]; exact List.getElem?_eq_getElem (by omega)
        clear e0 e1 e2 HT
        go_wp2
        refine ⟨⟨k + 1, ((xs.set (k * 3) (.string f.name)).set (k * 3 + 1) (.string f.text)).set (k * 3 + 2) (.int .i64 f.kept), by omega, by go_num, ?_, ?_, ?_⟩, by simp [intOf]; omega⟩
        · show _ = _
          rw [show (k + 1) * 3 = k * 3 + 3 by omega, take_set3 _ _ _ _ _ (by omega), hx.out, HTk.out, fcells_snoc]
        · exact (((hown1.stored (k * 3) _).1.stored (k * 3 + 1) _).1.stored (k * 3 + 2) _).1
        · exact (((hb.trans (hb1.mono hb.size)).setCell (Nat.le_refl _) _).setCell (Nat.le_refl _) _).setCell (Nat.le_refl _) _
    · have e : fs.take k = fs := List.take_of_length_le (by omega)
      have hl3 : xs.length = n * 3 := hown.1
      have HX : Hid (xs = fcells fs) := by
        show _ = _
        have := hx.out
        rw [e, List.take_of_length_le (by omega)] at this
        exact this
      have HO := hideIt hown
      clear hx e hown hl3
      go_wp2
      go_ret
      exact ⟨w.heap.size, rfl, by rw [← HX.out]; exact HO.out, hb⟩

theorem bcell {W w1 : World} (hb : Below W.heap.size W w1) : (∀ b o, b < W.heap.size → w1.cell? ⟨b, o, none⟩ = W.cell? ⟨b, o, none⟩) ∧ (∀ b o, b < W.heap.size → w1.frozen? ⟨b, o, none⟩ = W.frozen? ⟨b, o, none⟩) :=
  ⟨fun b o h => hb.cell (p := ⟨b, o, none⟩) h, fun b o h => hb.frozen (p := ⟨b, o, none⟩) h⟩

/-- a list of one's own reads as its files -/
theorem Fs_of_own {w : World} {B g n cap : Nat} {fs : List FileV} (h : w.ownsRow B 63 3 (.slice (some ⟨g, 0, none⟩) n cap) n (fcells fs)) : Fs w w.heap.size (some ⟨g, 0, none⟩) n fs := by
  have hl := h.1
  rw [fcells_length] at hl
  refine ⟨by omega, ?_⟩
  by_cases h0 : n = 0
  · exact .inl h0
  · refine .inr ⟨g, 0, rfl, (h.lt g rfl).2, fun j f hf => ?_⟩
    have hj : j < fs.length := (List.getElem?_eq_some_iff.1 hf).1
    obtain ⟨c0, c1, c2⟩ := fcells_at fs j f hf
    rw [Nat.zero_add]
    exact ⟨by rw [h.cellAt (j * 3) (by omega)]; exact c0, by rw [h.cellAt (j * 3 + 1) (by omega)]; exact c1, by rw [h.cellAt (j * 3 + 2) (by omega)]; exact c2⟩

theorem grownSet (w : World) (G j : Nat) (u : Value) : w.grownBy (w.setCell ⟨G, j, none⟩ u) (some G) :=
  ⟨rfl, rfl, rfl, by simp [World.setCell], fun k _ hk => heap_setCell_other w ⟨G, j, none⟩ k u (fun e => hk (by simp [e]))⟩

theorem own_setOther {w : World} {B e s g n cap : Nat} {xs : List Value} (h : w.ownsRow B e s (.slice (some ⟨g, 0, none⟩) n cap) n xs) (G j : Nat) (u : Value) (hG : g ≠ G) :
    (w.setCell ⟨G, j, none⟩ u).ownsRow B e s (.slice (some ⟨g, 0, none⟩) n cap) n xs :=
  World.ownsRow.kept h (grownSet w G j u) (.inr (by simp [Value.ownBlock]; exact fun e => hG e))

theorem own_mono {w : World} {B B' e s n : Nat} {v : Value} {xs : List Value} (h : w.ownsRow B e s v n xs) (hB : B' ≤ B) : w.ownsRow B' e s v n xs :=
  ⟨h.1, h.2.imp id (fun ⟨g, cap, cur, a, b, rest⟩ => ⟨g, cap, cur, a, Nat.le_trans hB b, rest⟩)⟩

theorem toDisk_any (fs : List FileV) (n : Nat) (a : Option Addr) (cap : Nat) (hn : n ≤ 1048576) (w : World) (hfs : Fs w w.heap.size a n fs) :
    Calls Try.prog 11 #[.agg #[.slice a n cap]] w fun e w' => ∃ g, e = .returned (.agg #[.slice (some ⟨g, 0, none⟩) n n]) ∧ w'.ownsRow w.heap.size 63 3 (.slice (some ⟨g, 0, none⟩) n n) n (fcells fs) ∧ Below w.heap.size w w' := by
  have hfs3 : Fs (((w.alloc (.cells #[.slice a n cap] 24)).alloc (.cells #[.slice none 0 0] 31)).alloc (.cells #[.slice none 0 0] 31)) (((w.alloc (.cells #[.slice a n cap] 24)).alloc (.cells #[.slice none 0 0] 31)).alloc (.cells #[.slice none 0 0] 31)).heap.size a n fs :=
    (((hfs.alloc (Nat.le_refl _) _).alloc (by simp) _).alloc (by simp; omega) _).mono (by simp; omega)
  have HT := hideIt (toFileS_any fs n a cap hn _ hfs3)
  clear hfs hfs3
  go_enter Try.func11, Try.ntmps11
  go_wp2_with (go_at_call 38; refine HT.out.mono ?_; rintro e w1 ⟨g, rfl, hown, hb1⟩; refine Hid.out ?_)
  refine (show ∀ {p : Prop}, p → Hid p from fun h => h) ?_
  obtain ⟨hc, hf⟩ := bcell hb1
  have HO := hideIt hown
  have hgl := hown.lt g rfl
  have hz := hb1.size
  clear hown HT
  simp at hz hgl
  go_wp2
  refine bodyPost_ret (v := .agg #[.slice (some ⟨g, 0, none⟩) n n]) (by simp [results, Try.results11, go_sem, hc]) rfl ⟨g, rfl, ?_, ?_⟩
  · exact own_mono (own_setOther (own_setOther HO.out _ 0 _ (by omega)) _ 0 _ (by omega)) (by simp; omega)
  · exact (((((((Below.refl _ _).alloc (Nat.le_refl _) _).alloc (by simp) _).alloc (by simp; omega) _).trans (hb1.mono (by simp; omega))).setCell (by simp; omega) _).setCell (by simp) _)

theorem eqFile_yes (f : FileV) (w : World) :
    Calls Try.prog 58 #[.agg #[.string f.name, .string f.text, .int .i64 f.kept], .agg #[.string f.name, .string f.text, .int .i64 f.kept]] w fun e w' => e = .returned (.bool true) ∧ Below w.heap.size w w' := by
  go_enter Try.func58, Try.ntmps58
  go_wp2
  go_ret
  exact ⟨rfl, ((Below.refl _ _).alloc (Nat.le_refl _) _).alloc (by simp) _⟩

set_option maxRecDepth 100000 in
set_option maxHeartbeats 2000000 in
theorem eqFileS_same (fs : List FileV) (n : Nat) (a a' : Option Addr) (c c' : Nat) (hn : n ≤ 1048576) (w : World) (h : Fs w w.heap.size a n fs) (h' : Fs w w.heap.size a' n fs) :
    Calls Try.prog 43 #[.slice a n c, .slice a' n c'] w fun e w' => e = .returned (.bool true) ∧ Below w.heap.size w w' := by
  obtain ⟨hlen, hrow⟩ := h
  obtain ⟨_, hrow'⟩ := h'
  have HR := hideIt hrow
  have HR' := hideIt hrow'
  clear hrow hrow'
  go_enter Try.func43, Try.ntmps43
  go_wp2
  go_loopw [5] (fun i wr => ∃ k : Nat, k ≤ n ∧ i = .int .i64 (k : Int) ∧ Below w.heap.size w wr) (fun i _ => n - (intOf i).toNat)
  case atStart => exact ⟨0, by omega, rfl, Below.refl _ _⟩
  case round =>
    obtain ⟨k, hk, rfl, hb⟩ := hrel
    by_cases hlt : k < n
    · rcases HR.out with hz | ⟨b, off, rfl, hbl, hc⟩
      · omega
      · rcases HR'.out with hz | ⟨b', off', rfl, hbl', hc'⟩
        · omega
        · obtain ⟨f, hf⟩ : ∃ f, fs[k]? = some f := ⟨fs[k]'(by omega), List.getElem?_eq_getElem (by omega)⟩
          obtain ⟨c0, c1, c2⟩ := hc k f hf
          obtain ⟨d0, d1, d2⟩ := hc' k f hf
          have e0 : wr.cell? ⟨b, off + k * 3, none⟩ = some (.string f.name) := by rw [hb.cell hbl]; exact c0
          have e1 : wr.cell? ⟨b, off + k * 3 + 1, none⟩ = some (.string f.text) := by rw [hb.cell hbl]; exact c1
          have e2 : wr.cell? ⟨b, off + k * 3 + 2, none⟩ = some (.int .i64 f.kept) := by rw [hb.cell hbl]; exact c2
          have e3 : wr.cell? ⟨b', off' + k * 3, none⟩ = some (.string f.name) := by rw [hb.cell hbl']; exact d0
          have e4 : wr.cell? ⟨b', off' + k * 3 + 1, none⟩ = some (.string f.text) := by rw [hb.cell hbl']; exact d1
          have e5 : wr.cell? ⟨b', off' + k * 3 + 2, none⟩ = some (.int .i64 f.kept) := by rw [hb.cell hbl']; exact d2
          have b1 : (0 : Int) ≤ (k : Int) := by omega
          have b2 : (k : Int) < (n : Int) := by omega
          have HT : Hid (∀ W : World, Below w.heap.size w W → Calls Try.prog 58 #[.agg #[.string f.name, .string f.text, .int .i64 f.kept], .agg #[.string f.name, .string f.text, .int .i64 f.kept]] W fun e w' => e = .returned (.bool true) ∧ Below w.heap.size w w') := fun W hW =>
            (eqFile_yes f W).mono fun _ _ ⟨he, hb'⟩ => ⟨he, hW.trans (hb'.mono hW.size)⟩
          have HK : Hid (∀ W : World, Below w.heap.size w W → (W.cell? ⟨b, off + k * 3, none⟩ = some (.string f.name) ∧ W.cell? ⟨b, off + k * 3 + 1, none⟩ = some (.string f.text) ∧ W.cell? ⟨b, off + k * 3 + 2, none⟩ = some (.int .i64 f.kept) ∧ W.cell? ⟨b', off' + k * 3, none⟩ = some (.string f.name) ∧ W.cell? ⟨b', off' + k * 3 + 1, none⟩ = some (.string f.text) ∧ W.cell? ⟨b', off' + k * 3 + 2, none⟩ = some (.int .i64 f.kept))) := fun W hW =>
            ⟨by rw [hW.cell hbl]; exact c0, by rw [hW.cell hbl]; exact c1, by rw [hW.cell hbl]; exact c2, by rw [hW.cell hbl']; exact d0, by rw [hW.cell hbl']; exact d1, by rw [hW.cell hbl']; exact d2⟩
          have hbd := hb.drew
          clear c0 c1 c2 d0 d1 d2 hc hc' hf
          go_wp2
          go_region_held3 (fun u => Below w.heap.size w u ∧ u.cell? ⟨b, off + k * 3, none⟩ = some (.string f.name) ∧ u.cell? ⟨b, off + k * 3 + 1, none⟩ = some (.string f.text) ∧ u.cell? ⟨b, off + k * 3 + 2, none⟩ = some (.int .i64 f.kept) ∧ u.cell? ⟨b', off' + k * 3, none⟩ = some (.string f.name) ∧ u.cell? ⟨b', off' + k * 3 + 1, none⟩ = some (.string f.text) ∧ u.cell? ⟨b', off' + k * 3 + 2, none⟩ = some (.int .i64 f.kept))
            (first | exact ⟨hb3, HK.out _ hb3⟩ | exact ⟨hbd, HK.out _ hbd⟩)
            ((go_at_call 58; refine (HT.out _ hbd).mono ?_; rintro e w1 ⟨rfl, hb3⟩))
          clear hbd
          go_wp2
          go_roundw
          case rel => exact ⟨k + 1, by omega, by go_num, hb3⟩
          case measure => simp [intOf]; omega
    · go_wp2
      go_ret
      exact ⟨rfl, hb⟩

theorem eqDisk_same (fs : List FileV) (n : Nat) (a a' : Option Addr) (c c' : Nat) (hn : n ≤ 1048576) (w : World) (h : Fs w w.heap.size a n fs) (h' : Fs w w.heap.size a' n fs) :
    Calls Try.prog 14 #[.agg #[.slice a n c], .agg #[.slice a' n c']] w fun e w' => e = .returned (.bool true) ∧ Below w.heap.size w w' := by
  have up : ∀ {x : Option Addr}, Fs w w.heap.size x n fs → Fs ((w.alloc (.cells #[.slice a n c] 31)).alloc (.cells #[.slice a' n c'] 31)) ((w.alloc (.cells #[.slice a n c] 31)).alloc (.cells #[.slice a' n c'] 31)).heap.size x n fs :=
    fun hx => ((hx.alloc (Nat.le_refl _) _).alloc (by simp) _).mono (by simp; omega)
  have HT := hideIt (eqFileS_same fs n a a' c c' hn _ (up h) (up h'))
  clear up h h'
  go_enter Try.func14, Try.ntmps14
  go_wp2_with (go_at_call 43; refine HT.out.mono ?_; rintro e w1 ⟨rfl, hb1⟩)
  go_ret
  exact ⟨rfl, (((Below.refl _ _).alloc (Nat.le_refl _) _).alloc (by simp) _).trans (hb1.mono (by simp; omega))⟩
end Go.Proofs.Ytibcdpnodikpiai
