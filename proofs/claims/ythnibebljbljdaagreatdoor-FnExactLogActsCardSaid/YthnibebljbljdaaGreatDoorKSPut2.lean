/- Files in a list, and what the laws' own functions over disks answer. What the specification's DiskOk answers at every list of files. What the specification's l03At answers at every list of files. What the laws over disks share. What the specification's l03Without and l03Put answer at every list of files. What the specification's l03Put answers at every list of files. -/
import Derived.Test.YthnibebljbljdaaGreatDoorRows
import Derived.WalkKit
import Derived.WalkSpells
import Derived.WalkSmall
import Derived.OwnWalk
import Derived.BigQuiet
import Derived.Deep.QuietTactic
import Derived.Deep.MidRow
import Derived.Deep.RegionHeld3
import Derived.Laws.Cover1
import Derived.Deep.AppendLies
import Derived.Deep.RegionLaw
namespace Go.Proofs.YthnibebljbljdaaGreatDoor.F
open Go.RowKit

theorem hideIt {p : Prop} (h : p) : Hid p := h

/-- a file -/
structure FileV where
  name : ByteArray
  text : ByteArray
  kept : Int

/-- the list of files fs stands at a, n of them, below block B -/
def Fs (w : World) (B : Nat) (a : Option Addr) (n : Nat) (fs : List FileV) : Prop :=
  fs.length = n ∧ (n = 0 ∨ ∃ b off, a = some ⟨b, off, none⟩ ∧ b < B ∧ ∀ j f, fs[j]? = some f →
    w.cell? ⟨b, off + j * 3, none⟩ = some (.string f.name) ∧ w.cell? ⟨b, off + j * 3 + 1, none⟩ = some (.string f.text) ∧ w.cell? ⟨b, off + j * 3 + 2, none⟩ = some (.int .i64 f.kept))

/-- what is left of a measure behind a file -/
def szF (left : Int) (f : FileV) : Int := if left - f.name.size < 0 then -1 else if left - f.name.size - f.text.size < 0 then -1 else left - f.name.size - f.text.size

theorem szFile_any (f : FileV) (left : Int) (h0 : -1 ≤ left) (h1 : left ≤ 1048576) (hn : f.name.size ≤ maxLen) (ht : f.text.size ≤ maxLen) (w : World) :
    Calls Tryz.prog 64 #[.agg #[.string f.name, .string f.text, .int .i64 f.kept], .int .i64 left] w fun e w' => e = .returned (.int .i64 (szF left f)) ∧ Below w.heap.size w w' := by
  unfold maxLen at hn ht
  obtain ⟨nm, tx, kp⟩ := f
  dsimp only at hn ht ⊢
  unfold szF
  dsimp only
  by_cases g1 : left - nm.size < 0
  · rw [if_pos g1]
    have d1 : decide (left - (nm.size : Int) < 0) = true := by simp; omega
    go_enter Tryz.func64, Tryz.ntmps64
    go_wp2
    go_ret
    exact ⟨rfl, (Below.refl _ _).alloc (Nat.le_refl _) _⟩
  · rw [if_neg g1]
    by_cases g2 : left - nm.size - tx.size < 0
    · rw [if_pos g2]
      go_enter Tryz.func64, Tryz.ntmps64
      go_wp2
      go_ret
      exact ⟨rfl, (Below.refl _ _).alloc (Nat.le_refl _) _⟩
    · rw [if_neg g2]
      go_enter Tryz.func64, Tryz.ntmps64
      go_wp2
      go_ret
      exact ⟨rfl, (Below.refl _ _).alloc (Nat.le_refl _) _⟩

/-- the letters of a list of files -/
def letters (fs : List FileV) : Nat := (fs.map fun f => f.name.size + f.text.size).sum
theorem letters_snoc (fs : List FileV) (f : FileV) : letters (fs ++ [f]) = letters fs + (f.name.size + f.text.size) := by simp [letters]

theorem take_snocF {α : Type} (fs : List α) (k : Nat) (f : α) (h : fs[k]? = some f) : fs.take (k + 1) = fs.take k ++ [f] := by
  obtain ⟨hk, rfl⟩ := List.getElem?_eq_some_iff.1 h
  rw [List.take_succ_eq_append_getElem hk]

theorem letters_take (fs : List FileV) (k : Nat) : letters (fs.take k) ≤ letters fs := by
  have h := congrArg letters (List.take_append_drop k fs)
  have e : ∀ a b : List FileV, letters (a ++ b) = letters a + letters b := fun a b => by simp [letters]
  have := e (fs.take k) (fs.drop k)
  omega

theorem szF_yes (left : Int) (f : FileV) (h : 0 ≤ left - f.name.size - f.text.size) : szF left f = left - f.name.size - f.text.size := by
  unfold szF; rw [if_neg (by omega), if_neg (by omega)]
theorem szF_no (left : Int) (f : FileV) (h : left - f.name.size - f.text.size < 0) : szF left f = -1 := by
  unfold szF
  by_cases g : left - f.name.size < 0
  · rw [if_pos g]
  · rw [if_neg g, if_pos h]

/-- what is left of a measure behind a list of files -/
def szFs (left : Int) (fs : List FileV) : Int := if (fs.length : Int) + letters fs ≤ left then left - fs.length - letters fs else -1

theorem szFs_no (left : Int) (fs : List FileV) (h : ¬ (fs.length : Int) + letters fs ≤ left) : szFs left fs = -1 := by unfold szFs; rw [if_neg h]
theorem szFs_yes (left : Int) (fs : List FileV) (h : (fs.length : Int) + letters fs ≤ left) : szFs left fs = left - fs.length - letters fs := by unfold szFs; rw [if_pos h]

/-- the texts of the files are short enough for any machine -/
def FitsF (fs : List FileV) : Prop := ∀ f ∈ fs, f.name.size ≤ maxLen ∧ f.text.size ≤ maxLen

set_option maxHeartbeats 1000000 in
theorem szFileS_any (fs : List FileV) (hfit : FitsF fs) (left : Int) (h0 : -1 ≤ left) (h1 : left ≤ 1048576) (n : Nat) (a : Option Addr) (cap : Nat) (hn : n ≤ maxLen) (w : World) (hfs : Fs w w.heap.size a n fs) :
    Calls Tryz.prog 32 #[.slice a n cap, .int .i64 left] w fun e w' => e = .returned (.int .i64 (szFs left fs)) ∧ Below w.heap.size w w' := by
  unfold maxLen at hn
  obtain ⟨hlen, hrow⟩ := hfs
  by_cases g0 : left - n < 0
  · rw [szFs_no left fs (by omega)]
    have d1 : decide (left - (n : Int) < 0) = true := by simp; omega
    clear hrow
    go_enter Tryz.func32, Tryz.ntmps32
    go_wp2
    go_ret
    exact ⟨rfl, Below.refl _ _⟩
  · have d1 : decide (left - (n : Int) < 0) = false := by simp; omega
    have HR := hideIt hrow
    have HF := hideIt hfit
    clear hrow hfit
    go_enter Tryz.func32, Tryz.ntmps32
    go_wp2
    go_loopw [1, 5] (fun l i wr => ∃ (k : Nat) (q : Int), k ≤ n ∧ i = .int .i64 (k : Int) ∧ l = .int .i64 q ∧ Hid (q = left - n - letters (fs.take k)) ∧ 0 ≤ q ∧ q ≤ 1048576 ∧ Below w.heap.size w wr)
      (fun _ i _ => n - (intOf i).toNat)
    case atStart => exact ⟨0, _, by omega, rfl, rfl, by show _ = _; simp [letters], by omega, by omega, Below.refl _ _⟩
    case round =>
      obtain ⟨k, q, hk, rfl, rfl, hq, q0, q1, hb⟩ := hrel
      by_cases hlt : k < n
      · rcases HR.out with hz | ⟨b, off, rfl, hbl, hc⟩
        · omega
        · obtain ⟨f, hf⟩ : ∃ f, fs[k]? = some f := ⟨fs[k]'(by omega), List.getElem?_eq_getElem (by omega)⟩
          obtain ⟨c0, c1, c2⟩ := hc k f hf
          have e0 : wr.cell? ⟨b, off + k * 3, none⟩ = some (.string f.name) := by rw [hb.cell hbl]; exact c0
          have e1 : wr.cell? ⟨b, off + k * 3 + 1, none⟩ = some (.string f.text) := by rw [hb.cell hbl]; exact c1
          have e2 : wr.cell? ⟨b, off + k * 3 + 2, none⟩ = some (.int .i64 f.kept) := by rw [hb.cell hbl]; exact c2
          have b1 : (0 : Int) ≤ (k : Int) := by omega
          have b2 : (k : Int) < (n : Int) := by omega
          have hfit := HF.out f (List.mem_of_getElem? hf)
          have HS := hideIt (szFile_any f q (by omega) q1 hfit.1 hfit.2 wr)
          clear c0 c1 c2 hc
          have HT := hideIt (take_snocF fs k f hf)
          clear hf
          by_cases g1 : q - f.name.size - f.text.size < 0
          · have HL : Hid (¬ (fs.length : Int) + letters fs ≤ left) := by
              have h1 := letters_take fs (k + 1)
              rw [HT.out, letters_snoc] at h1
              have h2 := hq.out
              show ¬ _
              omega
            have hsz := szF_no q f g1
            rw [hsz] at HS
            go_wp2_with (go_at_call 64; refine HS.out.mono ?_; rintro e w1 ⟨rfl, hb1⟩)
            go_ret
            exact ⟨by rw [szFs_no left fs (by have := HL.out; omega)]; rfl, hb.trans (hb1.mono hb.size)⟩
          · have hsz := szF_yes q f (by omega)
            rw [hsz] at HS
            have d2 : decide (q - (f.name.size : Int) - (f.text.size : Int) < 0) = false := by simp; omega
            go_wp2_with (go_at_call 64; refine HS.out.mono ?_; rintro e w1 ⟨rfl, hb1⟩)
            go_roundw
            case rel => exact ⟨k + 1, _, by omega, by go_num, rfl, by show _ = _; rw [HT.out, letters_snoc, hq.out]; omega, by omega, by omega, hb.trans (hb1.mono hb.size)⟩
            case measure => simp [intOf]; omega
      · have e : fs.take k = fs := List.take_of_length_le (by omega)
        have HE : Hid (q = left - n - letters fs) := by show _ = _; rw [← e]; exact hq.out
        clear hq e
        go_wp2
        go_ret
        exact ⟨by rw [szFs_yes left fs (by have := HE.out; omega), HE.out, ← hlen]; rfl, hb⟩

theorem szFs_pos (left : Int) (fs : List FileV) : szFs left fs = -1 ∨ (0 ≤ szFs left fs ∧ (fs.length : Int) + letters fs ≤ left) := by
  by_cases h : (fs.length : Int) + letters fs ≤ left
  · exact .inr ⟨by rw [szFs_yes left fs h]; omega, h⟩
  · exact .inl (szFs_no left fs h)

theorem Fs.alloc {w : World} {B : Nat} {a : Option Addr} {n : Nat} {fs : List FileV} (h : Fs w B a n fs) (hB : B ≤ w.heap.size) (o : Obj) : Fs (w.alloc o) B a n fs := by
  refine ⟨h.1, h.2.imp id ?_⟩
  rintro ⟨b, off, ha, hb, hc⟩
  refine ⟨b, off, ha, hb, fun j f hf => ?_⟩
  have hbl : b < w.heap.size := by omega
  obtain ⟨c0, c1, c2⟩ := hc j f hf
  exact ⟨by rw [World.cell?_of_block (w := w) (Below.heap_alloc w o b hbl)]; exact c0, by rw [World.cell?_of_block (w := w) (Below.heap_alloc w o b hbl)]; exact c1, by rw [World.cell?_of_block (w := w) (Below.heap_alloc w o b hbl)]; exact c2⟩

theorem Fs.below {w w' : World} {B C : Nat} {a : Option Addr} {n : Nat} {fs : List FileV} (h : Fs w B a n fs) (hb : Below C w w') (hB : B ≤ C) : Fs w' B a n fs := by
  refine ⟨h.1, h.2.imp id ?_⟩
  rintro ⟨b, off, ha, hbl, hc⟩
  refine ⟨b, off, ha, hbl, fun j f hf => ?_⟩
  obtain ⟨c0, c1, c2⟩ := hc j f hf
  have hl : b < C := by omega
  exact ⟨by rw [hb.cell (p := ⟨b, _, none⟩) hl]; exact c0, by rw [hb.cell (p := ⟨b, _, none⟩) hl]; exact c1, by rw [hb.cell (p := ⟨b, _, none⟩) hl]; exact c2⟩

theorem Fs.mono {w : World} {B C : Nat} {a : Option Addr} {n : Nat} {fs : List FileV} (h : Fs w B a n fs) (hB : B ≤ C) : Fs w C a n fs := by
  refine ⟨h.1, h.2.imp id ?_⟩
  rintro ⟨b, off, ha, hbl, hc⟩
  exact ⟨b, off, ha, by omega, hc⟩

theorem szDisk_any (fs : List FileV) (hfit : FitsF fs) (left : Int) (h0 : -1 ≤ left) (h1 : left ≤ 1048576) (n : Nat) (a : Option Addr) (cap : Nat) (hn : n ≤ maxLen) (w : World) (hfs : Fs w w.heap.size a n fs) :
    Calls Tryz.prog 10 #[.agg #[.slice a n cap], .int .i64 left] w fun e w' => e = .returned (.int .i64 (szFs left fs)) ∧ Below w.heap.size w w' := by
  have hp := szFs_pos left fs
  have HS := hideIt (szFileS_any fs hfit left h0 h1 n a cap hn (w.alloc (.cells #[.slice a n cap] 30)) ((hfs.alloc (Nat.le_refl _) _).mono (by simp)))
  clear hfs hfit
  generalize szFs left fs = r at *
  by_cases g : r < 0
  · obtain rfl : r = -1 := by omega
    clear hp
    go_enter Tryz.func10, Tryz.ntmps10
    go_wp2_with (go_at_call 32; refine HS.out.mono ?_; rintro e w1 ⟨rfl, hb1⟩)
    go_ret
    exact ⟨rfl, ((Below.refl _ _).alloc (Nat.le_refl _) _).trans (hb1.mono (by simp))⟩
  · have d1 : decide (r < 0) = false := by simp; omega
    clear hp
    go_enter Tryz.func10, Tryz.ntmps10
    go_wp2_with (go_at_call 32; refine HS.out.mono ?_; rintro e w1 ⟨rfl, hb1⟩)
    go_ret
    exact ⟨rfl, ((Below.refl _ _).alloc (Nat.le_refl _) _).trans (hb1.mono (by simp))⟩

theorem toFile_any (f : FileV) (w : World) :
    Calls Tryz.prog 72 #[.agg #[.string f.name, .string f.text, .int .i64 f.kept]] w fun e w' => e = .returned (.agg #[.string f.name, .string f.text, .int .i64 f.kept]) ∧ Below w.heap.size w w' := by
  go_enter Tryz.func72, Tryz.ntmps72
  go_wp2
  exact bodyPost_ret (v := .agg #[.string f.name, .string f.text, .int .i64 f.kept]) (by simp [results, Tryz.results72, go_sem]) rfl ⟨rfl, (((Below.refl _ _).alloc (Nat.le_refl _) _).alloc (by simp) _).alloc (by simp; omega) _⟩

/-- the cells of a file -/
def fcell (f : FileV) : List Value := [.string f.name, .string f.text, .int .i64 f.kept]
/-- the cells of a list of files -/
def fcells (fs : List FileV) : List Value := fs.flatMap fcell

theorem fcells_length (fs : List FileV) : (fcells fs).length = fs.length * 3 := by
  induction fs with
  | nil => rfl
  | cons f fs ih => simp only [fcells, List.flatMap_cons, List.length_append, List.length_cons] at ih ⊢; rw [ih]; simp [fcell]; omega

theorem fcells_at (fs : List FileV) (j : Nat) (f : FileV) (h : fs[j]? = some f) :
    (fcells fs)[j * 3]? = some (.string f.name) ∧ (fcells fs)[j * 3 + 1]? = some (.string f.text) ∧ (fcells fs)[j * 3 + 2]? = some (.int .i64 f.kept) := by
  induction fs generalizing j with
  | nil => simp at h
  | cons g fs ih =>
    cases j with
    | zero => simp at h; subst h; simp [fcells, fcell]
    | succ j =>
      have h2 := ih j (by simpa using h)
      have e : ∀ m, (fcells (g :: fs))[m + 3]? = (fcells fs)[m]? := fun m => by simp [fcells, fcell]
      refine ⟨?_, ?_, ?_⟩
      · rw [show (j + 1) * 3 = j * 3 + 3 by omega, e]; exact h2.1
      · rw [show (j + 1) * 3 + 1 = j * 3 + 1 + 3 by omega, e]; exact h2.2.1
      · rw [show (j + 1) * 3 + 2 = j * 3 + 2 + 3 by omega, e]; exact h2.2.2

theorem take_set3 {α : Type} (xs : List α) (m : Nat) (a b c : α) (h : m + 3 ≤ xs.length) : (((xs.set m a).set (m + 1) b).set (m + 2) c).take (m + 3) = xs.take m ++ [a, b, c] := by
  apply List.ext_getElem?
  intro i
  have hl : (xs.take m).length = m := by simp; omega
  by_cases h1 : i < m
  · rw [List.getElem?_append_left (by omega), List.getElem?_take_of_lt h1, List.getElem?_take_of_lt (by omega), List.getElem?_set_ne (by omega), List.getElem?_set_ne (by omega), List.getElem?_set_ne (by omega)]
  · rw [List.getElem?_append_right (by omega), hl]
    by_cases h2 : i < m + 3
    · rw [List.getElem?_take_of_lt h2]
      rcases (show i = m ∨ i = m + 1 ∨ i = m + 2 by omega) with rfl | rfl | rfl
      · rw [List.getElem?_set_ne (by omega), List.getElem?_set_ne (by omega), List.getElem?_set_self (by omega)]; simp
      · rw [List.getElem?_set_ne (by omega), List.getElem?_set_self (by simp; omega)]; simp
      · rw [List.getElem?_set_self (by simp; omega)]; simp
    · rw [List.getElem?_eq_none (by simp; omega), List.getElem?_eq_none (by simp; omega)]

theorem fcells_snoc (fs : List FileV) (f : FileV) : fcells (fs ++ [f]) = fcells fs ++ [.string f.name, .string f.text, .int .i64 f.kept] := by simp [fcells, fcell]

theorem infoIF : (Tryz.prog.info? 130).map (fun i => (i.zero, i.size, i.bytes)) = some (some (.agg #[.string .empty, .string .empty, .int .i64 0]), 3, 40) := by kernel_rfl

set_option maxHeartbeats 1000000 in
theorem toFileS_any (fs : List FileV) (n : Nat) (a : Option Addr) (cap : Nat) (hn : n ≤ 1048576) (w : World) (hfs : Fs w w.heap.size a n fs) :
    Calls Tryz.prog 36 #[.slice a n cap] w fun e w' => ∃ g, e = .returned (.slice (some ⟨g, 0, none⟩) n n) ∧ w'.ownsRow w.heap.size 130 3 (.slice (some ⟨g, 0, none⟩) n n) n (fcells fs) ∧ Below w.heap.size w w' := by
  obtain ⟨i0, hi, hz0, hz1, hz2⟩ := info_parts infoIF
  obtain ⟨hlen, hrow⟩ := hfs
  have hmk : ∀ u : World, (Instr.makeSlice 46 (.int .i64 (n : Int)) (.int .i64 (n : Int))).run Tryz.prog u =
      .ok (.slice (some ⟨u.heap.size, 0, none⟩) n n) (u.alloc (.cells (madeCells #[.string .empty, .string .empty, .int .i64 0] (n * 3)) 130)) := fun u => by
    have h := run_make (P := Tryz.prog) u 46 130 i0 _ Tryz.underlying46 hi hz0 .i64 .i64 (n : Int) (n : Int) (by omega) (by omega) (by rw [hz2]; omega) (by omega)
    rw [Int.toNat_natCast] at h
    simpa [hz1, Value.cells] using h
  have HR := hideIt hrow
  clear hrow
  go_enter Tryz.func36, Tryz.ntmps36
  go_wp2
  go_loopw [4] (fun i wr => ∃ (k : Nat) (xs : List Value), k ≤ n ∧ i = .int .i64 (k : Int) ∧ Hid (xs.take (k * 3) = fcells (fs.take k)) ∧ wr.ownsRow w.heap.size 130 3 (.slice (some ⟨w.heap.size, 0, none⟩) n n) n xs ∧ Below w.heap.size w wr)
    (fun i _ => n - (intOf i).toNat)
  case atStart => exact ⟨0, _, by omega, rfl, by show _ = _; simp [fcells], World.ownsRow_lit (base := w.heap.size) (e := 130) (size := 3) w (madeCells #[.string .empty, .string .empty, .int .i64 0] (n * 3)) n (Nat.le_refl _) (by unfold maxLen; omega) (by simp [madeCells]), (Below.refl _ _).alloc (Nat.le_refl _) _⟩
  case round =>
    obtain ⟨k, xs, hk, rfl, hx, hown, hb⟩ := hrel
    by_cases hlt : k < n
    · rcases HR.out with hz | ⟨b, off, rfl, hbl, hc⟩
      · omega
      · obtain ⟨f, hf⟩ : ∃ f, fs[k]? = some f := ⟨fs[k]'(by omega), List.getElem?_eq_getElem (by omega)⟩
        obtain ⟨c0, c1, c2⟩ := hc k f hf
        have e0 : wr.cell? ⟨b, off + k * 3, none⟩ = some (.string f.name) := by rw [hb.cell hbl]; exact c0
        have e1 : wr.cell? ⟨b, off + k * 3 + 1, none⟩ = some (.string f.text) := by rw [hb.cell hbl]; exact c1
        have e2 : wr.cell? ⟨b, off + k * 3 + 2, none⟩ = some (.int .i64 f.kept) := by rw [hb.cell hbl]; exact c2
        have b1 : (0 : Int) ≤ (k : Int) := by omega
        have b2 : (k : Int) < (n : Int) := by omega
        have HT := hideIt (toFile_any f wr)
        have HTk := hideIt (take_snocF fs k f hf)
        clear c0 c1 c2 hc hf
        go_wp2_with (go_at_call 72; refine HT.out.mono ?_; rintro e w1 ⟨rfl, hb1⟩; refine Hid.out ?_)
        refine (show ∀ {p : Prop}, p → Hid p from fun h => h) ?_
        have hg1 : wr.grownBy w1 none := ⟨hb1.os, hb1.tape, hb1.output, hb1.size, fun i hi _ => hb1.block i hi⟩
        have hown1 := World.ownsRow.kept hown hg1 (.inr (by simp [Value.ownBlock]))
        have hl3 : xs.length = n * 3 := hown1.1
        have f0 := hown1.frozenAt (k * 3)
        have f1 := hown1.frozenAt (k * 3 + 1)
        have f2 := hown1.frozenAt (k * 3 + 2)
        have x0 : w1.cell? ⟨w.heap.size, k * 3, none⟩ = some (xs[k * 3]'(by omega)) := by rw [hown1.cellAt (k * 3) (by omega)]; exact List.getElem?_eq_getElem (by omega)
        have x1 : w1.cell? ⟨w.heap.size, k * 3 + 1, none⟩ = some (xs[k * 3 + 1]'(by omega)) := by rw [hown1.cellAt (k * 3 + 1) (by omega)]; exact List.getElem?_eq_getElem (by omega)
        have x2 : w1.cell? ⟨w.heap.size, k * 3 + 2, none⟩ = some (xs[k * 3 + 2]'(by omega)) := by rw [hown1.cellAt (k * 3 + 2) (by omega)]; exact List.getElem?_eq_getElem (by omega)
        clear e0 e1 e2 HT
        go_wp2
        refine ⟨⟨k + 1, ((xs.set (k * 3) (.string f.name)).set (k * 3 + 1) (.string f.text)).set (k * 3 + 2) (.int .i64 f.kept), by omega, by go_num, ?_, ?_, ?_⟩, by simp [intOf]; omega⟩
        · show _ = _
          rw [show (k + 1) * 3 = k * 3 + 3 by omega, take_set3 _ _ _ _ _ (by omega), hx.out, HTk.out, fcells_snoc]
        · exact (((hown1.stored (k * 3) _).1.stored (k * 3 + 1) _).1.stored (k * 3 + 2) _).1
        · exact (((hb.trans (hb1.mono hb.size)).setCell (Nat.le_refl _) _).setCell (Nat.le_refl _) _).setCell (Nat.le_refl _) _
    · have e : fs.take k = fs := List.take_of_length_le (by omega)
      have hl3 : xs.length = n * 3 := hown.1
      have HX : Hid (xs = fcells fs) := by
        show _ = _
        have := hx.out
        rw [e, List.take_of_length_le (by omega)] at this
        exact this
      have HO := hideIt hown
      clear hx e hown hl3
      go_wp2
      go_ret
      exact ⟨w.heap.size, rfl, by rw [← HX.out]; exact HO.out, hb⟩

theorem bcell {W w1 : World} (hb : Below W.heap.size W w1) : (∀ b o, b < W.heap.size → w1.cell? ⟨b, o, none⟩ = W.cell? ⟨b, o, none⟩) ∧ (∀ b o, b < W.heap.size → w1.frozen? ⟨b, o, none⟩ = W.frozen? ⟨b, o, none⟩) :=
  ⟨fun b o h => hb.cell (p := ⟨b, o, none⟩) h, fun b o h => hb.frozen (p := ⟨b, o, none⟩) h⟩

/-- a list of one's own reads as its files -/
theorem Fs_of_own {w : World} {B g n cap : Nat} {fs : List FileV} (h : w.ownsRow B 130 3 (.slice (some ⟨g, 0, none⟩) n cap) n (fcells fs)) : Fs w w.heap.size (some ⟨g, 0, none⟩) n fs := by
  have hl := h.1
  rw [fcells_length] at hl
  refine ⟨by omega, ?_⟩
  by_cases h0 : n = 0
  · exact .inl h0
  · refine .inr ⟨g, 0, rfl, (h.lt g rfl).2, fun j f hf => ?_⟩
    have hj : j < fs.length := (List.getElem?_eq_some_iff.1 hf).1
    obtain ⟨c0, c1, c2⟩ := fcells_at fs j f hf
    rw [Nat.zero_add]
    exact ⟨by rw [h.cellAt (j * 3) (by omega)]; exact c0, by rw [h.cellAt (j * 3 + 1) (by omega)]; exact c1, by rw [h.cellAt (j * 3 + 2) (by omega)]; exact c2⟩

theorem grownSet (w : World) (G j : Nat) (u : Value) : w.grownBy (w.setCell ⟨G, j, none⟩ u) (some G) :=
  ⟨rfl, rfl, rfl, by simp [World.setCell], fun k _ hk => heap_setCell_other w ⟨G, j, none⟩ k u (fun e => hk (by simp [e]))⟩

theorem own_setOther {w : World} {B e s g n cap : Nat} {xs : List Value} (h : w.ownsRow B e s (.slice (some ⟨g, 0, none⟩) n cap) n xs) (G j : Nat) (u : Value) (hG : g ≠ G) :
    (w.setCell ⟨G, j, none⟩ u).ownsRow B e s (.slice (some ⟨g, 0, none⟩) n cap) n xs :=
  World.ownsRow.kept h (grownSet w G j u) (.inr (by simp [Value.ownBlock]; exact fun e => hG e))

theorem own_mono {w : World} {B B' e s n : Nat} {v : Value} {xs : List Value} (h : w.ownsRow B e s v n xs) (hB : B' ≤ B) : w.ownsRow B' e s v n xs :=
  ⟨h.1, h.2.imp id (fun ⟨g, cap, cur, a, b, rest⟩ => ⟨g, cap, cur, a, Nat.le_trans hB b, rest⟩)⟩

theorem toDisk_any (fs : List FileV) (n : Nat) (a : Option Addr) (cap : Nat) (hn : n ≤ 1048576) (w : World) (hfs : Fs w w.heap.size a n fs) :
    Calls Tryz.prog 13 #[.agg #[.slice a n cap]] w fun e w' => ∃ g, e = .returned (.agg #[.slice (some ⟨g, 0, none⟩) n n]) ∧ w'.ownsRow w.heap.size 130 3 (.slice (some ⟨g, 0, none⟩) n n) n (fcells fs) ∧ Below w.heap.size w w' := by
  have hfs3 : Fs (((w.alloc (.cells #[.slice a n cap] 30)).alloc (.cells #[.slice none 0 0] 48)).alloc (.cells #[.slice none 0 0] 48)) (((w.alloc (.cells #[.slice a n cap] 30)).alloc (.cells #[.slice none 0 0] 48)).alloc (.cells #[.slice none 0 0] 48)).heap.size a n fs :=
    (((hfs.alloc (Nat.le_refl _) _).alloc (by simp) _).alloc (by simp; omega) _).mono (by simp; omega)
  have HT := hideIt (toFileS_any fs n a cap hn _ hfs3)
  clear hfs hfs3
  go_enter Tryz.func13, Tryz.ntmps13
  go_wp2_with (go_at_call 36; refine HT.out.mono ?_; rintro e w1 ⟨g, rfl, hown, hb1⟩; refine Hid.out ?_)
  refine (show ∀ {p : Prop}, p → Hid p from fun h => h) ?_
  obtain ⟨hc, hf⟩ := bcell hb1
  have HO := hideIt hown
  have hgl := hown.lt g rfl
  have hz := hb1.size
  clear hown HT
  simp at hz hgl
  go_wp2
  refine bodyPost_ret (v := .agg #[.slice (some ⟨g, 0, none⟩) n n]) (by simp [results, Tryz.results13, go_sem, hc]) rfl ⟨g, rfl, ?_, ?_⟩
  · exact own_mono (own_setOther (own_setOther HO.out _ 0 _ (by omega)) _ 0 _ (by omega)) (by simp; omega)
  · exact (((((((Below.refl _ _).alloc (Nat.le_refl _) _).alloc (by simp) _).alloc (by simp; omega) _).trans (hb1.mono (by simp; omega))).setCell (by simp; omega) _).setCell (by simp) _)

theorem eqFile_yes (f : FileV) (w : World) :
    Calls Tryz.prog 86 #[.agg #[.string f.name, .string f.text, .int .i64 f.kept], .agg #[.string f.name, .string f.text, .int .i64 f.kept]] w fun e w' => e = .returned (.bool true) ∧ Below w.heap.size w w' := by
  go_enter Tryz.func86, Tryz.ntmps86
  go_wp2
  go_ret
  exact ⟨rfl, ((Below.refl _ _).alloc (Nat.le_refl _) _).alloc (by simp) _⟩

set_option maxRecDepth 100000 in
set_option maxHeartbeats 2000000 in
theorem eqFileS_same (fs : List FileV) (n : Nat) (a a' : Option Addr) (c c' : Nat) (hn : n ≤ 1048576) (w : World) (h : Fs w w.heap.size a n fs) (h' : Fs w w.heap.size a' n fs) :
    Calls Tryz.prog 43 #[.slice a n c, .slice a' n c'] w fun e w' => e = .returned (.bool true) ∧ Below w.heap.size w w' := by
  obtain ⟨hlen, hrow⟩ := h
  obtain ⟨_, hrow'⟩ := h'
  have HR := hideIt hrow
  have HR' := hideIt hrow'
  clear hrow hrow'
  go_enter Tryz.func43, Tryz.ntmps43
  go_wp2
  go_loopw [5] (fun i wr => ∃ k : Nat, k ≤ n ∧ i = .int .i64 (k : Int) ∧ Below w.heap.size w wr) (fun i _ => n - (intOf i).toNat)
  case atStart => exact ⟨0, by omega, rfl, Below.refl _ _⟩
  case round =>
    obtain ⟨k, hk, rfl, hb⟩ := hrel
    by_cases hlt : k < n
    · rcases HR.out with hz | ⟨b, off, rfl, hbl, hc⟩
      · omega
      · rcases HR'.out with hz | ⟨b', off', rfl, hbl', hc'⟩
        · omega
        · obtain ⟨f, hf⟩ : ∃ f, fs[k]? = some f := ⟨fs[k]'(by omega), List.getElem?_eq_getElem (by omega)⟩
          obtain ⟨c0, c1, c2⟩ := hc k f hf
          obtain ⟨d0, d1, d2⟩ := hc' k f hf
          have e0 : wr.cell? ⟨b, off + k * 3, none⟩ = some (.string f.name) := by rw [hb.cell hbl]; exact c0
          have e1 : wr.cell? ⟨b, off + k * 3 + 1, none⟩ = some (.string f.text) := by rw [hb.cell hbl]; exact c1
          have e2 : wr.cell? ⟨b, off + k * 3 + 2, none⟩ = some (.int .i64 f.kept) := by rw [hb.cell hbl]; exact c2
          have e3 : wr.cell? ⟨b', off' + k * 3, none⟩ = some (.string f.name) := by rw [hb.cell hbl']; exact d0
          have e4 : wr.cell? ⟨b', off' + k * 3 + 1, none⟩ = some (.string f.text) := by rw [hb.cell hbl']; exact d1
          have e5 : wr.cell? ⟨b', off' + k * 3 + 2, none⟩ = some (.int .i64 f.kept) := by rw [hb.cell hbl']; exact d2
          have b1 : (0 : Int) ≤ (k : Int) := by omega
          have b2 : (k : Int) < (n : Int) := by omega
          have HT : Hid (∀ W : World, Below w.heap.size w W → Calls Tryz.prog 86 #[.agg #[.string f.name, .string f.text, .int .i64 f.kept], .agg #[.string f.name, .string f.text, .int .i64 f.kept]] W fun e w' => e = .returned (.bool true) ∧ Below w.heap.size w w') := fun W hW =>
            (eqFile_yes f W).mono fun _ _ ⟨he, hb'⟩ => ⟨he, hW.trans (hb'.mono hW.size)⟩
          have HK : Hid (∀ W : World, Below w.heap.size w W → (W.cell? ⟨b, off + k * 3, none⟩ = some (.string f.name) ∧ W.cell? ⟨b, off + k * 3 + 1, none⟩ = some (.string f.text) ∧ W.cell? ⟨b, off + k * 3 + 2, none⟩ = some (.int .i64 f.kept) ∧ W.cell? ⟨b', off' + k * 3, none⟩ = some (.string f.name) ∧ W.cell? ⟨b', off' + k * 3 + 1, none⟩ = some (.string f.text) ∧ W.cell? ⟨b', off' + k * 3 + 2, none⟩ = some (.int .i64 f.kept))) := fun W hW =>
            ⟨by rw [hW.cell hbl]; exact c0, by rw [hW.cell hbl]; exact c1, by rw [hW.cell hbl]; exact c2, by rw [hW.cell hbl']; exact d0, by rw [hW.cell hbl']; exact d1, by rw [hW.cell hbl']; exact d2⟩
          have hbd := hb.drew
          clear c0 c1 c2 d0 d1 d2 hc hc' hf
          go_wp2
          go_region_held3 (fun u => Below w.heap.size w u ∧ u.cell? ⟨b, off + k * 3, none⟩ = some (.string f.name) ∧ u.cell? ⟨b, off + k * 3 + 1, none⟩ = some (.string f.text) ∧ u.cell? ⟨b, off + k * 3 + 2, none⟩ = some (.int .i64 f.kept) ∧ u.cell? ⟨b', off' + k * 3, none⟩ = some (.string f.name) ∧ u.cell? ⟨b', off' + k * 3 + 1, none⟩ = some (.string f.text) ∧ u.cell? ⟨b', off' + k * 3 + 2, none⟩ = some (.int .i64 f.kept))
            (first | exact ⟨hb3, HK.out _ hb3⟩ | exact ⟨hbd, HK.out _ hbd⟩)
            ((go_at_call 86; refine (HT.out _ hbd).mono ?_; rintro e w1 ⟨rfl, hb3⟩))
          clear hbd
          go_wp2
          go_roundw
          case rel => exact ⟨k + 1, by omega, by go_num, hb3⟩
          case measure => simp [intOf]; omega
    · go_wp2
      go_ret
      exact ⟨rfl, hb⟩

theorem eqDisk_same (fs : List FileV) (n : Nat) (a a' : Option Addr) (c c' : Nat) (hn : n ≤ 1048576) (w : World) (h : Fs w w.heap.size a n fs) (h' : Fs w w.heap.size a' n fs) :
    Calls Tryz.prog 17 #[.agg #[.slice a n c], .agg #[.slice a' n c']] w fun e w' => e = .returned (.bool true) ∧ Below w.heap.size w w' := by
  have up : ∀ {x : Option Addr}, Fs w w.heap.size x n fs → Fs ((w.alloc (.cells #[.slice a n c] 48)).alloc (.cells #[.slice a' n c'] 48)) ((w.alloc (.cells #[.slice a n c] 48)).alloc (.cells #[.slice a' n c'] 48)).heap.size x n fs :=
    fun hx => ((hx.alloc (Nat.le_refl _) _).alloc (by simp) _).mono (by simp; omega)
  have HT := hideIt (eqFileS_same fs n a a' c c' hn _ (up h) (up h'))
  clear up h h'
  go_enter Tryz.func17, Tryz.ntmps17
  go_wp2_with (go_at_call 43; refine HT.out.mono ?_; rintro e w1 ⟨rfl, hb1⟩)
  go_ret
  exact ⟨rfl, (((Below.refl _ _).alloc (Nat.le_refl _) _).alloc (by simp) _).trans (hb1.mono (by simp; omega))⟩
end Go.Proofs.YthnibebljbljdaaGreatDoor.F
namespace Go.Proofs.YthnibebljbljdaaGreatDoor.F
open Go.RowKit

theorem l01In_yes (x a b : Int) (h1 : a ≤ x) (h2 : x ≤ b) (w : World) :
    Calls Tryz.prog 57 #[.int .i64 x, .int .i64 a, .int .i64 b] w fun e w' => e = .returned (.bool true) ∧ w' = w := by
  have d1 : decide (a ≤ x) = true := by simp [h1]
  have d2 : decide (x ≤ b) = true := by simp [h2]
  go_enter Tryz.func57, Tryz.ntmps57
  go_wp2
  go_ret
  exact ⟨by simp, rfl⟩

theorem l01In_no (x a b : Int) (h : x < a ∨ b < x) (w : World) :
    Calls Tryz.prog 57 #[.int .i64 x, .int .i64 a, .int .i64 b] w fun e w' => e = .returned (.bool false) ∧ w' = w := by
  by_cases h1 : a ≤ x
  · have d1 : decide (a ≤ x) = true := by simp [h1]
    have h2 : ¬ x ≤ b := by omega
    have d2 : decide (x ≤ b) = false := by simp [h2]
    go_enter Tryz.func57, Tryz.ntmps57
    go_wp2
    go_ret
    exact ⟨by simp, rfl⟩
  · have d1 : decide (a ≤ x) = false := by simp [h1]
    go_enter Tryz.func57, Tryz.ntmps57
    go_wp2
    go_ret
    exact ⟨by simp, rfl⟩

def lessB (a b : ByteArray) : Bool := Op.bytesLess a.toList b.toList
/-- a file as it must be -/
def FileOk (f : FileV) : Prop := (1 ≤ f.name.size ∧ f.name.size ≤ 8) ∧ f.text.size ≤ 20000 ∧ 0 ≤ f.kept ∧ f.kept ≤ f.text.size
/-- the file at k is as it must be, and behind the one ahead of it -/
def OkAt (fs : List FileV) (k : Nat) : Prop := ∀ f, fs[k]? = some f → FileOk f ∧ ∀ g, 0 < k → fs[k - 1]? = some g → lessB g.name f.name = true
/-- a disk as it must be -/
def DiskR (fs : List FileV) : Prop := fs.length ≤ 30 ∧ ∀ k, k < fs.length → OkAt fs k

/-- whether a disk is as it must be -/
noncomputable def dB (fs : List FileV) : Bool := @decide (DiskR fs) (Classical.propDecidable _)
theorem dB_true {fs : List FileV} (h : DiskR fs) : dB fs = true := by unfold dB; simp [h]
theorem dB_false {fs : List FileV} (h : ¬ DiskR fs) : dB fs = false := by unfold dB; simp [h]
theorem dB_iff {fs : List FileV} : dB fs = true ↔ DiskR fs := by unfold dB; simp

theorem not_disk {fs : List FileV} {k : Nat} {f : FileV} (hf : fs[k]? = some f) (h : ¬ FileOk f) : ¬ DiskR fs := fun hd =>
  h ((hd.2 k (List.getElem?_eq_some_iff.1 hf).1 f hf).1)
theorem not_order {fs : List FileV} {m : Nat} {f g : FileV} (hf : fs[m + 1]? = some f) (hg : fs[m]? = some g) (h : lessB g.name f.name = false) : ¬ DiskR fs := fun hd => by
  have := (hd.2 (m + 1) (List.getElem?_eq_some_iff.1 hf).1 f hf).2 g (by omega) hg
  rw [h] at this
  cases this

end Go.Proofs.YthnibebljbljdaaGreatDoor.F
namespace Go.Proofs.YthnibebljbljdaaGreatDoor.F
open Go.RowKit

/-- whether a file has this name -/
def hasName (name : ByteArray) (f : FileV) : Bool := f.name.toList == name.toList
/-- the place of the file of this name -/
def atN (fs : List FileV) (name : ByteArray) : Option Nat := fs.findIdx? (hasName name)
def atI : Option Nat → Int
  | none => -1
  | some k => (k : Int)

theorem atN_some {fs : List FileV} {name : ByteArray} {k : Nat} {f : FileV} (hf : fs[k]? = some f) (hn : hasName name f = true) (hb : ∀ j g, j < k → fs[j]? = some g → hasName name g = false) : atN fs name = some k := by
  obtain ⟨hk, rfl⟩ := List.getElem?_eq_some_iff.1 hf
  unfold atN
  rw [List.findIdx?_eq_some_iff_getElem]
  refine ⟨hk, hn, fun j hj => ?_⟩
  have := hb j (fs[j]'(by omega)) hj (List.getElem?_eq_getElem _)
  simp [this]

theorem atN_none {fs : List FileV} {name : ByteArray} (hb : ∀ (j : Nat) (g : FileV), fs[j]? = some g → hasName name g = false) : atN fs name = none := by
  unfold atN
  rw [List.findIdx?_eq_none_iff]
  intro f hf
  obtain ⟨j, hj⟩ := List.getElem?_of_mem hf
  exact hb j f hj

theorem atN_lt {fs : List FileV} {name : ByteArray} {k : Nat} (h : atN fs name = some k) : k < fs.length := by
  unfold atN at h
  rw [List.findIdx?_eq_some_iff_getElem] at h
  exact h.1

/-- the file of this name -/
def fileOf (fs : List FileV) (name : ByteArray) : Option FileV := (atN fs name).bind fun k => fs[k]?

end Go.Proofs.YthnibebljbljdaaGreatDoor.F
namespace Go.Proofs.YthnibebljbljdaaGreatDoor.F
open Go.RowKit

theorem letters_mem {fs : List FileV} {f : FileV} (h : f ∈ fs) : f.name.size + f.text.size ≤ letters fs := by
  induction fs with
  | nil => simp at h
  | cons g fs ih =>
    simp only [letters, List.map_cons, List.sum_cons] at ih ⊢
    rcases List.mem_cons.1 h with rfl | h
    · omega
    · have := ih h; omega

theorem fits_of {fs : List FileV} (h : fs.length + letters fs ≤ 1048576) : FitsF fs := fun f hf => by
  have := letters_mem hf
  unfold maxLen
  omega

/-- an own list, somewhere below -/
theorem Fs.up {w w' : World} {a : Option Addr} {n : Nat} {fs : List FileV} (h : Fs w w.heap.size a n fs) (hb : Below w.heap.size w w') : Fs w' w'.heap.size a n fs :=
  (h.below hb (Nat.le_refl _)).mono hb.size

/-- nothing below has turned since w -/
def Good (w u : World) : Prop := Below w.heap.size w u
theorem Good.fs {w u : World} (h : Good w u) {a : Option Addr} {n : Nat} {fs : List FileV} (hf : Fs w w.heap.size a n fs) : Fs u u.heap.size a n fs := hf.up h
theorem Good.cell {w u : World} (h : Good w u) {b o : Nat} (hb : b < w.heap.size) : u.cell? ⟨b, o, none⟩ = w.cell? ⟨b, o, none⟩ := Below.cell h hb

end Go.Proofs.YthnibebljbljdaaGreatDoor.F
namespace Go.Proofs.YthnibebljbljdaaGreatDoor.F
open Go.RowKit

/-- one value in a block of its own -/
def Box (w : World) (b : Nat) (t : TypeId) (v : Value) : Prop := w.heap[b]? = some (.cells #[v] t (0, 0))
theorem Box.cell {w : World} {b : Nat} {t : TypeId} {v : Value} (h : Box w b t v) : w.cell? ⟨b, 0, none⟩ = some v := by rw [cell_of_row w b 0 _ _ _ h]; rfl
theorem Box.frozen {w : World} {b : Nat} {t : TypeId} {v : Value} (h : Box w b t v) : w.frozen? ⟨b, 0, none⟩ = false := frozen_of_row w b 0 _ _ h
theorem Box.lt {w : World} {b : Nat} {t : TypeId} {v : Value} (h : Box w b t v) : b < w.heap.size := (Array.getElem?_eq_some_iff.1 h).1
theorem Box.new (w : World) (t : TypeId) (v : Value) (b : Nat) (hb : w.heap.size = b) : Box (w.alloc (.cells #[v] t)) b t v := by subst hb; exact heap_alloc_new w _
theorem Box.grown {w w' : World} {b : Nat} {t : TypeId} {v : Value} {row : Option Nat} (h : Box w b t v) (hg : w.grownBy w' row) (hr : some b ≠ row) : Box w' b t v := by
  unfold Box; rw [hg.block b h.lt hr]; exact h
theorem Box.alloc {w : World} {b : Nat} {t : TypeId} {v : Value} (h : Box w b t v) (o : Obj) : Box (w.alloc o) b t v := by
  unfold Box; rw [Below.heap_alloc w o b h.lt]; exact h
theorem Box.set {w : World} {b : Nat} {t : TypeId} {v : Value} (h : Box w b t v) (u : Value) : Box (w.setCell ⟨b, 0, none⟩ u) b t u := by
  unfold Box; rw [heap_setCell_same w b 0 _ t u h]; rfl
theorem Box.setOther {w : World} {b b' j : Nat} {t : TypeId} {v : Value} (h : Box w b t v) (u : Value) (hb : b ≠ b') : Box (w.setCell ⟨b', j, none⟩ u) b t v := by
  unfold Box; rw [heap_setCell_other w ⟨b', j, none⟩ b u hb]; exact h
theorem Box.below {w w' : World} {b C : Nat} {t : TypeId} {v : Value} (h : Box w b t v) (hb : Below C w w') (hC : b < C) : Box w' b t v := by
  unfold Box; rw [hb.block b hC]; exact h

theorem set_other {u : World} {G j x o : Nat} {v : Value} (h : x ≠ G) : (u.setCell ⟨G, j, none⟩ v).cell? ⟨x, o, none⟩ = u.cell? ⟨x, o, none⟩ := World.cell?_of_block (w := u) (heap_setCell_other u ⟨G, j, none⟩ x v h)

theorem own_setLow {w : World} {B e s n : Nat} {v : Value} {xs : List Value} (h : w.ownsRow B e s v n xs) (G j : Nat) (u : Value) (hG : G < B) : (w.setCell ⟨G, j, none⟩ u).ownsRow B e s v n xs :=
  World.ownsRow.kept h (grownSet w G j u) (.inr (fun e => by have := (h.lt G (by simpa using e)).1; omega))

/-- the files without that of a name -/
def without (fs : List FileV) (name : ByteArray) : List FileV := fs.filter fun f => !(hasName name f)
theorem without_snoc (fs : List FileV) (name : ByteArray) (f : FileV) : without (fs ++ [f]) name = without fs name ++ (if hasName name f then [] else [f]) := by
  unfold without
  cases h : hasName name f <;> simp [h]
theorem without_le (fs : List FileV) (name : ByteArray) : (without fs name).length ≤ fs.length := List.length_filter_le _ _

end Go.Proofs.YthnibebljbljdaaGreatDoor.F
namespace Go.Proofs.YthnibebljbljdaaGreatDoor.F
open Go.RowKit

def moreB (a b : ByteArray) : Bool := !(Op.bytesLess a.toList b.toList || a.toList == b.toList)
/-- the files with one put in its place -/
def put (fs : List FileV) (f : FileV) : List FileV := fs.filter (fun g => lessB g.name f.name) ++ [f] ++ fs.filter (fun g => moreB g.name f.name)

/-- where l03Put stands: her boxes, the list that grows -/
structure PutAt (w : World) (B : Nat) (a : Option Addr) (n c : Nat) (f : FileV) (a' : Option Addr) (m c' : Nat) (gs : List FileV) (u : World) : Prop where
  x0 : Box u B 48 (.slice a n c)
  x1 : u.heap[B + 1]? = some (.cells #[.string f.name, .string f.text, .int .i64 f.kept] 130 (0, 0))
  x2 : Box u (B + 1 + 1) 48 (.slice none 0 0)
  x3 : Box u (B + 1 + 1 + 1) 48 (.slice a' m c')
  own : u.ownsRow (B + 1 + 1 + 1 + 1) 130 3 (.slice a' m c') m (fcells gs)
  below : Below B w u

theorem PutAt.append {w : World} {B : Nat} {a : Option Addr} {n c : Nat} {f : FileV} {a' : Option Addr} {m c' : Nat} {gs : List FileV} {u w1 : World} (h : PutAt w B a n c f a' m c' gs u) (hB : B = w.heap.size) {o : Obj} {g1 cap1 : Nat} {h' : FileV}
    (hown : w1.ownsRow (B + 1 + 1 + 1 + 1) 130 3 (.slice (some ⟨g1, 0, none⟩) (m + 1) cap1) (m + 1) (fcells gs ++ [.string h'.name, .string h'.text, .int .i64 h'.kept])) (hg : (u.alloc o).grownBy w1 (Value.slice a' m c').ownBlock) :
    PutAt w B a n c f a' m c' gs (u.alloc o) → PutAt w B a n c f (some ⟨g1, 0, none⟩) (m + 1) cap1 (gs ++ [h']) (w1.setCell ⟨B + 1 + 1 + 1, 0, none⟩ (.slice (some ⟨g1, 0, none⟩) (m + 1) cap1)) := by
  intro hu
  have hrow : ∀ x, x < B + 1 + 1 + 1 + 1 → some x ≠ (Value.slice a' m c').ownBlock := fun x hx e => by
    have := (h.own.lt x e.symm).1
    omega
  have l3 := h.x3.lt
  have y0 := hu.x0.grown hg (hrow _ (by omega))
  have y2 := hu.x2.grown hg (hrow _ (by omega))
  have y3 := hu.x3.grown hg (hrow _ (by omega))
  have y1 : w1.heap[B + 1]? = some (.cells #[.string f.name, .string f.text, .int .i64 f.kept] 130 (0, 0)) := by rw [hg.block (B + 1) (by simp; omega) (hrow _ (by omega))]; exact hu.x1
  have hb1 : Below B w w1 := hu.below.grown hg (by simp; omega) (fun j hj => by have := (h.own.lt j hj).1; omega)
  have lg := (hown.lt g1 rfl).1
  refine ⟨y0.setOther _ (by omega), ?_, y2.setOther _ (by omega), y3.set _, ?_, hb1.setCell (p := ⟨B + 1 + 1 + 1, 0, none⟩) (by show B ≤ B + 1 + 1 + 1; omega) _⟩
  · rw [heap_setCell_other w1 ⟨B + 1 + 1 + 1, 0, none⟩ (B + 1) _ (by show B + 1 ≠ B + 1 + 1 + 1; omega)]; exact y1
  · rw [fcells_snoc]; exact own_setOther hown _ 0 _ (by omega)

theorem PutAt.alloc {w : World} {B : Nat} {a : Option Addr} {n c : Nat} {f : FileV} {a' : Option Addr} {m c' : Nat} {gs : List FileV} {u : World} (h : PutAt w B a n c f a' m c' gs u) (o : Obj) : PutAt w B a n c f a' m c' gs (u.alloc o) :=
  have l3 := h.x3.lt
  ⟨h.x0.alloc o, by rw [Below.heap_alloc u o (B + 1) (by omega)]; exact h.x1, h.x2.alloc o, h.x3.alloc o, h.own.alloc o, h.below.alloc (by omega) o⟩

theorem PutAt.drewN {w : World} {B : Nat} {a : Option Addr} {n c : Nat} {f : FileV} {a' : Option Addr} {m c' : Nat} {gs : List FileV} {u : World} (h : PutAt w B a n c f a' m c' gs u) (q : Nat) : PutAt w B a n c f a' m c' gs (u.drewN q) :=
  ⟨h.x0, h.x1, h.x2, h.x3, h.own, below_drewN h.below q⟩
theorem PutAt.drew {w : World} {B : Nat} {a : Option Addr} {n c : Nat} {f : FileV} {a' : Option Addr} {m c' : Nat} {gs : List FileV} {u : World} (h : PutAt w B a n c f a' m c' gs u) : PutAt w B a n c f a' m c' gs u.drew :=
  ⟨h.x0, h.x1, h.x2, h.x3, h.own, h.below.drew⟩
theorem PutAt.fcell {w : World} {B : Nat} {a : Option Addr} {n c : Nat} {f : FileV} {a' : Option Addr} {m c' : Nat} {gs : List FileV} {u : World} (h : PutAt w B a n c f a' m c' gs u) :
    u.cell? ⟨B + 1, 0, none⟩ = some (.string f.name) ∧ u.cell? ⟨B + 1, 1, none⟩ = some (.string f.text) ∧ u.cell? ⟨B + 1, 2, none⟩ = some (.int .i64 f.kept) :=
  ⟨by rw [cell_of_row u (B + 1) 0 _ _ _ h.x1]; rfl, by rw [cell_of_row u (B + 1) 1 _ _ _ h.x1]; rfl, by rw [cell_of_row u (B + 1) 2 _ _ _ h.x1]; rfl⟩

end Go.Proofs.YthnibebljbljdaaGreatDoor.F
