/- Bytes in memory of the call's own. Files in a list, and what the laws' own functions over disks answer. What the draws' cursor gives: some byte, some number below a bound, some text; the cursor stays right, and nothing else that was there turns. What the draws of chapter 1 give: some number, some text; nothing that was there turns. What DrawSumOf and DrawPlaces give: some short text; twelve numbers below 10000 in a list of their own. What the specification's DiskOk answers at every list of files. -/
import Derived.Test.YthffflpclmpamaaProg
import GoSem.Claim
import GoSem.ClaimJoined
import GoSem.ClaimMapViews
import Derived.JoinedTies
import Derived.KernelRfl
import Derived.RowKit
import Derived.WalkKit
import Derived.OwnWalk
import Derived.Laws.IdiomStrings
import Derived.Test.YthffflpclmpamaaRows
import Derived.WalkSpells
import Derived.WalkSmall
import Derived.BigQuiet
import Derived.Deep.QuietTactic
import Derived.Deep.MidRow
import Derived.Deep.RegionHeld3
import Derived.Laws.Bits64b
import Derived.Deep.AppendLies
import Derived.Laws.Cover1
namespace Go.Proofs.Ythffflpclmpamaa
open Go.RowKit

theorem info5 : (Try.prog.info? 5).map (fun i => (i.zero, i.size, i.bytes)) = some (some (.int .u8 0), 1, 1) := by kernel_rfl

/-- the cells of the bytes l -/
def bv (l : List UInt8) : List Value := l.map fun b => Value.int .u8 (b.toNat : Int)

theorem bv_snoc (l : List UInt8) (b : UInt8) (n : Int) (h : (b.toNat : Int) = n) : bv l ++ [Value.int .u8 n] = bv (l ++ [b]) := by
  subst h; simp [bv]

theorem one_new (w : World) (v : Value) (t : TypeId) : ∀ j u, [v][j]? = some u → (w.alloc (.cells #[v] t)).cell? ((⟨w.heap.size, 0, none⟩ : Addr).add j) = some u := by
  intro j u hj
  match j, hj with
  | 0, hj => simp at hj; subst hj; simp [Addr.add]

/-- behind an append to a row of the call's own, nothing below B has turned -/
theorem below_app {B : Nat} {w wr w1 : World} {v : Value} {n : Nat} {xs : List Value} {o : Obj} (hb : Below B w wr) (hB : B ≤ w.heap.size)
    (hown : wr.ownsRow B 5 1 v n xs) (hg : (wr.alloc o).grownBy w1 v.ownBlock) : Below B w w1 :=
  (hb.alloc (by have := hb.size; omega) _).grown hg (by have := hb.size; simp; omega) (fun k hk => (hown.lt k hk).1)

theorem below_appD {B : Nat} {w wr w1 : World} {v : Value} {n : Nat} {xs : List Value} {o : Obj} (hb : Below B w wr) (hB : B ≤ w.heap.size)
    (hown : wr.ownsRow B 5 1 v n xs) (hg : ((wr.alloc o).drew).grownBy w1 v.ownBlock) : Below B w w1 :=
  below_app (o := o) hb hB hown ⟨hg.os, hg.tape, hg.output, hg.size, hg.block⟩

/-- 'string(out)' of a row of bytes of the call's own -/
theorem conv_own {B n : Nat} {v : Value} {l : List UInt8} {w : World} (hown : w.ownsRow B 5 1 v n (bv l)) (hv : ¬ v = .slice none 0 0) :
    ∃ g cap, v = .slice (some ⟨g, 0, none⟩) l.length cap ∧ (convert 22 9 (.slice (some ⟨g, 0, none⟩) l.length cap)).run Try.prog w = .ok (.string ⟨l.toArray⟩) w := by
  have hn : l.length = n := by have := hown.1; simpa [bv] using this
  subst hn
  have hown0 := hown
  rcases hown.2 with ⟨h, _⟩ | ⟨g, cap, cur, rfl, -, -, -, -, -, -⟩
  · exact absurd h hv
  · exact ⟨g, cap, rfl, run_convert_bytes_back (P := Try.prog) w 22 9 5 ⟨g, 0, none⟩ cap l Try.underlying22 Try.underlying5 Try.underlying9 (fun j hj => hown0.cells (g := g) rfl j _ (by simp [bv, hj]))⟩

theorem conv_at {B n g cap : Nat} {l : List UInt8} {w : World} (hown : w.ownsRow B 5 1 (.slice (some ⟨g, 0, none⟩) n cap) n (bv l)) :
    (convert 22 9 (.slice (some ⟨g, 0, none⟩) n cap)).run Try.prog w = .ok (.string ⟨l.toArray⟩) w := by
  obtain ⟨g', cap', hv, hcv⟩ := conv_own hown (by simp)
  rw [hv]
  exact hcv

end Go.Proofs.Ythffflpclmpamaa
namespace Go.Proofs.Ythffflpclmpamaa
open Go.RowKit

theorem hideIt {p : Prop} (h : p) : Hid p := h

/-- a file -/
structure FileV where
  name : ByteArray
  text : ByteArray
  kept : Int

/-- the list of files fs stands at a, n of them, below block B -/
def Fs (w : World) (B : Nat) (a : Option Addr) (n : Nat) (fs : List FileV) : Prop :=
  fs.length = n ∧ (n = 0 ∨ ∃ b off, a = some ⟨b, off, none⟩ ∧ b < B ∧ ∀ j f, fs[j]? = some f →
    w.cell? ⟨b, off + j * 3, none⟩ = some (.string f.name) ∧ w.cell? ⟨b, off + j * 3 + 1, none⟩ = some (.string f.text) ∧ w.cell? ⟨b, off + j * 3 + 2, none⟩ = some (.int .i64 f.kept))

/-- what is left of a measure behind a file -/
def szF (left : Int) (f : FileV) : Int := if left - f.name.size < 0 then -1 else if left - f.name.size - f.text.size < 0 then -1 else left - f.name.size - f.text.size

/-- the letters of a list of files -/
def letters (fs : List FileV) : Nat := (fs.map fun f => f.name.size + f.text.size).sum
theorem letters_snoc (fs : List FileV) (f : FileV) : letters (fs ++ [f]) = letters fs + (f.name.size + f.text.size) := by simp [letters]

theorem take_snocF {α : Type} (fs : List α) (k : Nat) (f : α) (h : fs[k]? = some f) : fs.take (k + 1) = fs.take k ++ [f] := by
  obtain ⟨hk, rfl⟩ := List.getElem?_eq_some_iff.1 h
  rw [List.take_succ_eq_append_getElem hk]

theorem letters_take (fs : List FileV) (k : Nat) : letters (fs.take k) ≤ letters fs := by
  have h := congrArg letters (List.take_append_drop k fs)
  have e : ∀ a b : List FileV, letters (a ++ b) = letters a + letters b := fun a b => by simp [letters]
  have := e (fs.take k) (fs.drop k)
  omega

theorem szF_yes (left : Int) (f : FileV) (h : 0 ≤ left - f.name.size - f.text.size) : szF left f = left - f.name.size - f.text.size := by
  unfold szF; rw [if_neg (by omega), if_neg (by omega)]
theorem szF_no (left : Int) (f : FileV) (h : left - f.name.size - f.text.size < 0) : szF left f = -1 := by
  unfold szF
  by_cases g : left - f.name.size < 0
  · rw [if_pos g]
  · rw [if_neg g, if_pos h]

/-- what is left of a measure behind a list of files -/
def szFs (left : Int) (fs : List FileV) : Int := if (fs.length : Int) + letters fs ≤ left then left - fs.length - letters fs else -1

theorem szFs_no (left : Int) (fs : List FileV) (h : ¬ (fs.length : Int) + letters fs ≤ left) : szFs left fs = -1 := by unfold szFs; rw [if_neg h]
theorem szFs_yes (left : Int) (fs : List FileV) (h : (fs.length : Int) + letters fs ≤ left) : szFs left fs = left - fs.length - letters fs := by unfold szFs; rw [if_pos h]

/-- the texts of the files are short enough for any machine -/
def FitsF (fs : List FileV) : Prop := ∀ f ∈ fs, f.name.size ≤ maxLen ∧ f.text.size ≤ maxLen

theorem szFs_pos (left : Int) (fs : List FileV) : szFs left fs = -1 ∨ (0 ≤ szFs left fs ∧ (fs.length : Int) + letters fs ≤ left) := by
  by_cases h : (fs.length : Int) + letters fs ≤ left
  · exact .inr ⟨by rw [szFs_yes left fs h]; omega, h⟩
  · exact .inl (szFs_no left fs h)

theorem Fs.alloc {w : World} {B : Nat} {a : Option Addr} {n : Nat} {fs : List FileV} (h : Fs w B a n fs) (hB : B ≤ w.heap.size) (o : Obj) : Fs (w.alloc o) B a n fs := by
  refine ⟨h.1, h.2.imp id ?_⟩
  rintro ⟨b, off, ha, hb, hc⟩
  refine ⟨b, off, ha, hb, fun j f hf => ?_⟩
  have hbl : b < w.heap.size := by omega
  obtain ⟨c0, c1, c2⟩ := hc j f hf
  exact ⟨by rw [World.cell?_of_block (w := w) (Below.heap_alloc w o b hbl)]; exact c0, by rw [World.cell?_of_block (w := w) (Below.heap_alloc w o b hbl)]; exact c1, by rw [World.cell?_of_block (w := w) (Below.heap_alloc w o b hbl)]; exact c2⟩

theorem Fs.below {w w' : World} {B C : Nat} {a : Option Addr} {n : Nat} {fs : List FileV} (h : Fs w B a n fs) (hb : Below C w w') (hB : B ≤ C) : Fs w' B a n fs := by
  refine ⟨h.1, h.2.imp id ?_⟩
  rintro ⟨b, off, ha, hbl, hc⟩
  refine ⟨b, off, ha, hbl, fun j f hf => ?_⟩
  obtain ⟨c0, c1, c2⟩ := hc j f hf
  have hl : b < C := by omega
  exact ⟨by rw [hb.cell (p := ⟨b, _, none⟩) hl]; exact c0, by rw [hb.cell (p := ⟨b, _, none⟩) hl]; exact c1, by rw [hb.cell (p := ⟨b, _, none⟩) hl]; exact c2⟩

theorem Fs.mono {w : World} {B C : Nat} {a : Option Addr} {n : Nat} {fs : List FileV} (h : Fs w B a n fs) (hB : B ≤ C) : Fs w C a n fs := by
  refine ⟨h.1, h.2.imp id ?_⟩
  rintro ⟨b, off, ha, hbl, hc⟩
  exact ⟨b, off, ha, by omega, hc⟩

/-- the cells of a file -/
def fcell (f : FileV) : List Value := [.string f.name, .string f.text, .int .i64 f.kept]
/-- the cells of a list of files -/
def fcells (fs : List FileV) : List Value := fs.flatMap fcell

theorem fcells_length (fs : List FileV) : (fcells fs).length = fs.length * 3 := by
  induction fs with
  | nil => rfl
  | cons f fs ih => simp only [fcells, List.flatMap_cons, List.length_append, List.length_cons] at ih ⊢; rw [ih]; simp [fcell]; omega

theorem fcells_at (fs : List FileV) (j : Nat) (f : FileV) (h : fs[j]? = some f) :
    (fcells fs)[j * 3]? = some (.string f.name) ∧ (fcells fs)[j * 3 + 1]? = some (.string f.text) ∧ (fcells fs)[j * 3 + 2]? = some (.int .i64 f.kept) := by
  induction fs generalizing j with
  | nil => simp at h
  | cons g fs ih =>
    cases j with
    | zero => simp at h; subst h; simp [fcells, fcell]
    | succ j =>
      have h2 := ih j (by simpa using h)
      have e : ∀ m, (fcells (g :: fs))[m + 3]? = (fcells fs)[m]? := fun m => by simp [fcells, fcell]
      refine ⟨?_, ?_, ?_⟩
      · rw [show (j + 1) * 3 = j * 3 + 3 by omega, e]; exact h2.1
      · rw [show (j + 1) * 3 + 1 = j * 3 + 1 + 3 by omega, e]; exact h2.2.1
      · rw [show (j + 1) * 3 + 2 = j * 3 + 2 + 3 by omega, e]; exact h2.2.2

theorem take_set3 {α : Type} (xs : List α) (m : Nat) (a b c : α) (h : m + 3 ≤ xs.length) : (((xs.set m a).set (m + 1) b).set (m + 2) c).take (m + 3) = xs.take m ++ [a, b, c] := by
  apply List.ext_getElem?
  intro i
  have hl : (xs.take m).length = m := by simp; omega
  by_cases h1 : i < m
  · rw [List.getElem?_append_left (by omega), List.getElem?_take_of_lt h1, List.getElem?_take_of_lt (by omega), List.getElem?_set_ne (by omega), List.getElem?_set_ne (by omega), List.getElem?_set_ne (by omega)]
  · rw [List.getElem?_append_right (by omega), hl]
    by_cases h2 : i < m + 3
    · rw [List.getElem?_take_of_lt h2]
      rcases (show i = m ∨ i = m + 1 ∨ i = m + 2 by omega) with rfl | rfl | rfl
      · rw [List.getElem?_set_ne (by omega), List.getElem?_set_ne (by omega), List.getElem?_set_self (by omega)]; simp
      · rw [List.getElem?_set_ne (by omega), List.getElem?_set_self (by simp; omega)]; simp
      · rw [List.getElem?_set_self (by simp; omega)]; simp
    · rw [List.getElem?_eq_none (by simp; omega), List.getElem?_eq_none (by simp; omega)]

theorem fcells_snoc (fs : List FileV) (f : FileV) : fcells (fs ++ [f]) = fcells fs ++ [.string f.name, .string f.text, .int .i64 f.kept] := by simp [fcells, fcell]

theorem infoIF : (Try.prog.info? 49).map (fun i => (i.zero, i.size, i.bytes)) = some (some (.agg #[.string .empty, .string .empty, .int .i64 0]), 3, 40) := by kernel_rfl

theorem bcell {W w1 : World} (hb : Below W.heap.size W w1) : (∀ b o, b < W.heap.size → w1.cell? ⟨b, o, none⟩ = W.cell? ⟨b, o, none⟩) ∧ (∀ b o, b < W.heap.size → w1.frozen? ⟨b, o, none⟩ = W.frozen? ⟨b, o, none⟩) :=
  ⟨fun b o h => hb.cell (p := ⟨b, o, none⟩) h, fun b o h => hb.frozen (p := ⟨b, o, none⟩) h⟩

/-- a list of one's own reads as its files -/
theorem Fs_of_own {w : World} {B g n cap : Nat} {fs : List FileV} (h : w.ownsRow B 49 3 (.slice (some ⟨g, 0, none⟩) n cap) n (fcells fs)) : Fs w w.heap.size (some ⟨g, 0, none⟩) n fs := by
  have hl := h.1
  rw [fcells_length] at hl
  refine ⟨by omega, ?_⟩
  by_cases h0 : n = 0
  · exact .inl h0
  · refine .inr ⟨g, 0, rfl, (h.lt g rfl).2, fun j f hf => ?_⟩
    have hj : j < fs.length := (List.getElem?_eq_some_iff.1 hf).1
    obtain ⟨c0, c1, c2⟩ := fcells_at fs j f hf
    rw [Nat.zero_add]
    exact ⟨by rw [h.cellAt (j * 3) (by omega)]; exact c0, by rw [h.cellAt (j * 3 + 1) (by omega)]; exact c1, by rw [h.cellAt (j * 3 + 2) (by omega)]; exact c2⟩

theorem grownSet (w : World) (G j : Nat) (u : Value) : w.grownBy (w.setCell ⟨G, j, none⟩ u) (some G) :=
  ⟨rfl, rfl, rfl, by simp [World.setCell], fun k _ hk => heap_setCell_other w ⟨G, j, none⟩ k u (fun e => hk (by simp [e]))⟩

theorem own_setOther {w : World} {B e s g n cap : Nat} {xs : List Value} (h : w.ownsRow B e s (.slice (some ⟨g, 0, none⟩) n cap) n xs) (G j : Nat) (u : Value) (hG : g ≠ G) :
    (w.setCell ⟨G, j, none⟩ u).ownsRow B e s (.slice (some ⟨g, 0, none⟩) n cap) n xs :=
  World.ownsRow.kept h (grownSet w G j u) (.inr (by simp [Value.ownBlock]; exact fun e => hG e))

theorem own_mono {w : World} {B B' e s n : Nat} {v : Value} {xs : List Value} (h : w.ownsRow B e s v n xs) (hB : B' ≤ B) : w.ownsRow B' e s v n xs :=
  ⟨h.1, h.2.imp id (fun ⟨g, cap, cur, a, b, rest⟩ => ⟨g, cap, cur, a, Nat.le_trans hB b, rest⟩)⟩

end Go.Proofs.Ythffflpclmpamaa
namespace Go.Proofs.Ythffflpclmpamaa
open Go.RowKit

theorem and_small (x : Int) (b : Nat) (hb : b < 4611686018427387904) : 0 ≤ bits .and .i64 x (b : Int) ∧ bits .and .i64 x (b : Int) ≤ (b : Int) := by
  have h2 : (BitVec.ofInt 64 (b : Int)).toNat = b := by
    rw [BitVec.ofInt_natCast, BitVec.toNat_ofNat]; exact Nat.mod_eq_of_lt (by omega)
  have e : bits .and .i64 x (b : Int) = IntKind.i64.wrap ((BitVec.ofInt 64 x &&& BitVec.ofInt 64 (b : Int)).toNat : Int) := rfl
  rw [e, BitVec.toNat_and, h2, IntKind.wrap_i64]
  have := Nat.and_le_right (n := (BitVec.ofInt 64 x).toNat) (m := b)
  omega

theorem and255 (x : Int) : 0 ≤ bits .and .i64 x 255 ∧ bits .and .i64 x 255 ≤ 255 := and_small x 255 (by omega)
theorem and30 (x : Int) : 0 ≤ bits .and .i64 x 1073741823 ∧ bits .and .i64 x 1073741823 ≤ 1073741823 := and_small x 1073741823 (by omega)

/-- the bytes that the draws are drawn from: none, or a row of bytes in a block of its own -/
def Code (w : World) (G : Nat) (a : Option Addr) (len : Nat) : Prop :=
  len = 0 ∨ ∃ b off, a = some ⟨b, off, none⟩ ∧ b < w.heap.size ∧ b ≠ G ∧ ∀ j, j < len → ∃ z : Nat, z ≤ 255 ∧ w.cell? ⟨b, off + j, none⟩ = some (.int .u8 (z : Int))

/-- the cursor in block G -/
def Cur (w : World) (G : Nat) (a : Option Addr) (len cap : Nat) : Prop :=
  ∃ (i : Nat) (h : Int), i ≤ len ∧ w.heap[G]? = some (.cells #[.slice a len cap, .int .i64 (i : Int), .int .i64 h] 61 (0, 0))

theorem grownT {a b c : World} {row : Option Nat} (h : a.grownBy b row) (k : b.grownBy c row) : a.grownBy c row :=
  ⟨k.os.trans h.os, k.tape.trans h.tape, k.output.trans h.output, Nat.le_trans h.size k.size, fun i hi hr => (k.block i (Nat.lt_of_lt_of_le hi h.size) hr).trans (h.block i hi hr)⟩

theorem Code.kept {w w' : World} {G : Nat} {a : Option Addr} {len : Nat} (h : Code w G a len) (hg : w.grownBy w' (some G)) : Code w' G a len := by
  rcases h with h | ⟨b, off, ha, hb, hn, hc⟩
  · exact .inl h
  · refine .inr ⟨b, off, ha, Nat.lt_of_lt_of_le hb hg.size, hn, fun j hj => ?_⟩
    obtain ⟨z, hz, hcell⟩ := hc j hj
    refine ⟨z, hz, ?_⟩
    rw [World.cell?_of_block (w := w) (hg.block b hb (by simp; exact hn))]
    exact hcell

theorem set1 {w : World} {G : Nat} {A B C D : Value} {t : TypeId} (h : w.heap[G]? = some (.cells #[A, B, C] t (0, 0))) : (w.setCell ⟨G, 1, none⟩ D).heap[G]? = some (.cells #[A, D, C] t (0, 0)) := by
  rw [heap_setCell_same w G 1 _ t D h]; rfl
theorem set2 {w : World} {G : Nat} {A B C D : Value} {t : TypeId} (h : w.heap[G]? = some (.cells #[A, B, C] t (0, 0))) : (w.setCell ⟨G, 2, none⟩ D).heap[G]? = some (.cells #[A, B, D] t (0, 0)) := by
  rw [heap_setCell_same w G 2 _ t D h]; rfl
theorem grown_set (w : World) (G j : Nat) (u : Value) : w.grownBy (w.setCell ⟨G, j, none⟩ u) (some G) :=
  ⟨rfl, rfl, rfl, by simp [World.setCell], fun k _ hk => heap_setCell_other w ⟨G, j, none⟩ k u (fun e => hk (by simp [e]))⟩
theorem grown_draws (w : World) (n : Nat) (row : Option Nat) : w.grownBy (w.drewN n) row := ⟨rfl, rfl, rfl, Nat.le_refl _, fun _ _ _ => rfl⟩

theorem fin_byte {y : Int} {R : Prop} (h : 0 ≤ y ∧ y ≤ 255) (hr : R) : ∃ x : Nat, x ≤ 255 ∧ Ending.returned (.int .i64 y) = .returned (.int .i64 (x : Int)) ∧ R :=
  ⟨y.toNat, by omega, by rw [Int.toNat_of_nonneg h.1], hr⟩

set_option maxRecDepth 100000 in
set_option maxHeartbeats 2000000 in
theorem l01Byte_any (w : World) (G : Nat) (a : Option Addr) (len cap : Nat) (hl : len ≤ 1048576) (hcur : Cur w G a len cap) (hcode : Code w G a len) :
    Calls Try.prog 49 #[.pointer (some ⟨G, 0, none⟩)] w fun e w' => ∃ x : Nat, x ≤ 255 ∧ e = .returned (.int .i64 (x : Int)) ∧ Cur w' G a len cap ∧ w.grownBy w' (some G) := by
  obtain ⟨i, h, hi, hG⟩ := hcur
  have c0 : w.cell? ⟨G, 0, none⟩ = some (.slice a len cap) := by rw [cell_of_row w G 0 _ _ _ hG]; rfl
  have c1 : w.cell? ⟨G, 1, none⟩ = some (.int .i64 (i : Int)) := by rw [cell_of_row w G 1 _ _ _ hG]; rfl
  have c2 : w.cell? ⟨G, 2, none⟩ = some (.int .i64 h) := by rw [cell_of_row w G 2 _ _ _ hG]; rfl
  have f1 : w.frozen? ⟨G, 1, none⟩ = false := frozen_of_row w G 1 _ _ hG
  have f2 : w.frozen? ⟨G, 2, none⟩ = false := frozen_of_row w G 2 _ _ hG
  have HG : Hid _ := hG
  clear hG
  by_cases hlt : i < len
  · have e1 : decide ((i : Int) < (len : Int)) = true := by simp; omega
    rcases hcode with h0 | ⟨b, off, rfl, hb, hne, hc⟩
    · omega
    · obtain ⟨z, hz, hcell⟩ := hc i hlt
      have b1 : (0 : Int) ≤ (i : Int) := by omega
      have b2 : (i : Int) < (len : Int) := by omega
      have hcell2 : ∀ v, (w.setCell ⟨G, 2, none⟩ v).cell? ⟨b, off + i, none⟩ = some (.int .u8 (z : Int)) := fun v => by
        rw [World.cell?_of_block (w := w) (heap_setCell_other w ⟨G, 2, none⟩ b v (by exact hne))]
        exact hcell
      clear hc
      go_enter Try.func49, Try.ntmps49
      go_wp2
      go_quiet (fail)
      go_wp2
      go_quiet (fail)
      go_wp2
      go_quiet (fail)
      go_wp2
      go_ret
      refine fin_byte (and255 _) ⟨?_, ?_⟩
      · exact ⟨i + 1, _, by omega, set1 (set2 HG.out)⟩
      · exact grownT (grownT (grown_set w G 2 _) (grown_set _ G 1 _)) (grown_draws _ _ _)
  · have e1 : decide ((i : Int) < (len : Int)) = false := by simp; omega
    go_enter Try.func49, Try.ntmps49
    go_wp2
    go_quiet (fail)
    go_wp2
    go_quiet (fail)
    go_wp2
    go_ret
    refine fin_byte (and255 _) ⟨?_, ?_⟩
    · exact ⟨i, _, hi, set2 HG.out⟩
    · exact grownT (grownT (grown_set w G 2 _) (grown_draws _ _ _)) (grown_draws _ _ _)

/-- what a draw leaves: the cursor, the bytes, the rest as it was -/
structure Drawn (w w' : World) (G : Nat) (a : Option Addr) (len cap : Nat) : Prop where
  cur : Cur w' G a len cap
  code : Code w' G a len
  grown : w.grownBy w' (some G)

theorem Drawn.trans {w w1 w2 : World} {G : Nat} {a : Option Addr} {len cap : Nat} (h : Drawn w w1 G a len cap) (k : Drawn w1 w2 G a len cap) : Drawn w w2 G a len cap :=
  ⟨k.cur, k.code, grownT h.grown k.grown⟩

theorem l01Byte_drawn (w : World) (G : Nat) (a : Option Addr) (len cap : Nat) (hl : len ≤ 1048576) (hcur : Cur w G a len cap) (hcode : Code w G a len) :
    Calls Try.prog 49 #[.pointer (some ⟨G, 0, none⟩)] w fun e w' => ∃ x : Nat, x ≤ 255 ∧ e = .returned (.int .i64 (x : Int)) ∧ Drawn w w' G a len cap :=
  (l01Byte_any w G a len cap hl hcur hcode).mono fun _ _ ⟨x, hx, he, hc, hg⟩ => ⟨x, hx, he, hc, hcode.kept hg, hg⟩

theorem fin_rem {y n : Int} {R : Prop} (h : 0 < n) (hr : R) : ∃ x : Nat, (x : Int) < n ∧ Ending.returned (.int .i64 (y % n)) = .returned (.int .i64 (x : Int)) ∧ R := by
  have h1 := Int.emod_lt_of_pos y h
  have h2 := Int.emod_nonneg y (show n ≠ 0 by omega)
  exact ⟨(y % n).toNat, by omega, by rw [Int.toNat_of_nonneg h2], hr⟩

set_option maxRecDepth 100000 in
set_option maxHeartbeats 2000000 in
theorem l01Below_any (n : Int) (h0 : 0 < n) (h1 : n ≤ 4294967296) (w : World) (G : Nat) (a : Option Addr) (len cap : Nat) (hl : len ≤ 1048576) (hcur : Cur w G a len cap) (hcode : Code w G a len) :
    Calls Try.prog 29 #[.pointer (some ⟨G, 0, none⟩), .int .i64 n] w fun e w' => ∃ x : Nat, (x : Int) < n ∧ e = .returned (.int .i64 (x : Int)) ∧ Drawn w w' G a len cap := by
  have B := fun (W : World) (hc : Cur W G a len cap) (hd : Code W G a len) => l01Byte_drawn W G a len cap hl hc hd
  have HB := (show ∀ {p : Prop}, p → Hid p from fun h => h) B
  clear B
  have H1 := (show ∀ {p : Prop}, p → Hid p from fun h => h) hcur
  have H2 := (show ∀ {p : Prop}, p → Hid p from fun h => h) hcode
  clear hcur hcode
  by_cases hs : n ≤ 256
  · go_enter Try.func29, Try.ntmps29
    go_wp2_with (go_at_call 49; refine (HB.out _ H1.out H2.out).mono ?_; rintro e w1 ⟨x, hx, rfl, hd⟩)
    go_ret
    exact fin_rem h0 hd
  · go_enter Try.func29, Try.ntmps29
    go_wp2_with (go_at_call 49; refine (HB.out _ H1.out H2.out).mono ?_; rintro e w1 ⟨x, hx, rfl, d1⟩; refine Hid.out ?_)
    refine (show ∀ {p : Prop}, p → Hid p from fun h => h) ?_
    go_wp2_with (go_at_call 49; refine (HB.out _ d1.cur d1.code).mono ?_; rintro e w2 ⟨y, hy, rfl, d2⟩; refine Hid.out ?_)
    refine (show ∀ {p : Prop}, p → Hid p from fun h => h) ?_
    go_wp2_with (go_at_call 49; refine (HB.out _ d2.cur d2.code).mono ?_; rintro e w3 ⟨z, hz, rfl, d3⟩; refine Hid.out ?_)
    refine (show ∀ {p : Prop}, p → Hid p from fun h => h) ?_
    go_wp2_with (go_at_call 49; refine (HB.out _ d3.cur d3.code).mono ?_; rintro e w4 ⟨v, hv, rfl, d4⟩; refine Hid.out ?_)
    refine (show ∀ {p : Prop}, p → Hid p from fun h => h) ?_
    go_wp2
    go_ret
    exact fin_rem h0 (d1.trans (d2.trans (d3.trans d4)))


theorem cur_new (w : World) (a : Option Addr) (len cap : Nat) (h : Int) : Cur (w.alloc (.cells #[.slice a len cap, .int .i64 0, .int .i64 h] 61)) w.heap.size a len cap :=
  ⟨0, h, Nat.zero_le _, heap_alloc_new w _⟩

theorem code_new {w : World} {a : Option Addr} {len : Nat} (h : Code w w.heap.size a len) (o : Obj) : Code (w.alloc o) w.heap.size a len := by
  rcases h with h | ⟨b, off, ha, hb, hn, hc⟩
  · exact .inl h
  · refine .inr ⟨b, off, ha, by simp; omega, hn, fun j hj => ?_⟩
    obtain ⟨z, hz, hcell⟩ := hc j hj
    exact ⟨z, hz, by rw [World.cell?_of_block (w := w) (Below.heap_alloc w o b hb)]; exact hcell⟩

set_option maxRecDepth 100000 in
set_option maxHeartbeats 2000000 in
theorem l01New_any (w : World) (a : Option Addr) (len cap : Nat) (hl : len ≤ 1048576) (hcode : Code w w.heap.size a len) :
    Calls Try.prog 13 #[.slice a len cap] w fun e w' => e = .returned (.pointer (some ⟨w.heap.size, 0, none⟩)) ∧ Cur w' w.heap.size a len cap ∧ Code w' w.heap.size a len ∧ Below w.heap.size w w' ∧ w.heap.size < w'.heap.size := by
  have HC := hideIt hcode
  clear hcode
  go_enter Try.func13, Try.ntmps13
  go_wp2
  go_loop [3, 4] (fun hh i => ∃ (k : Nat) (h : Int), k ≤ len ∧ 0 ≤ h ∧ h ≤ 2147483648 ∧ i = .int .i64 k ∧ hh = .int .i64 h) (fun _ i => len - (intOf i).toNat)
  case atStart => exact ⟨0, 13501 + (len : Int), by omega, by omega, by omega, rfl, rfl⟩
  case round =>
    obtain ⟨k, h, hk, h0, h1, rfl, rfl⟩ := hrel
    by_cases hlt : k < len
    · have e0 : decide ((k : Int) < (len : Int)) = true := by simp; omega
      by_cases h4 : k < 4000
      · have e1 : decide ((k : Int) < 4000) = true := by simp; omega
        rcases HC.out with hz | ⟨b, off, rfl, hb, hne, hc⟩
        · omega
        · obtain ⟨z, hz, hcell⟩ := hc k hlt
          have b1 : (0 : Int) ≤ (k : Int) := by omega
          have b2 : (k : Int) < (len : Int) := by omega
          clear hc HC
          go_wp2
          have ha := and30 (h * 131 + (z : Int) + 7)
          go_round
          case rel => exact ⟨k + 1, _, by omega, ha.1, by omega, by go_num, rfl⟩
          case measure => simp [intOf]; omega
      · have e1 : decide ((k : Int) < 4000) = false := by simp; omega
        go_wp2
        go_ret
        exact ⟨rfl, cur_new w a len cap h, code_new HC.out _, (Below.refl _ _).alloc (Nat.le_refl _) _, by simp⟩
    · have e0 : decide ((k : Int) < (len : Int)) = false := by simp; omega
      go_wp2
      go_ret
      exact ⟨rfl, cur_new w a len cap h, code_new HC.out _, (Below.refl _ _).alloc (Nat.le_refl _) _, by simp⟩

theorem l01Once_any (n : Int) (h0 : 0 < n) (h1 : n ≤ 4294967296) (w : World) (G : Nat) (a : Option Addr) (len cap : Nat) (hl : len ≤ 1048576) (hcur : Cur w G a len cap) (hcode : Code w G a len) :
    Calls Try.prog 38 #[.pointer (some ⟨G, 0, none⟩), .int .i64 n] w fun e w' => ∃ b : Bool, e = .returned (.bool b) ∧ Drawn w w' G a len cap := by
  have HB := hideIt (l01Below_any n h0 h1 w G a len cap hl hcur hcode)
  clear hcur hcode
  go_enter Try.func38, Try.ntmps38
  go_wp2_with (go_at_call 29; refine HB.out.mono ?_; rintro e w1 ⟨x, hx, rfl, hd⟩)
  go_ret
  exact ⟨_, rfl, hd⟩

theorem l01PickInt_any (L n : Nat) (c : Nat) (hn : 0 < n) (hn2 : n ≤ 1000) (w : World) (G : Nat) (a : Option Addr) (len cap : Nat) (hl : len ≤ 1048576) (hcur : Cur w G a len cap) (hcode : Code w G a len) (hL : L < w.heap.size) (hLG : L ≠ G)
    (hcells : ∀ j, j < n → ∃ z : Int, w.cell? ⟨L, j, none⟩ = some (.int .i64 z)) :
    Calls Try.prog 33 #[.pointer (some ⟨G, 0, none⟩), .slice (some ⟨L, 0, none⟩) n c] w fun e w' => ∃ x : Int, e = .returned (.int .i64 x) ∧ Drawn w w' G a len cap := by
  have HB := hideIt (l01Below_any (n : Int) (by omega) (by omega) w G a len cap hl hcur hcode)
  have HL := hideIt hcells
  clear hcur hcode hcells
  go_enter Try.func33, Try.ntmps33
  go_wp2_with (go_at_call 29; refine HB.out.mono ?_; rintro e w1 ⟨x, hx, rfl, hd⟩; refine Hid.out ?_)
  refine (show ∀ {p : Prop}, p → Hid p from fun h => h) ?_
  have hxn : x < n := by omega
  obtain ⟨z, hz⟩ := HL.out x hxn
  have hz1 : w1.cell? ⟨L, x, none⟩ = some (.int .i64 z) := by rw [World.cell?_of_block (w := w) (hd.grown.block L hL (by simp; exact hLG))]; exact hz
  have b1 : (0 : Int) ≤ (x : Int) := by omega
  clear HB HL hz
  go_wp2
  go_ret
  exact ⟨_, rfl, hd⟩

end Go.Proofs.Ythffflpclmpamaa
namespace Go.Proofs.Ythffflpclmpamaa
open Go.RowKit

theorem Drawn.below {w w' : World} {G : Nat} {a : Option Addr} {len cap : Nat} {B : Nat} (h : Drawn w w' G a len cap) (hB : B ≤ G) (hw : B ≤ w.heap.size) : Below B w w' :=
  ⟨h.grown.os, h.grown.tape, h.grown.output, h.grown.size, fun k hk => h.grown.block k (by omega) (by intro e; simp at e; omega)⟩

theorem Cur.alloc {w : World} {G : Nat} {a : Option Addr} {len cap : Nat} (h : Cur w G a len cap) (o : Obj) : Cur (w.alloc o) G a len cap := by
  obtain ⟨i, x, hi, hG⟩ := h
  exact ⟨i, x, hi, by rw [Below.heap_alloc w o G (Array.getElem?_eq_some_iff.1 hG).1]; exact hG⟩

theorem Cur.lt {w : World} {G : Nat} {a : Option Addr} {len cap : Nat} (h : Cur w G a len cap) : G < w.heap.size := by
  obtain ⟨i, x, hi, hG⟩ := h
  exact (Array.getElem?_eq_some_iff.1 hG).1

theorem Code.alloc {w : World} {G : Nat} {a : Option Addr} {len : Nat} (h : Code w G a len) (o : Obj) : Code (w.alloc o) G a len := by
  rcases h with h | ⟨b, off, ha, hb, hn, hc⟩
  · exact .inl h
  · refine .inr ⟨b, off, ha, by simp; omega, hn, fun j hj => ?_⟩
    obtain ⟨z, hz, hcell⟩ := hc j hj
    exact ⟨z, hz, by rw [World.cell?_of_block (w := w) (Below.heap_alloc w o b hb)]; exact hcell⟩

theorem ten_cells (w : World) (z0 z1 z2 z3 z4 z5 z6 z7 z8 z9 : Int) (t : TypeId) : ∀ j, j < 10 → ∃ z : Int, (w.alloc (.cells #[.int .i64 z0, .int .i64 z1, .int .i64 z2, .int .i64 z3, .int .i64 z4, .int .i64 z5, .int .i64 z6, .int .i64 z7, .int .i64 z8, .int .i64 z9] t)).cell? ⟨w.heap.size, j, none⟩ = some (.int .i64 z) := by
  intro j hj
  rw [cell_of_row _ w.heap.size j _ t (0, 0) (heap_alloc_new w _)]
  rcases (show j = 0 ∨ j = 1 ∨ j = 2 ∨ j = 3 ∨ j = 4 ∨ j = 5 ∨ j = 6 ∨ j = 7 ∨ j = 8 ∨ j = 9 from by omega) with rfl | rfl | rfl | rfl | rfl | rfl | rfl | rfl | rfl | rfl <;> exact ⟨_, rfl⟩

/-- the cells of n bytes of nought -/
theorem made_bytes (n : Nat) : (madeCells #[Value.int .u8 0] n).toList = bv (List.replicate n 0) := by
  rw [toList_madeCells_one]
  simp [bv]

theorem bv_set (l : List UInt8) (j : Nat) (b : UInt8) (x : Int) (h : (b.toNat : Int) = x) : (bv l).set j (.int .u8 x) = bv (l.set j b) := by
  subst h
  simp [bv, List.map_set]

set_option maxRecDepth 100000 in
set_option maxHeartbeats 2000000 in
theorem l01Long_any (n : Nat) (hn : n ≤ 1048576) (b : UInt8) (w : World) :
    Calls Try.prog 36 #[.int .i64 (n : Int), .int .u8 (b.toNat : Int)] w fun e w' => ∃ S : ByteArray, S.size = n ∧ e = .returned (.string S) ∧ Below w.heap.size w w' := by
  obtain ⟨i0, hi, hz0, hz1, hz2⟩ := info_parts info5
  have hmk : ∀ u : World, (Instr.makeSlice 22 (.int .i64 (n : Int)) (.int .i64 (n : Int))).run Try.prog u =
      .ok (.slice (some ⟨u.heap.size, 0, none⟩) n n) (u.alloc (.cells (madeCells #[.int .u8 0] n) 5)) := fun u => by
    have h := run_make (P := Try.prog) u 22 5 i0 (.int .u8 0) Try.underlying22 hi hz0 .i64 .i64 (n : Int) (n : Int) (by omega) (by omega) (by rw [hz2]; omega) (by omega)
    rw [Int.toNat_natCast] at h
    simpa [hz1, Value.cells] using h
  have hb := UInt8.toNat_lt b
  obtain ⟨x, hx⟩ : ∃ x : Int, (b.toNat : Int) = x := ⟨_, rfl⟩
  rw [hx]
  have HX := hideIt hx
  clear hx hb
  have hown0 : (w.alloc (.cells (madeCells #[.int .u8 0] n) 5)).ownsRow w.heap.size 5 1 (.slice (some ⟨w.heap.size, 0, none⟩) n n) n (bv (List.replicate n 0)) := by
    have := World.ownsRow_lit (base := w.heap.size) (e := 5) (size := 1) w (madeCells #[.int .u8 0] n) n (Nat.le_refl _) (by unfold maxLen; omega) (by simp [madeCells])
    rw [made_bytes] at this
    exact this
  have HO := hideIt hown0
  clear hown0
  go_enter Try.func36, Try.ntmps36
  go_wp2
  go_loopw [6] (fun i wr => ∃ (k : Nat) (l : List UInt8), k ≤ n ∧ i = .int .i64 k ∧ wr.ownsRow w.heap.size 5 1 (.slice (some ⟨w.heap.size, 0, none⟩) n n) n (bv l) ∧ Below w.heap.size w wr) (fun i _ => n - (intOf i).toNat)
  case atStart => exact ⟨0, _, by omega, rfl, HO.out, (Below.refl _ _).alloc (Nat.le_refl _) _⟩
  case round =>
    obtain ⟨k, l, hk, rfl, hown, hb⟩ := hrel
    clear HO
    by_cases hlt : k < n
    · have hll : k < (bv l).length := by have := hown.1; omega
      have hc1 : wr.cell? ⟨w.heap.size, k, none⟩ = some ((bv l)[k]'hll) := by rw [hown.cellAt k (by omega)]; exact List.getElem?_eq_getElem hll
      have hf1 := hown.frozenAt k
      have HS := hideIt (hown.stored k (.int .u8 x)).1
      have HB := hideIt (hb.setCell (p := ⟨w.heap.size, k, none⟩) (Nat.le_refl _) (.int .u8 x))
      have b1 : (0 : Int) ≤ (k : Int) := by omega
      have b2 : (k : Int) < (n : Int) := by omega
      clear hown hb
      go_wp2
      go_roundw
      case rel => exact ⟨k + 1, l.set k b, by omega, by go_num, by rw [← bv_set l k b x HX.out]; exact HS.out, HB.out⟩
      case measure => simp [intOf]; omega
    · have hcv := conv_at hown
      have hln : l.length = n := by have := hown.1; simp [bv] at this; exact this
      have HLn := hideIt hln
      clear hown hln
      go_wp2
      go_ret
      exact ⟨_, by simp [ByteArray.size]; exact HLn.out, rfl, hb⟩

theorem Cur.kept {w w' : World} {G : Nat} {a : Option Addr} {len cap : Nat} {row : Option Nat} (h : Cur w G a len cap) (hg : w.grownBy w' row) (hr : some G ≠ row) : Cur w' G a len cap := by
  obtain ⟨i, x, hi, hG⟩ := h
  exact ⟨i, x, hi, by rw [hg.block G (Array.getElem?_eq_some_iff.1 hG).1 hr]; exact hG⟩

theorem Code.keptRow {w w' : World} {G : Nat} {a : Option Addr} {len : Nat} {row : Option Nat} (h : Code w G a len) (hg : w.grownBy w' row) (hr : ∀ b off, a = some ⟨b, off, none⟩ → some b ≠ row) : Code w' G a len := by
  rcases h with h | ⟨b, off, ha, hb, hn, hc⟩
  · exact .inl h
  · refine .inr ⟨b, off, ha, Nat.lt_of_lt_of_le hb hg.size, hn, fun j hj => ?_⟩
    obtain ⟨z, hz, hcell⟩ := hc j hj
    exact ⟨z, hz, by rw [World.cell?_of_block (w := w) (hg.block b hb (hr b off ha))]; exact hcell⟩

/-- the bytes lie below block B -/
def Low (a : Option Addr) (len B : Nat) : Prop := len = 0 ∨ ∀ b off, a = some ⟨b, off, none⟩ → b < B

theorem code_low {w : World} {G : Nat} {a : Option Addr} {len B : Nat} (h : Code w G a len) (hl : w.heap.size ≤ B) : Low a len B := by
  rcases h with h | ⟨b, off, ha, hb, _, _⟩
  · exact .inl h
  · refine .inr fun b' off' ha' => ?_
    rw [ha] at ha'
    simp at ha'
    omega

theorem code_row {w w' : World} {G : Nat} {a : Option Addr} {len B : Nat} {row : Option Nat} (h : Code w G a len) (hlow : Low a len B) (hg : w.grownBy w' row) (hr : ∀ k, row = some k → B ≤ k) : Code w' G a len := by
  rcases hlow with h0 | hlow
  · exact .inl h0
  · exact h.keptRow hg (fun b off ha e => by have := hlow b off ha; have := hr b e.symm; omega)

set_option maxRecDepth 100000 in
set_option maxHeartbeats 2000000 in
theorem l01Text_any (n : Nat) (hn : n ≤ 5000) (w : World) (G : Nat) (a : Option Addr) (len cap : Nat) (hl : len ≤ 1048576) (hcur : Cur w G a len cap) (hcode : Code w G a len) :
    Calls Try.prog 30 #[.pointer (some ⟨G, 0, none⟩), .int .i64 (n : Int)] w fun e w' => ∃ S : ByteArray, S.size = n ∧ e = .returned (.string S) ∧ Below G w w' := by
  obtain ⟨i0, hi, hz0, hz1, hz2⟩ := info_parts info5
  have hG := hcur.lt
  have hlow := code_low (B := w.heap.size) hcode (Nat.le_refl _)
  have HLow := hideIt hlow
  have HC := hideIt (hcur.alloc (.cells #[] 5))
  have HD := hideIt (hcode.alloc (.cells #[] 5))
  have HB := hideIt (fun (W : World) (hc : Cur W G a len cap) (hd : Code W G a len) => l01Byte_drawn W G a len cap hl hc hd)
  have d0 : decide ((5000 : Int) < (n : Int)) = false := by simp; omega
  clear hcur hcode hlow
  go_enter Try.func30, Try.ntmps30
  go_wp2
  go_loopw [5, 6] (fun out i wr => ∃ (k g c : Nat) (l : List UInt8), k ≤ n ∧ i = .int .i64 k ∧ out = .slice (some ⟨g, 0, none⟩) k c ∧ Hid (l.length = k) ∧ wr.ownsRow w.heap.size 5 1 (.slice (some ⟨g, 0, none⟩) k c) k (bv l) ∧ Hid (Cur wr G a len cap) ∧ Hid (Code wr G a len) ∧ Below G w wr)
    (fun _ i _ => n - (intOf i).toNat)
  case atStart => exact ⟨0, w.heap.size, 0, [], by omega, rfl, rfl, rfl, World.ownsRow_made _ _ _ (Nat.le_refl _) (by unfold maxLen; omega) rfl, HC, HD, (Below.refl _ _).alloc (by omega) _⟩
  case round =>
    obtain ⟨k, g, c, l, hk, rfl, rfl, hll, hown, hc, hd, hb⟩ := hrel
    have hsz := hb.size
    clear HC HD
    by_cases hlt : k < n
    · go_wp2_with (go_at_call 49; refine (HB.out _ hc.out hd.out).mono ?_; rintro e w1 ⟨x, hx, rfl, dr⟩; refine Hid.out ?_)
      refine (show ∀ {p : Prop}, p → Hid p from fun h => h) ?_
      have lg := hown.lt g rfl
      have hown1 := World.ownsRow.kept hown dr.grown (.inr (by simp [Value.ownBlock]; omega))
      have s1 := dr.grown.size
      have hb1 := hb.trans (dr.below (Nat.le_refl _) (by omega))
      have HC1 := hideIt dr.cur
      have HD1 := hideIt dr.code
      clear dr hown hb hc hd
      go_wp2_with (at_builtin; refine wpList_append_lies _ rfl _ _ 22 rfl w.heap.size 5 i0 (.int .u8 0) 1 1 Try.underlying22 hi hz0 hz1 hz2 rfl (by decide) _ _ _ rfl (hown1.alloc _) ⟨w1.heap.size, 0, none⟩ 1 1 [Value.int .u8 (x : Int)] rfl rfl (one_new _ _ _) (by intro u hu; simp at hu; subst hu; rfl) (by omega) (by unfold maxLen; omega) (by omega) (by simp; omega) (w1.heap.size + 1) (by simp) ?_)
      intro g2 c2 w2 hown2 hg2 _ _
      have hrow : ∀ j, (Value.slice (some ⟨g, 0, none⟩) k c).ownBlock = some j → w.heap.size ≤ j := fun j hj => by simp [Value.ownBlock] at hj; omega
      have HB2 : Hid (Below G w w2) := (hb1.alloc (by omega) _).grown hg2 (by simp; omega) (fun j hj => by have := hrow j hj; omega)
      have HC2 : Hid (Cur w2 G a len cap) := (HC1.out.alloc _).kept hg2 (by simp [Value.ownBlock]; omega)
      have HD2 : Hid (Code w2 G a len) := code_row (HD1.out.alloc _) HLow.out hg2 hrow
      rw [bv_snoc l (UInt8.ofNat x) x (by simp; omega)] at hown2
      have HL2 : Hid ((l ++ [UInt8.ofNat x]).length = k + 1) := by show _ = _; rw [List.length_append, hll.out]; rfl
      clear hg2 hown1 hb1 HC1 HD1
      go_wp2
      go_roundw
      case rel => exact ⟨k + 1, g2, c2, _, by omega, by go_num, rfl, HL2, hown2, HC2, HD2, HB2⟩
      case measure => simp [intOf]; omega
    · have hcv := conv_at hown
      have HLn : Hid (l.length = n) := by show _ = _; have := hll.out; omega
      clear hown
      go_wp2
      go_ret
      exact ⟨_, by simp [ByteArray.size]; exact HLn.out, rfl, hb⟩

theorem big_any (w : World) (a : Option Addr) (len cap : Nat) : Calls Try.prog 4 #[.slice a len cap] w fun e w' => e = .returned (.bool (decide ((1048576 : Int) < (len : Int)))) ∧ w' = w := by
  go_enter Try.func4, Try.ntmps4
  go_wp2
  go_ret
  exact ⟨rfl, rfl⟩

end Go.Proofs.Ythffflpclmpamaa
namespace Go.Proofs.Ythffflpclmpamaa
open Go.RowKit

theorem info3 : (Try.prog.info? 3).map (fun i => (i.zero, i.size, i.bytes)) = some (some (.int .i64 0), 1, 8) := by kernel_rfl

/-- the cells of the numbers l -/
def nvs (l : List Nat) : List Value := l.map fun (z : Nat) => Value.int .i64 (z : Int)
theorem nvs_snoc (l : List Nat) (x : Nat) : nvs l ++ [Value.int .i64 (x : Int)] = nvs (l ++ [x]) := by simp [nvs]

theorem ownsRow_mono {w : World} {B B' e s n : Nat} {v : Value} {xs : List Value} (h : w.ownsRow B e s v n xs) (hB : B' ≤ B) : w.ownsRow B' e s v n xs :=
  ⟨h.1, h.2.imp id (fun ⟨g, cap, cur, a, b, rest⟩ => ⟨g, cap, cur, a, Nat.le_trans hB b, rest⟩)⟩

end Go.Proofs.Ythffflpclmpamaa
namespace Go.Proofs.Ythffflpclmpamaa
open Go.RowKit

theorem l01In_yes (x a b : Int) (h1 : a ≤ x) (h2 : x ≤ b) (w : World) :
    Calls Try.prog 27 #[.int .i64 x, .int .i64 a, .int .i64 b] w fun e w' => e = .returned (.bool true) ∧ w' = w := by
  have d1 : decide (a ≤ x) = true := by simp [h1]
  have d2 : decide (x ≤ b) = true := by simp [h2]
  go_enter Try.func27, Try.ntmps27
  go_wp2
  go_ret
  exact ⟨by simp, rfl⟩

theorem l01In_no (x a b : Int) (h : x < a ∨ b < x) (w : World) :
    Calls Try.prog 27 #[.int .i64 x, .int .i64 a, .int .i64 b] w fun e w' => e = .returned (.bool false) ∧ w' = w := by
  by_cases h1 : a ≤ x
  · have d1 : decide (a ≤ x) = true := by simp [h1]
    have h2 : ¬ x ≤ b := by omega
    have d2 : decide (x ≤ b) = false := by simp [h2]
    go_enter Try.func27, Try.ntmps27
    go_wp2
    go_ret
    exact ⟨by simp, rfl⟩
  · have d1 : decide (a ≤ x) = false := by simp [h1]
    go_enter Try.func27, Try.ntmps27
    go_wp2
    go_ret
    exact ⟨by simp, rfl⟩

theorem l03Name_yes (s : ByteArray) (h0 : 1 ≤ s.size) (h1 : s.size ≤ 8) (w : World) :
    Calls Try.prog 43 #[.string s] w fun e w' => e = .returned (.bool true) ∧ w' = w := by
  have H := hideIt (l01In_yes (s.size : Int) 1 8 (by omega) (by omega) w)
  go_enter Try.func43, Try.ntmps43
  go_wp2_with (go_at_call 27; refine H.out.mono ?_; rintro e w1 ⟨rfl, rfl⟩)
  go_ret
  exact ⟨rfl, rfl⟩

theorem l03Name_no (s : ByteArray) (hm : s.size ≤ maxLen) (h : s.size < 1 ∨ 8 < s.size) (w : World) :
    Calls Try.prog 43 #[.string s] w fun e w' => e = .returned (.bool false) ∧ w' = w := by
  unfold maxLen at hm
  have H := hideIt (l01In_no (s.size : Int) 1 8 (by omega) w)
  go_enter Try.func43, Try.ntmps43
  go_wp2_with (go_at_call 27; refine H.out.mono ?_; rintro e w1 ⟨rfl, rfl⟩)
  go_ret
  exact ⟨rfl, rfl⟩

def lessB (a b : ByteArray) : Bool := Op.bytesLess a.toList b.toList
/-- a file as it must be -/
def FileOk (f : FileV) : Prop := (1 ≤ f.name.size ∧ f.name.size ≤ 8) ∧ f.text.size ≤ 20000 ∧ 0 ≤ f.kept ∧ f.kept ≤ f.text.size
/-- the file at k is as it must be, and behind the one ahead of it -/
def OkAt (fs : List FileV) (k : Nat) : Prop := ∀ f, fs[k]? = some f → FileOk f ∧ ∀ g, 0 < k → fs[k - 1]? = some g → lessB g.name f.name = true
/-- a disk as it must be -/
def DiskR (fs : List FileV) : Prop := fs.length ≤ 30 ∧ ∀ k, k < fs.length → OkAt fs k

/-- whether a disk is as it must be -/
noncomputable def dB (fs : List FileV) : Bool := @decide (DiskR fs) (Classical.propDecidable _)
theorem dB_true {fs : List FileV} (h : DiskR fs) : dB fs = true := by unfold dB; simp [h]
theorem dB_false {fs : List FileV} (h : ¬ DiskR fs) : dB fs = false := by unfold dB; simp [h]
theorem dB_iff {fs : List FileV} : dB fs = true ↔ DiskR fs := by unfold dB; simp

theorem not_disk {fs : List FileV} {k : Nat} {f : FileV} (hf : fs[k]? = some f) (h : ¬ FileOk f) : ¬ DiskR fs := fun hd =>
  h ((hd.2 k (List.getElem?_eq_some_iff.1 hf).1 f hf).1)
theorem not_order {fs : List FileV} {m : Nat} {f g : FileV} (hf : fs[m + 1]? = some f) (hg : fs[m]? = some g) (h : lessB g.name f.name = false) : ¬ DiskR fs := fun hd => by
  have := (hd.2 (m + 1) (List.getElem?_eq_some_iff.1 hf).1 f hf).2 g (by omega) hg
  rw [h] at this
  cases this

set_option maxRecDepth 100000 in
set_option maxHeartbeats 8000000 in
theorem sDiskOk_any (fs : List FileV) (hfit : FitsF fs) (n : Nat) (a : Option Addr) (c : Nat) (hn : n ≤ maxLen) (w : World) (h : Fs w w.heap.size a n fs) :
    Calls Try.prog 42 #[.agg #[.slice a n c]] w fun e w' => e = .returned (.bool (dB fs)) ∧ Below w.heap.size w w' := by
  unfold maxLen at hn
  obtain ⟨hlen, hrow⟩ := h
  by_cases h30 : n ≤ 30
  · have HR := hideIt hrow
    have HF := hideIt hfit
    clear hrow hfit
    have up : ∀ {W : World}, Below (w.heap.size + 1) (w.alloc (.cells #[.slice a n c] 26)) W → Below w.heap.size w W := fun hW =>
      ((Below.refl w.heap.size w).alloc (Nat.le_refl _) _).trans (hW.mono (by omega))
    have UP := hideIt (fun W => @up W)
    clear up
    generalize hB : dB fs = B
    have HB := hideIt hB
    clear hB
    go_enter Try.func42, Try.ntmps42
    go_wp2
    go_loopw [3] (fun i wr => ∃ k : Nat, k ≤ n ∧ i = .int .i64 (k : Int) ∧ Hid (∀ j, j < k → OkAt fs j) ∧ Below (w.heap.size + 1) (w.alloc (.cells #[.slice a n c] 26)) wr) (fun i _ => n - (intOf i).toNat)
    case atStart => exact ⟨0, by omega, rfl, fun j hj => by omega, Below.refl _ _⟩
    case round =>
      obtain ⟨k, hk, rfl, hok, hb⟩ := hrel
      have hsz := hb.size
      simp at hsz
      have hw0 : w.heap.size < wr.heap.size := by omega
      have hd : wr.cell? ⟨w.heap.size, 0, none⟩ = some (.slice a n c) := by rw [hb.cell (by simp)]; simp
      by_cases hlt : k < n
      · rcases HR.out with hz | ⟨b, off, rfl, hbl, hc⟩
        · omega
        · obtain ⟨f, hf⟩ : ∃ f, fs[k]? = some f := ⟨fs[k]'(by omega), List.getElem?_eq_getElem (by omega)⟩
          have hcc : ∀ j f, fs[j]? = some f → wr.cell? ⟨b, off + j * 3, none⟩ = some (.string f.name) ∧ wr.cell? ⟨b, off + j * 3 + 1, none⟩ = some (.string f.text) ∧ wr.cell? ⟨b, off + j * 3 + 2, none⟩ = some (.int .i64 f.kept) := fun j f hf => by
            obtain ⟨c0, c1, c2⟩ := hc j f hf
            have hw := fun o => Below.heap_alloc w o b hbl
            refine ⟨?_, ?_, ?_⟩
            · rw [hb.cell (p := ⟨b, _, none⟩) (by show b < _; omega), World.cell?_of_block (w := w) (hw _)]; exact c0
            · rw [hb.cell (p := ⟨b, _, none⟩) (by show b < _; omega), World.cell?_of_block (w := w) (hw _)]; exact c1
            · rw [hb.cell (p := ⟨b, _, none⟩) (by show b < _; omega), World.cell?_of_block (w := w) (hw _)]; exact c2
          obtain ⟨e0, e1, e2⟩ := hcc k f hf
          have hbw : b < wr.heap.size := by omega
          have b1 : (0 : Int) ≤ (k : Int) := by omega
          have b2 : (k : Int) < (n : Int) := by omega
          have hff := HF.out f (List.mem_of_getElem? hf)
          unfold maxLen at hff
          have K9 : Hid (∀ nq, Below (w.heap.size + 1) (w.alloc (.cells #[.slice (some ⟨b, off, none⟩) n c] 26)) ((wr.alloc (.cells #[.string f.name, .string f.text, .int .i64 f.kept] 49)).drewN nq)) := fun nq => below_drewN (hb.alloc (by omega) _) nq
          by_cases hnm : 1 ≤ f.name.size ∧ f.name.size ≤ 8
          · have HN := hideIt (fun W => l03Name_yes f.name hnm.1 hnm.2 W)
            by_cases htx : f.text.size ≤ 20000
            · have d2 : decide ((20000 : Int) < (f.text.size : Int)) = false := by simp; omega
              by_cases hkp : 0 ≤ f.kept ∧ f.kept ≤ f.text.size
              · have HI := hideIt (fun W => l01In_yes f.kept 0 f.text.size hkp.1 hkp.2 W)
                have hfok : FileOk f := ⟨hnm, htx, hkp⟩
                by_cases hk0 : 0 < k
                · obtain ⟨m, rfl⟩ : ∃ m, k = m + 1 := ⟨k - 1, by omega⟩
                  obtain ⟨g, hg⟩ : ∃ g, fs[m]? = some g := ⟨fs[m]'(by omega), List.getElem?_eq_getElem (by omega)⟩
                  obtain ⟨g0, _, _⟩ := hcc m g hg
                  have d3 : decide ((0 : Int) < (m : Int) + 1) = true := by simp
                  have hw1 : IntKind.i64.wrap (m : Int) = (m : Int) := by rw [IntKind.wrap_i64]; omega
                  have b3 : (0 : Int) ≤ (m : Int) := by omega
                  have b4 : (m : Int) < (n : Int) := by omega
                  by_cases hl : lessB g.name f.name = true
                  · have HO : Hid (∀ j, j < m + 1 + 1 → OkAt fs j) := fun j hj => by
                      by_cases e : j = m + 1
                      · subst e
                        intro f' hf'
                        rw [hf] at hf'
                        cases hf'
                        refine ⟨hfok, fun g' _ hg' => ?_⟩
                        rw [show m + 1 - 1 = m by omega, hg] at hg'
                        cases hg'
                        exact hl
                      · exact hok.out j (by omega)
                    unfold lessB at hl
                    clear hcc hc hg hf hfok hok
                    go_wp2
                    go_quiet (first | (go_at_call 43; exact Calls.quiet_of_same (HN.out _)) | (go_at_call 27; exact Calls.quiet_of_same (HI.out _)))
                    go_wp2
                    exact ⟨⟨m + 1 + 1, by omega, by go_num, HO, K9.out _⟩, by simp [intOf]; omega⟩
                  · have hl' : lessB g.name f.name = false := by simpa using hl
                    have HNO := hideIt (not_order hf hg hl')
                    unfold lessB at hl'
                    clear hcc hc hg hf hfok hok hl
                    go_wp2
                    go_quiet (first | (go_at_call 43; exact Calls.quiet_of_same (HN.out _)) | (go_at_call 27; exact Calls.quiet_of_same (HI.out _)))
                    go_wp2
                    go_ret
                    exact ⟨by rw [← HB.out, dB_false HNO.out]; rfl, UP.out _ (K9.out _)⟩
                · have d3 : decide ((0 : Int) < (k : Int)) = false := by simp; omega
                  have HO : Hid (∀ j, j < k + 1 → OkAt fs j) := fun j hj => by
                    obtain rfl : j = k := by omega
                    intro f' hf'
                    rw [hf] at hf'
                    cases hf'
                    exact ⟨hfok, fun g' h0 _ => absurd h0 hk0⟩
                  clear hcc hc hf hfok hok
                  go_wp2
                  go_quiet (first | (go_at_call 43; exact Calls.quiet_of_same (HN.out _)) | (go_at_call 27; exact Calls.quiet_of_same (HI.out _)))
                  go_wp2
                  exact ⟨⟨k + 1, by omega, by go_num, HO, K9.out _⟩, by simp [intOf]; omega⟩
              · have HI := hideIt (fun W => l01In_no f.kept 0 f.text.size (by omega) W)
                have HNO := hideIt (not_disk hf (fun h => hkp h.2.2))
                clear hcc hc hf hok hkp
                go_wp2
                go_quiet (first | (go_at_call 43; exact Calls.quiet_of_same (HN.out _)) | (go_at_call 27; exact Calls.quiet_of_same (HI.out _)))
                go_wp2
                go_ret
                exact ⟨by rw [← HB.out, dB_false HNO.out]; rfl, UP.out _ (K9.out _)⟩
            · have d2 : decide ((20000 : Int) < (f.text.size : Int)) = true := by simp; omega
              have HNO := hideIt (not_disk hf (fun h => htx h.2.1))
              clear hcc hc hf hok
              go_wp2
              go_quiet ((go_at_call 43; exact Calls.quiet_of_same (HN.out _)))
              go_wp2
              go_ret
              exact ⟨by rw [← HB.out, dB_false HNO.out]; rfl, UP.out _ (K9.out _)⟩
          · have HN := hideIt (fun W => l03Name_no f.name (by unfold maxLen; omega) (by omega) W)
            have HNO := hideIt (not_disk hf (fun h => hnm h.1))
            clear hcc hc hf hok hnm
            go_wp2
            go_quiet ((go_at_call 43; exact Calls.quiet_of_same (HN.out _)))
            go_wp2
            go_ret
            exact ⟨by rw [← HB.out, dB_false HNO.out]; rfl, UP.out _ (K9.out _)⟩
      · have HD := hideIt (show DiskR fs from ⟨by omega, fun j hj => hok.out j (by omega)⟩)
        have K9 := hideIt (UP.out _ hb)
        clear hok
        go_wp2
        go_ret
        exact ⟨by rw [← HB.out, dB_true HD.out]; rfl, K9.out⟩
  · have hno : ¬ DiskR fs := fun hd => h30 (by rw [← hlen]; exact hd.1)
    rw [dB_false hno]
    have d1 : decide ((30 : Int) < (n : Int)) = true := by simp; omega
    clear hno hrow
    go_enter Try.func42, Try.ntmps42
    go_wp2
    go_ret
    exact ⟨rfl, (Below.refl _ _).alloc (Nat.le_refl _) _⟩
end Go.Proofs.Ythffflpclmpamaa
