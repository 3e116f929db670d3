/- Bytes in memory of the call's own. What the draws' cursor gives: some byte, some number below a bound, some text; the cursor stays right, and nothing else that was there turns. Draws for forests. The walk of FnForestNew. A slice of bytes that comes in, as the walks over drawn inputs want it. -/
import Derived.Test.YtcpffonenhhfoaaRows
import Derived.WalkKit
import Derived.OwnWalk
import Derived.Laws.IdiomStrings
import Derived.Test.YtcpffonenhhfoaaKVerts
import Derived.Laws.Bits64b
import Derived.WalkSpells
import Derived.WalkSmall
import Derived.BigQuiet
import Derived.Deep.QuietTactic
import Derived.Deep.RegionHeld3
import Derived.Deep.AppendLies
import Derived.Test.YtcpffonenhhfoaaKSortT7
import Derived.Test.YtcpffonenhhfoaaKIEd7
import Derived.ProofKit
import Derived.OpenShut
import Derived.ChangeOld
import Derived.Below
namespace Go.Proofs.Ytcpffonenhhfoaa
open Go.RowKit

theorem info5 : (Try.prog.info? 5).map (fun i => (i.zero, i.size, i.bytes)) = some (some (.int .u8 0), 1, 1) := by kernel_rfl

/-- the cells of the bytes l -/
def bv (l : List UInt8) : List Value := l.map fun b => Value.int .u8 (b.toNat : Int)

theorem bv_snoc (l : List UInt8) (b : UInt8) (n : Int) (h : (b.toNat : Int) = n) : bv l ++ [Value.int .u8 n] = bv (l ++ [b]) := by
  subst h; simp [bv]

theorem one_new (w : World) (v : Value) (t : TypeId) : ∀ j u, [v][j]? = some u → (w.alloc (.cells #[v] t)).cell? ((⟨w.heap.size, 0, none⟩ : Addr).add j) = some u := by
  intro j u hj
  match j, hj with
  | 0, hj => simp at hj; subst hj; simp [Addr.add]

/-- behind an append to a row of the call's own, nothing below B has turned -/
theorem below_app {B : Nat} {w wr w1 : World} {v : Value} {n : Nat} {xs : List Value} {o : Obj} (hb : Below B w wr) (hB : B ≤ w.heap.size)
    (hown : wr.ownsRow B 5 1 v n xs) (hg : (wr.alloc o).grownBy w1 v.ownBlock) : Below B w w1 :=
  (hb.alloc (by have := hb.size; omega) _).grown hg (by have := hb.size; simp; omega) (fun k hk => (hown.lt k hk).1)

theorem below_appD {B : Nat} {w wr w1 : World} {v : Value} {n : Nat} {xs : List Value} {o : Obj} (hb : Below B w wr) (hB : B ≤ w.heap.size)
    (hown : wr.ownsRow B 5 1 v n xs) (hg : ((wr.alloc o).drew).grownBy w1 v.ownBlock) : Below B w w1 :=
  below_app (o := o) hb hB hown ⟨hg.os, hg.tape, hg.output, hg.size, hg.block⟩

/-- 'string(out)' of a row of bytes of the call's own -/
theorem conv_own {B n : Nat} {v : Value} {l : List UInt8} {w : World} (hown : w.ownsRow B 5 1 v n (bv l)) (hv : ¬ v = .slice none 0 0) :
    ∃ g cap, v = .slice (some ⟨g, 0, none⟩) l.length cap ∧ (convert 22 9 (.slice (some ⟨g, 0, none⟩) l.length cap)).run Try.prog w = .ok (.string ⟨l.toArray⟩) w := by
  have hn : l.length = n := by have := hown.1; simpa [bv] using this
  subst hn
  have hown0 := hown
  rcases hown.2 with ⟨h, _⟩ | ⟨g, cap, cur, rfl, -, -, -, -, -, -⟩
  · exact absurd h hv
  · exact ⟨g, cap, rfl, run_convert_bytes_back (P := Try.prog) w 22 9 5 ⟨g, 0, none⟩ cap l Try.underlying22 Try.underlying5 Try.underlying9 (fun j hj => hown0.cells (g := g) rfl j _ (by simp [bv, hj]))⟩

theorem conv_at {B n g cap : Nat} {l : List UInt8} {w : World} (hown : w.ownsRow B 5 1 (.slice (some ⟨g, 0, none⟩) n cap) n (bv l)) :
    (convert 22 9 (.slice (some ⟨g, 0, none⟩) n cap)).run Try.prog w = .ok (.string ⟨l.toArray⟩) w := by
  obtain ⟨g', cap', hv, hcv⟩ := conv_own hown (by simp)
  rw [hv]
  exact hcv

end Go.Proofs.Ytcpffonenhhfoaa
namespace Go.Proofs.Ytcpffonenhhfoaa
open Go.RowKit

theorem and_small (x : Int) (b : Nat) (hb : b < 4611686018427387904) : 0 ≤ bits .and .i64 x (b : Int) ∧ bits .and .i64 x (b : Int) ≤ (b : Int) := by
  have h2 : (BitVec.ofInt 64 (b : Int)).toNat = b := by
    rw [BitVec.ofInt_natCast, BitVec.toNat_ofNat]; exact Nat.mod_eq_of_lt (by omega)
  have e : bits .and .i64 x (b : Int) = IntKind.i64.wrap ((BitVec.ofInt 64 x &&& BitVec.ofInt 64 (b : Int)).toNat : Int) := rfl
  rw [e, BitVec.toNat_and, h2, IntKind.wrap_i64]
  have := Nat.and_le_right (n := (BitVec.ofInt 64 x).toNat) (m := b)
  omega

theorem and255 (x : Int) : 0 ≤ bits .and .i64 x 255 ∧ bits .and .i64 x 255 ≤ 255 := and_small x 255 (by omega)
theorem and30 (x : Int) : 0 ≤ bits .and .i64 x 1073741823 ∧ bits .and .i64 x 1073741823 ≤ 1073741823 := and_small x 1073741823 (by omega)

/-- the bytes that the draws are drawn from: none, or a row of bytes in a block of its own -/
def Code (w : World) (G : Nat) (a : Option Addr) (len : Nat) : Prop :=
  len = 0 ∨ ∃ b off, a = some ⟨b, off, none⟩ ∧ b < w.heap.size ∧ b ≠ G ∧ ∀ j, j < len → ∃ z : Nat, z ≤ 255 ∧ w.cell? ⟨b, off + j, none⟩ = some (.int .u8 (z : Int))

/-- the cursor in block G -/
def Cur (w : World) (G : Nat) (a : Option Addr) (len cap : Nat) : Prop :=
  ∃ (i : Nat) (h : Int), i ≤ len ∧ w.heap[G]? = some (.cells #[.slice a len cap, .int .i64 (i : Int), .int .i64 h] 73 (0, 0))

theorem grownT {a b c : World} {row : Option Nat} (h : a.grownBy b row) (k : b.grownBy c row) : a.grownBy c row :=
  ⟨k.os.trans h.os, k.tape.trans h.tape, k.output.trans h.output, Nat.le_trans h.size k.size, fun i hi hr => (k.block i (Nat.lt_of_lt_of_le hi h.size) hr).trans (h.block i hi hr)⟩

theorem Code.kept {w w' : World} {G : Nat} {a : Option Addr} {len : Nat} (h : Code w G a len) (hg : w.grownBy w' (some G)) : Code w' G a len := by
  rcases h with h | ⟨b, off, ha, hb, hn, hc⟩
  · exact .inl h
  · refine .inr ⟨b, off, ha, Nat.lt_of_lt_of_le hb hg.size, hn, fun j hj => ?_⟩
    obtain ⟨z, hz, hcell⟩ := hc j hj
    refine ⟨z, hz, ?_⟩
    rw [World.cell?_of_block (w := w) (hg.block b hb (by simp; exact hn))]
    exact hcell

theorem set1 {w : World} {G : Nat} {A B C D : Value} {t : TypeId} (h : w.heap[G]? = some (.cells #[A, B, C] t (0, 0))) : (w.setCell ⟨G, 1, none⟩ D).heap[G]? = some (.cells #[A, D, C] t (0, 0)) := by
  rw [heap_setCell_same w G 1 _ t D h]; rfl
theorem set2 {w : World} {G : Nat} {A B C D : Value} {t : TypeId} (h : w.heap[G]? = some (.cells #[A, B, C] t (0, 0))) : (w.setCell ⟨G, 2, none⟩ D).heap[G]? = some (.cells #[A, B, D] t (0, 0)) := by
  rw [heap_setCell_same w G 2 _ t D h]; rfl
theorem grown_set (w : World) (G j : Nat) (u : Value) : w.grownBy (w.setCell ⟨G, j, none⟩ u) (some G) :=
  ⟨rfl, rfl, rfl, by simp [World.setCell], fun k _ hk => heap_setCell_other w ⟨G, j, none⟩ k u (fun e => hk (by simp [e]))⟩
theorem grown_draws (w : World) (n : Nat) (row : Option Nat) : w.grownBy (w.drewN n) row := ⟨rfl, rfl, rfl, Nat.le_refl _, fun _ _ _ => rfl⟩

theorem fin_byte {y : Int} {R : Prop} (h : 0 ≤ y ∧ y ≤ 255) (hr : R) : ∃ x : Nat, x ≤ 255 ∧ Ending.returned (.int .i64 y) = .returned (.int .i64 (x : Int)) ∧ R :=
  ⟨y.toNat, by omega, by rw [Int.toNat_of_nonneg h.1], hr⟩

set_option maxRecDepth 100000 in
set_option maxHeartbeats 2000000 in
theorem l01Byte_any (w : World) (G : Nat) (a : Option Addr) (len cap : Nat) (hl : len ≤ 1048576) (hcur : Cur w G a len cap) (hcode : Code w G a len) :
    Calls Try.prog 81 #[.pointer (some ⟨G, 0, none⟩)] w fun e w' => ∃ x : Nat, x ≤ 255 ∧ e = .returned (.int .i64 (x : Int)) ∧ Cur w' G a len cap ∧ w.grownBy w' (some G) := by
  obtain ⟨i, h, hi, hG⟩ := hcur
  have c0 : w.cell? ⟨G, 0, none⟩ = some (.slice a len cap) := by rw [cell_of_row w G 0 _ _ _ hG]; rfl
  have c1 : w.cell? ⟨G, 1, none⟩ = some (.int .i64 (i : Int)) := by rw [cell_of_row w G 1 _ _ _ hG]; rfl
  have c2 : w.cell? ⟨G, 2, none⟩ = some (.int .i64 h) := by rw [cell_of_row w G 2 _ _ _ hG]; rfl
  have f1 : w.frozen? ⟨G, 1, none⟩ = false := frozen_of_row w G 1 _ _ hG
  have f2 : w.frozen? ⟨G, 2, none⟩ = false := frozen_of_row w G 2 _ _ hG
  have HG : Hid _ := hG
  clear hG
  by_cases hlt : i < len
  · have e1 : decide ((i : Int) < (len : Int)) = true := by simp; omega
    rcases hcode with h0 | ⟨b, off, rfl, hb, hne, hc⟩
    · omega
    · obtain ⟨z, hz, hcell⟩ := hc i hlt
      have b1 : (0 : Int) ≤ (i : Int) := by omega
      have b2 : (i : Int) < (len : Int) := by omega
      have hcell2 : ∀ v, (w.setCell ⟨G, 2, none⟩ v).cell? ⟨b, off + i, none⟩ = some (.int .u8 (z : Int)) := fun v => by
        rw [World.cell?_of_block (w := w) (heap_setCell_other w ⟨G, 2, none⟩ b v (by exact hne))]
        exact hcell
      clear hc
      go_enter Try.func81, Try.ntmps81
      go_wp2
      go_quiet (fail)
      go_wp2
      go_quiet (fail)
      go_wp2
      go_quiet (fail)
      go_wp2
      go_ret
      refine fin_byte (and255 _) ⟨?_, ?_⟩
      · exact ⟨i + 1, _, by omega, set1 (set2 HG.out)⟩
      · exact grownT (grownT (grown_set w G 2 _) (grown_set _ G 1 _)) (grown_draws _ _ _)
  · have e1 : decide ((i : Int) < (len : Int)) = false := by simp; omega
    go_enter Try.func81, Try.ntmps81
    go_wp2
    go_quiet (fail)
    go_wp2
    go_quiet (fail)
    go_wp2
    go_ret
    refine fin_byte (and255 _) ⟨?_, ?_⟩
    · exact ⟨i, _, hi, set2 HG.out⟩
    · exact grownT (grownT (grown_set w G 2 _) (grown_draws _ _ _)) (grown_draws _ _ _)

/-- what a draw leaves: the cursor, the bytes, the rest as it was -/
structure Drawn (w w' : World) (G : Nat) (a : Option Addr) (len cap : Nat) : Prop where
  cur : Cur w' G a len cap
  code : Code w' G a len
  grown : w.grownBy w' (some G)

theorem Drawn.trans {w w1 w2 : World} {G : Nat} {a : Option Addr} {len cap : Nat} (h : Drawn w w1 G a len cap) (k : Drawn w1 w2 G a len cap) : Drawn w w2 G a len cap :=
  ⟨k.cur, k.code, grownT h.grown k.grown⟩

theorem l01Byte_drawn (w : World) (G : Nat) (a : Option Addr) (len cap : Nat) (hl : len ≤ 1048576) (hcur : Cur w G a len cap) (hcode : Code w G a len) :
    Calls Try.prog 81 #[.pointer (some ⟨G, 0, none⟩)] w fun e w' => ∃ x : Nat, x ≤ 255 ∧ e = .returned (.int .i64 (x : Int)) ∧ Drawn w w' G a len cap :=
  (l01Byte_any w G a len cap hl hcur hcode).mono fun _ _ ⟨x, hx, he, hc, hg⟩ => ⟨x, hx, he, hc, hcode.kept hg, hg⟩

theorem fin_rem {y n : Int} {R : Prop} (h : 0 < n) (hr : R) : ∃ x : Nat, (x : Int) < n ∧ Ending.returned (.int .i64 (y % n)) = .returned (.int .i64 (x : Int)) ∧ R := by
  have h1 := Int.emod_lt_of_pos y h
  have h2 := Int.emod_nonneg y (show n ≠ 0 by omega)
  exact ⟨(y % n).toNat, by omega, by rw [Int.toNat_of_nonneg h2], hr⟩

set_option maxRecDepth 100000 in
set_option maxHeartbeats 2000000 in
theorem l01Below_any (n : Int) (h0 : 0 < n) (h1 : n ≤ 4294967296) (w : World) (G : Nat) (a : Option Addr) (len cap : Nat) (hl : len ≤ 1048576) (hcur : Cur w G a len cap) (hcode : Code w G a len) :
    Calls Try.prog 54 #[.pointer (some ⟨G, 0, none⟩), .int .i64 n] w fun e w' => ∃ x : Nat, (x : Int) < n ∧ e = .returned (.int .i64 (x : Int)) ∧ Drawn w w' G a len cap := by
  have B := fun (W : World) (hc : Cur W G a len cap) (hd : Code W G a len) => l01Byte_drawn W G a len cap hl hc hd
  have HB := (show ∀ {p : Prop}, p → Hid p from fun h => h) B
  clear B
  have H1 := (show ∀ {p : Prop}, p → Hid p from fun h => h) hcur
  have H2 := (show ∀ {p : Prop}, p → Hid p from fun h => h) hcode
  clear hcur hcode
  by_cases hs : n ≤ 256
  · go_enter Try.func54, Try.ntmps54
    go_wp2_with (go_at_call 81; refine (HB.out _ H1.out H2.out).mono ?_; rintro e w1 ⟨x, hx, rfl, hd⟩)
    go_ret
    exact fin_rem h0 hd
  · go_enter Try.func54, Try.ntmps54
    go_wp2_with (go_at_call 81; refine (HB.out _ H1.out H2.out).mono ?_; rintro e w1 ⟨x, hx, rfl, d1⟩; refine Hid.out ?_)
    refine (show ∀ {p : Prop}, p → Hid p from fun h => h) ?_
    go_wp2_with (go_at_call 81; refine (HB.out _ d1.cur d1.code).mono ?_; rintro e w2 ⟨y, hy, rfl, d2⟩; refine Hid.out ?_)
    refine (show ∀ {p : Prop}, p → Hid p from fun h => h) ?_
    go_wp2_with (go_at_call 81; refine (HB.out _ d2.cur d2.code).mono ?_; rintro e w3 ⟨z, hz, rfl, d3⟩; refine Hid.out ?_)
    refine (show ∀ {p : Prop}, p → Hid p from fun h => h) ?_
    go_wp2_with (go_at_call 81; refine (HB.out _ d3.cur d3.code).mono ?_; rintro e w4 ⟨v, hv, rfl, d4⟩; refine Hid.out ?_)
    refine (show ∀ {p : Prop}, p → Hid p from fun h => h) ?_
    go_wp2
    go_ret
    exact fin_rem h0 (d1.trans (d2.trans (d3.trans d4)))

theorem cur_new (w : World) (a : Option Addr) (len cap : Nat) (h : Int) : Cur (w.alloc (.cells #[.slice a len cap, .int .i64 0, .int .i64 h] 73)) w.heap.size a len cap :=
  ⟨0, h, Nat.zero_le _, heap_alloc_new w _⟩

theorem code_new {w : World} {a : Option Addr} {len : Nat} (h : Code w w.heap.size a len) (o : Obj) : Code (w.alloc o) w.heap.size a len := by
  rcases h with h | ⟨b, off, ha, hb, hn, hc⟩
  · exact .inl h
  · refine .inr ⟨b, off, ha, by simp; omega, hn, fun j hj => ?_⟩
    obtain ⟨z, hz, hcell⟩ := hc j hj
    exact ⟨z, hz, by rw [World.cell?_of_block (w := w) (Below.heap_alloc w o b hb)]; exact hcell⟩

set_option maxRecDepth 100000 in
set_option maxHeartbeats 2000000 in
theorem l01New_any (w : World) (a : Option Addr) (len cap : Nat) (hl : len ≤ 1048576) (hcode : Code w w.heap.size a len) :
    Calls Try.prog 27 #[.slice a len cap] w fun e w' => e = .returned (.pointer (some ⟨w.heap.size, 0, none⟩)) ∧ Cur w' w.heap.size a len cap ∧ Code w' w.heap.size a len ∧ Below w.heap.size w w' ∧ w.heap.size < w'.heap.size := by
  have HC := hideIt hcode
  clear hcode
  go_enter Try.func27, Try.ntmps27
  go_wp2
  go_loop [3, 4] (fun hh i => ∃ (k : Nat) (h : Int), k ≤ len ∧ 0 ≤ h ∧ h ≤ 2147483648 ∧ i = .int .i64 k ∧ hh = .int .i64 h) (fun _ i => len - (intOf i).toNat)
  case atStart => exact ⟨0, 13501 + (len : Int), by omega, by omega, by omega, rfl, rfl⟩
  case round =>
    obtain ⟨k, h, hk, h0, h1, rfl, rfl⟩ := hrel
    by_cases hlt : k < len
    · have e0 : decide ((k : Int) < (len : Int)) = true := by simp; omega
      by_cases h4 : k < 4000
      · have e1 : decide ((k : Int) < 4000) = true := by simp; omega
        rcases HC.out with hz | ⟨b, off, rfl, hb, hne, hc⟩
        · omega
        · obtain ⟨z, hz, hcell⟩ := hc k hlt
          have b1 : (0 : Int) ≤ (k : Int) := by omega
          have b2 : (k : Int) < (len : Int) := by omega
          clear hc HC
          go_wp2
          have ha := and30 (h * 131 + (z : Int) + 7)
          go_round
          case rel => exact ⟨k + 1, _, by omega, ha.1, by omega, by go_num, rfl⟩
          case measure => simp [intOf]; omega
      · have e1 : decide ((k : Int) < 4000) = false := by simp; omega
        go_wp2
        go_ret
        exact ⟨rfl, cur_new w a len cap h, code_new HC.out _, (Below.refl _ _).alloc (Nat.le_refl _) _, by simp⟩
    · have e0 : decide ((k : Int) < (len : Int)) = false := by simp; omega
      go_wp2
      go_ret
      exact ⟨rfl, cur_new w a len cap h, code_new HC.out _, (Below.refl _ _).alloc (Nat.le_refl _) _, by simp⟩

theorem l01Once_any (n : Int) (h0 : 0 < n) (h1 : n ≤ 4294967296) (w : World) (G : Nat) (a : Option Addr) (len cap : Nat) (hl : len ≤ 1048576) (hcur : Cur w G a len cap) (hcode : Code w G a len) :
    Calls Try.prog 52 #[.pointer (some ⟨G, 0, none⟩), .int .i64 n] w fun e w' => ∃ b : Bool, e = .returned (.bool b) ∧ Drawn w w' G a len cap := by
  have HB := hideIt (l01Below_any n h0 h1 w G a len cap hl hcur hcode)
  clear hcur hcode
  go_enter Try.func52, Try.ntmps52
  go_wp2_with (go_at_call 54; refine HB.out.mono ?_; rintro e w1 ⟨x, hx, rfl, hd⟩)
  go_ret
  exact ⟨_, rfl, hd⟩

theorem l01PickInt_any (L n : Nat) (c : Nat) (hn : 0 < n) (hn2 : n ≤ 1000) (w : World) (G : Nat) (a : Option Addr) (len cap : Nat) (hl : len ≤ 1048576) (hcur : Cur w G a len cap) (hcode : Code w G a len) (hL : L < w.heap.size) (hLG : L ≠ G)
    (hcells : ∀ j, j < n → ∃ z : Int, w.cell? ⟨L, j, none⟩ = some (.int .i64 z)) :
    Calls Try.prog 53 #[.pointer (some ⟨G, 0, none⟩), .slice (some ⟨L, 0, none⟩) n c] w fun e w' => ∃ x : Int, e = .returned (.int .i64 x) ∧ Drawn w w' G a len cap := by
  have HB := hideIt (l01Below_any (n : Int) (by omega) (by omega) w G a len cap hl hcur hcode)
  have HL := hideIt hcells
  clear hcur hcode hcells
  go_enter Try.func53, Try.ntmps53
  go_wp2_with (go_at_call 54; refine HB.out.mono ?_; rintro e w1 ⟨x, hx, rfl, hd⟩; refine Hid.out ?_)
  refine (show ∀ {p : Prop}, p → Hid p from fun h => h) ?_
  have hxn : x < n := by omega
  obtain ⟨z, hz⟩ := HL.out x hxn
  have hz1 : w1.cell? ⟨L, x, none⟩ = some (.int .i64 z) := by rw [World.cell?_of_block (w := w) (hd.grown.block L hL (by simp; exact hLG))]; exact hz
  have b1 : (0 : Int) ≤ (x : Int) := by omega
  clear HB HL hz
  go_wp2
  go_ret
  exact ⟨_, rfl, hd⟩

end Go.Proofs.Ytcpffonenhhfoaa
namespace Go.Proofs.Ytcpffonenhhfoaa
open Go.RowKit

theorem Cur.up7 {u v : World} {G : Nat} {a : Option Addr} {len cap : Nat} (h : Cur u G a len cap) (hb : Below u.heap.size u v) : Cur v G a len cap := by
  obtain ⟨p, q, h1, h⟩ := h
  exact ⟨p, q, h1, by rw [hb.block G (Array.getElem?_eq_some_iff.1 h).1]; exact h⟩
theorem Code.up7 {u v : World} {G : Nat} {a : Option Addr} {len : Nat} (h : Code u G a len) (hb : Below u.heap.size u v) : Code v G a len :=
  h.kept ⟨hb.os, hb.tape, hb.output, hb.size, fun k hk _ => hb.block k hk⟩
theorem big7_any (w : World) (a : Option Addr) (len cap : Nat) : Calls Try.prog 8 #[.slice a len cap] w fun e w' => e = .returned (.bool (decide ((1048576 : Int) < (len : Int)))) ∧ w' = w := by
  go_enter Try.func8, Try.ntmps8
  go_wp2
  go_ret
  exact ⟨rfl, rfl⟩
theorem five_cells7 (w : World) (z0 z1 z2 z3 z4 : Int) (t : TypeId) : ∀ j, j < 5 → ∃ z : Int, (w.alloc (.cells #[.int .i64 z0, .int .i64 z1, .int .i64 z2, .int .i64 z3, .int .i64 z4] t)).cell? ⟨w.heap.size, j, none⟩ = some (.int .i64 z) := by
  intro j hj
  rw [cell_of_row _ w.heap.size j _ t (0, 0) (heap_alloc_new w _)]
  rcases (show j = 0 ∨ j = 1 ∨ j = 2 ∨ j = 3 ∨ j = 4 from by omega) with rfl | rfl | rfl | rfl | rfl <;> exact ⟨_, rfl⟩
theorem Drawn.from7 {w w' : World} {o : Obj} {G : Nat} {a : Option Addr} {len cap : Nat} (h : Drawn (w.alloc o) w' G a len cap) : Drawn w w' G a len cap := ⟨h.cur, h.code, grownT (World.grownBy_alloc w o (some G)) h.grown⟩
theorem Cur.lt7 {u : World} {G : Nat} {a : Option Addr} {len cap : Nat} (h : Cur u G a len cap) : G < u.heap.size := by
  obtain ⟨p, q, _, h⟩ := h
  exact (Array.getElem?_eq_some_iff.1 h).1
set_option maxRecDepth 100000 in
set_option maxHeartbeats 8000000 in
theorem l01Place7_any (n : Int) (h0 : 0 < n) (h1 : n ≤ 1000000) (w : World) (G : Nat) (a : Option Addr) (len cap : Nat) (hl : len ≤ 1048576) (hcur : Cur w G a len cap) (hcode : Code w G a len) :
    Calls Try.prog 26 #[.pointer (some ⟨G, 0, none⟩), .int .i64 n] w fun e w' => ∃ x : Int, e = .returned (.int .i64 x) ∧ Drawn w w' G a len cap := by
  have hG := hcur.lt7
  have HO := hideIt (l01Once_any 15 (by omega) (by omega) w G a len cap hl hcur hcode)
  clear hcur hcode
  have hw : IntKind.i64.wrap (n + 1) = n + 1 := by rw [IntKind.wrap_i64]; omega
  go_enter Try.func26, Try.ntmps26
  go_wp2_with (go_at_call 52; refine HO.out.mono ?_; rintro e w1 ⟨b, rfl, hd⟩; refine Hid.out ?_)
  refine (show ∀ {p : Prop}, p → Hid p from fun h => h) ?_
  have hs1 := hd.grown.size
  have HD := hideIt hd
  clear hd HO
  cases b with
  | true =>
    have HP := hideIt (l01PickInt_any w1.heap.size 5 5 (by omega) (by omega) _ G a len cap hl (HD.out.cur.up7 ((Below.refl _ _).alloc (Nat.le_refl _) (.cells #[.int .i64 (-1), .int .i64 n, .int .i64 (n + 1), .int .i64 9223372036854775807, .int .i64 (-9223372036854775808)] 3))) (HD.out.code.up7 ((Below.refl _ _).alloc (Nat.le_refl _) _)) (by simp) (by omega) (five_cells7 w1 _ _ _ _ _ 3))
    go_wp2_with (go_at_call 53; refine HP.out.mono ?_; rintro e w2 ⟨y, rfl, hd2⟩)
    go_ret
    exact ⟨_, rfl, HD.out.trans hd2.from7⟩
  | false =>
    have HP := hideIt (l01Below_any n h0 (by omega) w1 G a len cap hl HD.out.cur HD.out.code)
    go_wp2_with (go_at_call 54; refine HP.out.mono ?_; rintro e w2 ⟨y, hy, rfl, hd2⟩)
    go_ret
    exact ⟨_, rfl, HD.out.trans hd2⟩
theorem drawForestNew_any (w : World) (a : Option Addr) (len cap : Nat) (hl : len ≤ 1048576) (hcode : Code w w.heap.size a len) :
    Calls Try.prog 9 #[.slice a len cap] w fun e w' => ∃ x : Int, e = .returned (.int .i64 x) ∧ Below w.heap.size w w' := by
  have HN := hideIt (l01New_any w a len cap hl hcode)
  clear hcode
  go_enter Try.func9, Try.ntmps9
  go_wp2_with (go_at_call 27; refine HN.out.mono ?_; rintro e w1 ⟨rfl, hc, hd, hb, hs⟩; refine Hid.out ?_)
  refine (show ∀ {p : Prop}, p → Hid p from fun h => h) ?_
  have HT := hideIt (l01Place7_any 13 (by omega) (by omega) w1 w.heap.size a len cap hl hc hd)
  clear HN hc hd
  go_wp2_with (go_at_call 26; refine HT.out.mono ?_; rintro e w2 ⟨x, rfl, d2⟩)
  go_ret
  exact ⟨x, rfl, hb.trans ((Below.refl w.heap.size w1).grown d2.grown (by omega) (fun j e => by cases e; exact Nat.le_refl _))⟩
end Go.Proofs.Ytcpffonenhhfoaa
namespace Go.Proofs.Ytcpffonenhhfoaa
open Go.RowKit

set_option maxRecDepth 100000 in
set_option maxHeartbeats 4000000 in
theorem fnForestNew.walk (a : Option Addr) (len cap : Nat) (w : World) (hcode : Code w w.heap.size a len) :
    Calls Try.prog 3 #[.slice a len cap] w fun e w' => e = .returned (.bool true) ∧ Below w.heap.size w w' := by
  have HBg := hideIt (big7_any w a len cap)
  by_cases hl : len ≤ 1048576
  · have d0 : decide ((1048576 : Int) < (len : Int)) = false := decide_eq_false (by omega)
    have HD := hideIt (drawForestNew_any w a len cap hl hcode)
    rw [d0] at HBg
    clear hcode
    go_enter Try.func3, Try.ntmps3
    go_wp2_with (first | (go_at_call 8; refine HBg.out.mono ?_; rintro e w1 ⟨rfl, hw⟩; have hw' := hw.symm; subst hw'; clear hw) | (go_at_call 9; refine HD.out.mono ?_; rintro e w2 ⟨x, rfl, G2⟩; refine Hid.out ?_))
    refine (show ∀ {p : Prop}, p → Hid p from fun h => h) ?_
    have G2 : Good w w2 := G2
    have HI2 := hideIt (iForestNew_any x w2)
    clear HD HBg
    by_cases h1 : 1 ≤ x ∧ x ≤ 12
    · obtain ⟨N, rfl⟩ : ∃ N : Nat, x = (N : Int) := ⟨x.toNat, by omega⟩
      have hN1 : 1 ≤ N := by omega
      have hN2 : N ≤ 12 := by omega
      have ho := newO_yes hN1 hN2
      have HI3 : Hid (∀ u, Calls Try.prog 10 #[.int .i64 (N : Int)] u fun e v => ∃ a m c R, e = .returned (.tuple #[.agg #[.int .i64 (N : Int), .slice a m c], .bool true]) ∧ FB v u.heap.size v.heap.size a m c R ∧ Hid (rts R = newT N) ∧ Good u v) := fun u => (iForestNew_any (N : Int) u).mono fun e v ⟨a, m, c, R, q1, q2, q3, q4⟩ => ⟨a, m, c, R, by rw [q1, ho]; rfl, q2, by rw [ho] at q3; exact q3, q4⟩
      have HS3 : Hid (∀ u, Calls Try.prog 11 #[.int .i64 (N : Int)] u fun e v => ∃ a m c, e = .returned (.tuple #[.agg #[.int .i64 (N : Int), .slice a m c], .bool true]) ∧ Good u v) := fun u => (sForestNew_any (N : Int) u).mono fun e v ⟨a, m, c, R, q1, q2, q3, q4⟩ => ⟨a, m, c, by rw [q1, ho]; rfl, q4⟩
      have HI2 := hideIt (HI3.out w2)
      clear h1 ho
      go_wp2_with (go_at_call 10; refine HI2.out.mono ?_; rintro e w3 ⟨ag, mg, cg, RG, rfl, FG, hrg, G3⟩; refine Hid.out ?_)
      refine (show ∀ {p : Prop}, p → Hid p from fun h => h) ?_
      have DG := OBox.laid (M := (N : Int)) G3.size FG
      have G4 := G2.up (G3.alloc (.cells #[.int .i64 (N : Int), .slice ag mg cg] 27))
      have hmg := hideIt (show mg = N by rw [← FG.len, ← rts_len, hrg.out, newT_len])
      obtain ⟨u3, b3, e1, e2⟩ : ∃ u3 b3, u3 = w3.alloc (.cells #[.int .i64 (N : Int), .slice ag mg cg] 27) ∧ b3 = w3.heap.size := ⟨_, _, rfl, rfl⟩
      clear HI2 FG G3 G2
      go_upto_region 5 with fail
      rw [← e1] at DG G4 ⊢
      rw [← e2] at DG ⊢
      clear e1 e2
      have HS4 := hideIt (HS3.out u3)
      go_wp2_with (go_at_call 11; refine HS4.out.mono ?_; rintro e w4 ⟨aw, mw, cw, rfl, G5⟩; refine Hid.out ?_)
      refine (show ∀ {p : Prop}, p → Hid p from fun h => h) ?_
      have G5a := G5.alloc (.cells #[.int .i64 (N : Int), .slice aw mw cw] 27)
      have DG4 := DG.up G5a
      have G6 := G4.up G5a
      obtain ⟨u4, e1⟩ : ∃ u4, u4 = w4.alloc (.cells #[.int .i64 (N : Int), .slice aw mw cw] 27) := ⟨_, rfl⟩
      clear HS4 G5 G5a DG G4
      go_upto_region 6 with fail
      rw [← e1] at DG4 G6 ⊢
      clear e1
      obtain rfl := hmg.out
      clear hmg
      have hbnd : mg + lnS (newT mg) ≤ 1048576 := by
        have h : ∀ k, lnS (newT k) = k := fun k => by
          induction k with
          | zero => simp [newT, lnS]
          | succ k ih => rw [newT_succ, lnS_snoc, ih]; rfl
        rw [h]
        omega
      have HT : Hid (∀ u v, Good u4 u → v < mg → Calls Try.prog 12 #[.agg #[.int .i64 (mg : Int), .slice ag mg cg], .int .i64 ((v : Nat) : Int)] u fun e x => e = .returned (.int .i64 (v : Int)) ∧ Good u x) := fun u v hu hv =>
        (iTreeOf_any (mg : Int) (newT mg) (v : Int) mg ag cg hbnd u (hrg.out ▸ (DG4.up hu).fb.ts)).mono fun _ _ ⟨he, hb⟩ => ⟨by rw [he, newT_tree hN1 hN2 hv], hb⟩
      have HZ : Hid (∀ u v, Good u4 u → v < mg → Calls Try.prog 13 #[.agg #[.int .i64 (mg : Int), .slice ag mg cg], .int .i64 ((v : Nat) : Int)] u fun e x => e = .returned (.int .i64 1) ∧ Good u x) := fun u v hu hv =>
        (iSizeOf_any (mg : Int) (newT mg) (v : Int) mg ag cg hbnd u (hrg.out ▸ (DG4.up hu).fb.ts)).mono fun _ _ ⟨he, hb⟩ => ⟨by rw [he, newT_size hN1 hN2 hv], hb⟩
      have HE : Hid (∀ u, Good u4 u → Calls Try.prog 14 #[.agg #[.int .i64 (mg : Int), .slice ag mg cg]] u fun e x => ∃ a' c', e = .returned (.slice a' 0 c') ∧ Good u x) := fun u hu =>
        (iEdgesOf_any (mg : Int) (newT mg) mg ag cg hbnd u (hrg.out ▸ (DG4.up hu).fb.ts)).mono fun _ _ ⟨a', m', c', he, ho, hb⟩ => by
          rw [newT_edges hN1 hN2] at ho
          have hm : m' = 0 := by have := ho.1; rw [ecells_length] at this; simp at this; omega
          subst hm
          exact ⟨a', c', he, hb⟩
      go_wp2
      go_loopw [8] (fun i wr => ∃ k : Nat, k ≤ mg ∧ i = .int .i64 (k : Int) ∧ Good u4 wr) (fun i _ => mg - (intOf i).toNat)
      case atStart => exact ⟨0, by omega, rfl, Good.refl _⟩
      case round =>
        obtain ⟨k, hk, rfl, hg⟩ := hrel
        have DGr := DG4.up hg
        have q0 := DGr.cells.1
        have q1 := DGr.cells.2
        by_cases hlt : k < mg
        · have b2 : decide ((k : Int) < (mg : Int)) = true := decide_eq_true (by omega)
          have d1 : ((k : Int) != (k : Int)) = false := by simp
          have HT1 := hideIt (HT.out wr k hg hlt)
          have HG := hideIt hg
          clear DGr hg
          go_wp2_with (go_at_call 12; refine HT1.out.mono ?_; rintro e w5 ⟨rfl, g5⟩; refine Hid.out ?_)
          refine (show ∀ {p : Prop}, p → Hid p from fun h => h) ?_
          have HG5 := hideIt (HG.out.up g5)
          have DG5 := DG4.up HG5.out
          have q2 := DG5.cells.1
          have q3 := DG5.cells.2
          have HZ1 := hideIt (HZ.out w5 k HG5.out hlt)
          clear HT1 q0 q1 g5 DG5
          go_wp2_with (go_at_call 13; refine HZ1.out.mono ?_; rintro e w6 ⟨rfl, g6⟩)
          exact ⟨⟨k + 1, by omega, by go_num, HG5.out.up g6⟩, by simp [intOf]; omega⟩
        · obtain rfl : k = mg := by omega
          have b2 : decide ((k : Int) < (k : Int)) = false := decide_eq_false (by omega)
          have d1 : ((k : Int) == (k : Int)) = true := by simp
          have HE1 := hideIt (HE.out wr hg)
          have HG := hideIt hg
          clear DGr hg
          go_wp2_with (go_at_call 14; refine HE1.out.mono ?_; rintro e w5 ⟨a', c', rfl, g5⟩)
          go_ret
          exact ⟨by simp, G6.up (HG.out.up g5)⟩
    · have ho := newO_no h1
      have HI3 : Hid (∀ u, Calls Try.prog 10 #[.int .i64 x] u fun e v => ∃ a c, e = .returned (.tuple #[.agg #[.int .i64 0, .slice a 0 c], .bool false]) ∧ Good u v) := fun u => (iForestNew_any x u).mono fun e v ⟨a, m, c, R, q1, q2, q3, q4⟩ => by
        rw [ho] at q1 q3
        have hm : m = 0 := by rw [← q2.len, ← rts_len, q3]; rfl
        subst hm
        exact ⟨a, c, q1, q4⟩
      have HS3 : Hid (∀ u, Calls Try.prog 11 #[.int .i64 x] u fun e v => ∃ a m c, e = .returned (.tuple #[.agg #[.int .i64 0, .slice a m c], .bool false]) ∧ Good u v) := fun u => (sForestNew_any x u).mono fun e v ⟨a, m, c, R, q1, q2, q3, q4⟩ => ⟨a, m, c, by rw [q1, ho]; rfl, q4⟩
      have HI2 := hideIt (HI3.out w2)
      clear h1 ho
      go_wp2_with (go_at_call 10; refine HI2.out.mono ?_; rintro e w3 ⟨ag, cg, rfl, G3⟩; refine Hid.out ?_)
      refine (show ∀ {p : Prop}, p → Hid p from fun h => h) ?_
      have DG := Box7.new w3 27 (.int .i64 0) (.slice ag 0 cg) _ rfl
      have G4 := G2.up (G3.alloc (.cells #[.int .i64 0, .slice ag 0 cg] 27))
      obtain ⟨u3, b3, e1, e2⟩ : ∃ u3 b3, u3 = w3.alloc (.cells #[.int .i64 0, .slice ag 0 cg] 27) ∧ b3 = w3.heap.size := ⟨_, _, rfl, rfl⟩
      clear HI2 G3 G2
      go_upto_region 5 with fail
      rw [← e1] at DG G4 ⊢
      rw [← e2] at DG ⊢
      clear e1 e2
      have HS4 := hideIt (HS3.out u3)
      go_wp2_with (go_at_call 11; refine HS4.out.mono ?_; rintro e w4 ⟨aw, mw, cw, rfl, G5⟩; refine Hid.out ?_)
      refine (show ∀ {p : Prop}, p → Hid p from fun h => h) ?_
      have G5a := G5.alloc (.cells #[.int .i64 0, .slice aw mw cw] 27)
      have DG4 := DG.up G5a
      have G6 := G4.up G5a
      obtain ⟨u4, e1⟩ : ∃ u4, u4 = w4.alloc (.cells #[.int .i64 0, .slice aw mw cw] 27) := ⟨_, rfl⟩
      clear HS4 G5 G5a DG G4
      go_upto_region 6 with fail
      rw [← e1] at DG4 G6 ⊢
      clear e1
      have q1 := DG4.cell1
      go_wp2
      go_ret
      exact ⟨by simp, G6⟩
  · have d0 : decide ((1048576 : Int) < (len : Int)) = true := decide_eq_true (by omega)
    rw [d0] at HBg
    clear hcode
    go_enter Try.func3, Try.ntmps3
    go_wp2_with (go_at_call 8; refine HBg.out.mono ?_; rintro e w1 ⟨rfl, rfl⟩)
    go_ret
    exact ⟨rfl, Below.refl _ _⟩
end Go.Proofs.Ytcpffonenhhfoaa
namespace Go.Proofs.Ytcpffonenhhfoaa
open Go.ChangeShapes Go.WideShapes Go.ChangeAt Go.RowKit

/-- a slice of bytes that came in, as the walk wants it -/
theorem code_of {H : Type} {enc : TypeId × Value → H} {W : World} {a : Option Addr} {len cap fuel : Nat} {x : DataW H × List MemPlace}
    (hf : DataW.trod enc Try.prog W 0 (fun _ => true) true fuel 22 [.slice a len cap] = some x) : Code W W.heap.size a len := by
  rcases open_ints Try.underlying22 Try.underlying5 (by kernel_rfl) hf with ⟨hcs, _⟩ | ⟨x, l, c, zs, hcs, _, hl, hm, hz, _, hcell, hwz⟩
  · simp at hcs
    obtain ⟨rfl, rfl, rfl⟩ := hcs
    exact .inl rfl
  · simp at hcs
    obtain ⟨rfl, rfl, rfl⟩ := hcs
    by_cases h0 : len = 0
    · exact .inl h0
    · have hzl : zs.length = cap := by simpa using hz
      obtain ⟨b, off, rfl, hc⟩ := ints_at hcell (by omega)
      have hb : b < W.heap.size := World.block_lt_of_cell? W _ (hc 0 (by omega))
      refine .inr ⟨b, off, rfl, hb, by omega, fun j hj => ?_⟩
      have hw := hwz (zs.getD j 0) (by
        rw [List.getD_eq_getElem?_getD, List.getElem?_eq_getElem (by omega)]
        exact List.getElem_mem _)
      have hr : 0 ≤ zs.getD j 0 ∧ zs.getD j 0 ≤ 255 := by simpa [Lit.wf, IntKind.min, IntKind.max, IntKind.signed, IntKind.bits] using hw
      refine ⟨(zs.getD j 0).toNat, by omega, ?_⟩
      rw [hc j (by omega), Int.toNat_of_nonneg hr.1]

end Go.Proofs.Ytcpffonenhhfoaa
