/- Bytes in memory of the call's own. What the draws' cursor gives: some byte, some number below a bound, some text; the cursor stays right, and nothing else that was there turns. Draws for forests. Headers of rows that are only read. What the laws of chapter 6 that answer lists share. The specification's VertsOf. -/
import Derived.Test.YtpfkfbmghddepaaGreatRows
import Derived.WalkKit
import Derived.OwnWalk
import Derived.Laws.IdiomStrings
import Derived.Test.YtpfkfbmghddepaaGreatKLd9
import Derived.Laws.Bits64b
import Derived.WalkSpells
import Derived.WalkSmall
import Derived.BigQuiet
import Derived.Deep.QuietTactic
import Derived.Deep.RegionHeld3
import Derived.Deep.AppendLies
import Derived.Test.YtpfkfbmghddepaaGreatKFB7
import Derived.Test.YtpfkfbmghddepaaGreatKSplit
import Derived.Test.YtpfkfbmghddepaaGreatKIFa9
namespace Go.Proofs.YtpfkfbmghddepaaGreat
open Go.RowKit

theorem info5 : (Tryz.prog.info? 5).map (fun i => (i.zero, i.size, i.bytes)) = some (some (.int .u8 0), 1, 1) := by kernel_rfl

/-- the cells of the bytes l -/
def bv (l : List UInt8) : List Value := l.map fun b => Value.int .u8 (b.toNat : Int)

theorem bv_snoc (l : List UInt8) (b : UInt8) (n : Int) (h : (b.toNat : Int) = n) : bv l ++ [Value.int .u8 n] = bv (l ++ [b]) := by
  subst h; simp [bv]

theorem one_new (w : World) (v : Value) (t : TypeId) : ∀ j u, [v][j]? = some u → (w.alloc (.cells #[v] t)).cell? ((⟨w.heap.size, 0, none⟩ : Addr).add j) = some u := by
  intro j u hj
  match j, hj with
  | 0, hj => simp at hj; subst hj; simp [Addr.add]

/-- behind an append to a row of the call's own, nothing below B has turned -/
theorem below_app {B : Nat} {w wr w1 : World} {v : Value} {n : Nat} {xs : List Value} {o : Obj} (hb : Below B w wr) (hB : B ≤ w.heap.size)
    (hown : wr.ownsRow B 5 1 v n xs) (hg : (wr.alloc o).grownBy w1 v.ownBlock) : Below B w w1 :=
  (hb.alloc (by have := hb.size; omega) _).grown hg (by have := hb.size; simp; omega) (fun k hk => (hown.lt k hk).1)

theorem below_appD {B : Nat} {w wr w1 : World} {v : Value} {n : Nat} {xs : List Value} {o : Obj} (hb : Below B w wr) (hB : B ≤ w.heap.size)
    (hown : wr.ownsRow B 5 1 v n xs) (hg : ((wr.alloc o).drew).grownBy w1 v.ownBlock) : Below B w w1 :=
  below_app (o := o) hb hB hown ⟨hg.os, hg.tape, hg.output, hg.size, hg.block⟩

/-- 'string(out)' of a row of bytes of the call's own -/
theorem conv_own {B n : Nat} {v : Value} {l : List UInt8} {w : World} (hown : w.ownsRow B 5 1 v n (bv l)) (hv : ¬ v = .slice none 0 0) :
    ∃ g cap, v = .slice (some ⟨g, 0, none⟩) l.length cap ∧ (convert 22 9 (.slice (some ⟨g, 0, none⟩) l.length cap)).run Tryz.prog w = .ok (.string ⟨l.toArray⟩) w := by
  have hn : l.length = n := by have := hown.1; simpa [bv] using this
  subst hn
  have hown0 := hown
  rcases hown.2 with ⟨h, _⟩ | ⟨g, cap, cur, rfl, -, -, -, -, -, -⟩
  · exact absurd h hv
  · exact ⟨g, cap, rfl, run_convert_bytes_back (P := Tryz.prog) w 22 9 5 ⟨g, 0, none⟩ cap l Tryz.underlying22 Tryz.underlying5 Tryz.underlying9 (fun j hj => hown0.cells (g := g) rfl j _ (by simp [bv, hj]))⟩

theorem conv_at {B n g cap : Nat} {l : List UInt8} {w : World} (hown : w.ownsRow B 5 1 (.slice (some ⟨g, 0, none⟩) n cap) n (bv l)) :
    (convert 22 9 (.slice (some ⟨g, 0, none⟩) n cap)).run Tryz.prog w = .ok (.string ⟨l.toArray⟩) w := by
  obtain ⟨g', cap', hv, hcv⟩ := conv_own hown (by simp)
  rw [hv]
  exact hcv

end Go.Proofs.YtpfkfbmghddepaaGreat
namespace Go.Proofs.YtpfkfbmghddepaaGreat
open Go.RowKit

theorem and_small (x : Int) (b : Nat) (hb : b < 4611686018427387904) : 0 ≤ bits .and .i64 x (b : Int) ∧ bits .and .i64 x (b : Int) ≤ (b : Int) := by
  have h2 : (BitVec.ofInt 64 (b : Int)).toNat = b := by
    rw [BitVec.ofInt_natCast, BitVec.toNat_ofNat]; exact Nat.mod_eq_of_lt (by omega)
  have e : bits .and .i64 x (b : Int) = IntKind.i64.wrap ((BitVec.ofInt 64 x &&& BitVec.ofInt 64 (b : Int)).toNat : Int) := rfl
  rw [e, BitVec.toNat_and, h2, IntKind.wrap_i64]
  have := Nat.and_le_right (n := (BitVec.ofInt 64 x).toNat) (m := b)
  omega

theorem and255 (x : Int) : 0 ≤ bits .and .i64 x 255 ∧ bits .and .i64 x 255 ≤ 255 := and_small x 255 (by omega)
theorem and30 (x : Int) : 0 ≤ bits .and .i64 x 1073741823 ∧ bits .and .i64 x 1073741823 ≤ 1073741823 := and_small x 1073741823 (by omega)

/-- the bytes that the draws are drawn from: none, or a row of bytes in a block of its own -/
def Code (w : World) (G : Nat) (a : Option Addr) (len : Nat) : Prop :=
  len = 0 ∨ ∃ b off, a = some ⟨b, off, none⟩ ∧ b < w.heap.size ∧ b ≠ G ∧ ∀ j, j < len → ∃ z : Nat, z ≤ 255 ∧ w.cell? ⟨b, off + j, none⟩ = some (.int .u8 (z : Int))

/-- the cursor in block G -/
def Cur (w : World) (G : Nat) (a : Option Addr) (len cap : Nat) : Prop :=
  ∃ (i : Nat) (h : Int), i ≤ len ∧ w.heap[G]? = some (.cells #[.slice a len cap, .int .i64 (i : Int), .int .i64 h] 170 (0, 0))

theorem grownT {a b c : World} {row : Option Nat} (h : a.grownBy b row) (k : b.grownBy c row) : a.grownBy c row :=
  ⟨k.os.trans h.os, k.tape.trans h.tape, k.output.trans h.output, Nat.le_trans h.size k.size, fun i hi hr => (k.block i (Nat.lt_of_lt_of_le hi h.size) hr).trans (h.block i hi hr)⟩

theorem Code.kept {w w' : World} {G : Nat} {a : Option Addr} {len : Nat} (h : Code w G a len) (hg : w.grownBy w' (some G)) : Code w' G a len := by
  rcases h with h | ⟨b, off, ha, hb, hn, hc⟩
  · exact .inl h
  · refine .inr ⟨b, off, ha, Nat.lt_of_lt_of_le hb hg.size, hn, fun j hj => ?_⟩
    obtain ⟨z, hz, hcell⟩ := hc j hj
    refine ⟨z, hz, ?_⟩
    rw [World.cell?_of_block (w := w) (hg.block b hb (by simp; exact hn))]
    exact hcell

theorem set1 {w : World} {G : Nat} {A B C D : Value} {t : TypeId} (h : w.heap[G]? = some (.cells #[A, B, C] t (0, 0))) : (w.setCell ⟨G, 1, none⟩ D).heap[G]? = some (.cells #[A, D, C] t (0, 0)) := by
  rw [heap_setCell_same w G 1 _ t D h]; rfl
theorem set2 {w : World} {G : Nat} {A B C D : Value} {t : TypeId} (h : w.heap[G]? = some (.cells #[A, B, C] t (0, 0))) : (w.setCell ⟨G, 2, none⟩ D).heap[G]? = some (.cells #[A, B, D] t (0, 0)) := by
  rw [heap_setCell_same w G 2 _ t D h]; rfl
theorem grown_set (w : World) (G j : Nat) (u : Value) : w.grownBy (w.setCell ⟨G, j, none⟩ u) (some G) :=
  ⟨rfl, rfl, rfl, by simp [World.setCell], fun k _ hk => heap_setCell_other w ⟨G, j, none⟩ k u (fun e => hk (by simp [e]))⟩
theorem grown_draws (w : World) (n : Nat) (row : Option Nat) : w.grownBy (w.drewN n) row := ⟨rfl, rfl, rfl, Nat.le_refl _, fun _ _ _ => rfl⟩

theorem fin_byte {y : Int} {R : Prop} (h : 0 ≤ y ∧ y ≤ 255) (hr : R) : ∃ x : Nat, x ≤ 255 ∧ Ending.returned (.int .i64 y) = .returned (.int .i64 (x : Int)) ∧ R :=
  ⟨y.toNat, by omega, by rw [Int.toNat_of_nonneg h.1], hr⟩

set_option maxRecDepth 100000 in
set_option maxHeartbeats 2000000 in
theorem l01Byte_any (w : World) (G : Nat) (a : Option Addr) (len cap : Nat) (hl : len ≤ 1048576) (hcur : Cur w G a len cap) (hcode : Code w G a len) :
    Calls Tryz.prog 107 #[.pointer (some ⟨G, 0, none⟩)] w fun e w' => ∃ x : Nat, x ≤ 255 ∧ e = .returned (.int .i64 (x : Int)) ∧ Cur w' G a len cap ∧ w.grownBy w' (some G) := by
  obtain ⟨i, h, hi, hG⟩ := hcur
  have c0 : w.cell? ⟨G, 0, none⟩ = some (.slice a len cap) := by rw [cell_of_row w G 0 _ _ _ hG]; rfl
  have c1 : w.cell? ⟨G, 1, none⟩ = some (.int .i64 (i : Int)) := by rw [cell_of_row w G 1 _ _ _ hG]; rfl
  have c2 : w.cell? ⟨G, 2, none⟩ = some (.int .i64 h) := by rw [cell_of_row w G 2 _ _ _ hG]; rfl
  have f1 : w.frozen? ⟨G, 1, none⟩ = false := frozen_of_row w G 1 _ _ hG
  have f2 : w.frozen? ⟨G, 2, none⟩ = false := frozen_of_row w G 2 _ _ hG
  have HG : Hid _ := hG
  clear hG
  by_cases hlt : i < len
  · have e1 : decide ((i : Int) < (len : Int)) = true := by simp; omega
    rcases hcode with h0 | ⟨b, off, rfl, hb, hne, hc⟩
    · omega
    · obtain ⟨z, hz, hcell⟩ := hc i hlt
      have b1 : (0 : Int) ≤ (i : Int) := by omega
      have b2 : (i : Int) < (len : Int) := by omega
      have hcell2 : ∀ v, (w.setCell ⟨G, 2, none⟩ v).cell? ⟨b, off + i, none⟩ = some (.int .u8 (z : Int)) := fun v => by
        rw [World.cell?_of_block (w := w) (heap_setCell_other w ⟨G, 2, none⟩ b v (by exact hne))]
        exact hcell
      clear hc
      go_enter Tryz.func107, Tryz.ntmps107
      go_wp2
      go_quiet (fail)
      go_wp2
      go_quiet (fail)
      go_wp2
      go_quiet (fail)
      go_wp2
      go_ret
      refine fin_byte (and255 _) ⟨?_, ?_⟩
      · exact ⟨i + 1, _, by omega, set1 (set2 HG.out)⟩
      · exact grownT (grownT (grown_set w G 2 _) (grown_set _ G 1 _)) (grown_draws _ _ _)
  · have e1 : decide ((i : Int) < (len : Int)) = false := by simp; omega
    go_enter Tryz.func107, Tryz.ntmps107
    go_wp2
    go_quiet (fail)
    go_wp2
    go_quiet (fail)
    go_wp2
    go_ret
    refine fin_byte (and255 _) ⟨?_, ?_⟩
    · exact ⟨i, _, hi, set2 HG.out⟩
    · exact grownT (grownT (grown_set w G 2 _) (grown_draws _ _ _)) (grown_draws _ _ _)

/-- what a draw leaves: the cursor, the bytes, the rest as it was -/
structure Drawn (w w' : World) (G : Nat) (a : Option Addr) (len cap : Nat) : Prop where
  cur : Cur w' G a len cap
  code : Code w' G a len
  grown : w.grownBy w' (some G)

theorem Drawn.trans {w w1 w2 : World} {G : Nat} {a : Option Addr} {len cap : Nat} (h : Drawn w w1 G a len cap) (k : Drawn w1 w2 G a len cap) : Drawn w w2 G a len cap :=
  ⟨k.cur, k.code, grownT h.grown k.grown⟩

theorem l01Byte_drawn (w : World) (G : Nat) (a : Option Addr) (len cap : Nat) (hl : len ≤ 1048576) (hcur : Cur w G a len cap) (hcode : Code w G a len) :
    Calls Tryz.prog 107 #[.pointer (some ⟨G, 0, none⟩)] w fun e w' => ∃ x : Nat, x ≤ 255 ∧ e = .returned (.int .i64 (x : Int)) ∧ Drawn w w' G a len cap :=
  (l01Byte_any w G a len cap hl hcur hcode).mono fun _ _ ⟨x, hx, he, hc, hg⟩ => ⟨x, hx, he, hc, hcode.kept hg, hg⟩

theorem fin_rem {y n : Int} {R : Prop} (h : 0 < n) (hr : R) : ∃ x : Nat, (x : Int) < n ∧ Ending.returned (.int .i64 (y % n)) = .returned (.int .i64 (x : Int)) ∧ R := by
  have h1 := Int.emod_lt_of_pos y h
  have h2 := Int.emod_nonneg y (show n ≠ 0 by omega)
  exact ⟨(y % n).toNat, by omega, by rw [Int.toNat_of_nonneg h2], hr⟩

set_option maxRecDepth 100000 in
set_option maxHeartbeats 2000000 in
theorem l01Below_any (n : Int) (h0 : 0 < n) (h1 : n ≤ 4294967296) (w : World) (G : Nat) (a : Option Addr) (len cap : Nat) (hl : len ≤ 1048576) (hcur : Cur w G a len cap) (hcode : Code w G a len) :
    Calls Tryz.prog 64 #[.pointer (some ⟨G, 0, none⟩), .int .i64 n] w fun e w' => ∃ x : Nat, (x : Int) < n ∧ e = .returned (.int .i64 (x : Int)) ∧ Drawn w w' G a len cap := by
  have B := fun (W : World) (hc : Cur W G a len cap) (hd : Code W G a len) => l01Byte_drawn W G a len cap hl hc hd
  have HB := (show ∀ {p : Prop}, p → Hid p from fun h => h) B
  clear B
  have H1 := (show ∀ {p : Prop}, p → Hid p from fun h => h) hcur
  have H2 := (show ∀ {p : Prop}, p → Hid p from fun h => h) hcode
  clear hcur hcode
  by_cases hs : n ≤ 256
  · go_enter Tryz.func64, Tryz.ntmps64
    go_wp2_with (go_at_call 107; refine (HB.out _ H1.out H2.out).mono ?_; rintro e w1 ⟨x, hx, rfl, hd⟩)
    go_ret
    exact fin_rem h0 hd
  · go_enter Tryz.func64, Tryz.ntmps64
    go_wp2_with (go_at_call 107; refine (HB.out _ H1.out H2.out).mono ?_; rintro e w1 ⟨x, hx, rfl, d1⟩; refine Hid.out ?_)
    refine (show ∀ {p : Prop}, p → Hid p from fun h => h) ?_
    go_wp2_with (go_at_call 107; refine (HB.out _ d1.cur d1.code).mono ?_; rintro e w2 ⟨y, hy, rfl, d2⟩; refine Hid.out ?_)
    refine (show ∀ {p : Prop}, p → Hid p from fun h => h) ?_
    go_wp2_with (go_at_call 107; refine (HB.out _ d2.cur d2.code).mono ?_; rintro e w3 ⟨z, hz, rfl, d3⟩; refine Hid.out ?_)
    refine (show ∀ {p : Prop}, p → Hid p from fun h => h) ?_
    go_wp2_with (go_at_call 107; refine (HB.out _ d3.cur d3.code).mono ?_; rintro e w4 ⟨v, hv, rfl, d4⟩; refine Hid.out ?_)
    refine (show ∀ {p : Prop}, p → Hid p from fun h => h) ?_
    go_wp2
    go_ret
    exact fin_rem h0 (d1.trans (d2.trans (d3.trans d4)))

theorem cur_new (w : World) (a : Option Addr) (len cap : Nat) (h : Int) : Cur (w.alloc (.cells #[.slice a len cap, .int .i64 0, .int .i64 h] 170)) w.heap.size a len cap :=
  ⟨0, h, Nat.zero_le _, heap_alloc_new w _⟩

theorem code_new {w : World} {a : Option Addr} {len : Nat} (h : Code w w.heap.size a len) (o : Obj) : Code (w.alloc o) w.heap.size a len := by
  rcases h with h | ⟨b, off, ha, hb, hn, hc⟩
  · exact .inl h
  · refine .inr ⟨b, off, ha, by simp; omega, hn, fun j hj => ?_⟩
    obtain ⟨z, hz, hcell⟩ := hc j hj
    exact ⟨z, hz, by rw [World.cell?_of_block (w := w) (Below.heap_alloc w o b hb)]; exact hcell⟩

set_option maxRecDepth 100000 in
set_option maxHeartbeats 2000000 in
theorem l01New_any (w : World) (a : Option Addr) (len cap : Nat) (hl : len ≤ 1048576) (hcode : Code w w.heap.size a len) :
    Calls Tryz.prog 61 #[.slice a len cap] w fun e w' => e = .returned (.pointer (some ⟨w.heap.size, 0, none⟩)) ∧ Cur w' w.heap.size a len cap ∧ Code w' w.heap.size a len ∧ Below w.heap.size w w' ∧ w.heap.size < w'.heap.size := by
  have HC := hideIt hcode
  clear hcode
  go_enter Tryz.func61, Tryz.ntmps61
  go_wp2
  go_loop [3, 4] (fun hh i => ∃ (k : Nat) (h : Int), k ≤ len ∧ 0 ≤ h ∧ h ≤ 2147483648 ∧ i = .int .i64 k ∧ hh = .int .i64 h) (fun _ i => len - (intOf i).toNat)
  case atStart => exact ⟨0, 13501 + (len : Int), by omega, by omega, by omega, rfl, rfl⟩
  case round =>
    obtain ⟨k, h, hk, h0, h1, rfl, rfl⟩ := hrel
    by_cases hlt : k < len
    · have e0 : decide ((k : Int) < (len : Int)) = true := by simp; omega
      by_cases h4 : k < 4000
      · have e1 : decide ((k : Int) < 4000) = true := by simp; omega
        rcases HC.out with hz | ⟨b, off, rfl, hb, hne, hc⟩
        · omega
        · obtain ⟨z, hz, hcell⟩ := hc k hlt
          have b1 : (0 : Int) ≤ (k : Int) := by omega
          have b2 : (k : Int) < (len : Int) := by omega
          clear hc HC
          go_wp2
          have ha := and30 (h * 131 + (z : Int) + 7)
          go_round
          case rel => exact ⟨k + 1, _, by omega, ha.1, by omega, by go_num, rfl⟩
          case measure => simp [intOf]; omega
      · have e1 : decide ((k : Int) < 4000) = false := by simp; omega
        go_wp2
        go_ret
        exact ⟨rfl, cur_new w a len cap h, code_new HC.out _, (Below.refl _ _).alloc (Nat.le_refl _) _, by simp⟩
    · have e0 : decide ((k : Int) < (len : Int)) = false := by simp; omega
      go_wp2
      go_ret
      exact ⟨rfl, cur_new w a len cap h, code_new HC.out _, (Below.refl _ _).alloc (Nat.le_refl _) _, by simp⟩

theorem l01Once_any (n : Int) (h0 : 0 < n) (h1 : n ≤ 4294967296) (w : World) (G : Nat) (a : Option Addr) (len cap : Nat) (hl : len ≤ 1048576) (hcur : Cur w G a len cap) (hcode : Code w G a len) :
    Calls Tryz.prog 63 #[.pointer (some ⟨G, 0, none⟩), .int .i64 n] w fun e w' => ∃ b : Bool, e = .returned (.bool b) ∧ Drawn w w' G a len cap := by
  have HB := hideIt (l01Below_any n h0 h1 w G a len cap hl hcur hcode)
  clear hcur hcode
  go_enter Tryz.func63, Tryz.ntmps63
  go_wp2_with (go_at_call 64; refine HB.out.mono ?_; rintro e w1 ⟨x, hx, rfl, hd⟩)
  go_ret
  exact ⟨_, rfl, hd⟩

theorem l01PickInt_any (L n : Nat) (c : Nat) (hn : 0 < n) (hn2 : n ≤ 1000) (w : World) (G : Nat) (a : Option Addr) (len cap : Nat) (hl : len ≤ 1048576) (hcur : Cur w G a len cap) (hcode : Code w G a len) (hL : L < w.heap.size) (hLG : L ≠ G)
    (hcells : ∀ j, j < n → ∃ z : Int, w.cell? ⟨L, j, none⟩ = some (.int .i64 z)) :
    Calls Tryz.prog 159 #[.pointer (some ⟨G, 0, none⟩), .slice (some ⟨L, 0, none⟩) n c] w fun e w' => ∃ x : Int, e = .returned (.int .i64 x) ∧ Drawn w w' G a len cap := by
  have HB := hideIt (l01Below_any (n : Int) (by omega) (by omega) w G a len cap hl hcur hcode)
  have HL := hideIt hcells
  clear hcur hcode hcells
  go_enter Tryz.func159, Tryz.ntmps159
  go_wp2_with (go_at_call 64; refine HB.out.mono ?_; rintro e w1 ⟨x, hx, rfl, hd⟩; refine Hid.out ?_)
  refine (show ∀ {p : Prop}, p → Hid p from fun h => h) ?_
  have hxn : x < n := by omega
  obtain ⟨z, hz⟩ := HL.out x hxn
  have hz1 : w1.cell? ⟨L, x, none⟩ = some (.int .i64 z) := by rw [World.cell?_of_block (w := w) (hd.grown.block L hL (by simp; exact hLG))]; exact hz
  have b1 : (0 : Int) ≤ (x : Int) := by omega
  clear HB HL hz
  go_wp2
  go_ret
  exact ⟨_, rfl, hd⟩

end Go.Proofs.YtpfkfbmghddepaaGreat
namespace Go.Proofs.YtpfkfbmghddepaaGreat
open Go.RowKit

theorem Cur.up7 {u v : World} {G : Nat} {a : Option Addr} {len cap : Nat} (h : Cur u G a len cap) (hb : Below u.heap.size u v) : Cur v G a len cap := by
  obtain ⟨p, q, h1, h⟩ := h
  exact ⟨p, q, h1, by rw [hb.block G (Array.getElem?_eq_some_iff.1 h).1]; exact h⟩
theorem Code.up7 {u v : World} {G : Nat} {a : Option Addr} {len : Nat} (h : Code u G a len) (hb : Below u.heap.size u v) : Code v G a len :=
  h.kept ⟨hb.os, hb.tape, hb.output, hb.size, fun k hk _ => hb.block k hk⟩
theorem big7_any (w : World) (a : Option Addr) (len cap : Nat) : Calls Tryz.prog 11 #[.slice a len cap] w fun e w' => e = .returned (.bool (decide ((1048576 : Int) < (len : Int)))) ∧ w' = w := by
  go_enter Tryz.func11, Tryz.ntmps11
  go_wp2
  go_ret
  exact ⟨rfl, rfl⟩
theorem five_cells7 (w : World) (z0 z1 z2 z3 z4 : Int) (t : TypeId) : ∀ j, j < 5 → ∃ z : Int, (w.alloc (.cells #[.int .i64 z0, .int .i64 z1, .int .i64 z2, .int .i64 z3, .int .i64 z4] t)).cell? ⟨w.heap.size, j, none⟩ = some (.int .i64 z) := by
  intro j hj
  rw [cell_of_row _ w.heap.size j _ t (0, 0) (heap_alloc_new w _)]
  rcases (show j = 0 ∨ j = 1 ∨ j = 2 ∨ j = 3 ∨ j = 4 from by omega) with rfl | rfl | rfl | rfl | rfl <;> exact ⟨_, rfl⟩
theorem Drawn.from7 {w w' : World} {o : Obj} {G : Nat} {a : Option Addr} {len cap : Nat} (h : Drawn (w.alloc o) w' G a len cap) : Drawn w w' G a len cap := ⟨h.cur, h.code, grownT (World.grownBy_alloc w o (some G)) h.grown⟩
theorem Cur.lt7 {u : World} {G : Nat} {a : Option Addr} {len cap : Nat} (h : Cur u G a len cap) : G < u.heap.size := by
  obtain ⟨p, q, _, h⟩ := h
  exact (Array.getElem?_eq_some_iff.1 h).1
set_option maxRecDepth 100000 in
set_option maxHeartbeats 8000000 in
theorem l01Place7_any (n : Int) (h0 : 0 < n) (h1 : n ≤ 1000000) (w : World) (G : Nat) (a : Option Addr) (len cap : Nat) (hl : len ≤ 1048576) (hcur : Cur w G a len cap) (hcode : Code w G a len) :
    Calls Tryz.prog 112 #[.pointer (some ⟨G, 0, none⟩), .int .i64 n] w fun e w' => ∃ x : Int, e = .returned (.int .i64 x) ∧ Drawn w w' G a len cap := by
  have hG := hcur.lt7
  have HO := hideIt (l01Once_any 15 (by omega) (by omega) w G a len cap hl hcur hcode)
  clear hcur hcode
  have hw : IntKind.i64.wrap (n + 1) = n + 1 := by rw [IntKind.wrap_i64]; omega
  go_enter Tryz.func112, Tryz.ntmps112
  go_wp2_with (go_at_call 63; refine HO.out.mono ?_; rintro e w1 ⟨b, rfl, hd⟩; refine Hid.out ?_)
  refine (show ∀ {p : Prop}, p → Hid p from fun h => h) ?_
  have hs1 := hd.grown.size
  have HD := hideIt hd
  clear hd HO
  cases b with
  | true =>
    have HP := hideIt (l01PickInt_any w1.heap.size 5 5 (by omega) (by omega) _ G a len cap hl (HD.out.cur.up7 ((Below.refl _ _).alloc (Nat.le_refl _) (.cells #[.int .i64 (-1), .int .i64 n, .int .i64 (n + 1), .int .i64 9223372036854775807, .int .i64 (-9223372036854775808)] 3))) (HD.out.code.up7 ((Below.refl _ _).alloc (Nat.le_refl _) _)) (by simp) (by omega) (five_cells7 w1 _ _ _ _ _ 3))
    go_wp2_with (go_at_call 159; refine HP.out.mono ?_; rintro e w2 ⟨y, rfl, hd2⟩)
    go_ret
    exact ⟨_, rfl, HD.out.trans hd2.from7⟩
  | false =>
    have HP := hideIt (l01Below_any n h0 (by omega) w1 G a len cap hl HD.out.cur HD.out.code)
    go_wp2_with (go_at_call 64; refine HP.out.mono ?_; rintro e w2 ⟨y, hy, rfl, hd2⟩)
    go_ret
    exact ⟨_, rfl, HD.out.trans hd2⟩
end Go.Proofs.YtpfkfbmghddepaaGreat
namespace Go.Proofs.YtpfkfbmghddepaaGreat
open Go.RowKit

/-- the headers hs are of the rows ts -/
def HdT (w : World) (B : Nat) (hs : List Value) (ts : List (List Int)) : Prop := hs.length = ts.length ∧ ∀ (j : Nat) (t : List Int), ts[j]? = some t → ∃ (a' : Option Addr) (c' : Nat), hs[j]? = some (.slice a' t.length c') ∧ Is w B a' t.length t ∧ t.length ≤ c'
theorem HdT.below {w w' : World} {B C : Nat} {hs : List Value} {ts : List (List Int)} (h : HdT w B hs ts) (hb : Below C w w') (hB : B ≤ C) : HdT w' B hs ts :=
  ⟨h.1, fun j t ht => by obtain ⟨a', c', h1, h2, h3⟩ := h.2 j t ht; exact ⟨a', c', h1, h2.below hb hB, h3⟩⟩
theorem HdT.mono {w : World} {B C : Nat} {hs : List Value} {ts : List (List Int)} (h : HdT w B hs ts) (hB : B ≤ C) : HdT w C hs ts :=
  ⟨h.1, fun j t ht => by obtain ⟨a', c', h1, h2, h3⟩ := h.2 j t ht; exact ⟨a', c', h1, h2.mono hB, h3⟩⟩
theorem HdT.nil (w : World) (B : Nat) : HdT w B [] [] := ⟨rfl, fun j t ht => by simp at ht⟩
theorem HdT.app {w : World} {B : Nat} {hs hs' : List Value} {ts ts' : List (List Int)} (h : HdT w B hs ts) (h' : HdT w B hs' ts') : HdT w B (hs ++ hs') (ts ++ ts') := by
  refine ⟨by rw [List.length_append, List.length_append, h.1, h'.1], fun j t ht => ?_⟩
  by_cases hj : j < ts.length
  · rw [List.getElem?_append_left hj] at ht
    obtain ⟨a', c', h1, h2⟩ := h.2 j t ht
    exact ⟨a', c', by rw [List.getElem?_append_left (by rw [h.1]; exact hj)]; exact h1, h2⟩
  · rw [List.getElem?_append_right (by omega)] at ht
    obtain ⟨a', c', h1, h2⟩ := h'.2 _ t ht
    exact ⟨a', c', by rw [List.getElem?_append_right (by rw [h.1]; omega), h.1]; exact h1, h2⟩
theorem HdT.one {w : World} {B : Nat} {a' : Option Addr} {c' : Nat} {t : List Int} (h : Is w B a' t.length t) (hc : t.length ≤ c') : HdT w B [.slice a' t.length c'] [t] := ⟨rfl, fun j s hs => by
  rcases j with _ | j
  · simp at hs
    subst hs
    exact ⟨a', c', rfl, h, hc⟩
  · simp at hs⟩
theorem hdtR {u : World} {R : List Rw} (h : ∀ r ∈ R, RwB u r) : HdT u u.heap.size (rhs R) (rts R) := by
  refine ⟨by rw [rhs_len, rts_len], fun j t ht => ?_⟩
  have hj : j < R.length := by rw [← rts_len]; exact (List.getElem?_eq_some_iff.1 ht).1
  have hr : R[j]? = some R[j] := List.getElem?_eq_getElem hj
  have e := rts_at hr
  rw [ht] at e
  obtain rfl := Option.some.inj e
  have hi2 := h _ (List.mem_of_getElem? hr)
  exact ⟨_, R[j].cp, rhs_at hr, hi2.is, hi2.cap⟩
theorem FB.hdt {u : World} {lo hi : Nat} {a : Option Addr} {n c : Nat} {R : List Rw} (h : FB u lo hi a n c R) : HdT u u.heap.size (rhs R) (rts R) := hdtR fun r hr => (h.ins r hr).1
/-- a row of headers is a list of tours -/
theorem HdT.ts {w : World} {lo : Nat} {a : Option Addr} {n c : Nat} {hs : List Value} {ts : List (List Int)} (h : HdT w w.heap.size hs ts) (ho : w.ownsRow lo 44 1 (.slice a n c) n hs) : Ts w w.heap.size a n ts := by
  have hl := ho.1
  refine ⟨by have := h.1; omega, ?_⟩
  rcases ho.2 with ⟨_, h0⟩ | ⟨g, cap, cur, hv, hg, hcur, hrest⟩
  · exact .inl h0
  · simp at hv
    obtain ⟨rfl, rfl⟩ := hv
    refine .inr ⟨g, 0, rfl, (ho.lt g rfl).2, fun j t ht => ?_⟩
    obtain ⟨a', c', h1, h2⟩ := h.2 j t ht
    have hj := (List.getElem?_eq_some_iff.1 h1).1
    refine ⟨a', c', ?_, h2⟩
    rw [Nat.zero_add, ho.cellAt j (by omega)]
    exact h1
/-- the headers of a list of tours -/
theorem Ts.hdt {w : World} {B b off n : Nat} {ts : List (List Int)} (h : Ts w B (some ⟨b, off, none⟩) n ts) : ∃ hs, HdT w B hs ts ∧ hs.length = n ∧ (∀ j u, hs[j]? = some u → w.cell? ((⟨b, off, none⟩ : Addr).add j) = some u) ∧ ∀ u ∈ hs, u.oneCell' = true := by
  have hn := h.1
  have each : ∀ i : Fin n, ∃ v : Value, w.cell? ⟨b, off + i.1, none⟩ = some v ∧ ∀ t, ts[i.1]? = some t → ∃ (a' : Option Addr) (c' : Nat), v = .slice a' t.length c' ∧ Is w B a' t.length t ∧ t.length ≤ c' := fun i => by
    have hi : i.1 < ts.length := by omega
    obtain ⟨a', c', h1, h2⟩ := h.at (List.getElem?_eq_getElem hi)
    refine ⟨_, h1, fun t ht => ?_⟩
    rw [List.getElem?_eq_getElem hi] at ht
    cases ht
    exact ⟨a', c', rfl, h2⟩
  obtain ⟨F, hF⟩ := Classical.axiomOfChoice each
  refine ⟨List.ofFn F, ⟨by simp; omega, fun j t ht => ?_⟩, by simp, fun j u hu => ?_, fun u hu => ?_⟩
  · have hj : j < n := by have := (List.getElem?_eq_some_iff.1 ht).1; omega
    obtain ⟨a', c', h1, h2⟩ := (hF ⟨j, hj⟩).2 t ht
    exact ⟨a', c', by rw [List.getElem?_ofFn]; simp [hj, h1], h2⟩
  · obtain ⟨hj, rfl⟩ := List.getElem?_eq_some_iff.1 hu
    have hj' : j < n := by simpa using hj
    rw [show ((⟨b, off, none⟩ : Addr).add j) = ⟨b, off + j, none⟩ by by_cases h0 : j = 0 <;> simp [Addr.add, h0]]
    rw [(hF ⟨j, hj'⟩).1]
    simp
  · obtain ⟨i, rfl⟩ := List.mem_ofFn.1 hu
    obtain ⟨a', c', h1, _⟩ := (hF i).2 _ (List.getElem?_eq_getElem (by omega : i.1 < ts.length))
    rw [h1]
    rfl
/-- a header of a row that does not lie in block X -/
def HdN (X : Nat) (v : Value) : Prop := ∀ b off s n c, v = .slice (some ⟨b, off, s⟩) n c → b ≠ X
theorem Is.set {w : World} {B X j n : Nat} {a : Option Addr} {ls : List Int} (h : Is w B a n ls) (v : Value) (hx : ∀ b off s, a = some ⟨b, off, s⟩ → b ≠ X) : Is (w.setCell ⟨X, j, none⟩ v) B a n ls := by
  refine ⟨h.1, h.2.imp id ?_⟩
  rintro ⟨b, off, h1, h2, h3⟩
  exact ⟨b, off, h1, h2, fun j x hj => by rw [set_other (hx b off none h1)]; exact h3 j x hj⟩
theorem HdT.set {w : World} {B X j : Nat} {hs : List Value} {ts : List (List Int)} (h : HdT w B hs ts) (hn : ∀ v ∈ hs, HdN X v) (v : Value) : HdT (w.setCell ⟨X, j, none⟩ v) B hs ts :=
  ⟨h.1, fun i t ht => by
    obtain ⟨a', c', h1, h2, h3⟩ := h.2 i t ht
    exact ⟨a', c', h1, h2.set v (fun b off s e => hn _ (List.mem_of_getElem? h1) b off s _ _ (by rw [e])), h3⟩⟩
theorem HdT.lowN {w : World} {B X : Nat} {hs : List Value} {ts : List (List Int)} (h : HdT w B hs ts) (hp : ∀ t ∈ ts, 0 < t.length) (hB : B ≤ X) : ∀ v ∈ hs, HdN X v := fun v hv => by
  obtain ⟨j, hj⟩ := List.mem_iff_getElem?.1 hv
  have hjl : j < ts.length := by have := (List.getElem?_eq_some_iff.1 hj).1; have := h.1; omega
  obtain ⟨a', c', h1, h2, _⟩ := h.2 j ts[j] (List.getElem?_eq_getElem hjl)
  rw [hj] at h1
  obtain rfl := Option.some.inj h1
  intro b off s n c e
  simp only [Value.slice.injEq] at e
  obtain ⟨rfl, _, _⟩ := e
  rcases h2.2 with h0 | ⟨b', off', hb, hl, _⟩
  · have := hp ts[j] (List.getElem_mem hjl); omega
  · simp only [Option.some.injEq, Addr.mk.injEq] at hb
    omega
theorem rhsN {R : List Rw} {X : Nat} (h : ∀ r ∈ R, r.g ≠ X) : ∀ v ∈ rhs R, HdN X v := fun v hv => by
  obtain ⟨r, hr, rfl⟩ := List.mem_map.1 hv
  intro b off s n c e
  simp only [Rw.hdr, Value.slice.injEq, Option.some.injEq, Addr.mk.injEq] at e
  rw [← e.1.1]
  exact h r hr
/-- a header of a row that lies above lo -/
def HdL (lo : Nat) (v : Value) : Prop := ∀ b off s n c, v = .slice (some ⟨b, off, s⟩) n c → lo ≤ b
theorem HdL.mono {lo lo' : Nat} {v : Value} (h : HdL lo v) (hl : lo' ≤ lo) : HdL lo' v := fun b off s n c e => Nat.le_trans hl (h b off s n c e)
theorem HdL.ne {lo X : Nat} {v : Value} (h : HdL lo v) (hX : X < lo) : HdN X v := fun b off s n c e => by have := h b off s n c e; omega
end Go.Proofs.YtpfkfbmghddepaaGreat
namespace Go.Proofs.YtpfkfbmghddepaaGreat
open Go.RowKit

theorem tans_G {F : Nat} {args : Array Value} {o : Option (List Int)} {u : World} (H : Calls Tryz.prog F args u (TAns u o)) :
    Calls Tryz.prog F args u fun e v => ∃ aw mw cw, e = .returned (.tuple #[.slice aw mw cw, .bool o.isSome]) ∧ RBox v u.heap.size v.heap.size aw mw cw (o.getD []) ∧ Below u.heap.size u v :=
  H.mono fun _ _ ⟨aw, mw, cw, he, ho, hb⟩ => ⟨aw, mw, cw, he, RBox.laid ho, hb⟩
theorem Good.rng {w u v : World} {lo hi : Nat} (h : Good w u) (hr : Rng lo hi u v) (hl : w.heap.size ≤ lo) : Good w v := Below.trans h (hr.below hl h.size)
end Go.Proofs.YtpfkfbmghddepaaGreat
namespace Go.Proofs.YtpfkfbmghddepaaGreat
open Go.RowKit

set_option maxRecDepth 100000 in
set_option maxHeartbeats 2000000 in
theorem sVertsOf_any (t : List Int) (n : Nat) (a : Option Addr) (c : Nat) (hn : n ≤ 3000000) (w : World) (h : Is w w.heap.size a n t) :
    Calls Tryz.prog 82 #[.slice a n c] w fun e w' => ∃ a' m c', e = .returned (.slice a' m c') ∧ w'.ownsRow w.heap.size 3 1 (.slice a' m c') m (ic (vsL t)) ∧ Below w.heap.size w w' := by
  obtain ⟨i0, hi, hz0, hz1, hz2⟩ := info_parts info3i
  have HIn := hideIt (fun y x (hx : Below w.heap.size w x) => l05In_any t y n a c hn x (h.up hx))
  have S0 := ISt.start w
  clear h
  go_enter Tryz.func82, Tryz.ntmps82
  go_wp2
  go_loopw [3, 4] (fun r i wr => ∃ (k m c1 : Nat) (a1 : Option Addr), k ≤ 12 ∧ m ≤ k ∧ i = .int .i64 (k : Int) ∧ r = .slice a1 m c1 ∧ ISt w a1 m c1 (vsK t k) wr) (fun _ i _ => 12 - (intOf i).toNat)
  case atStart => exact ⟨0, 0, 0, _, by omega, by omega, rfl, rfl, by rw [vsK_zero]; exact S0⟩
  case round =>
    obtain ⟨k, m, c1, a1, hk, hmk, rfl, rfl, hst⟩ := hrel
    clear S0
    by_cases hlt : k < 12
    · have b1 : (0 : Int) ≤ (k : Int) := by omega
      have b2 : (k : Int) < 12 := by omega
      have HN := hideIt (HIn.out (k : Int) wr hst.bel)
      have z1 := hst.size
      have HST := hideIt hst
      by_cases hx : (k : Int) ∈ t
      · rw [decide_eq_true hx] at HN
        have HV := hideIt (vsK_yes hx)
        clear hx hst
        go_wp2_with (first | (go_at_call 93; refine HN.out.mono ?_; rintro e w3 ⟨rfl, hw⟩; have hw' := hw.symm; subst hw'; clear hw) | (at_builtin; refine wpList_append_own _ rfl _ _ 44 rfl w.heap.size 3 i0 _ 1 8 Tryz.underlying44 hi hz0 hz1 hz2 rfl (by decide) _ _ _ rfl (HST.out.own.alloc _) ⟨wr.heap.size, 0, none⟩ 1 1 [.int .i64 (k : Int)] rfl rfl (newsI wr (k : Int)) (by intro u hu; simp at hu; subst hu; rfl) (by unfold maxLen; omega) (by omega) (by simp; omega) ?_))
        intro v5 w5 hown5 hg5 _
        obtain ⟨a5, c5, rfl, S5⟩ := HST.out.app hown5 hg5
        clear hown5 hg5 HST
        go_wp2
        exact ⟨⟨k + 1, m + 1, c5, a5, by omega, by omega, by go_num, rfl, by rw [HV.out]; exact S5⟩, by simp [intOf]; omega⟩
      · rw [decide_eq_false hx] at HN
        have HV := hideIt (vsK_no hx)
        clear hx hst
        go_wp2_with (go_at_call 93; refine HN.out.mono ?_; rintro e w3 ⟨rfl, hw⟩; have hw' := hw.symm; subst hw'; clear hw)
        exact ⟨⟨k + 1, m, c1, a1, by omega, by omega, by go_num, rfl, by rw [HV.out]; exact HST.out⟩, by simp [intOf]; omega⟩
    · obtain rfl : k = 12 := by omega
      have HST := hideIt hst
      clear hst
      go_wp2
      go_ret
      exact ⟨a1, m, c1, rfl, HST.out.own, HST.out.bel⟩
theorem vans_G {F : Nat} {args : Array Value} {ls : List Int} {u : World} (H : Calls Tryz.prog F args u fun e w' => ∃ a' m c', e = .returned (.slice a' m c') ∧ w'.ownsRow u.heap.size 3 1 (.slice a' m c') m (ic ls) ∧ Below u.heap.size u w') :
    Calls Tryz.prog F args u fun e v => ∃ aw mw cw, e = .returned (.slice aw mw cw) ∧ RBox v u.heap.size v.heap.size aw mw cw ls ∧ Below u.heap.size u v :=
  H.mono fun _ _ ⟨aw, mw, cw, he, ho, hb⟩ => ⟨aw, mw, cw, he, RBox.laid ho, hb⟩
end Go.Proofs.YtpfkfbmghddepaaGreat
