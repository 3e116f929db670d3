/- What the draws' cursor gives: some byte, some number below a bound, some text; the cursor stays right, and nothing else that was there turns. -/
import Derived.Test.YtcppbgkocipnlaaMem
import Derived.Test.YtcppbgkocipnlaaB6
import Derived.Laws.Bits64b
import Derived.WalkSpells
import Derived.WalkSmall
import Derived.BigQuiet
import Derived.Deep.QuietTactic
import Derived.Deep.RegionHeld3
import Derived.Deep.AppendLies
namespace Go.Proofs.Ytcppbgkocipnlaa
open Go.RowKit

theorem and_small (x : Int) (b : Nat) (hb : b < 4611686018427387904) : 0 ≤ bits .and .i64 x (b : Int) ∧ bits .and .i64 x (b : Int) ≤ (b : Int) := by
  have h2 : (BitVec.ofInt 64 (b : Int)).toNat = b := by
    rw [BitVec.ofInt_natCast, BitVec.toNat_ofNat]; exact Nat.mod_eq_of_lt (by omega)
  have e : bits .and .i64 x (b : Int) = IntKind.i64.wrap ((BitVec.ofInt 64 x &&& BitVec.ofInt 64 (b : Int)).toNat : Int) := rfl
  rw [e, BitVec.toNat_and, h2, IntKind.wrap_i64]
  have := Nat.and_le_right (n := (BitVec.ofInt 64 x).toNat) (m := b)
  omega

theorem and255 (x : Int) : 0 ≤ bits .and .i64 x 255 ∧ bits .and .i64 x 255 ≤ 255 := and_small x 255 (by omega)
theorem and30 (x : Int) : 0 ≤ bits .and .i64 x 1073741823 ∧ bits .and .i64 x 1073741823 ≤ 1073741823 := and_small x 1073741823 (by omega)

/-- the bytes that the draws are drawn from: none, or a row of bytes in a block of its own -/
def Code (w : World) (G : Nat) (a : Option Addr) (len : Nat) : Prop :=
  len = 0 ∨ ∃ b off, a = some ⟨b, off, none⟩ ∧ b < w.heap.size ∧ b ≠ G ∧ ∀ j, j < len → ∃ z : Nat, z ≤ 255 ∧ w.cell? ⟨b, off + j, none⟩ = some (.int .u8 (z : Int))

/-- the cursor in block G -/
def Cur (w : World) (G : Nat) (a : Option Addr) (len cap : Nat) : Prop :=
  ∃ (i : Nat) (h : Int), i ≤ len ∧ w.heap[G]? = some (.cells #[.slice a len cap, .int .i64 (i : Int), .int .i64 h] 72 (0, 0))

theorem grownT {a b c : World} {row : Option Nat} (h : a.grownBy b row) (k : b.grownBy c row) : a.grownBy c row :=
  ⟨k.os.trans h.os, k.tape.trans h.tape, k.output.trans h.output, Nat.le_trans h.size k.size, fun i hi hr => (k.block i (Nat.lt_of_lt_of_le hi h.size) hr).trans (h.block i hi hr)⟩

theorem Code.kept {w w' : World} {G : Nat} {a : Option Addr} {len : Nat} (h : Code w G a len) (hg : w.grownBy w' (some G)) : Code w' G a len := by
  rcases h with h | ⟨b, off, ha, hb, hn, hc⟩
  · exact .inl h
  · refine .inr ⟨b, off, ha, Nat.lt_of_lt_of_le hb hg.size, hn, fun j hj => ?_⟩
    obtain ⟨z, hz, hcell⟩ := hc j hj
    refine ⟨z, hz, ?_⟩
    rw [World.cell?_of_block (w := w) (hg.block b hb (by simp; exact hn))]
    exact hcell

theorem set1 {w : World} {G : Nat} {A B C D : Value} {t : TypeId} (h : w.heap[G]? = some (.cells #[A, B, C] t (0, 0))) : (w.setCell ⟨G, 1, none⟩ D).heap[G]? = some (.cells #[A, D, C] t (0, 0)) := by
  rw [heap_setCell_same w G 1 _ t D h]; rfl
theorem set2 {w : World} {G : Nat} {A B C D : Value} {t : TypeId} (h : w.heap[G]? = some (.cells #[A, B, C] t (0, 0))) : (w.setCell ⟨G, 2, none⟩ D).heap[G]? = some (.cells #[A, B, D] t (0, 0)) := by
  rw [heap_setCell_same w G 2 _ t D h]; rfl
theorem grown_set (w : World) (G j : Nat) (u : Value) : w.grownBy (w.setCell ⟨G, j, none⟩ u) (some G) :=
  ⟨rfl, rfl, rfl, by simp [World.setCell], fun k _ hk => heap_setCell_other w ⟨G, j, none⟩ k u (fun e => hk (by simp [e]))⟩
theorem grown_draws (w : World) (n : Nat) (row : Option Nat) : w.grownBy (w.drewN n) row := ⟨rfl, rfl, rfl, Nat.le_refl _, fun _ _ _ => rfl⟩

theorem fin_byte {y : Int} {R : Prop} (h : 0 ≤ y ∧ y ≤ 255) (hr : R) : ∃ x : Nat, x ≤ 255 ∧ Ending.returned (.int .i64 y) = .returned (.int .i64 (x : Int)) ∧ R :=
  ⟨y.toNat, by omega, by rw [Int.toNat_of_nonneg h.1], hr⟩

set_option maxRecDepth 100000 in
set_option maxHeartbeats 2000000 in
theorem l01Byte_any (w : World) (G : Nat) (a : Option Addr) (len cap : Nat) (hl : len ≤ 1048576) (hcur : Cur w G a len cap) (hcode : Code w G a len) :
    Calls Try.prog 40 #[.pointer (some ⟨G, 0, none⟩)] w fun e w' => ∃ x : Nat, x ≤ 255 ∧ e = .returned (.int .i64 (x : Int)) ∧ Cur w' G a len cap ∧ w.grownBy w' (some G) := by
  obtain ⟨i, h, hi, hG⟩ := hcur
  have c0 : w.cell? ⟨G, 0, none⟩ = some (.slice a len cap) := by rw [cell_of_row w G 0 _ _ _ hG]; rfl
  have c1 : w.cell? ⟨G, 1, none⟩ = some (.int .i64 (i : Int)) := by rw [cell_of_row w G 1 _ _ _ hG]; rfl
  have c2 : w.cell? ⟨G, 2, none⟩ = some (.int .i64 h) := by rw [cell_of_row w G 2 _ _ _ hG]; rfl
  have f1 : w.frozen? ⟨G, 1, none⟩ = false := frozen_of_row w G 1 _ _ hG
  have f2 : w.frozen? ⟨G, 2, none⟩ = false := frozen_of_row w G 2 _ _ hG
  have HG : Hid _ := hG
  clear hG
  by_cases hlt : i < len
  · have e1 : decide ((i : Int) < (len : Int)) = true := by simp; omega
    rcases hcode with h0 | ⟨b, off, rfl, hb, hne, hc⟩
    · omega
    · obtain ⟨z, hz, hcell⟩ := hc i hlt
      have b1 : (0 : Int) ≤ (i : Int) := by omega
      have b2 : (i : Int) < (len : Int) := by omega
      have hcell2 : ∀ v, (w.setCell ⟨G, 2, none⟩ v).cell? ⟨b, off + i, none⟩ = some (.int .u8 (z : Int)) := fun v => by
        rw [World.cell?_of_block (w := w) (heap_setCell_other w ⟨G, 2, none⟩ b v (by exact hne))]
        exact hcell
      clear hc
      go_enter Try.func40, Try.ntmps40
      go_wp2
      go_quiet (fail)
      go_wp2
      go_quiet (fail)
      go_wp2
      go_quiet (fail)
      go_wp2
      go_ret
      refine fin_byte (and255 _) ⟨?_, ?_⟩
      · exact ⟨i + 1, _, by omega, set1 (set2 HG.out)⟩
      · exact grownT (grownT (grown_set w G 2 _) (grown_set _ G 1 _)) (grown_draws _ _ _)
  · have e1 : decide ((i : Int) < (len : Int)) = false := by simp; omega
    go_enter Try.func40, Try.ntmps40
    go_wp2
    go_quiet (fail)
    go_wp2
    go_quiet (fail)
    go_wp2
    go_ret
    refine fin_byte (and255 _) ⟨?_, ?_⟩
    · exact ⟨i, _, hi, set2 HG.out⟩
    · exact grownT (grownT (grown_set w G 2 _) (grown_draws _ _ _)) (grown_draws _ _ _)

/-- what a draw leaves: the cursor, the bytes, the rest as it was -/
structure Drawn (w w' : World) (G : Nat) (a : Option Addr) (len cap : Nat) : Prop where
  cur : Cur w' G a len cap
  code : Code w' G a len
  grown : w.grownBy w' (some G)

theorem Drawn.trans {w w1 w2 : World} {G : Nat} {a : Option Addr} {len cap : Nat} (h : Drawn w w1 G a len cap) (k : Drawn w1 w2 G a len cap) : Drawn w w2 G a len cap :=
  ⟨k.cur, k.code, grownT h.grown k.grown⟩

theorem l01Byte_drawn (w : World) (G : Nat) (a : Option Addr) (len cap : Nat) (hl : len ≤ 1048576) (hcur : Cur w G a len cap) (hcode : Code w G a len) :
    Calls Try.prog 40 #[.pointer (some ⟨G, 0, none⟩)] w fun e w' => ∃ x : Nat, x ≤ 255 ∧ e = .returned (.int .i64 (x : Int)) ∧ Drawn w w' G a len cap :=
  (l01Byte_any w G a len cap hl hcur hcode).mono fun _ _ ⟨x, hx, he, hc, hg⟩ => ⟨x, hx, he, hc, hcode.kept hg, hg⟩

theorem fin_rem {y n : Int} {R : Prop} (h : 0 < n) (hr : R) : ∃ x : Nat, (x : Int) < n ∧ Ending.returned (.int .i64 (y % n)) = .returned (.int .i64 (x : Int)) ∧ R := by
  have h1 := Int.emod_lt_of_pos y h
  have h2 := Int.emod_nonneg y (show n ≠ 0 by omega)
  exact ⟨(y % n).toNat, by omega, by rw [Int.toNat_of_nonneg h2], hr⟩

set_option maxRecDepth 100000 in
set_option maxHeartbeats 2000000 in
theorem l01Below_any (n : Int) (h0 : 0 < n) (h1 : n ≤ 4294967296) (w : World) (G : Nat) (a : Option Addr) (len cap : Nat) (hl : len ≤ 1048576) (hcur : Cur w G a len cap) (hcode : Code w G a len) :
    Calls Try.prog 31 #[.pointer (some ⟨G, 0, none⟩), .int .i64 n] w fun e w' => ∃ x : Nat, (x : Int) < n ∧ e = .returned (.int .i64 (x : Int)) ∧ Drawn w w' G a len cap := by
  have B := fun (W : World) (hc : Cur W G a len cap) (hd : Code W G a len) => l01Byte_drawn W G a len cap hl hc hd
  have HB := (show ∀ {p : Prop}, p → Hid p from fun h => h) B
  clear B
  have H1 := (show ∀ {p : Prop}, p → Hid p from fun h => h) hcur
  have H2 := (show ∀ {p : Prop}, p → Hid p from fun h => h) hcode
  clear hcur hcode
  by_cases hs : n ≤ 256
  · go_enter Try.func31, Try.ntmps31
    go_wp2_with (go_at_call 40; refine (HB.out _ H1.out H2.out).mono ?_; rintro e w1 ⟨x, hx, rfl, hd⟩)
    go_ret
    exact fin_rem h0 hd
  · go_enter Try.func31, Try.ntmps31
    go_wp2_with (go_at_call 40; refine (HB.out _ H1.out H2.out).mono ?_; rintro e w1 ⟨x, hx, rfl, d1⟩; refine Hid.out ?_)
    refine (show ∀ {p : Prop}, p → Hid p from fun h => h) ?_
    go_wp2_with (go_at_call 40; refine (HB.out _ d1.cur d1.code).mono ?_; rintro e w2 ⟨y, hy, rfl, d2⟩; refine Hid.out ?_)
    refine (show ∀ {p : Prop}, p → Hid p from fun h => h) ?_
    go_wp2_with (go_at_call 40; refine (HB.out _ d2.cur d2.code).mono ?_; rintro e w3 ⟨z, hz, rfl, d3⟩; refine Hid.out ?_)
    refine (show ∀ {p : Prop}, p → Hid p from fun h => h) ?_
    go_wp2_with (go_at_call 40; refine (HB.out _ d3.cur d3.code).mono ?_; rintro e w4 ⟨v, hv, rfl, d4⟩; refine Hid.out ?_)
    refine (show ∀ {p : Prop}, p → Hid p from fun h => h) ?_
    go_wp2
    go_ret
    exact fin_rem h0 (d1.trans (d2.trans (d3.trans d4)))

theorem cur_new (w : World) (a : Option Addr) (len cap : Nat) (h : Int) : Cur (w.alloc (.cells #[.slice a len cap, .int .i64 0, .int .i64 h] 72)) w.heap.size a len cap :=
  ⟨0, h, Nat.zero_le _, heap_alloc_new w _⟩

theorem code_new {w : World} {a : Option Addr} {len : Nat} (h : Code w w.heap.size a len) (o : Obj) : Code (w.alloc o) w.heap.size a len := by
  rcases h with h | ⟨b, off, ha, hb, hn, hc⟩
  · exact .inl h
  · refine .inr ⟨b, off, ha, by simp; omega, hn, fun j hj => ?_⟩
    obtain ⟨z, hz, hcell⟩ := hc j hj
    exact ⟨z, hz, by rw [World.cell?_of_block (w := w) (Below.heap_alloc w o b hb)]; exact hcell⟩

set_option maxRecDepth 100000 in
set_option maxHeartbeats 2000000 in
theorem l01New_any (w : World) (a : Option Addr) (len cap : Nat) (hl : len ≤ 1048576) (hcode : Code w w.heap.size a len) :
    Calls Try.prog 29 #[.slice a len cap] w fun e w' => e = .returned (.pointer (some ⟨w.heap.size, 0, none⟩)) ∧ Cur w' w.heap.size a len cap ∧ Code w' w.heap.size a len ∧ Below w.heap.size w w' ∧ w.heap.size < w'.heap.size := by
  have HC := hideIt hcode
  clear hcode
  go_enter Try.func29, Try.ntmps29
  go_wp2
  go_loop [3, 4] (fun hh i => ∃ (k : Nat) (h : Int), k ≤ len ∧ 0 ≤ h ∧ h ≤ 2147483648 ∧ i = .int .i64 k ∧ hh = .int .i64 h) (fun _ i => len - (intOf i).toNat)
  case atStart => exact ⟨0, 13501 + (len : Int), by omega, by omega, by omega, rfl, rfl⟩
  case round =>
    obtain ⟨k, h, hk, h0, h1, rfl, rfl⟩ := hrel
    by_cases hlt : k < len
    · have e0 : decide ((k : Int) < (len : Int)) = true := by simp; omega
      by_cases h4 : k < 4000
      · have e1 : decide ((k : Int) < 4000) = true := by simp; omega
        rcases HC.out with hz | ⟨b, off, rfl, hb, hne, hc⟩
        · omega
        · obtain ⟨z, hz, hcell⟩ := hc k hlt
          have b1 : (0 : Int) ≤ (k : Int) := by omega
          have b2 : (k : Int) < (len : Int) := by omega
          clear hc HC
          go_wp2
          have ha := and30 (h * 131 + (z : Int) + 7)
          go_round
          case rel => exact ⟨k + 1, _, by omega, ha.1, by omega, by go_num, rfl⟩
          case measure => simp [intOf]; omega
      · have e1 : decide ((k : Int) < 4000) = false := by simp; omega
        go_wp2
        go_ret
        exact ⟨rfl, cur_new w a len cap h, code_new HC.out _, (Below.refl _ _).alloc (Nat.le_refl _) _, by simp⟩
    · have e0 : decide ((k : Int) < (len : Int)) = false := by simp; omega
      go_wp2
      go_ret
      exact ⟨rfl, cur_new w a len cap h, code_new HC.out _, (Below.refl _ _).alloc (Nat.le_refl _) _, by simp⟩

theorem l01Once_any (n : Int) (h0 : 0 < n) (h1 : n ≤ 4294967296) (w : World) (G : Nat) (a : Option Addr) (len cap : Nat) (hl : len ≤ 1048576) (hcur : Cur w G a len cap) (hcode : Code w G a len) :
    Calls Try.prog 75 #[.pointer (some ⟨G, 0, none⟩), .int .i64 n] w fun e w' => ∃ b : Bool, e = .returned (.bool b) ∧ Drawn w w' G a len cap := by
  have HB := hideIt (l01Below_any n h0 h1 w G a len cap hl hcur hcode)
  clear hcur hcode
  go_enter Try.func75, Try.ntmps75
  go_wp2_with (go_at_call 31; refine HB.out.mono ?_; rintro e w1 ⟨x, hx, rfl, hd⟩)
  go_ret
  exact ⟨_, rfl, hd⟩

end Go.Proofs.Ytcppbgkocipnlaa
