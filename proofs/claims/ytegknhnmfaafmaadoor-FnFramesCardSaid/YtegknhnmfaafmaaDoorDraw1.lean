/- What the draws of chapter 1 give: some number, some text; nothing that was there turns. -/
import Derived.Test.YtegknhnmfaafmaaDoorDraw
namespace Go.Proofs.YtegknhnmfaafmaaDoor
open Go.RowKit

theorem Drawn.below {w w' : World} {G : Nat} {a : Option Addr} {len cap : Nat} {B : Nat} (h : Drawn w w' G a len cap) (hB : B ≤ G) (hw : B ≤ w.heap.size) : Below B w w' :=
  ⟨h.grown.os, h.grown.tape, h.grown.output, h.grown.size, fun k hk => h.grown.block k (by omega) (by intro e; simp at e; omega)⟩

theorem Cur.alloc {w : World} {G : Nat} {a : Option Addr} {len cap : Nat} (h : Cur w G a len cap) (o : Obj) : Cur (w.alloc o) G a len cap := by
  obtain ⟨i, x, hi, hG⟩ := h
  exact ⟨i, x, hi, by rw [Below.heap_alloc w o G (Array.getElem?_eq_some_iff.1 hG).1]; exact hG⟩

theorem Cur.lt {w : World} {G : Nat} {a : Option Addr} {len cap : Nat} (h : Cur w G a len cap) : G < w.heap.size := by
  obtain ⟨i, x, hi, hG⟩ := h
  exact (Array.getElem?_eq_some_iff.1 hG).1

theorem Code.alloc {w : World} {G : Nat} {a : Option Addr} {len : Nat} (h : Code w G a len) (o : Obj) : Code (w.alloc o) G a len := by
  rcases h with h | ⟨b, off, ha, hb, hn, hc⟩
  · exact .inl h
  · refine .inr ⟨b, off, ha, by simp; omega, hn, fun j hj => ?_⟩
    obtain ⟨z, hz, hcell⟩ := hc j hj
    exact ⟨z, hz, by rw [World.cell?_of_block (w := w) (Below.heap_alloc w o b hb)]; exact hcell⟩

theorem ten_cells (w : World) (z0 z1 z2 z3 z4 z5 z6 z7 z8 z9 : Int) (t : TypeId) : ∀ j, j < 10 → ∃ z : Int, (w.alloc (.cells #[.int .i64 z0, .int .i64 z1, .int .i64 z2, .int .i64 z3, .int .i64 z4, .int .i64 z5, .int .i64 z6, .int .i64 z7, .int .i64 z8, .int .i64 z9] t)).cell? ⟨w.heap.size, j, none⟩ = some (.int .i64 z) := by
  intro j hj
  rw [cell_of_row _ w.heap.size j _ t (0, 0) (heap_alloc_new w _)]
  rcases (show j = 0 ∨ j = 1 ∨ j = 2 ∨ j = 3 ∨ j = 4 ∨ j = 5 ∨ j = 6 ∨ j = 7 ∨ j = 8 ∨ j = 9 from by omega) with rfl | rfl | rfl | rfl | rfl | rfl | rfl | rfl | rfl | rfl <;> exact ⟨_, rfl⟩

/-- the cells of n bytes of nought -/
theorem made_bytes (n : Nat) : (madeCells #[Value.int .u8 0] n).toList = bv (List.replicate n 0) := by
  rw [toList_madeCells_one]
  simp [bv]

theorem bv_set (l : List UInt8) (j : Nat) (b : UInt8) (x : Int) (h : (b.toNat : Int) = x) : (bv l).set j (.int .u8 x) = bv (l.set j b) := by
  subst h
  simp [bv, List.map_set]

set_option maxRecDepth 100000 in
set_option maxHeartbeats 2000000 in
theorem l01Long_any (n : Nat) (hn : n ≤ 1048576) (b : UInt8) (w : World) :
    Calls Tryd.prog 21 #[.int .i64 (n : Int), .int .u8 (b.toNat : Int)] w fun e w' => ∃ S : ByteArray, S.size = n ∧ e = .returned (.string S) ∧ Below w.heap.size w w' := by
  obtain ⟨i0, hi, hz0, hz1, hz2⟩ := info_parts info5
  have hmk : ∀ u : World, (Instr.makeSlice 22 (.int .i64 (n : Int)) (.int .i64 (n : Int))).run Tryd.prog u =
      .ok (.slice (some ⟨u.heap.size, 0, none⟩) n n) (u.alloc (.cells (madeCells #[.int .u8 0] n) 5)) := fun u => by
    have h := run_make (P := Tryd.prog) u 22 5 i0 (.int .u8 0) Tryd.underlying22 hi hz0 .i64 .i64 (n : Int) (n : Int) (by omega) (by omega) (by rw [hz2]; omega) (by omega)
    rw [Int.toNat_natCast] at h
    simpa [hz1, Value.cells] using h
  have hb := UInt8.toNat_lt b
  obtain ⟨x, hx⟩ : ∃ x : Int, (b.toNat : Int) = x := ⟨_, rfl⟩
  rw [hx]
  have HX := hideIt hx
  clear hx hb
  have hown0 : (w.alloc (.cells (madeCells #[.int .u8 0] n) 5)).ownsRow w.heap.size 5 1 (.slice (some ⟨w.heap.size, 0, none⟩) n n) n (bv (List.replicate n 0)) := by
    have := World.ownsRow_lit (base := w.heap.size) (e := 5) (size := 1) w (madeCells #[.int .u8 0] n) n (Nat.le_refl _) (by unfold maxLen; omega) (by simp [madeCells])
    rw [made_bytes] at this
    exact this
  have HO := hideIt hown0
  clear hown0
  go_enter Tryd.func21, Tryd.ntmps21
  go_wp2
  go_loopw [6] (fun i wr => ∃ (k : Nat) (l : List UInt8), k ≤ n ∧ i = .int .i64 k ∧ wr.ownsRow w.heap.size 5 1 (.slice (some ⟨w.heap.size, 0, none⟩) n n) n (bv l) ∧ Below w.heap.size w wr) (fun i _ => n - (intOf i).toNat)
  case atStart => exact ⟨0, _, by omega, rfl, HO.out, (Below.refl _ _).alloc (Nat.le_refl _) _⟩
  case round =>
    obtain ⟨k, l, hk, rfl, hown, hb⟩ := hrel
    clear HO
    by_cases hlt : k < n
    · have hll : k < (bv l).length := by have := hown.1; omega
      have hc1 : wr.cell? ⟨w.heap.size, k, none⟩ = some ((bv l)[k]'hll) := by rw [hown.cellAt k (by omega)]; exact List.getElem?_eq_getElem hll
      have hf1 := hown.frozenAt k
      have HS := hideIt (hown.stored k (.int .u8 x)).1
      have HB := hideIt (hb.setCell (p := ⟨w.heap.size, k, none⟩) (Nat.le_refl _) (.int .u8 x))
      have b1 : (0 : Int) ≤ (k : Int) := by omega
      have b2 : (k : Int) < (n : Int) := by omega
      clear hown hb
      go_wp2
      go_roundw
      case rel => exact ⟨k + 1, l.set k b, by omega, by go_num, by rw [← bv_set l k b x HX.out]; exact HS.out, HB.out⟩
      case measure => simp [intOf]; omega
    · have hcv := conv_at hown
      have hln : l.length = n := by have := hown.1; simp [bv] at this; exact this
      have HLn := hideIt hln
      clear hown hln
      go_wp2
      go_ret
      exact ⟨_, by simp [ByteArray.size]; exact HLn.out, rfl, hb⟩

theorem Cur.kept {w w' : World} {G : Nat} {a : Option Addr} {len cap : Nat} {row : Option Nat} (h : Cur w G a len cap) (hg : w.grownBy w' row) (hr : some G ≠ row) : Cur w' G a len cap := by
  obtain ⟨i, x, hi, hG⟩ := h
  exact ⟨i, x, hi, by rw [hg.block G (Array.getElem?_eq_some_iff.1 hG).1 hr]; exact hG⟩

theorem Code.keptRow {w w' : World} {G : Nat} {a : Option Addr} {len : Nat} {row : Option Nat} (h : Code w G a len) (hg : w.grownBy w' row) (hr : ∀ b off, a = some ⟨b, off, none⟩ → some b ≠ row) : Code w' G a len := by
  rcases h with h | ⟨b, off, ha, hb, hn, hc⟩
  · exact .inl h
  · refine .inr ⟨b, off, ha, Nat.lt_of_lt_of_le hb hg.size, hn, fun j hj => ?_⟩
    obtain ⟨z, hz, hcell⟩ := hc j hj
    exact ⟨z, hz, by rw [World.cell?_of_block (w := w) (hg.block b hb (hr b off ha))]; exact hcell⟩

/-- the bytes lie below block B -/
def Low (a : Option Addr) (len B : Nat) : Prop := len = 0 ∨ ∀ b off, a = some ⟨b, off, none⟩ → b < B

theorem code_low {w : World} {G : Nat} {a : Option Addr} {len B : Nat} (h : Code w G a len) (hl : w.heap.size ≤ B) : Low a len B := by
  rcases h with h | ⟨b, off, ha, hb, _, _⟩
  · exact .inl h
  · refine .inr fun b' off' ha' => ?_
    rw [ha] at ha'
    simp at ha'
    omega

theorem code_row {w w' : World} {G : Nat} {a : Option Addr} {len B : Nat} {row : Option Nat} (h : Code w G a len) (hlow : Low a len B) (hg : w.grownBy w' row) (hr : ∀ k, row = some k → B ≤ k) : Code w' G a len := by
  rcases hlow with h0 | hlow
  · exact .inl h0
  · exact h.keptRow hg (fun b off ha e => by have := hlow b off ha; have := hr b e.symm; omega)

set_option maxRecDepth 100000 in
set_option maxHeartbeats 2000000 in
theorem l01Text_any (n : Nat) (hn : n ≤ 5000) (w : World) (G : Nat) (a : Option Addr) (len cap : Nat) (hl : len ≤ 1048576) (hcur : Cur w G a len cap) (hcode : Code w G a len) :
    Calls Tryd.prog 22 #[.pointer (some ⟨G, 0, none⟩), .int .i64 (n : Int)] w fun e w' => ∃ S : ByteArray, S.size = n ∧ e = .returned (.string S) ∧ Below G w w' := by
  obtain ⟨i0, hi, hz0, hz1, hz2⟩ := info_parts info5
  have hG := hcur.lt
  have hlow := code_low (B := w.heap.size) hcode (Nat.le_refl _)
  have HLow := hideIt hlow
  have HC := hideIt (hcur.alloc (.cells #[] 5))
  have HD := hideIt (hcode.alloc (.cells #[] 5))
  have HB := hideIt (fun (W : World) (hc : Cur W G a len cap) (hd : Code W G a len) => l01Byte_drawn W G a len cap hl hc hd)
  have d0 : decide ((5000 : Int) < (n : Int)) = false := by simp; omega
  clear hcur hcode hlow
  go_enter Tryd.func22, Tryd.ntmps22
  go_wp2
  go_loopw [5, 6] (fun out i wr => ∃ (k g c : Nat) (l : List UInt8), k ≤ n ∧ i = .int .i64 k ∧ out = .slice (some ⟨g, 0, none⟩) k c ∧ Hid (l.length = k) ∧ wr.ownsRow w.heap.size 5 1 (.slice (some ⟨g, 0, none⟩) k c) k (bv l) ∧ Hid (Cur wr G a len cap) ∧ Hid (Code wr G a len) ∧ Below G w wr)
    (fun _ i _ => n - (intOf i).toNat)
  case atStart => exact ⟨0, w.heap.size, 0, [], by omega, rfl, rfl, rfl, World.ownsRow_made _ _ _ (Nat.le_refl _) (by unfold maxLen; omega) rfl, HC, HD, (Below.refl _ _).alloc (by omega) _⟩
  case round =>
    obtain ⟨k, g, c, l, hk, rfl, rfl, hll, hown, hc, hd, hb⟩ := hrel
    have hsz := hb.size
    clear HC HD
    by_cases hlt : k < n
    · go_wp2_with (go_at_call 18; refine (HB.out _ hc.out hd.out).mono ?_; rintro e w1 ⟨x, hx, rfl, dr⟩; refine Hid.out ?_)
      refine (show ∀ {p : Prop}, p → Hid p from fun h => h) ?_
      have lg := hown.lt g rfl
      have hown1 := World.ownsRow.kept hown dr.grown (.inr (by simp [Value.ownBlock]; omega))
      have s1 := dr.grown.size
      have hb1 := hb.trans (dr.below (Nat.le_refl _) (by omega))
      have HC1 := hideIt dr.cur
      have HD1 := hideIt dr.code
      clear dr hown hb hc hd
      go_wp2_with (at_builtin; refine wpList_append_lies _ rfl _ _ 22 rfl w.heap.size 5 i0 (.int .u8 0) 1 1 Tryd.underlying22 hi hz0 hz1 hz2 rfl (by decide) _ _ _ rfl (hown1.alloc _) ⟨w1.heap.size, 0, none⟩ 1 1 [Value.int .u8 (x : Int)] rfl rfl (one_new _ _ _) (by intro u hu; simp at hu; subst hu; rfl) (by omega) (by unfold maxLen; omega) (by omega) (by simp; omega) (w1.heap.size + 1) (by simp) ?_)
      intro g2 c2 w2 hown2 hg2 _ _
      have hrow : ∀ j, (Value.slice (some ⟨g, 0, none⟩) k c).ownBlock = some j → w.heap.size ≤ j := fun j hj => by simp [Value.ownBlock] at hj; omega
      have HB2 : Hid (Below G w w2) := (hb1.alloc (by omega) _).grown hg2 (by simp; omega) (fun j hj => by have := hrow j hj; omega)
      have HC2 : Hid (Cur w2 G a len cap) := (HC1.out.alloc _).kept hg2 (by simp [Value.ownBlock]; omega)
      have HD2 : Hid (Code w2 G a len) := code_row (HD1.out.alloc _) HLow.out hg2 hrow
      rw [bv_snoc l (UInt8.ofNat x) x (by simp; omega)] at hown2
      have HL2 : Hid ((l ++ [UInt8.ofNat x]).length = k + 1) := by show _ = _; rw [List.length_append, hll.out]; rfl
      clear hg2 hown1 hb1 HC1 HD1
      go_wp2
      go_roundw
      case rel => exact ⟨k + 1, g2, c2, _, by omega, by go_num, rfl, HL2, hown2, HC2, HD2, HB2⟩
      case measure => simp [intOf]; omega
    · have hcv := conv_at hown
      have HLn : Hid (l.length = n) := by show _ = _; have := hll.out; omega
      clear hown
      go_wp2
      go_ret
      exact ⟨_, by simp [ByteArray.size]; exact HLn.out, rfl, hb⟩

set_option maxRecDepth 100000 in
set_option maxHeartbeats 2000000 in
theorem drawHex_any (w : World) (a : Option Addr) (len cap : Nat) (hl : len ≤ 1048576) (hcode : Code w w.heap.size a len) :
    Calls Tryd.prog 8 #[.slice a len cap] w fun e w' => ∃ S : ByteArray, S.size ≤ 1048576 ∧ e = .returned (.string S) ∧ Below w.heap.size w w' := by
  have HN := hideIt (l01New_any w a len cap hl hcode)
  clear hcode
  go_enter Tryd.func8, Tryd.ntmps8
  go_wp2_with (go_at_call 17; refine HN.out.mono ?_; rintro e w1 ⟨rfl, hc, hd, hb, hs⟩; refine Hid.out ?_)
  refine (show ∀ {p : Prop}, p → Hid p from fun h => h) ?_
  have HO := hideIt (l01Once_any 60 (by omega) (by omega) w1 w.heap.size a len cap hl hc hd)
  clear hc hd HN
  go_wp2_with (go_at_call 20; refine HO.out.mono ?_; rintro e w2 ⟨bb, rfl, dr⟩; refine Hid.out ?_)
  refine (show ∀ {p : Prop}, p → Hid p from fun h => h) ?_
  have hb2 := hb.trans (dr.below (Nat.le_refl _) (by omega))
  have s2 := dr.grown.size
  cases bb
  · have HP := hideIt (l01Below_any 30 (by omega) (by omega) w2 w.heap.size a len cap hl dr.cur dr.code)
    clear dr HO
    go_wp2_with (go_at_call 19; refine HP.out.mono ?_; rintro e w3 ⟨x, hx, rfl, dr⟩; refine Hid.out ?_)
    refine (show ∀ {p : Prop}, p → Hid p from fun h => h) ?_
    have hb3 := hb2.trans (dr.below (Nat.le_refl _) (by omega))
    have HT := hideIt (l01Text_any x (by omega) w3 w.heap.size a len cap hl dr.cur dr.code)
    clear dr HP
    go_wp2_with (go_at_call 22; refine HT.out.mono ?_; rintro e w4 ⟨S, hS, rfl, hb4⟩)
    go_ret
    exact ⟨S, by omega, rfl, hb3.trans hb4⟩
  · have HP := hideIt (l01Below_any 2 (by omega) (by omega) w2 w.heap.size a len cap hl dr.cur dr.code)
    clear dr HO
    go_wp2_with (go_at_call 19; refine HP.out.mono ?_; rintro e w3 ⟨x, hx, rfl, dr⟩; refine Hid.out ?_)
    refine (show ∀ {p : Prop}, p → Hid p from fun h => h) ?_
    have hb3 := hb2.trans (dr.below (Nat.le_refl _) (by omega))
    have s3 := dr.grown.size
    have HT : Hid (∀ W : World, Calls Tryd.prog 21 #[.int .i64 (20000 + (x : Int)), .int .u8 200] W fun e w' => ∃ S : ByteArray, S.size = 20000 + x ∧ e = .returned (.string S) ∧ Below W.heap.size W w') := fun W => by
      have := l01Long_any (20000 + x) (by omega) 200 W
      rw [show ((20000 + x : Nat) : Int) = 20000 + (x : Int) by omega] at this
      exact this
    clear dr HP
    go_wp2_with (go_at_call 21; refine (HT.out _).mono ?_; rintro e w4 ⟨S, hS, rfl, hb4⟩)
    go_ret
    exact ⟨S, by omega, rfl, hb3.trans (hb4.mono (by omega))⟩

theorem big_any (w : World) (a : Option Addr) (len cap : Nat) : Calls Tryd.prog 6 #[.slice a len cap] w fun e w' => e = .returned (.bool (decide ((1048576 : Int) < (len : Int)))) ∧ w' = w := by
  go_enter Tryd.func6, Tryd.ntmps6
  go_wp2
  go_ret
  exact ⟨rfl, rfl⟩

end Go.Proofs.YtegknhnmfaafmaaDoor
