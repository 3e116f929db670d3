/- What the program's Hex answers at every text in its range. -/
import Derived.Test.YtngbaefmejdecaaDoorMem
import Derived.Test.YtngbaefmejdecaaDoorFigs
import Derived.WalkSpells
import Derived.Deep.RegionHeld3
import Derived.Deep.AppendLies
namespace Go.Proofs.YtngbaefmejdecaaDoor
open Go.RowKit Figs

theorem bytes_snoc (s : ByteArray) (k : Nat) (h : k < s.size) : s.data.toList.take (k + 1) = s.data.toList.take k ++ [s[k]] := by
  rw [List.take_succ_eq_append_getElem (by simpa using h)]; rfl

theorem bv_two (l : List UInt8) (c : UInt8) : bv (hexOf l) ++ [Value.int .u8 (figI ((c.toNat : Int) / 16)), Value.int .u8 (figI ((c.toNat : Int) % 16))] = bv (hexOf (l ++ [c])) := by
  have hc := UInt8.toNat_lt c
  have e1 := fig_toNat (c.toNat / 16) (by omega)
  have e2 := fig_toNat (c.toNat % 16) (by omega)
  have e3 : ((c.toNat / 16 : Nat) : Int) = (c.toNat : Int) / 16 := by simp
  have e4 : ((c.toNat % 16 : Nat) : Int) = (c.toNat : Int) % 16 := by simp
  rw [hexOf_snoc, ← e3, ← e4, ← e1, ← e2]
  simp [bv]

theorem idx16 (x : Int) (h0 : 0 ≤ x) (h1 : x < 16) (w : World) :
    (Instr.index 9 (.string ⟨#[48, 49, 50, 51, 52, 53, 54, 55, 56, 57, 97, 98, 99, 100, 101, 102]⟩) (.int .u8 x)).run Tryd.prog w = .ok (.int .u8 (figI x)) w := by
  rcases (show x = 0 ∨ x = 1 ∨ x = 2 ∨ x = 3 ∨ x = 4 ∨ x = 5 ∨ x = 6 ∨ x = 7 ∨ x = 8 ∨ x = 9 ∨ x = 10 ∨ x = 11 ∨ x = 12 ∨ x = 13 ∨ x = 14 ∨ x = 15 from by omega) with rfl | rfl | rfl | rfl | rfl | rfl | rfl | rfl | rfl | rfl | rfl | rfl | rfl | rfl | rfl | rfl <;> kernel_rfl

theorem idxDiv (c : UInt8) (w : World) : (Instr.index 9 (.string ⟨#[48, 49, 50, 51, 52, 53, 54, 55, 56, 57, 97, 98, 99, 100, 101, 102]⟩) (.int .u8 ((c.toNat : Int) / 16))).run Tryd.prog w = .ok (.int .u8 (figI ((c.toNat : Int) / 16))) w :=
  idx16 _ (by omega) (by have := UInt8.toNat_lt c; omega) w

theorem idxMod (c : UInt8) (w : World) : (Instr.index 9 (.string ⟨#[48, 49, 50, 51, 52, 53, 54, 55, 56, 57, 97, 98, 99, 100, 101, 102]⟩) (.int .u8 ((c.toNat : Int) % 16))).run Tryd.prog w = .ok (.int .u8 (figI ((c.toNat : Int) % 16))) w :=
  idx16 _ (by omega) (by omega) w

attribute [local go_sem ↓] idxDiv idxMod

set_option maxRecDepth 100000 in
set_option maxHeartbeats 2000000 in
theorem iHex_yes (s : ByteArray) (hs : s.size ≤ 20000) (w : World) :
    Calls Tryd.prog 13 #[.string s] w fun e w' => e = .returned (.tuple #[.string ⟨(hexOf s.data.toList).toArray⟩, .bool true]) ∧ Below w.heap.size w w' := by
  obtain ⟨i0, hi, hz0, hz1, hz2⟩ := info_parts info5
  have hmk : ∀ u : World, (Instr.makeSlice 22 (.int .i64 0) (.int .i64 (2 * (s.size : Int)))).run Tryd.prog u =
      .ok (.slice (some ⟨u.heap.size, 0, none⟩) 0 (2 * s.size)) (u.alloc (.cells (madeCells #[.int .u8 0] (2 * s.size)) 5)) := fun u => by
    have h := run_make (P := Tryd.prog) u 22 5 i0 (.int .u8 0) Tryd.underlying22 hi hz0 .i64 .i64 0 (2 * (s.size : Int)) (by omega) (by omega) (by rw [hz2]; omega) (by omega)
    have e : (2 * (s.size : Int)).toNat = 2 * s.size := by omega
    rw [e] at h
    simpa [hz1, Value.cells] using h
  have d0 : decide ((20000 : Int) < (s.size : Int)) = false := by simp; omega
  go_enter Tryd.func13, Tryd.ntmps13
  go_wp2
  go_loopw [4, 15] (fun out i wr => ∃ k n g cap : Nat, k ≤ s.size ∧ n ≤ 2 * k ∧ i = .int .i64 k ∧ out = .slice (some ⟨g, 0, none⟩) n cap ∧
      wr.ownsRow w.heap.size 5 1 (.slice (some ⟨g, 0, none⟩) n cap) n (bv (hexOf (s.data.toList.take k))) ∧ Below w.heap.size w wr)
    (fun _ i _ => s.size - (intOf i).toNat)
  case atStart => exact ⟨0, 0, w.heap.size, 2 * s.size, by omega, by omega, rfl, rfl, World.ownsRow_made _ _ _ (Nat.le_refl _) (by unfold maxLen; omega) (by simp [madeCells]), (Below.refl _ _).alloc (Nat.le_refl _) _⟩
  case round =>
    obtain ⟨k, n, g, cap, hk, hn, rfl, rfl, hown, hb⟩ := hrel
    have hsz := hb.size
    by_cases hlt : k < s.size
    · have hc := UInt8.toNat_lt (s[k])
      have b1 : (0 : Int) ≤ (k : Int) := by omega
      have b2 : (k : Int) < (s.size : Int) := by omega
      have b3 : IntKind.u8.wrap (((s[k]).toNat : Int) / 16) = ((s[k]).toNat : Int) / 16 := by rw [IntKind.wrap_u8]; omega
      have b4 : (((s[k]).toNat : Int)).tmod 16 = ((s[k]).toNat : Int) % 16 := Int.tmod_eq_emod_of_nonneg (by omega)
      go_wp2
      go_region_held3 (fun _ => True) (trivial) ((refine step_append_lies _ (by rfl) _ _ _ (by rfl) w.heap.size 5 i0 _ 1 1 Tryd.underlying22 hi hz0 hz1 hz2 rfl (by omega) _ n _ (by rfl) ((hown.alloc _).drew) ⟨wr.heap.size, 0, none⟩ 2 2 [.int .u8 (figI (((s[k]).toNat : Int) / 16)), .int .u8 (figI (((s[k]).toNat : Int) % 16))] (by rfl) (by rfl) (World.news_of_block (cs := #[.int .u8 (figI (((s[k]).toNat : Int) / 16)), .int .u8 (figI (((s[k]).toNat : Int) % 16))]) (t := 5) (fr := (0, 0)) (heap_alloc_new wr _)) (by simp [Value.oneCell']) (by omega) (by unfold maxLen; omega) (by omega) (by simp; omega) (wr.heap.size + 1) (by simp) ?_; intro g1 cap1 w1 hown1 hg1 hat1 hlt1))
      all_goals
        have hb1 := below_appD hb (Nat.le_refl _) hown hg1
        rw [bv_two, ← bytes_snoc s k hlt] at hown1
        clear hg1 hown b3 b4
        go_wp2
        go_roundw
        case rel => exact ⟨k + 1, n + 2, g1, cap1, by omega, by omega, by go_num, rfl, hown1, hb1⟩
        case measure => simp [intOf]; omega
    · have e : s.data.toList.take k = s.data.toList := List.take_of_length_le (by simp; omega)
      rw [e] at hown
      have hcv := conv_at hown
      clear e hown
      go_wp2
      go_ret2
      exact ⟨rfl, hb⟩

end Go.Proofs.YtngbaefmejdecaaDoor
