/- What the program's SumMore, SumOf and the four bytes of a sum answer, by her table. -/
import Derived.Test.YtegknhnmfaafmaaDoorCrc
import Derived.Test.YtegknhnmfaafmaaDoorMem
import Derived.WalkSpells
import Derived.Lib.LaidTab
import Derived.Lib.AppendIntMem
namespace Go.Proofs.YtegknhnmfaafmaaDoor
open Go.RowKit Crc

theorem bytes_snoc (s : ByteArray) (k : Nat) (h : k < s.size) : s.data.toList.take (k + 1) = s.data.toList.take k ++ [s[k]] := by
  rw [List.take_succ_eq_append_getElem (by simpa using h)]; rfl

/-- the program's table, as her text lays it -/
def tabI : List Int := tab.map fun (n : Nat) => (n : Int)

/-- her cells -/
def tb (r : Nat) : Nat := tab.getD r 0

theorem gTab : Tryd.prog.globalNamed "loop.example/g00130/impl.fourHalvings" = some 0 := by kernel_rfl

/-- the table stands in the world -/
def Tab (w : World) : Prop := Lib.TabIs Tryd.prog w "loop.example/g00130/impl.fourHalvings" .u32 tabI

theorem Tab.below {B : Nat} {w w' : World} (h : Tab w) (hb : Below B w w') (hB : w.heap.size ≤ B) : Tab w' := Lib.tabBelow_of_tabIs h w' (hb.mono hB)

theorem Tab.at {w : World} (h : Tab w) (i : Nat) (hi : i < 16) : w.cell? ⟨0, i, none⟩ = some (.int .u32 ((tb i : Nat) : Int)) := by
  have h1 := Lib.TabIs.cell h gTab i (by simpa [tabI, tab] using hi)
  rw [h1]
  have : ∀ j, j < 16 → tabI.getD j 0 = ((tb j : Nat) : Int) := by decide
  rw [this i hi]

set_option maxHeartbeats 1000000 in
theorem more_any (x : Nat) (hx : x < 4294967296) (s : ByteArray) (hs : s.size ≤ maxLen) (w : World) (ht : Tab w) :
    Calls Tryd.prog 40 #[.int .u32 (x : Int), .string s] w fun e w' => e = .returned (.int .u32 (sm x s.data.toList : Nat)) ∧ w = w' := by
  unfold maxLen at hs
  go_enter Tryd.func40, Tryd.ntmps40
  go_wp2
  go_loopw [5, 10] (fun u i wr => ∃ k : Nat, k ≤ s.size ∧ i = .int .i64 (k : Int) ∧ u = .int .u32 ((sm x (s.data.toList.take k) : Nat) : Int) ∧ wr = w)
    (fun _ i _ => s.size - (intOf i).toNat)
  case atStart => exact ⟨0, by omega, rfl, by simp [sm], rfl⟩
  case round =>
    obtain ⟨k, hk, rfl, rfl, rfl⟩ := hrel
    by_cases hlt : k < s.size
    · have hc := UInt8.toNat_lt (s[k])
      have b1 : (0 : Int) ≤ (k : Int) := by omega
      have b2 : (k : Int) < (s.size : Int) := by omega
      have hm := sm_lt hx (s.data.toList.take k)
      have hX := u32_xor_nat (sm x (s.data.toList.take k)) (s[k]).toNat hm (by omega)
      have hL := xb_lt hm (s[k])
      have hE : sm x (s.data.toList.take (k + 1)) = h4 (h4 (sm x (s.data.toList.take k) ^^^ (s[k]).toNat)) := by
        rw [bytes_snoc s k hlt, sm_snoc]; rfl
      generalize sm x (s.data.toList.take k) = y at *
      generalize y ^^^ (s[k]).toNat = z at *
      have hz4 := h4_lt hL
      have hT1 := ht.at (z % 16) (by omega)
      have hX1 : bits .xor .u32 ((z : Int) / 16) ((tb (z % 16) : Nat) : Int) = ((h4 z : Nat) : Int) := (u32_xor_nat (z / 16) (tab.getD (z % 16) 0) (by omega) (tab_lt _ (by omega))).trans (by rw [h4_tab])
      have hT2 := ht.at (h4 z % 16) (by omega)
      have hX2 : bits .xor .u32 (((h4 z : Nat) : Int) / 16) ((tb (h4 z % 16) : Nat) : Int) = ((sm x (s.data.toList.take (k + 1)) : Nat) : Int) := (u32_xor_nat (h4 z / 16) (tab.getD (h4 z % 16) 0) (by omega) (tab_lt _ (by omega))).trans (by rw [h4_tab, hE])
      go_wp2
      go_roundw
      case rel => exact ⟨k + 1, by omega, by go_num, by rw [hE], trivial⟩
      case measure => simp [intOf]; omega
    · have e : s.data.toList.take k = s.data.toList := List.take_of_length_le (by simp; omega)
      rw [e]
      go_wp2
      go_ret
      exact ⟨rfl, rfl⟩

theorem iSumMore_any (x : Nat) (hx : x < 4294967296) (s : ByteArray) (hs : s.size ≤ maxLen) (w : World) (ht : Tab w) :
    Calls Tryd.prog 35 #[.int .u32 (x : Int), .string s] w fun e w' => e = .returned (.int .u32 (sm x s.data.toList : Nat)) ∧ w = w' := by
  go_enter Tryd.func35, Tryd.ntmps35
  go_wp2_with (go_at_call 40; refine (more_any x hx s hs _ ht).mono ?_; rintro e w1 ⟨rfl, hw1⟩; subst hw1)
  go_ret
  exact ⟨rfl, rfl⟩

theorem iSumOf_any (s : ByteArray) (hs : s.size ≤ maxLen) (w : World) (ht : Tab w) :
    Calls Tryd.prog 25 #[.string s] w fun e w' => e = .returned (.int .u32 (sm 4294967295 s.data.toList : Nat)) ∧ w = w' := by
  go_enter Tryd.func25, Tryd.ntmps25
  go_wp2_with (go_at_call 35; refine (iSumMore_any 4294967295 (by omega) s hs _ ht).mono ?_; rintro e w1 ⟨rfl, hw1⟩; subst hw1)
  go_ret
  exact ⟨rfl, rfl⟩

theorem conv4 (u : World) (a b c d : UInt8) :
    (convert 22 9 (.slice (some ⟨u.heap.size, 0, none⟩) 4 4)).run Tryd.prog (u.alloc (.cells #[.int .u8 (a.toNat : Int), .int .u8 (b.toNat : Int), .int .u8 (c.toNat : Int), .int .u8 (d.toNat : Int)] 5)) =
      .ok (.string ⟨[a, b, c, d].toArray⟩) (u.alloc (.cells #[.int .u8 (a.toNat : Int), .int .u8 (b.toNat : Int), .int .u8 (c.toNat : Int), .int .u8 (d.toNat : Int)] 5)) :=
  run_convert_bytes_back (P := Tryd.prog) _ 22 9 5 ⟨u.heap.size, 0, none⟩ 4 [a, b, c, d] Tryd.underlying22 Tryd.underlying5 Tryd.underlying9 (fun j hj => by
    match j, hj with
    | 0, _ => simp [Addr.add]
    | 1, _ => simp [Addr.add]
    | 2, _ => simp [Addr.add]
    | 3, _ => simp [Addr.add])

theorem by8 (n : Nat) : ((UInt8.ofNat n).toNat : Int) = (n : Int) % 256 := by simp

theorem four_conv (x : Nat) (hx : x < 4294967296) (u : World) :
    (convert 22 9 (.slice (some ⟨u.heap.size, 0, none⟩) 4 4)).run Tryd.prog (u.alloc (.cells #[.int .u8 ((x : Int) / 16777216), .int .u8 ((x : Int) / 65536 % 256), .int .u8 ((x : Int) / 256 % 256), .int .u8 ((x : Int) % 256)] 5)) =
      .ok (.string ⟨(four x).toArray⟩) (u.alloc (.cells #[.int .u8 ((x : Int) / 16777216), .int .u8 ((x : Int) / 65536 % 256), .int .u8 ((x : Int) / 256 % 256), .int .u8 ((x : Int) % 256)] 5)) := by
  have h := conv4 u (UInt8.ofNat (x / 16777216)) (UInt8.ofNat (x / 65536)) (UInt8.ofNat (x / 256)) (UInt8.ofNat x)
  simp only [by8] at h
  have e : ((x / 16777216 : Nat) : Int) % 256 = (x : Int) / 16777216 := by omega
  rw [e] at h
  exact h

theorem text_any (x : Nat) (hx : x < 4294967296) (w : World) :
    Calls Tryd.prog 26 #[.int .u32 (x : Int)] w fun e w' => e = .returned (.string ⟨(four x).toArray⟩) ∧ Below w.heap.size w w' := by
  have hc := four_conv x hx w
  go_enter Tryd.func26, Tryd.ntmps26
  go_wp2
  go_ret
  exact ⟨rfl, (Below.refl _ _).alloc (Nat.le_refl _) _⟩

end Go.Proofs.YtegknhnmfaafmaaDoor
