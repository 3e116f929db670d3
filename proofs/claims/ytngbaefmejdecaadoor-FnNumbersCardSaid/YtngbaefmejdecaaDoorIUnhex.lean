/- What the program's Unhex answers at every text in its range. -/
import Derived.Test.YtngbaefmejdecaaDoorMem
import Derived.Test.YtngbaefmejdecaaDoorUh
import Derived.WalkSpells
import Derived.WalkMore
import Derived.Deep.AppendLies
namespace Go.Proofs.YtngbaefmejdecaaDoor
open Go.RowKit Uh

/-- what a reader of figures answers -/
def uhV : Option (List UInt8) → Value
  | none => .tuple #[.string ⟨#[]⟩, .bool false]
  | some o => .tuple #[.string ⟨o.toArray⟩, .bool true]

theorem bytes_two (s : ByteArray) (k : Nat) (h : k + 1 < s.size) : s.data.toList.take (k + 2) = s.data.toList.take k ++ [s[k], s[k + 1]] := by
  rw [List.take_succ_eq_append_getElem (by simpa using h), List.take_succ_eq_append_getElem (by simp; omega)]
  simp
  exact ⟨rfl, rfl⟩

theorem byte_mem (s : ByteArray) (k : Nat) (h : k < s.size) : s[k] ∈ s.data.toList := by
  have : s[k] = s.data.toList[k]'(by simpa using h) := rfl
  rw [this]
  exact List.getElem_mem _

set_option maxRecDepth 100000 in
set_option maxHeartbeats 4000000 in
theorem iUnhex_in (s : ByteArray) (hs : s.size ≤ 40000) (w : World) :
    Calls Tryd.prog 14 #[.string s] w fun e w' => e = .returned (uhV (uh s.data.toList)) ∧ Below w.heap.size w w' := by
  obtain ⟨i0, hi, hz0, hz1, hz2⟩ := info_parts info5
  have d0 : decide ((40000 : Int) < (s.size : Int)) = false := by simp; omega
  have hmk : ∀ u : World, (Instr.makeSlice 22 (.int .i64 0) (.int .i64 ((s.size : Int) / 2))).run Tryd.prog u =
      .ok (.slice (some ⟨u.heap.size, 0, none⟩) 0 (s.size / 2)) (u.alloc (.cells (madeCells #[.int .u8 0] (s.size / 2)) 5)) := fun u => by
    have h := run_make (P := Tryd.prog) u 22 5 i0 (.int .u8 0) Tryd.underlying22 hi hz0 .i64 .i64 0 ((s.size : Int) / 2) (by omega) (by omega) (by rw [hz2]; omega) (by omega)
    have e : ((s.size : Int) / 2).toNat = s.size / 2 := by omega
    rw [e] at h
    simpa [hz1, Value.cells] using h
  go_enter Tryd.func14, Tryd.ntmps14
  go_wp2
  go_step3
  go_wp2
  go_step3
  go_wp2
  go_loopw [4, 5, 18] (fun out high i wr => ∃ (k n g cap : Nat) (o : List UInt8) (h : Int), k ≤ s.size ∧ 2 * n ≤ k ∧ k ≤ 2 * n + 1 ∧ 0 ≤ h ∧ h ≤ 15 ∧ i = .int .i64 k ∧ high = .int .u8 h ∧ out = .slice (some ⟨g, 0, none⟩) n cap ∧
      Hid (uh (s.data.toList.take (2 * n)) = some o) ∧ Hid (∀ (hx : 2 * n < s.size), k = 2 * n + 1 → h = vl (s[2 * n]) ∧ 0 ≤ h) ∧
      wr.ownsRow w.heap.size 5 1 (.slice (some ⟨g, 0, none⟩) n cap) n (bv o) ∧ Below w.heap.size w wr)
    (fun _ _ i _ => s.size - (intOf i).toNat)
  case atStart => exact ⟨0, 0, w.heap.size, s.size / 2, [], 0, by omega, by omega, by omega, by omega, by omega, rfl, rfl, rfl, rfl, (fun _ hy => by omega), World.ownsRow_made _ _ _ (Nat.le_refl _) (by unfold maxLen; omega) (by simp [madeCells]), (Below.refl _ _).alloc (Nat.le_refl _) _⟩
  case round =>
    obtain ⟨k, n, g, cap, o, h, hk, hn1, hn2, h0, h15, rfl, rfl, rfl, ho, hh, hown, hb⟩ := hrel
    have hsz := hb.size
    by_cases hlt : k < s.size
    · have hc := UInt8.toNat_lt (s[k])
      by_cases hd : 48 ≤ (s[k]).toNat ∧ (s[k]).toNat ≤ 57
      · obtain ⟨hd1, hd2⟩ := hd
        have hv : vl (s[k]) = ((s[k]).toNat : Int) - 48 := vl_dec (s[k]) (by omega) (by omega)
        by_cases hp : k ≤ 2 * n
        · have e1 : ((k : Int) % 2 == 0) = true := by simp; omega
          have HH : Hid (∀ (hx : 2 * n < s.size), k + 1 = 2 * n + 1 → ((s[k]).toNat : Int) - 48 = vl (s[2 * n]) ∧ 0 ≤ ((s[k]).toNat : Int) - 48) := by
            intro hx _
            have ek : k = 2 * n := by omega
            subst ek
            exact ⟨hv.symm, by omega⟩
          clear hh hv
          go_wp2
          go_roundw
          case rel => exact ⟨k + 1, n, g, cap, o, _, by omega, by omega, by omega, by omega, by omega, by go_num, rfl, rfl, ho, HH, hown, hb⟩
          case measure => simp [intOf]; omega
        · have e1 : ((k : Int) % 2 == 0) = false := by simp; omega
          have hx : 2 * n < s.size := by omega
          have H1 := hh.out hx (by omega)
          have e2 : s[2 * n + 1]'(by omega) = s[k] := by congr 1; omega
          have HT : Hid (((two (s[2 * n]) (s[k])).toNat : Int) = h * 16 + (((s[k]).toNat : Int) - 48)) := by
            show _ = _
            rw [two_toNat _ _ (by omega) (by omega), hv]; omega
          have HO : Hid (uh (s.data.toList.take (2 * (n + 1))) = some (o ++ [two (s[2 * n]) (s[k])])) := by
            show _ = _
            rw [show 2 * (n + 1) = 2 * n + 2 by omega, bytes_two s (2 * n) (by omega), e2]; exact uh_snoc _ _ _ _ ho.out (by omega) (by omega)
          clear hh hv e2 H1
          go_wp2_with (at_builtin; refine wpList_append_lies _ rfl _ _ 22 rfl w.heap.size 5 i0 (.int .u8 0) 1 1 Tryd.underlying22 hi hz0 hz1 hz2 rfl (by decide) _ _ _ rfl (hown.alloc _) ⟨wr.heap.size, 0, none⟩ 1 1 [Value.int .u8 (h * 16 + (((s[k]).toNat : Int) - 48))] rfl rfl (one_new _ _ _) (by intro u hu; simp at hu; subst hu; rfl) (by omega) (by unfold maxLen; omega) (by omega) (by simp; omega) (wr.heap.size + 1) (by simp) ?_)
          intro g1 cap1 w1 hown1 hg1 _ _
          have hb1 := below_app hb (Nat.le_refl _) hown hg1
          rw [bv_snoc o (two (s[2 * n]) (s[k])) _ HT.out] at hown1
          clear hg1 hown ho
          go_wp2
          go_roundw
          case rel => exact ⟨k + 1, n + 1, g1, cap1, _, h, by omega, by omega, by omega, by omega, by omega, by go_num, rfl, rfl, HO, (fun _ hy => by omega), hown1, hb1⟩
          case measure => simp [intOf]; omega
      · by_cases hl : 97 ≤ (s[k]).toNat ∧ (s[k]).toNat ≤ 102
        · obtain ⟨hl1, hl2⟩ := hl
          have hv : vl (s[k]) = ((s[k]).toNat : Int) - 97 + 10 := vl_let (s[k]) (by omega) (by omega)
          by_cases hp : k ≤ 2 * n
          · have e1 : ((k : Int) % 2 == 0) = true := by simp; omega
            have HH : Hid (∀ (hx : 2 * n < s.size), k + 1 = 2 * n + 1 → ((s[k]).toNat : Int) - 97 + 10 = vl (s[2 * n]) ∧ 0 ≤ ((s[k]).toNat : Int) - 97 + 10) := by
              intro hx _
              have ek : k = 2 * n := by omega
              subst ek
              exact ⟨hv.symm, by omega⟩
            clear hh hv
            go_wp2
            go_roundw
            case rel => exact ⟨k + 1, n, g, cap, o, _, by omega, by omega, by omega, by omega, by omega, by go_num, rfl, rfl, ho, HH, hown, hb⟩
            case measure => simp [intOf]; omega
          · have e1 : ((k : Int) % 2 == 0) = false := by simp; omega
            have hx : 2 * n < s.size := by omega
            have H1 := hh.out hx (by omega)
            have e2 : s[2 * n + 1]'(by omega) = s[k] := by congr 1; omega
            have HT : Hid (((two (s[2 * n]) (s[k])).toNat : Int) = h * 16 + (((s[k]).toNat : Int) - 97 + 10)) := by
              show _ = _
              rw [two_toNat _ _ (by omega) (by omega), hv]; omega
            have HO : Hid (uh (s.data.toList.take (2 * (n + 1))) = some (o ++ [two (s[2 * n]) (s[k])])) := by
              show _ = _
              rw [show 2 * (n + 1) = 2 * n + 2 by omega, bytes_two s (2 * n) (by omega), e2]; exact uh_snoc _ _ _ _ ho.out (by omega) (by omega)
            clear hh hv e2 H1
            go_wp2_with (at_builtin; refine wpList_append_lies _ rfl _ _ 22 rfl w.heap.size 5 i0 (.int .u8 0) 1 1 Tryd.underlying22 hi hz0 hz1 hz2 rfl (by decide) _ _ _ rfl (hown.alloc _) ⟨wr.heap.size, 0, none⟩ 1 1 [Value.int .u8 (h * 16 + (((s[k]).toNat : Int) - 97 + 10))] rfl rfl (one_new _ _ _) (by intro u hu; simp at hu; subst hu; rfl) (by omega) (by unfold maxLen; omega) (by omega) (by simp; omega) (wr.heap.size + 1) (by simp) ?_)
            intro g1 cap1 w1 hown1 hg1 _ _
            have hb1 := below_app hb (Nat.le_refl _) hown hg1
            rw [bv_snoc o (two (s[2 * n]) (s[k])) _ HT.out] at hown1
            clear hg1 hown ho
            go_wp2
            go_roundw
            case rel => exact ⟨k + 1, n + 1, g1, cap1, _, h, by omega, by omega, by omega, by omega, by omega, by go_num, rfl, rfl, HO, (fun _ hy => by omega), hown1, hb1⟩
            case measure => simp [intOf]; omega
        · have HO : Hid (uh s.data.toList = none) := uh_bad _ _ (byte_mem s k hlt) (by rw [vl_bad _ hd hl]; omega)
          clear hh ho
          go_wp2
          all_goals (try rw [Exit.noGoto_ret])
          all_goals go_ret2
          all_goals exact ⟨by rw [HO.out]; rfl, hb⟩
    · by_cases hp : k ≤ 2 * n
      · have e : s.data.toList.take (2 * n) = s.data.toList := List.take_of_length_le (by simp; omega)
        have HO : Hid (uh s.data.toList = some o) := by have := ho.out; rw [e] at this; exact this
        have hcv := conv_at hown
        clear e hown ho hh
        go_wp2
        try rw [Exit.noGoto_ret]
        go_ret2
        exact ⟨by rw [HO.out]; rfl, hb⟩
      · have HO : Hid (uh s.data.toList = none) := uh_odd _ (by simp; omega)
        clear hown ho hh
        go_wp2
        try rw [Exit.noGoto_ret]
        go_ret2
        exact ⟨by rw [HO.out]; rfl, hb⟩

end Go.Proofs.YtngbaefmejdecaaDoor
