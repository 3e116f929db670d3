/- What the specification's Unframe answers. -/
import Derived.Test.YtegknhnmfaafmaaDoorIUnframe
import Derived.Test.YtegknhnmfaafmaaDoorSFrame
import Derived.Test.YtegknhnmfaafmaaDoorSRead
namespace Go.Proofs.YtegknhnmfaafmaaDoor
open Go.RowKit Vt Crc

theorem rf_end (s : ByteArray) (a : Nat) (h : s.size ≤ a) : rf s a = none := by
  apply rf_none
  have : from_ s a = [] := by unfold from_; exact List.drop_of_length_le (by simpa using h)
  rw [this]
  rfl

theorem sUnframe_long (s : ByteArray) (hs : 20000 < s.size) (hm : s.size ≤ maxLen) (w : World) : Calls Tryd.prog 13 #[.string s] w (UnOut s w) := by
  unfold maxLen at hm
  have E := hidOf (un_long s hs)
  go_enter Tryd.func13, Tryd.ntmps13
  go_wp2
  go_ret2
  unfold UnOut
  rw [E.out]
  exact ⟨_, rfl, World.ownsRow_made _ _ _ (Nat.le_refl _) (by unfold maxLen; omega) rfl, (Below.refl _ _).alloc (Nat.le_refl _) _⟩

/-- what the loop bears -/
structure SAt (s : ByteArray) (w wr : World) (pre : List ByteArray) (a g cap : Nat) : Prop where
  un : UnAt s pre a
  row : wr.ownsRow w.heap.size 9 1 (.slice (some ⟨g, 0, none⟩) pre.length cap) pre.length (pre.map Value.string)
  low : Below w.heap.size w wr

theorem SAt.quiet {s : ByteArray} {w wr w1 : World} {pre : List ByteArray} {a g cap : Nat} (h : SAt s w wr pre a g cap) (hb : Below wr.heap.size wr w1) : SAt s w w1 pre a g cap :=
  ⟨h.un, h.row.kept (grown_low hb none) (.inr (by simp [Value.ownBlock])), h.low.trans (hb.mono h.low.size)⟩

theorem SAt.out {s : ByteArray} {w wr : World} {pre : List ByteArray} {a g cap : Nat} (h : SAt s w wr pre a g cap) (hr : rf s a = none) : UnOut s w (.returned (.tuple #[.slice (some ⟨g, 0, none⟩) pre.length cap, .int .i64 (a : Int)])) wr := by
  unfold UnOut
  rw [h.un.done hr]
  exact ⟨_, rfl, h.row, h.low⟩

theorem sRead_none {s : ByteArray} (hs : s.size ≤ 20000) {a : Nat} (h : a ≤ s.size) (hr : rv a (from_ s a) = none) :
    Hid (∀ w : World, Calls Tryd.prog 33 #[.string s, .int .i64 (a : Int)] w fun e w' => e = .returned (.tuple #[.int .i64 0, .int .i64 0, .bool false]) ∧ Below w.heap.size w w') := fun w => by
  have := sReadVar_in s (by omega) a h w
  rw [hr] at this
  exact this

theorem sRead_some {s : ByteArray} (hs : s.size ≤ 20000) {a : Nat} (h : a ≤ s.size) {n j : Nat} (hr : rv a (from_ s a) = some (n, j)) :
    Hid (∀ w : World, Calls Tryd.prog 33 #[.string s, .int .i64 (a : Int)] w fun e w' => e = .returned (.tuple #[.int .i64 (n : Int), .int .i64 (j : Int), .bool true]) ∧ Below w.heap.size w w') := fun w => by
  have := sReadVar_in s (by omega) a h w
  rw [hr] at this
  exact this

set_option maxRecDepth 100000 in
set_option maxHeartbeats 4000000 in
theorem sUnframe_short (s : ByteArray) (hs : s.size ≤ 20000) (w : World) : Calls Tryd.prog 13 #[.string s] w (UnOut s w) := by
  obtain ⟨i0, hi, hz0, hz1, hz2⟩ := info_parts info9
  have d0 : decide ((20000 : Int) < (s.size : Int)) = false := by simp; omega
  have o0 : SAt s w (w.alloc (.cells #[] 9)) [] 0 w.heap.size 0 := ⟨UnAt.start s hs, World.ownsRow_made _ _ _ (Nat.le_refl _) (by unfold maxLen; omega) rfl, (Below.refl _ _).alloc (Nat.le_refl _) _⟩
  go_enter Tryd.func13, Tryd.ntmps13
  go_wp2
  go_loopw [4, 5] (fun out at_ wr => ∃ (pre : List ByteArray) (k a g cap : Nat), k = pre.length ∧ out = .slice (some ⟨g, 0, none⟩) k cap ∧ at_ = .int .i64 (a : Int) ∧ SAt s w wr pre a g cap)
    (fun _ at_ _ => s.size - (intOf at_).toNat)
  case atStart => exact ⟨[], 0, 0, w.heap.size, 0, rfl, rfl, rfl, o0⟩
  case round =>
    clear o0
    obtain ⟨pre, k, a, g, cap, hk, rfl, rfl, hst⟩ := hrel
    have HK := hidOf hk
    have hst1 : wr.ownsRow w.heap.size 9 1 (.slice (some ⟨g, 0, none⟩) k cap) k (pre.map Value.string) := by rw [hk]; exact hst.row
    have hle := hst.un.le
    have hkk : k * 6 ≤ a := by rw [hk]; exact hst.un.few
    clear hk
    by_cases hlt : a < s.size
    · cases hr : rv a (from_ s a) with
      | none =>
        have H := sRead_none hs hle hr
        have E := hidOf (rf_none hr)
        clear hr
        go_wp2_with (go_at_call 33; refine (H.out _).mono ?_; rintro e w1 ⟨rfl, hb1⟩)
        go_ret2
        have hq := (hst.quiet hb1).out E.out
        rw [← HK.out] at hq
        exact hq
      | some y =>
        obtain ⟨n, j⟩ := y
        have H := sRead_some hs hle hr
        have hbd := rv_bounds hr
        have hj : j ≤ s.size := hbd.2.2 hle
        have haj : a < j := hbd.2.1
        have hn := hbd.1
        clear hbd
        by_cases k3 : j + 4 + n ≤ s.size
        · have d1 : decide ((s.size : Int) - (j : Int) - 4 < (n : Int)) = false := by simp; omega
          have n1 : ((j : Int) + 4).toNat = j + 4 := by omega
          have n2 : ((j : Int) + 4 + (n : Int)).toNat = j + 4 + n := by omega
          have b1 : (0 : Int) ≤ (j : Int) + 4 := by omega
          have b2 : (j : Int) + 4 ≤ (j : Int) + 4 + (n : Int) := by omega
          have b3 : (j : Int) + 4 + (n : Int) ≤ (s.size : Int) := by omega
          have b4 : (a : Int) ≤ (j : Int) + 4 + (n : Int) := by omega
          have hz : (s.extract (j + 4) (j + 4 + n)).size = n := by rw [ByteArray.size_extract]; omega
          have hzm : (s.extract (j + 4) (j + 4 + n)).size ≤ maxLen := by rw [hz]; unfold maxLen; omega
          by_cases hok : 1 ≤ n ∧ n ≤ 9000
          · obtain ⟨k1, k2⟩ := hok
            have hF : Hid (∀ w : World, Calls Tryd.prog 12 #[.string (s.extract (j + 4) (j + 4 + n))] w fun e w' => e = .returned (.tuple #[.string (frm (s.extract (j + 4) (j + 4 + n))), .bool true]) ∧ Below w.heap.size w w') := fun w => sFrame_yes _ (by omega) (by omega) w
            by_cases he : frm (s.extract (j + 4) (j + 4 + n)) = s.extract a (j + 4 + n)
            · have E := hidOf (rf_yes hr k1 k2 k3 ((frm_at hr k3).1 he))
              have HE := hidOf (hst.un.step E.out)
              clear hr hz hzm
              go_wp2_with (first
                | (go_at_call 33; refine (H.out _).mono ?_; rintro e w1 ⟨rfl, hb1⟩)
                | (go_at_call 12; refine (hF.out _).mono ?_; rintro e w2 ⟨rfl, hb2⟩; have hst2 := (hst.quiet hb1).quiet hb2; have hrow2 : w2.ownsRow w.heap.size 9 1 (.slice (some ⟨g, 0, none⟩) k cap) k (pre.map Value.string) := (by rw [HK.out]; exact hst2.row); have hz2' := hst2.low.size)
                | (at_builtin; refine wpList_append_lies _ rfl _ _ 27 rfl w.heap.size 9 i0 (.string ⟨#[]⟩) 1 16 Tryd.underlying27 hi hz0 hz1 hz2 rfl (by decide) _ _ _ rfl (hrow2.alloc _) ⟨w2.heap.size, 0, none⟩ 1 1 [Value.string (s.extract (j + 4) (j + 4 + n))] rfl rfl (one_new _ _ _) (by intro u hu; simp at hu; subst hu; rfl) (by omega) (by unfold maxLen; omega) (by omega) (by simp; omega) (w2.heap.size + 1) (by simp) ?_; intro g1 cap1 w3 hown3 hg3 _ _))
              go_roundw
              case rel =>
                have hb3 := ((hst2.low.alloc (by omega) _).grown hg3 (by simp; omega) (fun q hq => (hrow2.lt q hq).1))
                refine ⟨pre ++ [s.extract (j + 4) (j + 4 + n)], k + 1, j + 4 + n, g1, cap1, by rw [HK.out]; simp, rfl, by go_num, HE.out, ?_, hb3⟩
                have hl : (pre ++ [s.extract (j + 4) (j + 4 + n)]).length = k + 1 := by rw [HK.out]; simp
                rw [hl, List.map_append]
                exact hown3
              case measure => simp [intOf]; omega
            · have E := hidOf (rf_neq hr (fun hx => he ((frm_at hr k3).2 hx)))
              have d3 := str_neq he
              clear hr hz hzm
              go_wp2_with (first
                | (go_at_call 33; refine (H.out _).mono ?_; rintro e w1 ⟨rfl, hb1⟩)
                | (go_at_call 12; refine (hF.out _).mono ?_; rintro e w2 ⟨rfl, hb2⟩))
              go_ret2
              have hq := ((hst.quiet hb1).quiet hb2).out E.out
              rw [← HK.out] at hq
              exact hq
          · have hF : Hid (∀ w : World, Calls Tryd.prog 12 #[.string (s.extract (j + 4) (j + 4 + n))] w fun e w' => e = .returned (.tuple #[.string ⟨#[]⟩, .bool false]) ∧ Below w.heap.size w w') := fun w => sFrame_no _ (by omega) hzm w
            have E := hidOf (rf_no hr (fun hx => hok ⟨hx.1, hx.2.1⟩))
            clear hr hz hzm hok
            go_wp2_with (first
              | (go_at_call 33; refine (H.out _).mono ?_; rintro e w1 ⟨rfl, hb1⟩)
              | (go_at_call 12; refine (hF.out _).mono ?_; rintro e w2 ⟨rfl, hb2⟩))
            go_ret2
            have hq := ((hst.quiet hb1).quiet hb2).out E.out
            rw [← HK.out] at hq
            exact hq
        · have d1 : decide ((s.size : Int) - (j : Int) - 4 < (n : Int)) = true := by simp; omega
          have E := hidOf (rf_no hr (fun hx => k3 hx.2.2))
          clear hr
          go_wp2_with (go_at_call 33; refine (H.out _).mono ?_; rintro e w1 ⟨rfl, hb1⟩)
          go_ret2
          have hq := (hst.quiet hb1).out E.out
          rw [← HK.out] at hq
          exact hq
    · have E := hidOf (rf_end s a (by omega))
      go_wp2
      go_ret2
      have hq := hst.out E.out
      rw [← HK.out] at hq
      exact hq
end Go.Proofs.YtegknhnmfaafmaaDoor
