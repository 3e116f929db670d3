/- What the specification's SumMore, SumOf and the four bytes of a sum answer. What the specification's Sealed answers. What the specification's Frame answers. What the specification's Unframe answers. What is blank: answers, orders, questions. A row of bytes that the call made out of a text: what is appended to it, and the text of it again. Its mark of frozen cells lies behind its room. -/
import Derived.Test.YtcieanhbipbhgaaGreatDoorKIUnseal
import Derived.Test.YtcieanhbipbhgaaGreatDoorKIRr17
import Derived.Test.YtcieanhbipbhgaaGreatDoorKBq14
import Derived.Test.YtcieanhbipbhgaaGreatDoorKMem
import Derived.Test.YtcieanhbipbhgaaGreatDoorKOr10
import Derived.Deep.DeepCutAuto
import Derived.Lib.FrozenHead
namespace Go.Proofs.YtcieanhbipbhgaaGreatDoor
open Go.RowKit Crc

def it : Nat → Nat → Nat
  | 0, x => x
  | n + 1, x => hf (it n x)

theorem it_lt {x : Nat} (h : x < 4294967296) : ∀ n, it n x < 4294967296
  | 0 => h
  | n + 1 => hf_lt (it_lt h n)

set_option maxHeartbeats 1000000 in
theorem sSumMore_any (x : Nat) (hx : x < 4294967296) (s : ByteArray) (hs : s.size ≤ maxLen) (w : World) :
    Calls Tryz.prog 42 #[.int .u32 (x : Int), .string s] w fun e w' => e = .returned (.int .u32 (sm x s.data.toList : Nat)) ∧ w = w' := by
  unfold maxLen at hs
  go_enter Tryz.func42, Tryz.ntmps42
  go_wp2
  go_loopw [0, 5] (fun u i wr => ∃ k : Nat, k ≤ s.size ∧ i = .int .i64 (k : Int) ∧ u = .int .u32 ((sm x (s.data.toList.take k) : Nat) : Int) ∧ wr = w)
    (fun _ i _ => s.size - (intOf i).toNat)
  case atStart => exact ⟨0, by omega, rfl, by simp [sm], rfl⟩
  case round =>
    obtain ⟨k, hk, rfl, rfl, rfl⟩ := hrel
    by_cases hlt : k < s.size
    · have hc := UInt8.toNat_lt (s[k])
      have b1 : (0 : Int) ≤ (k : Int) := by omega
      have b2 : (k : Int) < (s.size : Int) := by omega
      have hm := sm_lt hx (s.data.toList.take k)
      have hX := u32_xor_nat (sm x (s.data.toList.take k)) (s[k]).toNat hm (by omega)
      have hL := xb_lt hm (s[k])
      have hE : sm x (s.data.toList.take (k + 1)) = it 8 (sm x (s.data.toList.take k) ^^^ (s[k]).toNat) := by
        rw [bytes_snoc s k hlt, sm_snoc]; rfl
      generalize sm x (s.data.toList.take k) = y at *
      go_wp2
      generalize y ^^^ (s[k]).toNat = z at *
      go_loopw [0, 6] (fun u j wr' => ∃ m : Nat, m ≤ 8 ∧ j = .int .i64 (m : Int) ∧ u = .int .u32 ((it m z : Nat) : Int) ∧ wr' = wr)
        (fun _ j _ => 8 - (intOf j).toNat)
      case atStart => exact ⟨0, by omega, rfl, rfl, rfl⟩
      case round =>
        obtain ⟨m, hm8, rfl, rfl, rfl⟩ := hrel
        by_cases hlt8 : m < 8
        · have hi := it_lt hL m
          have hE2 : it (m + 1) z = hf (it m z) := rfl
          generalize it m z = v at *
          by_cases ho : v % 2 = 1
          · have d1 : decide ((v : Int) % 2 = 1) = true := by simp; omega
            have hX2 : bits BinOp.xor IntKind.u32 ((v : Int) / 2) 3558460437 = ((v / 2 ^^^ 3558460437 : Nat) : Int) := u32_xor_nat (v / 2) 3558460437 (by omega) (by omega)
            have hV : hf v = v / 2 ^^^ 3558460437 := by unfold hf poly; rw [if_pos ho]
            go_wp2
            go_roundw
            case rel => exact ⟨m + 1, by omega, by go_num, by rw [hE2, hV], trivial⟩
            case measure => simp [intOf]; omega
          · have d1 : decide ((v : Int) % 2 = 1) = false := by simp; omega
            have hV : hf v = v / 2 := by unfold hf; rw [if_neg ho]
            go_wp2
            go_roundw
            case rel => exact ⟨m + 1, by omega, by go_num, by rw [hE2, hV]; rfl, trivial⟩
            case measure => simp [intOf]; omega
        · obtain rfl : m = 8 := by omega
          rw [← hE]
          go_wp2
          go_roundw
          case rel => exact ⟨k + 1, by omega, by go_num, rfl, trivial⟩
          case measure => simp [intOf]; omega
    · have e : s.data.toList.take k = s.data.toList := List.take_of_length_le (by simp; omega)
      rw [e]
      go_wp2
      go_ret
      exact ⟨rfl, rfl⟩

theorem sSumOf_any (s : ByteArray) (hs : s.size ≤ maxLen) (w : World) :
    Calls Tryz.prog 29 #[.string s] w fun e w' => e = .returned (.int .u32 (sm 4294967295 s.data.toList : Nat)) ∧ w = w' := by
  go_enter Tryz.func29, Tryz.ntmps29
  go_wp2_with (go_at_call 42; refine (sSumMore_any 4294967295 (by omega) s hs _).mono ?_; rintro e w1 ⟨rfl, hw1⟩; subst hw1)
  go_ret
  exact ⟨rfl, rfl⟩

theorem l02Four_any (x : Nat) (hx : x < 4294967296) (w : World) :
    Calls Tryz.prog 28 #[.int .u32 (x : Int)] w fun e w' => e = .returned (.string ⟨(four x).toArray⟩) ∧ Below w.heap.size w w' := by
  have hc := four_conv x hx w
  go_enter Tryz.func28, Tryz.ntmps28
  go_wp2
  go_ret
  exact ⟨rfl, (Below.refl _ _).alloc (Nat.le_refl _) _⟩

end Go.Proofs.YtcieanhbipbhgaaGreatDoor
namespace Go.Proofs.YtcieanhbipbhgaaGreatDoor
open Go.RowKit Crc

theorem sSumOf_S (s : ByteArray) (hs : s.size ≤ maxLen) (w : World) :
    Calls Tryz.prog 29 #[.string s] w fun e w' => e = .returned (.int .u32 (smS s : Nat)) ∧ w = w' := sSumOf_any s hs w

theorem l02Four_S (x : Nat) (hx : x < 4294967296) (w : World) :
    Calls Tryz.prog 28 #[.int .u32 (x : Int)] w fun e w' => e = .returned (.string (fourS x)) ∧ Below w.heap.size w w' := l02Four_any x hx w

end Go.Proofs.YtcieanhbipbhgaaGreatDoor
namespace Go.Proofs.YtcieanhbipbhgaaGreatDoor.F
open Go.RowKit Vt Crc

theorem l01Var_S (N : Nat) (hN : N ≤ 1000000000) (w : World) :
    Calls Tryz.prog 27 #[.int .i64 (N : Int)] w fun e w' => e = .returned (.string (vtS N)) ∧ Below w.heap.size w w' := l01Var_any N hN w

theorem sFrame_no (s : ByteArray) (hs : s.size < 1 ∨ 9000 < s.size) (hm : s.size ≤ maxLen) (w : World) :
    Calls Tryz.prog 11 #[.string s] w fun e w' => e = .returned (.tuple #[.string ⟨#[]⟩, .bool false]) ∧ Below w.heap.size w w' := by
  unfold maxLen at hm
  go_enter Tryz.func11, Tryz.ntmps11
  go_wp2_with (go_at_call 26; refine (l01In_no _ _ _ (by omega) _).mono ?_; rintro e w' ⟨rfl, rfl⟩)
  go_ret2
  exact ⟨rfl, Below.refl _ _⟩

set_option maxHeartbeats 1000000 in
theorem sFrame_yes (s : ByteArray) (h1 : 1 ≤ s.size) (h2 : s.size ≤ 9000) (w : World) :
    Calls Tryz.prog 11 #[.string s] w fun e w' => e = .returned (.tuple #[.string (frm s), .bool true]) ∧ Below w.heap.size w w' := by
  have hl := smS_lt s
  have hz := fourS_size (smS s)
  have hv := vtS_size s.size
  have hm : s.size ≤ maxLen := by unfold maxLen; omega
  have E := hidOf (frm_def s)
  have ha1 := fun wx => run_string_add_sum (P := Tryz.prog) wx (vtS s.size) (fourS (smS s)) (by omega)
  have hz2 : (vtS s.size ++ fourS (smS s)).size = (vtS s.size).size + 4 := by rw [ByteArray.size_append, hz]
  have ha2 := fun wx => run_string_add_sum (P := Tryz.prog) wx (vtS s.size ++ fourS (smS s)) s (by omega)
  go_enter Tryz.func11, Tryz.ntmps11
  go_wp2_with (first
    | (go_at_call 26; refine (l01In_yes _ _ _ (by omega) (by omega) _).mono ?_; rintro e w' ⟨rfl, rfl⟩)
    | (go_at_call 27; refine (l01Var_S s.size (by omega) _).mono ?_; rintro e w1 ⟨rfl, hb1⟩)
    | (go_at_call 29; refine (sSumOf_S s hm _).mono ?_; rintro e w2 ⟨rfl, hw2⟩; subst hw2)
    | (go_at_call 28; refine (l02Four_S (smS s) hl _).mono ?_; rintro e w2 ⟨rfl, hb2⟩))
  go_ret2
  exact ⟨by rw [← E.out]; rfl, hb1.trans (hb2.mono hb1.size)⟩

end Go.Proofs.YtcieanhbipbhgaaGreatDoor.F
namespace Go.Proofs.YtcieanhbipbhgaaGreatDoor.F
open Go.RowKit Vt Crc

theorem rf_end (s : ByteArray) (a : Nat) (h : s.size ≤ a) : rf s a = none := by
  apply rf_none
  have : from_ s a = [] := by unfold from_; exact List.drop_of_length_le (by simpa using h)
  rw [this]
  rfl

theorem sUnframe_long (s : ByteArray) (hs : 20000 < s.size) (hm : s.size ≤ maxLen) (w : World) : Calls Tryz.prog 9 #[.string s] w (UnOut s w) := by
  unfold maxLen at hm
  have E := hidOf (un_long s hs)
  go_enter Tryz.func9, Tryz.ntmps9
  go_wp2
  go_ret2
  unfold UnOut
  rw [E.out]
  exact ⟨_, rfl, World.ownsRow_made _ _ _ (Nat.le_refl _) (by unfold maxLen; omega) rfl, (Below.refl _ _).alloc (Nat.le_refl _) _⟩

/-- what the loop bears -/
structure SAt (s : ByteArray) (w wr : World) (pre : List ByteArray) (a g cap : Nat) : Prop where
  un : UnAt s pre a
  row : wr.ownsRow w.heap.size 9 1 (.slice (some ⟨g, 0, none⟩) pre.length cap) pre.length (pre.map Value.string)
  low : Below w.heap.size w wr

theorem SAt.quiet {s : ByteArray} {w wr w1 : World} {pre : List ByteArray} {a g cap : Nat} (h : SAt s w wr pre a g cap) (hb : Below wr.heap.size wr w1) : SAt s w w1 pre a g cap :=
  ⟨h.un, h.row.kept (grown_low hb none) (.inr (by simp [Value.ownBlock])), h.low.trans (hb.mono h.low.size)⟩

theorem SAt.out {s : ByteArray} {w wr : World} {pre : List ByteArray} {a g cap : Nat} (h : SAt s w wr pre a g cap) (hr : rf s a = none) : UnOut s w (.returned (.tuple #[.slice (some ⟨g, 0, none⟩) pre.length cap, .int .i64 (a : Int)])) wr := by
  unfold UnOut
  rw [h.un.done hr]
  exact ⟨_, rfl, h.row, h.low⟩

theorem sRead_none {s : ByteArray} (hs : s.size ≤ 20000) {a : Nat} (h : a ≤ s.size) (hr : rv a (from_ s a) = none) :
    Hid (∀ w : World, Calls Tryz.prog 19 #[.string s, .int .i64 (a : Int)] w fun e w' => e = .returned (.tuple #[.int .i64 0, .int .i64 0, .bool false]) ∧ Below w.heap.size w w') := fun w => by
  have := sReadVar_in s (by omega) a h w
  rw [hr] at this
  exact this

theorem sRead_some {s : ByteArray} (hs : s.size ≤ 20000) {a : Nat} (h : a ≤ s.size) {n j : Nat} (hr : rv a (from_ s a) = some (n, j)) :
    Hid (∀ w : World, Calls Tryz.prog 19 #[.string s, .int .i64 (a : Int)] w fun e w' => e = .returned (.tuple #[.int .i64 (n : Int), .int .i64 (j : Int), .bool true]) ∧ Below w.heap.size w w') := fun w => by
  have := sReadVar_in s (by omega) a h w
  rw [hr] at this
  exact this

set_option maxRecDepth 100000 in
set_option maxHeartbeats 4000000 in
theorem sUnframe_short (s : ByteArray) (hs : s.size ≤ 20000) (w : World) : Calls Tryz.prog 9 #[.string s] w (UnOut s w) := by
  obtain ⟨i0, hi, hz0, hz1, hz2⟩ := info_parts info9
  have d0 : decide ((20000 : Int) < (s.size : Int)) = false := by simp; omega
  have o0 : SAt s w (w.alloc (.cells #[] 9)) [] 0 w.heap.size 0 := ⟨UnAt.start s hs, World.ownsRow_made _ _ _ (Nat.le_refl _) (by unfold maxLen; omega) rfl, (Below.refl _ _).alloc (Nat.le_refl _) _⟩
  go_enter Tryz.func9, Tryz.ntmps9
  go_wp2
  go_loopw [4, 5] (fun out at_ wr => ∃ (pre : List ByteArray) (k a g cap : Nat), k = pre.length ∧ out = .slice (some ⟨g, 0, none⟩) k cap ∧ at_ = .int .i64 (a : Int) ∧ SAt s w wr pre a g cap)
    (fun _ at_ _ => s.size - (intOf at_).toNat)
  case atStart => exact ⟨[], 0, 0, w.heap.size, 0, rfl, rfl, rfl, o0⟩
  case round =>
    clear o0
    obtain ⟨pre, k, a, g, cap, hk, rfl, rfl, hst⟩ := hrel
    have HK := hidOf hk
    have hst1 : wr.ownsRow w.heap.size 9 1 (.slice (some ⟨g, 0, none⟩) k cap) k (pre.map Value.string) := by rw [hk]; exact hst.row
    have hle := hst.un.le
    have hkk : k * 6 ≤ a := by rw [hk]; exact hst.un.few
    clear hk
    by_cases hlt : a < s.size
    · cases hr : rv a (from_ s a) with
      | none =>
        have H := sRead_none hs hle hr
        have E := hidOf (rf_none hr)
        clear hr
        go_wp2_with (go_at_call 19; refine (H.out _).mono ?_; rintro e w1 ⟨rfl, hb1⟩)
        go_ret2
        have hq := (hst.quiet hb1).out E.out
        rw [← HK.out] at hq
        exact hq
      | some y =>
        obtain ⟨n, j⟩ := y
        have H := sRead_some hs hle hr
        have hbd := rv_bounds hr
        have hj : j ≤ s.size := hbd.2.2 hle
        have haj : a < j := hbd.2.1
        have hn := hbd.1
        clear hbd
        by_cases k3 : j + 4 + n ≤ s.size
        · have d1 : decide ((s.size : Int) - (j : Int) - 4 < (n : Int)) = false := by simp; omega
          have n1 : ((j : Int) + 4).toNat = j + 4 := by omega
          have n2 : ((j : Int) + 4 + (n : Int)).toNat = j + 4 + n := by omega
          have b1 : (0 : Int) ≤ (j : Int) + 4 := by omega
          have b2 : (j : Int) + 4 ≤ (j : Int) + 4 + (n : Int) := by omega
          have b3 : (j : Int) + 4 + (n : Int) ≤ (s.size : Int) := by omega
          have b4 : (a : Int) ≤ (j : Int) + 4 + (n : Int) := by omega
          have hz : (s.extract (j + 4) (j + 4 + n)).size = n := by rw [ByteArray.size_extract]; omega
          have hzm : (s.extract (j + 4) (j + 4 + n)).size ≤ maxLen := by rw [hz]; unfold maxLen; omega
          by_cases hok : 1 ≤ n ∧ n ≤ 9000
          · obtain ⟨k1, k2⟩ := hok
            have hF : Hid (∀ w : World, Calls Tryz.prog 11 #[.string (s.extract (j + 4) (j + 4 + n))] w fun e w' => e = .returned (.tuple #[.string (frm (s.extract (j + 4) (j + 4 + n))), .bool true]) ∧ Below w.heap.size w w') := fun w => sFrame_yes _ (by omega) (by omega) w
            by_cases he : frm (s.extract (j + 4) (j + 4 + n)) = s.extract a (j + 4 + n)
            · have E := hidOf (rf_yes hr k1 k2 k3 ((frm_at hr k3).1 he))
              have HE := hidOf (hst.un.step E.out)
              clear hr hz hzm
              go_wp2_with (first
                | (go_at_call 19; refine (H.out _).mono ?_; rintro e w1 ⟨rfl, hb1⟩)
                | (go_at_call 11; refine (hF.out _).mono ?_; rintro e w2 ⟨rfl, hb2⟩; have hst2 := (hst.quiet hb1).quiet hb2; have hrow2 : w2.ownsRow w.heap.size 9 1 (.slice (some ⟨g, 0, none⟩) k cap) k (pre.map Value.string) := (by rw [HK.out]; exact hst2.row); have hz2' := hst2.low.size)
                | (at_builtin; refine wpList_append_lies _ rfl _ _ 28 rfl w.heap.size 9 i0 (.string ⟨#[]⟩) 1 16 Tryz.underlying28 hi hz0 hz1 hz2 rfl (by decide) _ _ _ rfl (hrow2.alloc _) ⟨w2.heap.size, 0, none⟩ 1 1 [Value.string (s.extract (j + 4) (j + 4 + n))] rfl rfl (one_new _ _ _) (by intro u hu; simp at hu; subst hu; rfl) (by omega) (by unfold maxLen; omega) (by omega) (by simp; omega) (w2.heap.size + 1) (by simp) ?_; intro g1 cap1 w3 hown3 hg3 _ _))
              go_roundw
              case rel =>
                have hb3 := ((hst2.low.alloc (by omega) _).grown hg3 (by simp; omega) (fun q hq => (hrow2.lt q hq).1))
                refine ⟨pre ++ [s.extract (j + 4) (j + 4 + n)], k + 1, j + 4 + n, g1, cap1, by rw [HK.out]; simp, rfl, by go_num, HE.out, ?_, hb3⟩
                have hl : (pre ++ [s.extract (j + 4) (j + 4 + n)]).length = k + 1 := by rw [HK.out]; simp
                rw [hl, List.map_append]
                exact hown3
              case measure => simp [intOf]; omega
            · have E := hidOf (rf_neq hr (fun hx => he ((frm_at hr k3).2 hx)))
              have d3 := str_neqF he
              clear hr hz hzm
              go_wp2_with (first
                | (go_at_call 19; refine (H.out _).mono ?_; rintro e w1 ⟨rfl, hb1⟩)
                | (go_at_call 11; refine (hF.out _).mono ?_; rintro e w2 ⟨rfl, hb2⟩))
              go_ret2
              have hq := ((hst.quiet hb1).quiet hb2).out E.out
              rw [← HK.out] at hq
              exact hq
          · have hF : Hid (∀ w : World, Calls Tryz.prog 11 #[.string (s.extract (j + 4) (j + 4 + n))] w fun e w' => e = .returned (.tuple #[.string ⟨#[]⟩, .bool false]) ∧ Below w.heap.size w w') := fun w => sFrame_no _ (by omega) hzm w
            have E := hidOf (rf_no hr (fun hx => hok ⟨hx.1, hx.2.1⟩))
            clear hr hz hzm hok
            go_wp2_with (first
              | (go_at_call 19; refine (H.out _).mono ?_; rintro e w1 ⟨rfl, hb1⟩)
              | (go_at_call 11; refine (hF.out _).mono ?_; rintro e w2 ⟨rfl, hb2⟩))
            go_ret2
            have hq := ((hst.quiet hb1).quiet hb2).out E.out
            rw [← HK.out] at hq
            exact hq
        · have d1 : decide ((s.size : Int) - (j : Int) - 4 < (n : Int)) = true := by simp; omega
          have E := hidOf (rf_no hr (fun hx => k3 hx.2.2))
          clear hr
          go_wp2_with (go_at_call 19; refine (H.out _).mono ?_; rintro e w1 ⟨rfl, hb1⟩)
          go_ret2
          have hq := (hst.quiet hb1).out E.out
          rw [← HK.out] at hq
          exact hq
    · have E := hidOf (rf_end s a (by omega))
      go_wp2
      go_ret2
      have hq := hst.out E.out
      rw [← HK.out] at hq
      exact hq
end Go.Proofs.YtcieanhbipbhgaaGreatDoor.F
namespace Go.Proofs.YtcieanhbipbhgaaGreatDoor
open Go.RowKit

def azB (num : Int) (ok : Bool) (ne nl : Nat) : Bool := decide (num = 0 ∧ ok = false ∧ ne = 0 ∧ nl = 0)
def ozB (num op : Int) (ne : Nat) (v : Int) : Bool := decide (num = 0 ∧ op = 0 ∧ v = 0 ∧ ne = 0)
set_option maxRecDepth 100000 in
theorem SameE_nil (n1 : Nat) (a1 : Option Addr) (c1 : Nat) (w : World) : Calls Tryz.prog 68 #[.slice a1 n1 c1, .slice none 0 0] w fun e w' => e = .returned (.bool (decide (n1 = 0))) ∧ w' = w := by
  by_cases h : n1 = 0
  · subst h
    go_enter Tryz.func68, Tryz.ntmps68
    go_wp2
    go_loopw [5] (fun q wr => q = .int .i64 0 ∧ wr = w) (fun _ _ => 0)
    case atStart => exact ⟨rfl, rfl⟩
    case round =>
      obtain ⟨rfl, rfl⟩ := hrel
      go_wp2
      go_ret
      exact ⟨rfl, rfl⟩
  · have d : ((n1 : Int) != 0) = true := by simpa using h
    have e : decide (n1 = 0) = false := decide_eq_false h
    rw [e]
    go_enter Tryz.func68, Tryz.ntmps68
    go_wp2
    go_ret
    exact ⟨rfl, rfl⟩
set_option maxRecDepth 100000 in
theorem SameI_nil (n1 : Nat) (a1 : Option Addr) (c1 : Nat) (w : World) : Calls Tryz.prog 69 #[.slice a1 n1 c1, .slice none 0 0] w fun e w' => e = .returned (.bool (decide (n1 = 0))) ∧ w' = w := by
  by_cases h : n1 = 0
  · subst h
    go_enter Tryz.func69, Tryz.ntmps69
    go_wp2
    go_loopw [5] (fun q wr => q = .int .i64 0 ∧ wr = w) (fun _ _ => 0)
    case atStart => exact ⟨rfl, rfl⟩
    case round =>
      obtain ⟨rfl, rfl⟩ := hrel
      go_wp2
      go_ret
      exact ⟨rfl, rfl⟩
  · have d : ((n1 : Int) != 0) = true := by simpa using h
    have e : decide (n1 = 0) = false := decide_eq_false h
    rw [e]
    go_enter Tryz.func69, Tryz.ntmps69
    go_wp2
    go_ret
    exact ⟨rfl, rfl⟩
set_option maxRecDepth 100000 in
theorem sameAns0 (num : Int) (ok : Bool) (a1 a2 : Option Addr) (n1 c1 n2 c2 : Nat) (w : World) :
    Calls Tryz.prog 56 #[.agg #[.int .i64 num, .bool ok, .slice a1 n1 c1, .slice a2 n2 c2], .agg #[.int .i64 0, .bool false, .slice none 0 0, .slice none 0 0]] w fun e w' => e = .returned (.bool (azB num ok n1 n2)) ∧ Below w.heap.size w w' := by
  obtain ⟨W2, hW2⟩ : ∃ W2, W2 = (w.alloc (.cells #[.int .i64 num, .bool ok, .slice a1 n1 c1, .slice a2 n2 c2] 36)).alloc (.cells #[.int .i64 0, .bool false, .slice none 0 0, .slice none 0 0] 36) := ⟨_, rfl⟩
  have G2 : Good w W2 := by rw [hW2]; exact ((Good.refl w).alloc _).alloc _
  have HG := hideIt G2
  have HE := hideIt (SameE_nil n1 a1 c1 W2)
  have HI := hideIt (SameI_nil n2 a2 c2 W2)
  have y0 : W2.cell? ⟨w.heap.size, 0, none⟩ = some (.int .i64 num) := by rw [hW2]; simp [go_sem]
  have y1 : W2.cell? ⟨w.heap.size, 1, none⟩ = some (.bool ok) := by rw [hW2]; simp [go_sem]
  have y2 : W2.cell? ⟨w.heap.size, 2, none⟩ = some (.slice a1 n1 c1) := by rw [hW2]; simp [go_sem]
  have y3 : W2.cell? ⟨w.heap.size, 3, none⟩ = some (.slice a2 n2 c2) := by rw [hW2]; simp [go_sem]
  have z0 : W2.cell? ⟨w.heap.size + 1, 0, none⟩ = some (.int .i64 0) := by rw [hW2]; simp [go_sem]
  have z1 : W2.cell? ⟨w.heap.size + 1, 1, none⟩ = some (.bool false) := by rw [hW2]; simp [go_sem]
  have z2 : W2.cell? ⟨w.heap.size + 1, 2, none⟩ = some (.slice none 0 0) := by rw [hW2]; simp [go_sem]
  have z3 : W2.cell? ⟨w.heap.size + 1, 3, none⟩ = some (.slice none 0 0) := by rw [hW2]; simp [go_sem]
  clear G2
  have HV : Hid (azB num ok n1 n2 = (decide (num = 0) && (decide (ok = false) && (decide (n1 = 0) && decide (n2 = 0))))) := by
    show _ = _
    unfold azB
    by_cases e1 : num = 0 <;> by_cases e2 : ok = false <;> by_cases e3 : n1 = 0 <;> by_cases e4 : n2 = 0 <;> simp [e1, e2, e3, e4]
  by_cases q1 : num = 0
  · have d1 : (num == 0) = true := by simpa using q1
    have v1 : decide (num = 0) = true := decide_eq_true q1
    rw [v1] at HV
    cases ok with
    | true =>
      clear q1 v1
      go_enter Tryz.func56, Tryz.ntmps56
      go_upto_region 1 with fail
      rw [← hW2]
      clear hW2
      go_wp2
      go_ret
      exact ⟨by rw [HV.out]; rfl, HG.out⟩
    | false =>
      clear q1 v1
      generalize decide (n1 = 0) = v3 at *
      generalize decide (n2 = 0) = v4 at *
      cases v3 with
      | false =>
        go_enter Tryz.func56, Tryz.ntmps56
        go_upto_region 1 with fail
        rw [← hW2]
        clear hW2
        go_wp2_with (go_at_call 68; refine HE.out.mono ?_; rintro e w3 ⟨rfl, hw3⟩; have hw3' := hw3.symm; subst hw3')
        go_ret
        exact ⟨by rw [HV.out]; rfl, HG.out⟩
      | true =>
        go_enter Tryz.func56, Tryz.ntmps56
        go_upto_region 1 with fail
        rw [← hW2]
        clear hW2
        go_wp2_with (first | (go_at_call 68; refine HE.out.mono ?_; rintro e w3 ⟨rfl, hw3⟩; have hw3' := hw3.symm; subst hw3') | (go_at_call 69; refine HI.out.mono ?_; rintro e w4 ⟨rfl, hw4⟩; have hw4' := hw4.symm; subst hw4'))
        go_ret
        exact ⟨by rw [HV.out]; cases v4 <;> rfl, HG.out⟩
  · have d1 : (num == 0) = false := by simpa using q1
    have v1 : decide (num = 0) = false := decide_eq_false q1
    rw [v1] at HV
    clear q1 v1
    go_enter Tryz.func56, Tryz.ntmps56
    go_upto_region 1 with fail
    rw [← hW2]
    clear hW2
    go_wp2
    go_ret
    exact ⟨by rw [HV.out]; rfl, HG.out⟩
set_option maxRecDepth 100000 in
theorem blankA (num : Int) (ok : Bool) (a1 a2 : Option Addr) (n1 c1 n2 c2 : Nat) (w : World) :
    Calls Tryz.prog 39 #[.agg #[.int .i64 num, .bool ok, .slice a1 n1 c1, .slice a2 n2 c2]] w fun e w' => e = .returned (.bool (azB num ok n1 n2)) ∧ Below w.heap.size w w' := by
  have G1 : Good w (w.alloc (.cells #[.int .i64 num, .bool ok, .slice a1 n1 c1, .slice a2 n2 c2] 36)) := (Good.refl w).alloc _
  have HS := hideIt (sameAns0 num ok a1 a2 n1 c1 n2 c2 (w.alloc (.cells #[.int .i64 num, .bool ok, .slice a1 n1 c1, .slice a2 n2 c2] 36)))
  have HG := hideIt G1
  clear G1
  go_enter Tryz.func39, Tryz.ntmps39
  go_wp2_with (go_at_call 56; refine HS.out.mono ?_; rintro e w3 ⟨rfl, hb3⟩)
  go_ret
  exact ⟨rfl, HG.out.up hb3⟩
set_option maxRecDepth 100000 in
theorem sameOrd0 (num op v : Int) (a1 : Option Addr) (n1 c1 : Nat) (w : World) :
    Calls Tryz.prog 57 #[.agg #[.int .i64 num, .int .i64 op, .slice a1 n1 c1, .int .i64 v], .agg #[.int .i64 0, .int .i64 0, .slice none 0 0, .int .i64 0]] w fun e w' => e = .returned (.bool (ozB num op n1 v)) ∧ Below w.heap.size w w' := by
  obtain ⟨W2, hW2⟩ : ∃ W2, W2 = (w.alloc (.cells #[.int .i64 num, .int .i64 op, .slice a1 n1 c1, .int .i64 v] 38)).alloc (.cells #[.int .i64 0, .int .i64 0, .slice none 0 0, .int .i64 0] 38) := ⟨_, rfl⟩
  have G2 : Good w W2 := by rw [hW2]; exact ((Good.refl w).alloc _).alloc _
  have HG := hideIt G2
  have HE := hideIt (SameE_nil n1 a1 c1 W2)
  have y0 : W2.cell? ⟨w.heap.size, 0, none⟩ = some (.int .i64 num) := by rw [hW2]; simp [go_sem]
  have y1 : W2.cell? ⟨w.heap.size, 1, none⟩ = some (.int .i64 op) := by rw [hW2]; simp [go_sem]
  have y2 : W2.cell? ⟨w.heap.size, 2, none⟩ = some (.slice a1 n1 c1) := by rw [hW2]; simp [go_sem]
  have y3 : W2.cell? ⟨w.heap.size, 3, none⟩ = some (.int .i64 v) := by rw [hW2]; simp [go_sem]
  have z0 : W2.cell? ⟨w.heap.size + 1, 0, none⟩ = some (.int .i64 0) := by rw [hW2]; simp [go_sem]
  have z1 : W2.cell? ⟨w.heap.size + 1, 1, none⟩ = some (.int .i64 0) := by rw [hW2]; simp [go_sem]
  have z2 : W2.cell? ⟨w.heap.size + 1, 2, none⟩ = some (.slice none 0 0) := by rw [hW2]; simp [go_sem]
  have z3 : W2.cell? ⟨w.heap.size + 1, 3, none⟩ = some (.int .i64 0) := by rw [hW2]; simp [go_sem]
  clear G2
  have HV : Hid (ozB num op n1 v = (decide (num = 0) && (decide (op = 0) && (decide (v = 0) && decide (n1 = 0))))) := by
    show _ = _
    unfold ozB
    by_cases e1 : num = 0 <;> by_cases e2 : op = 0 <;> by_cases e3 : v = 0 <;> by_cases e4 : n1 = 0 <;> simp [e1, e2, e3, e4]
  have d1 : (num == 0) = decide (num = 0) := rfl
  have d2 : (op == 0) = decide (op = 0) := rfl
  have d3 : (v == 0) = decide (v = 0) := rfl
  generalize decide (num = 0) = v1 at *
  generalize decide (op = 0) = v2 at *
  generalize decide (v = 0) = v3 at *
  generalize decide (n1 = 0) = v4 at *
  cases v1 with
  | false =>
    go_enter Tryz.func57, Tryz.ntmps57
    go_upto_region 1 with fail
    rw [← hW2]
    clear hW2
    go_wp2
    go_ret
    exact ⟨by rw [HV.out]; rfl, HG.out⟩
  | true =>
    cases v2 with
    | false =>
      go_enter Tryz.func57, Tryz.ntmps57
      go_upto_region 1 with fail
      rw [← hW2]
      clear hW2
      go_wp2
      go_ret
      exact ⟨by rw [HV.out]; rfl, HG.out⟩
    | true =>
      cases v3 with
      | false =>
        go_enter Tryz.func57, Tryz.ntmps57
        go_upto_region 1 with fail
        rw [← hW2]
        clear hW2
        go_wp2
        go_ret
        exact ⟨by rw [HV.out]; rfl, HG.out⟩
      | true =>
        go_enter Tryz.func57, Tryz.ntmps57
        go_upto_region 1 with fail
        rw [← hW2]
        clear hW2
        go_wp2_with (go_at_call 68; refine HE.out.mono ?_; rintro e w3 ⟨rfl, hw3⟩; have hw3' := hw3.symm; subst hw3')
        go_ret
        exact ⟨by rw [HV.out]; cases v4 <;> rfl, HG.out⟩
set_option maxRecDepth 100000 in
theorem blankO (num op v : Int) (a1 : Option Addr) (n1 c1 : Nat) (w : World) :
    Calls Tryz.prog 40 #[.agg #[.int .i64 num, .int .i64 op, .slice a1 n1 c1, .int .i64 v]] w fun e w' => e = .returned (.bool (ozB num op n1 v)) ∧ Below w.heap.size w w' := by
  have G1 : Good w (w.alloc (.cells #[.int .i64 num, .int .i64 op, .slice a1 n1 c1, .int .i64 v] 38)) := (Good.refl w).alloc _
  have HS := hideIt (sameOrd0 num op v a1 n1 c1 (w.alloc (.cells #[.int .i64 num, .int .i64 op, .slice a1 n1 c1, .int .i64 v] 38)))
  have HG := hideIt G1
  clear G1
  go_enter Tryz.func40, Tryz.ntmps40
  go_wp2_with (go_at_call 57; refine HS.out.mono ?_; rintro e w3 ⟨rfl, hb3⟩)
  go_ret
  exact ⟨rfl, HG.out.up hb3⟩
def kzB (i o a b : Int) : Bool := decide (i = 0 ∧ o = 0 ∧ a = 0 ∧ b = 0)
set_option maxRecDepth 100000 in
theorem blankK (i o a b : Int) (w : World) :
    Calls Tryz.prog 41 #[.agg #[.int .i64 i, .int .i64 o, .int .i64 a, .int .i64 b]] w fun e w' => e = .returned (.bool (kzB i o a b)) ∧ Below w.heap.size w w' := by
  have HV : Hid (kzB i o a b = (decide (i = 0) && (decide (o = 0) && (decide (a = 0) && decide (b = 0))))) := by
    show _ = _
    unfold kzB
    by_cases e1 : i = 0 <;> by_cases e2 : o = 0 <;> by_cases e3 : a = 0 <;> by_cases e4 : b = 0 <;> simp [e1, e2, e3, e4]
  go_enter Tryz.func41, Tryz.ntmps41
  go_wp2
  all_goals
    go_ret
    refine ⟨?_, (Below.refl _ _).alloc (Nat.le_refl _) _⟩
    rw [HV.out]
    simp_all
end Go.Proofs.YtcieanhbipbhgaaGreatDoor
namespace Go.Proofs.YtcieanhbipbhgaaGreatDoor
open Go.RowKit

/-- the slice v owns the bytes l; what is frozen of its block lies behind its room -/
def OwnG (w : World) (base : Nat) (v : Value) (l : List UInt8) : Prop :=
  ∃ g cap cur fz, v = .slice (some ⟨g, 0, none⟩) l.length cap ∧ base ≤ g ∧ w.heap[g]? = some (.cells cur 5 fz) ∧ (cap ≤ fz.1 ∨ fz.2 = 0) ∧ l.length ≤ cap ∧ cap ≤ maxLen ∧ cur.size = cap ∧ cur.toList.take l.length = bv l

theorem OwnG.lt {w : World} {base : Nat} {v : Value} {l : List UInt8} (h : OwnG w base v l) : ∀ k, v.ownBlock = some k → base ≤ k ∧ k < w.heap.size := by
  obtain ⟨g, cap, cur, fz, rfl, hb, hg, _⟩ := h
  intro k hk
  simp [Value.ownBlock] at hk
  subst hk
  exact ⟨hb, (Array.getElem?_eq_some_iff.1 hg).1⟩

theorem OwnG.kept {w w' : World} {base : Nat} {v : Value} {l : List UInt8} {row : Option Nat} (h : OwnG w base v l) (hg : w.grownBy w' row) (hne : v.ownBlock ≠ row) : OwnG w' base v l := by
  obtain ⟨g, cap, cur, fz, rfl, hb, hgg, rest⟩ := h
  refine ⟨g, cap, cur, fz, rfl, hb, ?_, rest⟩
  rw [hg.block g (Array.getElem?_eq_some_iff.1 hgg).1 (by simpa [Value.ownBlock] using hne)]
  exact hgg

theorem OwnG.alloc {w : World} {base : Nat} {v : Value} {l : List UInt8} (h : OwnG w base v l) (o : Obj) : OwnG (w.alloc o) base v l := by
  refine h.kept (World.grownBy_alloc w o none) ?_
  obtain ⟨g, cap, cur, fz, rfl, _⟩ := h
  simp [Value.ownBlock]

theorem OwnG.cells {w : World} {base g cap : Nat} {l : List UInt8} (h : OwnG w base (.slice (some ⟨g, 0, none⟩) l.length cap) l) : ∀ j u, (bv l)[j]? = some u → w.cell? ((⟨g, 0, none⟩ : Addr).add j) = some u := by
  intro j u hu
  obtain ⟨g', cap', cur, fz, hv, _, hgg, _, _, _, _, htake⟩ := h
  simp at hv
  obtain ⟨rfl, rfl⟩ := hv
  have hadd : (⟨g, 0, none⟩ : Addr).add j = ⟨g, j, none⟩ := by unfold Addr.add; split <;> simp_all
  rw [hadd, cell_of_row w g j cur 5 fz hgg]
  rw [← htake, List.getElem?_take] at hu
  split at hu
  · simpa using hu
  · cases hu

/-- cells are stored one behind the other where nothing is frozen -/
theorem storeG (P : Program) (g o : Nat) (t : TypeId) (fz : Nat × Nat) : ∀ (vs : List Value) (i : Nat) (cur : Array Value) (w : World), w.heap[g]? = some (.cells cur t fz) → (cur.size ≤ fz.1 ∨ fz.2 = 0) → o + i + vs.length ≤ cur.size → (∀ v ∈ vs, v.oneCell' = true) →
    (storeCells ⟨g, o, none⟩ vs i).run P w = .ok () (w.setRow g (cur.toList.take (o + i) ++ vs ++ cur.toList.drop (o + i + vs.length)).toArray) := by
  intro vs
  induction vs with
  | nil =>
    intro i cur w hg _ _ _
    simp only [storeCells, List.append_nil, List.length_nil, Nat.add_zero, List.take_append_drop, Array.toArray_toList]
    rw [setRow_self w g cur t fz hg]
    rfl
  | cons v rest ih =>
    intro i cur w hg hfz hl h1
    have hi : o + i < cur.size := by simp at hl; omega
    have hadd : (⟨g, o, none⟩ : Addr).add i = ⟨g, o + i, none⟩ := by unfold Addr.add; split <;> simp_all
    have hcell : w.cell? ⟨g, o + i, none⟩ = some cur[o + i] := by simp [World.cell?, hg, hi]
    have hfro : w.frozen? ⟨g, o + i, none⟩ = false := by
      obtain ⟨lo, hi'⟩ := fz
      simp only [World.frozen?, hg, Bool.and_eq_false_iff, decide_eq_false_iff_not]
      simp only at hfz
      omega
    have hst : (store ((⟨g, o, none⟩ : Addr).add i) v).run P w = .ok () (w.setRow g (cur.setIfInBounds (o + i) v)) := by
      rw [hadd, run_store P w _ v _ (h1 v (by simp)), hcell]
      simp [hfro, setCell_eq_setRow w g (o + i) cur t fz v hg]
    have ih := ih (i + 1) (cur.setIfInBounds (o + i) v) (w.setRow g (cur.setIfInBounds (o + i) v)) (setRow_heap w g cur _ t _ hg) (by simpa using hfz) (by simp at hl ⊢; omega) (fun x hx => h1 x (by simp [hx]))
    simp only [storeCells, Sem.run_bind, hst, Result.andThen_ok, ih, setRow_setRow]
    congr 3
    have e := list_seg_step cur.toList (o + i) v rest (by simp at hl ⊢; omega)
    simpa [Array.toList_setIfInBounds, Nat.add_assoc] using e

theorem bv_app (l m : List UInt8) : bv (l ++ m) = bv l ++ bv m := by simp [bv]
theorem bv_len (l : List UInt8) : (bv l).length = l.length := by simp [bv]
theorem bv_one (l : List UInt8) : ∀ u ∈ bv l, u.oneCell' = true := by
  intro u hu
  simp only [bv, List.mem_map] at hu
  obtain ⟨b, _, rfl⟩ := hu
  rfl

/-- bytes are appended to it -/
theorem run_appendG (w : World) (base : Nat) (ty : TypeId) (v : Value) (l : List UInt8) (hown : OwnG w base v l)
    (a : Addr) (c : Nat) (m : List UInt8) (hnews : ∀ j u, (bv m)[j]? = some u → w.cell? (a.add j) = some u) (hsm : l.length + m.length ≤ 1000000) (hbase : base ≤ w.heap.size) :
    ∃ v' w', (Builtin.append_ #[86, 86] ty #[v, .slice (some a) m.length c]).run Tryz.prog w = .ok v' w' ∧ OwnG w' base v' (l ++ m) ∧ w.grownBy w' v.ownBlock := by
  obtain ⟨i0, hi, hz0, hz1, hz2⟩ := info_parts info5
  have hown0 := hown
  obtain ⟨g, cap, cur, fz, rfl, hbg, hg, hfz, hnc, hcm, hcs, htake⟩ := hown
  have hf := run_firstCells_some (P := Tryz.prog) w i0.size m.length a m.length c (bv m) (by rw [bv_len, hz1]; omega) hnews
  by_cases hroom : l.length + m.length ≤ cap
  · have hst := storeG Tryz.prog g (l.length * i0.size) 5 fz (bv m) 0 cur w hg (by omega) (by rw [bv_len, hz1]; omega) (bv_one m)
    simp only [Nat.add_zero] at hst
    have hr : (Builtin.append_ #[86, 86] ty #[.slice (some ⟨g, 0, none⟩) l.length cap, .slice (some a) m.length c]).run Tryz.prog w = .ok (.slice (some ⟨g, 0, none⟩) (l.length + m.length) cap) (w.setRow g (cur.toList.take (l.length * i0.size) ++ bv m ++ cur.toList.drop (l.length * i0.size + (bv m).length)).toArray) := by
      simp [Builtin.append_, run_underlying Tryz.underlying86, sizeOf, typeInfo, hi, Builtin.lenOf, hroom, hf, Addr.add_lit, hst]
    refine ⟨_, _, hr, ⟨g, cap, _, fz, by simp, hbg, setRow_heap w g cur _ 5 _ hg, hfz, by simpa using hroom, hcm, ?_, ?_⟩, ⟨rfl, rfl, rfl, by simp, fun k _ hk => setRow_other w g k _ (fun e => hk (by simp [Value.ownBlock, e]))⟩⟩
    · simp only [List.size_toArray, List.length_append, List.length_take, List.length_drop, Array.length_toList, bv_len, hz1]
      omega
    · rw [hz1, Nat.mul_one, htake, bv_app, ← bv_len, bv_app]
      exact List.take_left
  · have hr := run_append_grow (P := Tryz.prog) w 86 ty 5 i0 (.int .u8 0) Tryz.underlying86 hi hz0 ⟨g, 0, none⟩ l.length cap (bv l) (by rw [bv_len, hz1]; omega) hown0.cells a m.length c (bv m) (by rw [bv_len, hz1]; omega) hnews (by omega) (by omega) (growslice_fits (by omega) (by rw [hz2]; omega))
    have hge := grownCap_ge w (l.length + m.length) cap 5
    have hcm2 : grownCap w (l.length + m.length) cap 5 ≤ maxLen := grownCap_le_maxLen w (l.length + m.length) cap 5 (by unfold maxLen; omega)
    refine ⟨_, _, hr, ⟨w.heap.size, _, _, (0, 0), by simp, hbase, heap_alloc_new w.drew _, .inr rfl, by simpa using hge, hcm2, ?_, ?_⟩, ⟨rfl, rfl, rfl, by simp, fun k hk _ => Below.heap_alloc w.drew _ k hk⟩⟩
    · simp only [Array.size_append, List.size_toArray, size_zeroCells, bv_len]
      simp [Value.cells]
      omega
    · simp only [Array.toList_append, List.append_assoc]
      rw [← List.append_assoc, ← bv_app, ← bv_len]
      exact List.take_left

theorem wpList_appendG {ops : Array Oper} {rest : List Oper} {o : Oper} {a : Act} {w : World} {Q : Exit → Act → World → Prop} (hgd : o.guard = none) (s x : Operand)
    (ho : o.op = .call { callee := .builtin .append, args := #[s, x], argTypes := #[86, 86] })
    (base : Nat) (v : Value) (l : List UInt8) (hs : a.eval s = v) (hown : OwnG w base v l)
    (ad : Addr) (k c : Nat) (m : List UInt8) (hk : m.length = k) (hx : a.eval x = .slice (some ad) k c) (hnews : ∀ j u, (bv m)[j]? = some u → w.cell? (ad.add j) = some u) (hsm : l.length + m.length ≤ 1000000) (hbase : base ≤ w.heap.size)
    (h : ∀ v' w', OwnG w' base v' (l ++ m) → w.grownBy w' v.ownBlock → wpList Tryz.prog ops Q rest (a.put o.dst v') w') : wpList Tryz.prog ops Q (o :: rest) a w := by
  subst hk
  refine wpList_plain hgd fun K hK => ?_
  obtain ⟨v', w', hr, h2, h3⟩ := run_appendG w base o.type v l hown ad c m hnews hsm hbase
  unfold Oper.wp execOp
  simp only [ho, resolve, invoke, builtin, Sem.run_bind, Sem.run_pure, Result.andThen_ok, List.map_toArray, List.map_cons, List.map_nil, hs, hx, hr]
  exact hK _ _ (h v' w' h2 h3)

/-- '[]byte(t)': a new row of its bytes -/
theorem conv_newG (t : List UInt8) (ht : t.length ≤ 1000000) (u : World) :
    ∃ v w', (convert 9 86 (.string ⟨t.toArray⟩)).run Tryz.prog u = .ok v w' ∧ OwnG w' u.heap.size v t ∧ Below u.heap.size u w' := by
  refine ⟨_, _, run_bytes_of_string u 9 86 5 ⟨t.toArray⟩ Tryz.underlying9 Tryz.underlying86 Tryz.underlying5, ?_, (Below.refl _ _).drew.alloc (Nat.le_refl _) _⟩
  have hs : (⟨t.toArray⟩ : ByteArray).size = t.length := by simp [ByteArray.size]
  rw [hs]
  have hge := grownCap_ge u t.length 0 5
  refine ⟨u.heap.size, grownCap u t.length 0 5, _, _, rfl, Nat.le_refl _, heap_alloc_new u.drew _, ?_, hge, grownCap_le_maxLen u t.length 0 5 (by unfold maxLen; omega), ?_, ?_⟩
  · left
    simp [bytesRow, hs]
    omega
  · simp [bytesRow, hs]
    omega
  · simp only [bytesRow, Array.toList_append, Array.toList_map]
    rw [List.take_append_of_le_length (by simp)]
    rw [List.take_of_length_le (by simp)]
    rfl

/-- 'string(b)' of it -/
theorem conv_backG {w : World} {base : Nat} {v : Value} {l : List UInt8} (h : OwnG w base v l) : (convert 86 9 v).run Tryz.prog w = .ok (.string ⟨l.toArray⟩) w := by
  have h0 := h
  obtain ⟨g, cap, cur, fz, rfl, _⟩ := h
  exact run_convert_bytes_back (P := Tryz.prog) w 86 9 5 ⟨g, 0, none⟩ cap l Tryz.underlying86 Tryz.underlying5 Tryz.underlying9 (fun j hj => h0.cells j _ (by simp [bv, hj]))

theorem below_appG {B : Nat} {w wr w1 : World} {v : Value} {l : List UInt8} {o : Obj} (hb : Below B w wr) (hB : B ≤ w.heap.size)
    (hown : OwnG wr B v l) (hg : (wr.alloc o).grownBy w1 v.ownBlock) : Below B w w1 :=
  (hb.alloc (by have := hb.size; omega) _).grown hg (by have := hb.size; simp; omega) (fun k hk => (hown.lt k hk).1)
end Go.Proofs.YtcieanhbipbhgaaGreatDoor
