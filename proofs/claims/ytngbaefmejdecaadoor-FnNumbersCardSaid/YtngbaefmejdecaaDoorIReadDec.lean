/- What the program's ReadDecimal answers at every text. -/
import Derived.Test.YtngbaefmejdecaaDoorMem
import Derived.Test.YtngbaefmejdecaaDoorRd
import Derived.WalkSpells
import Derived.WalkMore
import Derived.Lib.Strings
namespace Go.Proofs.YtngbaefmejdecaaDoor
open Go.RowKit Rd10
open Go.Lib (decDigits itoa)

/-- what a reader of a numeral answers -/
def rdV : Option Nat → Value
  | none => .tuple #[.int .i64 0, .bool false]
  | some n => .tuple #[.int .i64 (n : Int), .bool true]

theorem rbytes_snoc (s : ByteArray) (k : Nat) (h : k < s.size) : s.data.toList.take (k + 1) = s.data.toList.take k ++ [s[k]] := by
  rw [List.take_succ_eq_append_getElem (by simpa using h)]; rfl

theorem rbyte_mem (s : ByteArray) (k : Nat) (h : k < s.size) : s[k] ∈ s.data.toList := by
  have : s[k] = s.data.toList[k]'(by simpa using h) := rfl
  rw [this]
  exact List.getElem_mem _

/-- what is known of the loop behind k bytes -/
def Rk (s : ByteArray) (k m : Nat) : Prop := (k = 0 ∧ m = 0) ∨ (1 ≤ k ∧ decDigits m = s.data.toList.take k)

theorem Rk.step {s : ByteArray} {k m : Nat} (h : Rk s k m) (hlt : k < s.size) (h1 : 48 ≤ (s[k]).toNat) (h2 : (s[k]).toNat ≤ 57) (hn : k = 0 ∨ 1 ≤ m) :
    Rk s (k + 1) (m * 10 + ((s[k]).toNat - 48)) := by
  refine .inr ⟨by omega, ?_⟩
  rw [rbytes_snoc s k hlt]
  rcases h with ⟨rfl, rfl⟩ | ⟨hk, hd⟩
  · simpa using dec_first _ h1 h2
  · rw [dec_more m _ (by omega) h1 h2, hd]

theorem Rk.nought {s : ByteArray} {k m : Nat} (h : Rk s k m) (hlt : k < s.size) (hk : 0 < k) (hm : m ≤ 0) : rd s.data.toList = none := by
  have hm0 : m = 0 := by omega
  subst hm0
  rcases h with ⟨h0, _⟩ | ⟨_, hd⟩
  · omega
  · have hd' : decDigits 0 = [48] := by rw [dec_small 0 (by omega)]; rfl
    rw [hd'] at hd
    have hl := congrArg List.length hd
    simp at hl
    have e := List.take_append_drop k s.data.toList
    rw [← e, ← hd]
    refine rd_nought _ ?_
    intro hx
    have := congrArg List.length hx
    simp at this
    omega

theorem Rk.great {s : ByteArray} {k m : Nat} (h : Rk s k m) (hg : 1000000000 < m) : rd s.data.toList = none := by
  rcases h with ⟨_, h0⟩ | ⟨_, hd⟩
  · omega
  · rw [← List.take_append_drop k s.data.toList, ← hd]
    exact rd_great _ _ (by rw [dec_val]; exact hg)

theorem Rk.whole {s : ByteArray} {k m : Nat} (h : Rk s k m) (hk : 0 < k) (hs : ¬ k < s.size) (hm : m ≤ 1000000000) : rd s.data.toList = some m := by
  rcases h with ⟨h0, _⟩ | ⟨_, hd⟩
  · omega
  · rw [List.take_of_length_le (by simp; omega)] at hd
    exact rd_yes m _ hm hd

theorem rd_empty {s : ByteArray} (h : s.size ≤ 0) : rd s.data.toList = none := by
  have e : s.data.toList.length = s.size := by simp
  have : s.data.toList = [] := List.length_eq_zero_iff.1 (by omega)
  rw [this]
  exact rd_nil

set_option maxRecDepth 100000 in
set_option maxHeartbeats 4000000 in
theorem iReadDec_any (s : ByteArray) (h : s.size ≤ 1048576) (w : World) :
    Calls Tryd.prog 8 #[.string s] w fun e w' => e = .returned (rdV (rd s.data.toList)) ∧ w' = w := by
  go_enter Tryd.func8, Tryd.ntmps8
  go_wp2
  go_step3
  go_wp2
  go_step3
  go_wp2
  go_loop [4, 5] (fun n i => ∃ k m : Nat, k ≤ s.size ∧ m ≤ 1000000000 ∧ n = .int .i64 m ∧ i = .int .i64 k ∧ Rk s k m)
    (fun _ i => s.size - (intOf i).toNat)
  case atStart => exact ⟨0, 0, by omega, by omega, rfl, rfl, .inl ⟨rfl, rfl⟩⟩
  case round =>
    obtain ⟨k, m, hk, hm, rfl, rfl, hr⟩ := hrel
    by_cases hlt : k < s.size
    · have hc := UInt8.toNat_lt (s[k])
      by_cases hd : 48 ≤ (s[k]).toNat ∧ (s[k]).toNat ≤ 57
      · obtain ⟨h1, h2⟩ := hd
        have e1 : decide (((s[k]).toNat : Int) < 48) = false := by simp; omega
        have e2 : decide ((57 : Int) < ((s[k]).toNat : Int)) = false := by simp; omega
        by_cases hz : m ≤ 0
        · have e3 : ((m : Int) == 0) = true := by simp; omega
          by_cases hk0 : 0 < k
          · have HO : Hid _ := Rk.nought hr hlt hk0 hz
            go_wp2
            all_goals (try rw [Exit.noGoto_ret])
            all_goals go_ret2
            all_goals exact ⟨by rw [HO.out]; rfl, rfl⟩
          · have HS : Rk _ _ _ := Rk.step hr hlt h1 h2 (by omega)
            go_wp2
            go_round
            case rel => exact ⟨k + 1, m * 10 + ((s[k]).toNat - 48), by omega, by omega, congrArg (Value.int .i64) (by omega), by go_num, HS⟩
            case measure => simp [intOf]; omega
        · have e3 : ((m : Int) == 0) = false := by simp; omega
          have HS : Rk _ _ _ := Rk.step hr hlt h1 h2 (by omega)
          by_cases hg : (m : Int) * 10 + (((s[k]).toNat : Int) - 48) ≤ 1000000000
          · go_wp2
            go_round
            case rel => exact ⟨k + 1, m * 10 + ((s[k]).toNat - 48), by omega, by omega, congrArg (Value.int .i64) (by omega), by go_num, HS⟩
            case measure => simp [intOf]; omega
          · have HO : Hid _ := Rk.great HS (by omega)
            go_wp2
            all_goals (try rw [Exit.noGoto_ret])
            all_goals go_ret2
            all_goals exact ⟨by rw [HO.out]; rfl, rfl⟩
      · have HO : Hid (rd s.data.toList = none) := rd_bad _ _ (rbyte_mem s k hlt) (by omega)
        by_cases h1 : 48 ≤ (s[k]).toNat
        · have e1 : decide (((s[k]).toNat : Int) < 48) = false := by simp; omega
          have e2 : decide ((57 : Int) < ((s[k]).toNat : Int)) = true := by simp; omega
          go_wp2
          all_goals (try rw [Exit.noGoto_ret])
          all_goals go_ret2
          all_goals exact ⟨by rw [HO.out]; rfl, rfl⟩
        · have e1 : decide (((s[k]).toNat : Int) < 48) = true := by simp; omega
          go_wp2
          all_goals (try rw [Exit.noGoto_ret])
          all_goals go_ret2
          all_goals exact ⟨by rw [HO.out]; rfl, rfl⟩
    · by_cases hk0 : 0 < k
      · have HO : Hid _ := Rk.whole hr hk0 hlt hm
        go_wp2
        all_goals (try rw [Exit.noGoto_ret])
        all_goals go_ret2
        all_goals exact ⟨by rw [HO.out]; rfl, rfl⟩
      · have HO : Hid _ := rd_empty (s := s) (by omega)
        go_wp2
        all_goals (try rw [Exit.noGoto_ret])
        all_goals go_ret2
        all_goals exact ⟨by rw [HO.out]; rfl, rfl⟩

end Go.Proofs.YtngbaefmejdecaaDoor
