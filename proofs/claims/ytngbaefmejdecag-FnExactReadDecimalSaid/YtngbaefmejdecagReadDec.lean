/- What the two ReadDecimal answer at every text, and the walk of FnExactReadDecimal. -/
import Derived.Test.YtngbaefmejdecagDecimal
import Derived.Test.YtngbaefmejdecagRd
import Derived.WalkSpells
import Derived.WalkMore
import Derived.Lib.Strings
import Derived.OpenShut
namespace Go.Proofs.Ytngbaefmejdecag
open Go.RowKit Rd10
open Go.Lib (decDigits itoa)

/-- what a reader of a numeral answers -/
def rdV : Option Nat → Value
  | none => .tuple #[.int .i64 0, .bool false]
  | some n => .tuple #[.int .i64 (n : Int), .bool true]

theorem rbytes_snoc (s : ByteArray) (k : Nat) (h : k < s.size) : s.data.toList.take (k + 1) = s.data.toList.take k ++ [s[k]] := by
  rw [List.take_succ_eq_append_getElem (by simpa using h)]; rfl

theorem rbyte_mem (s : ByteArray) (k : Nat) (h : k < s.size) : s[k] ∈ s.data.toList := by
  have : s[k] = s.data.toList[k]'(by simpa using h) := rfl
  rw [this]
  exact List.getElem_mem _

theorem sReadDec_long (s : ByteArray) (h : 10 < s.size) (w : World) :
    Calls Try.prog 13 #[.string s] w fun e w' => e = .returned (rdV none) ∧ w' = w := by
  unfold rdV
  go_enter Try.func13, Try.ntmps13
  go_wp2
  go_ret2
  exact ⟨rfl, rfl⟩

theorem fig_step {s : ByteArray} {k : Nat} (hlt : k < s.size) (hf : figs (s.data.toList.take k)) (h1 : 48 ≤ (s[k]).toNat) (h2 : (s[k]).toNat ≤ 57) :
    figs (s.data.toList.take (k + 1)) ∧ ((val10 (s.data.toList.take (k + 1)) : Nat) : Int) = 10 * (val10 (s.data.toList.take k) : Int) + ((s[k]).toNat : Int) - 48 := by
  rw [rbytes_snoc s k hlt]
  refine ⟨?_, ?_⟩
  · intro c hc
    rcases List.mem_append.1 hc with hc | hc
    · exact hf c hc
    · simp only [List.mem_singleton] at hc
      subst hc
      exact ⟨h1, h2⟩
  · rw [val10_snoc]
    omega

theorem itoa_nat (m : Nat) : itoa (m : Int) = decDigits m := by unfold itoa; rw [if_neg (by omega)]; simp

theorem rd_neq {s : ByteArray} {m : Nat} (hv : m = val10 s.data.toList) (h : (!itoa (m : Int) == s.toList) = true) : rd s.data.toList = none := by
  rw [Lib.toList_data, itoa_nat] at h
  unfold rd
  rw [← hv, if_neg]
  intro hc
  rw [hc.2] at h
  simp at h

theorem rd_eq {s : ByteArray} {m : Nat} (_hv : m = val10 s.data.toList) (hm : m ≤ 1000000000) (h : (!itoa (m : Int) == s.toList) = false) : rd s.data.toList = some m := by
  rw [Lib.toList_data, itoa_nat] at h
  refine rd_yes m _ hm ?_
  simpa using h

set_option maxRecDepth 100000 in
set_option maxHeartbeats 2000000 in
theorem sReadDec_short (s : ByteArray) (h : s.size ≤ 10) (w : World) :
    Calls Try.prog 13 #[.string s] w fun e w' => e = .returned (rdV (rd s.data.toList)) ∧ Below w.heap.size w w' := by
  have d0 : decide ((10 : Int) < (s.size : Int)) = false := by simp; omega
  go_enter Try.func13, Try.ntmps13
  go_wp2
  go_loop [4, 5] (fun n i => ∃ k m : Nat, k ≤ s.size ∧ n = .int .i64 m ∧ i = .int .i64 k ∧ Hid (m = val10 (s.data.toList.take k)) ∧ Hid (figs (s.data.toList.take k)) ∧ m < 10000000000)
    (fun _ i => s.size - (intOf i).toNat)
  case atStart => exact ⟨0, 0, by omega, rfl, rfl, rfl, (fun c hc => by simp at hc), by omega⟩
  case round =>
    obtain ⟨k, m, hk, rfl, rfl, hm, hf, hmb⟩ := hrel
    by_cases hlt : k < s.size
    · have hc := UInt8.toNat_lt (s[k])
      by_cases hd : 48 ≤ (s[k]).toNat ∧ (s[k]).toNat ≤ 57
      · obtain ⟨h1, h2⟩ := hd
        have hst := fig_step hlt hf.out h1 h2
        have e1 : decide (((s[k]).toNat : Int) < 48) = false := by simp; omega
        have e2 : decide ((57 : Int) < ((s[k]).toNat : Int)) = false := by simp; omega
        have hvb : val10 (s.data.toList.take (k + 1)) < 10000000000 := val10_bound _ (by simp; omega) hst.1
        have HV : Hid (((val10 (s.data.toList.take (k + 1)) : Nat) : Int) = 10 * (m : Int) + ((s[k]).toNat : Int) - 48) := by rw [hm.out]; exact hst.2
        have HF : Hid (figs (s.data.toList.take (k + 1))) := hst.1
        have HB : Hid _ := hvb
        clear hst hf hm hvb
        go_wp2
        go_round
        case rel => exact ⟨k + 1, val10 (s.data.toList.take (k + 1)), by omega, by rw [HV.out], by go_num, rfl, HF, HB⟩
        case measure => simp [intOf]; omega
      · have HO : Hid (rd s.data.toList = none) := rd_bad _ _ (rbyte_mem s k hlt) (by omega)
        by_cases h1 : 48 ≤ (s[k]).toNat
        · have e1 : decide (((s[k]).toNat : Int) < 48) = false := by simp; omega
          have e2 : decide ((57 : Int) < ((s[k]).toNat : Int)) = true := by simp; omega
          go_wp2
          go_ret2
          exact ⟨by rw [HO.out]; rfl, Below.refl _ _⟩
        · have e1 : decide (((s[k]).toNat : Int) < 48) = true := by simp; omega
          go_wp2
          go_ret2
          exact ⟨by rw [HO.out]; rfl, Below.refl _ _⟩
    · have e : s.data.toList.take k = s.data.toList := List.take_of_length_le (by simp; omega)
      have hv : m = val10 s.data.toList := by rw [← e]; exact hm.out
      by_cases hmx : m ≤ 1000000000
      · have e3 : decide ((1000000000 : Int) < (m : Int)) = false := by simp; omega
        have HC : Hid (∀ w : World, Calls Try.prog 20 #[.int .i64 (m : Int)] w fun e w' => e = .returned (.string ⟨(itoa (m : Int)).toArray⟩) ∧ Below w.heap.size w w') := fun w => sDecimal_any (m : Int) (by omega) (by omega) w
        have HM : Hid _ := hv
        clear hm hf e hv
        go_wp2_with (go_at_call 20; refine (HC.out _).mono ?_; rintro e w1 ⟨rfl, hb1⟩)
        · have HO := rd_neq HM.out ‹_›
          go_ret2
          exact ⟨by rw [HO]; rfl, hb1⟩
        · have HO := rd_eq HM.out hmx ‹_›
          go_ret2
          exact ⟨by rw [HO]; rfl, hb1⟩
      · have e3 : decide ((1000000000 : Int) < (m : Int)) = true := by simp; omega
        have HO : Hid (rd s.data.toList = none) := by
          show _ = _
          unfold rd
          rw [if_neg (by omega)]
        clear hm hf e hv
        go_wp2
        go_ret2
        exact ⟨by rw [HO.out]; rfl, Below.refl _ _⟩

/-- what is known of the loop behind k bytes -/
def Rk (s : ByteArray) (k m : Nat) : Prop := (k = 0 ∧ m = 0) ∨ (1 ≤ k ∧ decDigits m = s.data.toList.take k)

theorem Rk.step {s : ByteArray} {k m : Nat} (h : Rk s k m) (hlt : k < s.size) (h1 : 48 ≤ (s[k]).toNat) (h2 : (s[k]).toNat ≤ 57) (hn : k = 0 ∨ 1 ≤ m) :
    Rk s (k + 1) (m * 10 + ((s[k]).toNat - 48)) := by
  refine .inr ⟨by omega, ?_⟩
  rw [rbytes_snoc s k hlt]
  rcases h with ⟨rfl, rfl⟩ | ⟨hk, hd⟩
  · simpa using dec_first _ h1 h2
  · rw [dec_more m _ (by omega) h1 h2, hd]

theorem Rk.nought {s : ByteArray} {k m : Nat} (h : Rk s k m) (hlt : k < s.size) (hk : 0 < k) (hm : m ≤ 0) : rd s.data.toList = none := by
  have hm0 : m = 0 := by omega
  subst hm0
  rcases h with ⟨h0, _⟩ | ⟨_, hd⟩
  · omega
  · have hd' : decDigits 0 = [48] := by rw [dec_small 0 (by omega)]; rfl
    rw [hd'] at hd
    have hl := congrArg List.length hd
    simp at hl
    have e := List.take_append_drop k s.data.toList
    rw [← e, ← hd]
    refine rd_nought _ ?_
    intro hx
    have := congrArg List.length hx
    simp at this
    omega

theorem Rk.great {s : ByteArray} {k m : Nat} (h : Rk s k m) (hg : 1000000000 < m) : rd s.data.toList = none := by
  rcases h with ⟨_, h0⟩ | ⟨_, hd⟩
  · omega
  · rw [← List.take_append_drop k s.data.toList, ← hd]
    exact rd_great _ _ (by rw [dec_val]; exact hg)

theorem Rk.whole {s : ByteArray} {k m : Nat} (h : Rk s k m) (hk : 0 < k) (hs : ¬ k < s.size) (hm : m ≤ 1000000000) : rd s.data.toList = some m := by
  rcases h with ⟨h0, _⟩ | ⟨_, hd⟩
  · omega
  · rw [List.take_of_length_le (by simp; omega)] at hd
    exact rd_yes m _ hm hd

theorem rd_empty {s : ByteArray} (h : s.size ≤ 0) : rd s.data.toList = none := by
  have e : s.data.toList.length = s.size := by simp
  have : s.data.toList = [] := List.length_eq_zero_iff.1 (by omega)
  rw [this]
  exact rd_nil

set_option maxRecDepth 100000 in
set_option maxHeartbeats 4000000 in
theorem iReadDec_any (s : ByteArray) (h : s.size ≤ 1048576) (w : World) :
    Calls Try.prog 14 #[.string s] w fun e w' => e = .returned (rdV (rd s.data.toList)) ∧ w' = w := by
  go_enter Try.func14, Try.ntmps14
  go_wp2
  go_step3
  go_wp2
  go_step3
  go_wp2
  go_loop [4, 5] (fun n i => ∃ k m : Nat, k ≤ s.size ∧ m ≤ 1000000000 ∧ n = .int .i64 m ∧ i = .int .i64 k ∧ Rk s k m)
    (fun _ i => s.size - (intOf i).toNat)
  case atStart => exact ⟨0, 0, by omega, by omega, rfl, rfl, .inl ⟨rfl, rfl⟩⟩
  case round =>
    obtain ⟨k, m, hk, hm, rfl, rfl, hr⟩ := hrel
    by_cases hlt : k < s.size
    · have hc := UInt8.toNat_lt (s[k])
      by_cases hd : 48 ≤ (s[k]).toNat ∧ (s[k]).toNat ≤ 57
      · obtain ⟨h1, h2⟩ := hd
        have e1 : decide (((s[k]).toNat : Int) < 48) = false := by simp; omega
        have e2 : decide ((57 : Int) < ((s[k]).toNat : Int)) = false := by simp; omega
        by_cases hz : m ≤ 0
        · have e3 : ((m : Int) == 0) = true := by simp; omega
          by_cases hk0 : 0 < k
          · have HO : Hid _ := Rk.nought hr hlt hk0 hz
            go_wp2
            all_goals (try rw [Exit.noGoto_ret])
            all_goals go_ret2
            all_goals exact ⟨by rw [HO.out]; rfl, rfl⟩
          · have HS : Rk _ _ _ := Rk.step hr hlt h1 h2 (by omega)
            go_wp2
            go_round
            case rel => exact ⟨k + 1, m * 10 + ((s[k]).toNat - 48), by omega, by omega, congrArg (Value.int .i64) (by omega), by go_num, HS⟩
            case measure => simp [intOf]; omega
        · have e3 : ((m : Int) == 0) = false := by simp; omega
          have HS : Rk _ _ _ := Rk.step hr hlt h1 h2 (by omega)
          by_cases hg : (m : Int) * 10 + (((s[k]).toNat : Int) - 48) ≤ 1000000000
          · go_wp2
            go_round
            case rel => exact ⟨k + 1, m * 10 + ((s[k]).toNat - 48), by omega, by omega, congrArg (Value.int .i64) (by omega), by go_num, HS⟩
            case measure => simp [intOf]; omega
          · have HO : Hid _ := Rk.great HS (by omega)
            go_wp2
            all_goals (try rw [Exit.noGoto_ret])
            all_goals go_ret2
            all_goals exact ⟨by rw [HO.out]; rfl, rfl⟩
      · have HO : Hid (rd s.data.toList = none) := rd_bad _ _ (rbyte_mem s k hlt) (by omega)
        by_cases h1 : 48 ≤ (s[k]).toNat
        · have e1 : decide (((s[k]).toNat : Int) < 48) = false := by simp; omega
          have e2 : decide ((57 : Int) < ((s[k]).toNat : Int)) = true := by simp; omega
          go_wp2
          all_goals (try rw [Exit.noGoto_ret])
          all_goals go_ret2
          all_goals exact ⟨by rw [HO.out]; rfl, rfl⟩
        · have e1 : decide (((s[k]).toNat : Int) < 48) = true := by simp; omega
          go_wp2
          all_goals (try rw [Exit.noGoto_ret])
          all_goals go_ret2
          all_goals exact ⟨by rw [HO.out]; rfl, rfl⟩
    · by_cases hk0 : 0 < k
      · have HO : Hid _ := Rk.whole hr hk0 hlt hm
        go_wp2
        all_goals (try rw [Exit.noGoto_ret])
        all_goals go_ret2
        all_goals exact ⟨by rw [HO.out]; rfl, rfl⟩
      · have HO : Hid _ := rd_empty (s := s) (by omega)
        go_wp2
        all_goals (try rw [Exit.noGoto_ret])
        all_goals go_ret2
        all_goals exact ⟨by rw [HO.out]; rfl, rfl⟩

theorem sReadDec_any (s : ByteArray) (w : World) :
    Calls Try.prog 13 #[.string s] w fun e w' => e = .returned (rdV (rd s.data.toList)) ∧ Below w.heap.size w w' := by
  by_cases h : s.size ≤ 10
  · exact sReadDec_short s h w
  · rw [rd_long _ (by simp; omega)]
    exact (sReadDec_long s (by omega) w).mono fun e w' h => ⟨h.1, by rw [h.2]; exact Below.refl _ _⟩

theorem fnExactReadDecimal.walk (s : ByteArray) (hs : s.size ≤ maxLen) (w : World) :
    Calls Try.prog 6 #[.string s] w fun e w' => e = .returned (.bool true) ∧ Below w.heap.size w w' := by
  unfold maxLen at hs
  by_cases hb : s.size ≤ 1048576
  · have H1 := fun w => sReadDec_any s w
    have H2 := fun w => iReadDec_any s hb w
    cases hr : rd s.data.toList with
    | none =>
      rw [hr] at H1 H2
      unfold rdV at H1 H2
      have K1 : Hid _ := H1
      have K2 : Hid _ := H2
      clear H1 H2 hr
      go_enter Try.func6, Try.ntmps6
      go_wp2_with (go_at_call 13; refine (K1.out _).mono ?_; rintro e w1 ⟨rfl, hb1⟩)
      go_wp2_with (go_at_call 14; refine (K2.out _).mono ?_; rintro e w2 ⟨rfl, hw2⟩; subst hw2)
      go_ret
      exact ⟨rfl, hb1⟩
    | some n =>
      rw [hr] at H1 H2
      unfold rdV at H1 H2
      have K1 : Hid _ := H1
      have K2 : Hid _ := H2
      clear H1 H2 hr
      go_enter Try.func6, Try.ntmps6
      go_wp2_with (go_at_call 13; refine (K1.out _).mono ?_; rintro e w1 ⟨rfl, hb1⟩)
      go_wp2_with (go_at_call 14; refine (K2.out _).mono ?_; rintro e w2 ⟨rfl, hw2⟩; subst hw2)
      go_ret
      exact ⟨rfl, hb1⟩
  · go_enter Try.func6, Try.ntmps6
    go_wp2
    go_ret
    exact ⟨rfl, Below.refl _ _⟩

end Go.Proofs.Ytngbaefmejdecag
