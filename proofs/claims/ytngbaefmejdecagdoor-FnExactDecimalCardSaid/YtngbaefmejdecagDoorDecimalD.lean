/- What the specification's Decimal answers at every number: its numeral. -/
import Derived.Test.YtngbaefmejdecagDoorFigure
import Derived.Test.YtngbaefmejdecagDoorDg
import Derived.Laws.Concat
namespace Go.Proofs.YtngbaefmejdecagDoor
open Go.RowKit Figs Dg
open Go.Lib (decDigits itoa)

theorem fig_dec (d : Nat) (h : d < 10) : fig d = UInt8.ofNat (48 + d) := by
  unfold fig figI
  rw [if_pos (by omega)]
  congr 1

theorem conv_one (w : World) (b : UInt8) (x : Int) (hx : (b.toNat : Int) = x) :
    (convert 31 9 (.slice (some ⟨w.heap.size, 0, none⟩) 1 1)).run Tryd.prog (w.alloc (.cells #[.int .u8 x] 5)) = .ok (.string (one b)) (w.alloc (.cells #[.int .u8 x] 5)) := by
  subst hx
  refine run_convert_bytes_back (P := Tryd.prog) _ 31 9 5 ⟨w.heap.size, 0, none⟩ 1 [b] Tryd.underlying31 Tryd.underlying5 Tryd.underlying9 ?_
  intro j hj
  match j, hj with
  | 0, _ => exact one_new _ _ _ 0 _ rfl

set_option maxRecDepth 100000 in
set_option maxHeartbeats 2000000 in
theorem sDecimal_pos (U : Nat) (h0 : 0 < U) (h1 : U ≤ 9223372036854775807) (w : World) :
    Calls Tryd.prog 5 #[.int .i64 (U : Int)] w fun e w' => e = .returned (.string ⟨(decDigits U).toArray⟩) ∧ Below w.heap.size w w' := by
  have hl := dec_length U (by omega)
  have d1 : ((U : Int) == 0) = false := by simp; omega
  have d2 : decide ((U : Int) < 0) = false := by simp
  go_enter Tryd.func5, Tryd.ntmps5
  go_wp2
  go_loopw [0, 4] (fun n s wr => ∃ (u : Nat) (S : ByteArray), u ≤ U ∧ S.size ≤ 20 ∧ n = .int .i64 u ∧ s = .string S ∧ Hid (dg0 u ++ S.data.toList = decDigits U) ∧ Below w.heap.size w wr)
    (fun n _ _ => (intOf n).toNat)
  case atStart => exact ⟨U, ⟨#[]⟩, by omega, by show (0 : Nat) ≤ 20; omega, rfl, rfl, by show _ = _; rw [dg0_pos U (by omega)]; simp, Below.refl _ _⟩
  case round =>
    obtain ⟨u, S, hu, hS, rfl, rfl, hd, hb⟩ := hrel
    have hsz := hb.size
    by_cases hz : u ≤ 0
    · have e : S = ⟨(decDigits U).toArray⟩ := by
        have h2 := hd.out
        have h3 : u = 0 := by omega
        rw [h3] at h2
        apply ByteArray.ext
        apply Array.toList_inj.1
        simpa [dg0] using h2
      have HE : Hid _ := e
      have d3 : ((u : Int) != 0) = false := by simp; omega
      clear e hd
      go_wp2
      go_ret
      exact ⟨congrArg (fun x => Ending.returned (.string x)) HE.out, hb⟩
    · have d3 : ((u : Int) != 0) = true := by simp; omega
      have hm : u % 10 < 10 := Nat.mod_lt _ (by omega)
      have HC : Hid (∀ w : World, Calls Tryd.prog 12 #[.int .i64 ((u : Int) % 10)] w fun e w' => e = .returned (.int .u8 (figI ((u : Int) % 10))) ∧ w = w') := fun w => (l01Figure_any ((u : Int) % 10) (by omega) (by omega) w).mono fun _ _ h => ⟨h.1, h.2.symm⟩
      obtain ⟨b, hbv⟩ : ∃ b : UInt8, b = UInt8.ofNat (48 + u % 10) := ⟨_, rfl⟩
      have hcv := conv_one wr b (figI ((u : Int) % 10)) (by rw [hbv, ← fig_dec _ hm, fig_toNat _ (by omega)]; simp)
      have ha : (one b ++ S).size ≤ 20 := by
        have h2 := congrArg List.length hd.out
        rw [dg0_step u (by omega)] at h2
        simp at h2
        rw [one_app_size]
        omega
      have ho := one_size b
      have HD : Hid (dg0 (u / 10) ++ (one b ++ S).data.toList = decDigits U) := by
        show _ = _
        rw [one_app, ← hd.out, dg0_step u (by omega), hbv]
        simp
      have hadd := fun wx => run_string_add_sum (P := Tryd.prog) wx (one b) S (by omega)
      clear hd hbv
      go_wp2_with (go_at_call 12; refine (HC.out _).mono ?_; rintro e w' ⟨rfl, hw⟩; subst hw)
      go_roundw
      case rel => exact ⟨u / 10, one b ++ S, by omega, ha, by go_num, rfl, HD, hb.alloc hsz _⟩
      case measure => simp [intOf]; omega

set_option maxRecDepth 100000 in
set_option maxHeartbeats 2000000 in
theorem sDecimal_neg (U : Nat) (h0 : 0 < U) (h1 : U ≤ 9223372036854775808) (w : World) :
    Calls Tryd.prog 5 #[.int .i64 (-(U : Int))] w fun e w' => e = .returned (.string (one 45 ++ ⟨(decDigits U).toArray⟩)) ∧ Below w.heap.size w w' := by
  have hl := dec_length U (by omega)
  have d1 : (-(U : Int) == 0) = false := by simp; omega
  have d2 : decide (-(U : Int) < 0) = true := by simp; omega
  go_enter Tryd.func5, Tryd.ntmps5
  go_wp2
  go_loopw [0, 4] (fun n s wr => ∃ (u : Nat) (S : ByteArray), u ≤ U ∧ S.size ≤ 20 ∧ n = .int .i64 (-(u : Int)) ∧ s = .string S ∧ Hid (dg0 u ++ S.data.toList = decDigits U) ∧ Below w.heap.size w wr)
    (fun n _ _ => (intOf n).natAbs)
  case atStart => exact ⟨U, ⟨#[]⟩, by omega, by show (0 : Nat) ≤ 20; omega, rfl, rfl, by show _ = _; rw [dg0_pos U (by omega)]; simp, Below.refl _ _⟩
  case round =>
    obtain ⟨u, S, hu, hS, rfl, rfl, hd, hb⟩ := hrel
    have hsz := hb.size
    by_cases hz : u ≤ 0
    · have e : S = ⟨(decDigits U).toArray⟩ := by
        have h2 := hd.out
        have h3 : u = 0 := by omega
        rw [h3] at h2
        apply ByteArray.ext
        apply Array.toList_inj.1
        simpa [dg0] using h2
      have HE : Hid _ := e
      have d3 : (-(u : Int) != 0) = false := by simp; omega
      clear e hd
      go_wp2
      go_ret
      exact ⟨congrArg (fun x => Ending.returned (.string (one 45 ++ x))) HE.out, hb⟩
    · have d3 : (-(u : Int) != 0) = true := by simp; omega
      have t1 : (-(u : Int)).tmod 10 = -((u : Int) % 10) := by rw [Int.neg_tmod, Int.tmod_eq_emod_of_nonneg (by omega)]
      have t2 : (-(u : Int)).tdiv 10 = -((u : Int) / 10) := by rw [Int.neg_tdiv, Int.tdiv_eq_ediv_of_nonneg (by omega)]
      have hm : u % 10 < 10 := Nat.mod_lt _ (by omega)
      obtain ⟨b, hbv⟩ : ∃ b : UInt8, b = UInt8.ofNat (48 + u % 10) := ⟨_, rfl⟩
      have HV : Hid ((b.toNat : Int) = figI ((u : Int) % 10)) := by show _ = _; rw [hbv, ← fig_dec _ hm, fig_toNat _ (by omega)]; simp
      have ha : (one b ++ S).size ≤ 20 := by
        have h2 := congrArg List.length hd.out
        rw [dg0_step u (by omega)] at h2
        simp at h2
        rw [one_app_size]
        omega
      have ho := one_size b
      have HD : Hid (dg0 (u / 10) ++ (one b ++ S).data.toList = decDigits U) := by
        show _ = _
        rw [one_app, ← hd.out, dg0_step u (by omega), hbv]
        simp
      have hadd := fun wx => run_string_add_sum (P := Tryd.prog) wx (one b) S (by omega)
      clear hd hbv
      by_cases hm0 : u % 10 ≤ 0
      · have HC : Hid (∀ w : World, Calls Tryd.prog 12 #[.int .i64 (-((u : Int) % 10))] w fun e w' => e = .returned (.int .u8 (figI (-((u : Int) % 10)))) ∧ w = w') := fun w => (l01Figure_any (-((u : Int) % 10)) (by omega) (by omega) w).mono fun _ _ h => ⟨h.1, h.2.symm⟩
        have hcv := conv_one wr b (figI (-((u : Int) % 10))) (by rw [HV.out]; congr 1; omega)
        go_wp2_with (go_at_call 12; refine (HC.out _).mono ?_; rintro e w' ⟨rfl, hw⟩; subst hw)
        go_roundw
        case rel => exact ⟨u / 10, one b ++ S, by omega, ha, congrArg (Value.int .i64) (by omega), rfl, HD, hb.alloc hsz _⟩
        case measure => simp [intOf]; omega
      · have HC : Hid (∀ w : World, Calls Tryd.prog 12 #[.int .i64 ((u : Int) % 10)] w fun e w' => e = .returned (.int .u8 (figI ((u : Int) % 10))) ∧ w = w') := fun w => (l01Figure_any ((u : Int) % 10) (by omega) (by omega) w).mono fun _ _ h => ⟨h.1, h.2.symm⟩
        have hcv := conv_one wr b (figI ((u : Int) % 10)) HV.out
        go_wp2_with (go_at_call 12; refine (HC.out _).mono ?_; rintro e w' ⟨rfl, hw⟩; subst hw)
        go_roundw
        case rel => exact ⟨u / 10, one b ++ S, by omega, ha, congrArg (Value.int .i64) (by omega), rfl, HD, hb.alloc hsz _⟩
        case measure => simp [intOf]; omega

theorem sDecimal_zero (w : World) :
    Calls Tryd.prog 5 #[.int .i64 0] w fun e w' => e = .returned (.string ⟨(decDigits 0).toArray⟩) ∧ Below w.heap.size w w' := by
  have e : decDigits 0 = [48] := by rw [Go.Lib.decDigits_one (by omega)]; rfl
  rw [e]
  go_enter Tryd.func5, Tryd.ntmps5
  go_wp2
  go_ret
  exact ⟨rfl, Below.refl _ _⟩

theorem sDecimal_any (n : Int) (h0 : -9223372036854775808 ≤ n) (h1 : n ≤ 9223372036854775807) (w : World) :
    Calls Tryd.prog 5 #[.int .i64 n] w fun e w' => e = .returned (.string ⟨(itoa n).toArray⟩) ∧ Below w.heap.size w w' := by
  by_cases hz : n = 0
  · subst hz
    exact sDecimal_zero w
  · by_cases hp : 0 ≤ n
    · obtain ⟨u, rfl⟩ := Int.eq_ofNat_of_zero_le hp
      have e : itoa (u : Int) = decDigits u := by unfold itoa; rw [if_neg (by omega)]; simp
      rw [e]
      exact sDecimal_pos u (by omega) (by omega) w
    · obtain ⟨u, hu⟩ := Int.eq_ofNat_of_zero_le (show 0 ≤ -n by omega)
      have hn : n = -(u : Int) := by omega
      subst hn
      have e : itoa (-(u : Int)) = 45 :: decDigits u := by unfold itoa; rw [if_pos (by omega)]; simp
      rw [e]
      have e2 : (⟨(45 :: decDigits u).toArray⟩ : ByteArray) = one 45 ++ ⟨(decDigits u).toArray⟩ := by
        apply ByteArray.ext
        apply Array.toList_inj.1
        rw [one_app]
      rw [e2]
      exact sDecimal_neg u (by omega) (by omega) w

end Go.Proofs.YtngbaefmejdecagDoor
