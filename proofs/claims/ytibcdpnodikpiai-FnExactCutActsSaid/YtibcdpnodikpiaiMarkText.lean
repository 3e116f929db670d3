/- What the laws' own mark of a number is. -/
import Derived.Test.YtibcdpnodikpiaiMem
import Derived.Test.YtibcdpnodikpiaiDg
import Derived.WalkSpells
import Derived.WalkSmall
import Derived.BigQuiet
import Derived.Deep.QuietTactic
import Derived.Laws.Concat
namespace Go.Proofs.Ytibcdpnodikpiai
open Go.RowKit Dg
open Go.Lib (decDigits)

theorem conv_byte (w : World) (b : UInt8) (x : Int) (hx : (b.toNat : Int) = x) :
    (convert 93 9 (.slice (some ⟨w.heap.size, 0, none⟩) 1 1)).run Try.prog (w.alloc (.cells #[.int .u8 x] 5)) = .ok (.string (one b)) (w.alloc (.cells #[.int .u8 x] 5)) := by
  subst hx
  refine run_convert_bytes_back (P := Try.prog) _ 93 9 5 ⟨w.heap.size, 0, none⟩ 1 [b] Try.underlying93 Try.underlying5 Try.underlying9 ?_
  intro j hj
  match j, hj with
  | 0, _ => exact one_new _ _ _ 0 _ rfl

/-- the mark of a number -/
def mk (k : Nat) : ByteArray := one 109 ++ ⟨(decDigits k).toArray⟩

set_option maxRecDepth 100000 in
set_option maxHeartbeats 2000000 in
theorem markText_any (U : Nat) (h0 : 0 < U) (h1 : U ≤ 1000000000) (w : World) :
    Calls Try.prog 49 #[.int .i64 (U : Int)] w fun e w' => e = .returned (.string (mk U)) ∧ Below w.heap.size w w' := by
  have hl := dec_length U (by omega)
  have d1 : decide ((U : Int) ≤ 0) = false := by simp; omega
  go_enter Try.func49, Try.ntmps49
  go_wp2
  go_loopw [0, 3] (fun n s wr => ∃ (u : Nat) (S : ByteArray), u ≤ U ∧ S.size ≤ 20 ∧ n = .int .i64 u ∧ s = .string S ∧ Hid (dg0 u ++ S.data.toList = decDigits U) ∧ Below w.heap.size w wr)
    (fun n _ _ => (intOf n).toNat)
  case atStart => exact ⟨U, ⟨#[]⟩, by omega, by show (0 : Nat) ≤ 20; omega, rfl, rfl, by show _ = _; rw [dg0_pos U (by omega)]; simp, Below.refl _ _⟩
  case round =>
    obtain ⟨u, S, hu, hS, rfl, rfl, hd, hb⟩ := hrel
    have hsz := hb.size
    by_cases hz : u ≤ 0
    · have e : S = ⟨(decDigits U).toArray⟩ := by
        have h2 := hd.out
        have h3 : u = 0 := by omega
        rw [h3] at h2
        apply ByteArray.ext
        apply Array.toList_inj.1
        simpa [dg0] using h2
      have HE : Hid _ := e
      clear e hd
      have hadd := fun wx => run_string_add_sum (P := Try.prog) wx ⟨#[109]⟩ S (by show 1 + S.size ≤ _; omega)
      go_wp2
      go_ret
      exact ⟨congrArg (fun x => Ending.returned (.string (one 109 ++ x))) HE.out, hb⟩
    · have hm : u % 10 < 10 := Nat.mod_lt _ (by omega)
      obtain ⟨b, hbv⟩ : ∃ b : UInt8, b = UInt8.ofNat (48 + u % 10) := ⟨_, rfl⟩
      have hcv := conv_byte wr b (48 + (u : Int) % 10) (by rw [hbv]; simp; omega)
      have ha : (one b ++ S).size ≤ 20 := by
        have h2 := congrArg List.length hd.out
        rw [dg0_step u (by omega)] at h2
        simp at h2
        rw [one_app_size]
        omega
      have ho := one_size b
      have HD : Hid (dg0 (u / 10) ++ (one b ++ S).data.toList = decDigits U) := by
        show _ = _
        rw [one_app, ← hd.out, dg0_step u (by omega), hbv]
        simp
      have hadd := fun wx => run_string_add_sum (P := Try.prog) wx (one b) S (by omega)
      clear hd hbv
      go_wp2
      go_roundw
      case rel => exact ⟨u / 10, one b ++ S, by omega, ha, by go_num, rfl, HD, hb.alloc hsz _⟩
      case measure => simp [intOf]; omega

end Go.Proofs.Ytibcdpnodikpiai
