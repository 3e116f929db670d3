/- The walk of FnExactVarText: for every number the law returns true and nothing that was there has turned. -/
import Derived.Test.YtngbaefmejdecafVar
import Derived.OpenShut
namespace Go.Proofs.Ytngbaefmejdecaf.fnExactVarText
open Go.RowKit Vt

theorem walk (a0 : Int) (w0 : (Lit.int .i64 a0).wf = true) (w : World) :
    Calls Try.prog 3 #[.int .i64 a0] w fun e w' => e = .returned (.bool true) ∧ Below w.heap.size w w' := by
  by_cases h : 0 ≤ a0 ∧ a0 ≤ 1000000000
  · obtain ⟨N, rfl⟩ := Int.eq_ofNat_of_zero_le h.1
    have hN : N ≤ 1000000000 := by omega
    clear h w0
    go_enter Try.func3, Try.ntmps3
    go_wp2_with (go_at_call 6; refine (sVarText_yes N hN _).mono ?_; rintro e w1 ⟨rfl, hb1⟩)
    go_wp2_with (go_at_call 7; refine (iVarText_yes N hN _).mono ?_; rintro e w2 ⟨rfl, hb2⟩)
    go_ret
    exact ⟨rfl, hb1.trans (hb2.mono hb1.size)⟩
  · have h' : a0 < 0 ∨ 1000000000 < a0 := by omega
    clear h w0
    go_enter Try.func3, Try.ntmps3
    go_wp2_with (go_at_call 6; refine (sVarText_no a0 h' _).mono ?_; rintro e w1 ⟨rfl, hw1⟩; subst hw1)
    go_wp2_with (go_at_call 7; refine (iVarText_no a0 h' _).mono ?_; rintro e w2 ⟨rfl, hw2⟩; subst hw2)
    go_ret
    exact ⟨rfl, Below.refl _ _⟩
end Go.Proofs.Ytngbaefmejdecaf.fnExactVarText
