/- What l01Figure answers. -/
import Derived.Test.YtngbaefmejdecagDoorMem
import Derived.Test.YtngbaefmejdecagDoorFigs
import Derived.WalkSpells
namespace Go.Proofs.YtngbaefmejdecagDoor
open Go.RowKit Figs

theorem l01Figure_any (x : Int) (h0 : 0 ≤ x) (h1 : x < 16) (w : World) :
    Calls Tryd.prog 12 #[.int .i64 x] w fun e w' => e = .returned (.int .u8 (figI x)) ∧ w' = w := by
  by_cases h : x < 10
  · have e : figI x = 48 + x := by unfold figI; rw [if_pos h]
    rw [e]
    go_enter Tryd.func12, Tryd.ntmps12
    go_wp2
    go_ret
    exact ⟨rfl, rfl⟩
  · have e : figI x = 97 + x - 10 := by unfold figI; rw [if_neg h]; omega
    rw [e]
    go_enter Tryd.func12, Tryd.ntmps12
    go_wp2
    go_ret
    exact ⟨rfl, rfl⟩

end Go.Proofs.YtngbaefmejdecagDoor
