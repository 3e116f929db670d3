/- What the laws of chapter 6 that answer lists share. -/
import Derived.Test.YtcpffonenhhfoabRer
import Derived.Test.YtcpffonenhhfoabToInt6
namespace Go.Proofs.Ytcpffonenhhfoab
open Go.RowKit

theorem tans_G {F : Nat} {args : Array Value} {o : Option (List Int)} {u : World} (H : Calls Try.prog F args u (TAns u o)) :
    Calls Try.prog F args u fun e v => ∃ aw mw cw, e = .returned (.tuple #[.slice aw mw cw, .bool o.isSome]) ∧ RBox v u.heap.size v.heap.size aw mw cw (o.getD []) ∧ Below u.heap.size u v :=
  H.mono fun _ _ ⟨aw, mw, cw, he, ho, hb⟩ => ⟨aw, mw, cw, he, RBox.laid ho, hb⟩
theorem Good.rng {w u v : World} {lo hi : Nat} (h : Good w u) (hr : Rng lo hi u v) (hl : w.heap.size ≤ lo) : Good w v := Below.trans h (hr.below hl h.size)
end Go.Proofs.Ytcpffonenhhfoab
