/- Marks that go on from list to list. -/
import Derived.Test.YtcppbgkocipnlabLawT
namespace Go.Proofs.Ytcppbgkocipnlab
open Go.RowKit

theorem markRBk {u : World} {lo hi : Nat} {a : Option Addr} {m c : Nat} {ls : List Int} (h : RBox u lo hi a m c ls) {k : Int} {k0 : Nat} (hk : k = (k0 : Int)) (hm : m ≤ 1048576) (h1 : k0 ≤ 10000000) :
    Calls Try.prog 9 #[.slice a m c, .int .i64 k] u fun e v => e = .returned (.int .i64 (k + (m : Int))) ∧ RBox v lo hi a m c (imarks k0 m) ∧ Rng lo hi u v := by
  subst hk
  exact markRB h k0 hm h1
theorem heldRBk {u : World} {lo hi : Nat} {a : Option Addr} {m c : Nat} {k : Int} {k0 : Nat} (hk : k = (k0 : Int)) (h : RBox u lo hi a m c (imarks k0 m)) (hm : m ≤ 1048576) (h1 : k0 ≤ 10000000) :
    Calls Try.prog 10 #[.slice a m c, .int .i64 k] u fun e v => e = .returned (.int .i64 (k + (m : Int))) ∧ v = u := by
  subst hk
  exact heldRB k0 h hm h1
end Go.Proofs.Ytcppbgkocipnlab
