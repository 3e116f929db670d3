/- Plain mathematics on figures: no program is named here. -/
import Derived.WalkKit
namespace Go.Proofs.YtngbaefmejdecaaDoor.Figs

/-- the figure of a number from 0 to 15, as a number -/
def figI (x : Int) : Int := if x < 10 then 48 + x else 87 + x

theorem figI_bounds (x : Int) (h0 : 0 ≤ x) (h1 : x < 16) : 48 ≤ figI x ∧ figI x ≤ 102 := by
  unfold figI; split <;> omega

def fig (n : Nat) : UInt8 := UInt8.ofNat (figI n).toNat

theorem fig_toNat (n : Nat) (h : n < 16) : ((fig n).toNat : Int) = figI n := by
  have := figI_bounds n (by omega) (by omega)
  unfold fig
  simp
  omega

def hexOf (l : List UInt8) : List UInt8 := l.flatMap fun c => [fig (c.toNat / 16), fig (c.toNat % 16)]

theorem hexOf_length (l : List UInt8) : (hexOf l).length = 2 * l.length := by
  induction l with
  | nil => rfl
  | cons c l ih => simp only [hexOf, List.flatMap_cons, List.length_append, List.length_cons] at ih ⊢; simp only [List.length_nil]; omega

theorem hexOf_snoc (l : List UInt8) (c : UInt8) : hexOf (l ++ [c]) = hexOf l ++ [fig (c.toNat / 16), fig (c.toNat % 16)] := by
  simp [hexOf]

end Go.Proofs.YtngbaefmejdecaaDoor.Figs
