/- The program's HeightOf. FnTakes. A forest that is cut: pure. The edges of a forest as the two sides make them: pure. A forest linked by an edge, and cut there again: what TreeOf, SizeOf, EdgesOf say of it. Pure. The law's own look at a forest's parts. -/
import Derived.Test.YtkkplppcgnikoaaGreatKSWa9
import Derived.Test.YtkkplppcgnikoaaGreatKLb9
import Derived.Test.YtkkplppcgnikoaaGreatKDt12
import Derived.Test.YtkkplppcgnikoaaGreatKHas6
import Derived.Test.YtkkplppcgnikoaaGreatKTl8
import Derived.Test.YtkkplppcgnikoaaGreatKBx7
import Derived.Test.YtkkplppcgnikoaaGreatKIArn6
import Derived.Test.YtkkplppcgnikoaaGreatKMk7
import Derived.Test.YtkkplppcgnikoaaGreatKSh7
namespace Go.Proofs.YtkkplppcgnikoaaGreat
open Go.RowKit

end Go.Proofs.YtkkplppcgnikoaaGreat
namespace Go.Proofs.YtkkplppcgnikoaaGreat
open Go.RowKit

/-- where the law stands: the web's box, the edge's box -/
structure TaS (w : World) (X : Nat) (nn : Nat) (ls : List Ld) (a' : Option Addr) (m c' : Nat) (f : EdgeV) (u : World) : Prop where
  box : Box7 u X 26 (.int .i64 (nn : Int)) (.slice a' m c')
  ebx : Box7 u (X + 1) 28 (.int .i64 f.1) (.int .i64 f.2)
  lss : Ls u u.heap.size a' m ls
  below : Below w.heap.size w u
section
variable {w : World} {X : Nat} {nn : Nat} {ls : List Ld} {a' : Option Addr} {m c' : Nat} {f : EdgeV} {u v : World}
theorem TaS.up (h : TaS w X nn ls a' m c' f u) (hb : Below u.heap.size u v) : TaS w X nn ls a' m c' f v := ⟨h.box.up hb, h.ebx.up hb, h.lss.up hb, h.below.trans (hb.mono h.below.size)⟩
theorem TaS.drew (h : TaS w X nn ls a' m c' f u) : TaS w X nn ls a' m c' f u.drew := h.up (Below.refl _ _).drew
end

theorem sl_own2 {u : World} {B e s n c : Nat} {a : Option Addr} {xs : List Value} (h : u.ownsRow B e s (.slice a n c) n xs) : Sl a n c := by
  rcases h.2 with ⟨hv, h0⟩ | ⟨g, cap, cur, hv, _, _, h1, h2, _⟩
  · simp at hv
    obtain ⟨rfl, rfl, rfl⟩ := hv
    exact ⟨Nat.le_refl _, by unfold maxLen; omega, .inl ⟨rfl, rfl, rfl⟩⟩
  · simp at hv
    obtain ⟨rfl, rfl⟩ := hv
    exact ⟨h1, h2, .inr ⟨g, 0, rfl⟩⟩
end Go.Proofs.YtkkplppcgnikoaaGreat
namespace Go.Proofs.YtkkplppcgnikoaaGreat
open Go.RowKit

end Go.Proofs.YtkkplppcgnikoaaGreat
namespace Go.Proofs.YtkkplppcgnikoaaGreat
open Go.RowKit

end Go.Proofs.YtkkplppcgnikoaaGreat
namespace Go.Proofs.YtkkplppcgnikoaaGreat
open Go.RowKit

end Go.Proofs.YtkkplppcgnikoaaGreat
namespace Go.Proofs.YtkkplppcgnikoaaGreat
open Go.RowKit

end Go.Proofs.YtkkplppcgnikoaaGreat
