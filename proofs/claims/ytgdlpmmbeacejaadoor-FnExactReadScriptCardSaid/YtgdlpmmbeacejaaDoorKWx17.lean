/- The law of WorldNew: what is looked at. -/
import Derived.Test.YtgdlpmmbeacejaaDoorKWy17
import Derived.Test.YtgdlpmmbeacejaaDoorKWz17
namespace Go.Proofs.YtgdlpmmbeacejaaDoor
open Go.RowKit

theorem sWorldNew_any (n sh : Int) (w : World) : Calls Tryd.prog 12 #[.int .i64 n, .int .i64 sh] w fun e w' => WnA w n sh e w' := by
  by_cases h : hnB n sh = true
  · have h' := h
    unfold hnB at h'
    simp at h'
    obtain ⟨nn, rfl⟩ : ∃ nn : Nat, n = (nn : Int) := ⟨n.toNat, by omega⟩
    obtain ⟨s, rfl⟩ : ∃ s : Nat, sh = (s : Int) := ⟨sh.toNat, by omega⟩
    exact sWorldNew_yes nn s (by omega) (by omega) w
  · exact sWorldNew_no n sh (by simpa using h) w
theorem iWorldNew_any (n sh : Int) (w : World) : Calls Tryd.prog 47 #[.int .i64 n, .int .i64 sh] w fun e w' => WnA w n sh e w' := by
  by_cases h : hnB n sh = true
  · have h' := h
    unfold hnB at h'
    simp at h'
    obtain ⟨nn, rfl⟩ : ∃ nn : Nat, n = (nn : Int) := ⟨n.toNat, by omega⟩
    obtain ⟨s, rfl⟩ : ∃ s : Nat, sh = (s : Int) := ⟨sh.toNat, by omega⟩
    exact iWorldNew_yes nn s (by omega) (by omega) w
  · exact iWorldNew_no n sh (by simpa using h) w
/-- a new world that is only read -/
structure WV (u : World) (n sh : Int) (aO : Option Addr) (v cO : Nat) (aL : Option Addr) (k cL : Nat) (aN : Option Addr) (aS : Option Addr) (S : Nat) (aD : Option Addr) (D : Nat) (aU : Option Addr) : Prop where
  h : HIn u (hnH n sh) (nwP aO v cO aL k cL aN)
  s : Sq u u.heap.size aS S (nsh n)
  d : Vq u u.heap.size aD D (List.replicate D (.slice none 0 0))
  b : Vq u u.heap.size aU D (List.replicate D (.bool true))
theorem WV.up {u x : World} {n sh : Int} {aO : Option Addr} {v cO : Nat} {aL : Option Addr} {k cL : Nat} {aN : Option Addr} {aS : Option Addr} {S : Nat} {aD : Option Addr} {D : Nat} {aU : Option Addr} (h : WV u n sh aO v cO aL k cL aN aS S aD D aU) (hb : Below u.heap.size u x) : WV x n sh aO v cO aL k cL aN aS S aD D aU := ⟨h.h.up hb, h.s.up hb, h.d.up hb, h.b.up hb⟩
theorem hn_nils (n sh : Int) : (hnH n sh).cuts = [] ∧ (hnH n sh).es = [] ∧ (hnH n sh).said = [] := by unfold hnH; split <;> exact ⟨rfl, rfl, rfl⟩
theorem wk_own {u : World} {lo hi h2 : Nat} {n sh : Int} {aO : Option Addr} {v cO : Nat} {aL : Option Addr} {k cL : Nat} {aN : Option Addr} {R : List Rw} {aS : Option Addr} {nS cS : Nat} {aD : Option Addr} {nD cD : Nat} {aU : Option Addr} {nU cU : Nat} {cs ds us : List Value} (w : WK u lo hi h2 aO v cO aL k cL aN R (hnH n sh).own (hnH n sh).nums aS nS cS aD nD cD aU nU cU cs ds us) (hR : rts R = (hnH n sh).lab) : HOwn u lo (hnH n sh) (nwP aO v cO aL k cL aN) R := by
  obtain ⟨e1, e2, e3⟩ := hn_nils n sh
  refine ⟨w.h.o, ?_, w.h.l.hi (Nat.le_trans w.le w.there) (Nat.le_refl _), hR, w.h.n, ?_, ?_⟩
  · rw [e1]; exact World.ownsRow_nil _ _ _ _
  · rw [e2]; exact World.ownsRow_nil _ _ _ _
  · rw [e3]; exact World.ownsRow_nil _ _ _ _
theorem wk_view {u : World} {lo hi h2 : Nat} {n sh : Int} {aO : Option Addr} {v cO : Nat} {aL : Option Addr} {k cL : Nat} {aN : Option Addr} {R : List Rw} {aS : Option Addr} {S cS : Nat} {aD : Option Addr} {D cD : Nat} {aU : Option Addr} {cU : Nat} {cs : List Value} (w : WK u lo hi h2 aO v cO aL k cL aN R (hnH n sh).own (hnH n sh).nums aS S cS aD D cD aU D cU cs (List.replicate D (.slice none 0 0)) (List.replicate D (.bool true))) (hR : rts R = (hnH n sh).lab) (he : ∀ t < S, El cs t (nsh n t)) : WV u n sh aO v cO aL k cL aN aS S aD D aU :=
  ⟨(wk_own w hR).inn, Sq.of_own w.s he, Vq.of_own w.d, Vq.of_own w.b⟩
end Go.Proofs.YtgdlpmmbeacejaaDoor
