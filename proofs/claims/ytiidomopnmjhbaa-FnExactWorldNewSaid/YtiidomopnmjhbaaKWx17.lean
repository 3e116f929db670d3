/- The law of WorldNew: what is looked at. -/
import Derived.Test.YtiidomopnmjhbaaKWy17
import Derived.Test.YtiidomopnmjhbaaKWz17
namespace Go.Proofs.Ytiidomopnmjhbaa
open Go.RowKit

theorem sWorldNew_any (n sh : Int) (w : World) : Calls Try.prog 13 #[.int .i64 n, .int .i64 sh] w fun e w' => WnA w n sh e w' := by
  by_cases h : hnB n sh = true
  · have h' := h
    unfold hnB at h'
    simp at h'
    obtain ⟨nn, rfl⟩ : ∃ nn : Nat, n = (nn : Int) := ⟨n.toNat, by omega⟩
    obtain ⟨s, rfl⟩ : ∃ s : Nat, sh = (s : Int) := ⟨sh.toNat, by omega⟩
    exact sWorldNew_yes nn s (by omega) (by omega) w
  · exact sWorldNew_no n sh (by simpa using h) w
theorem iWorldNew_any (n sh : Int) (w : World) : Calls Try.prog 14 #[.int .i64 n, .int .i64 sh] w fun e w' => WnA w n sh e w' := by
  by_cases h : hnB n sh = true
  · have h' := h
    unfold hnB at h'
    simp at h'
    obtain ⟨nn, rfl⟩ : ∃ nn : Nat, n = (nn : Int) := ⟨n.toNat, by omega⟩
    obtain ⟨s, rfl⟩ : ∃ s : Nat, sh = (s : Int) := ⟨sh.toNat, by omega⟩
    exact iWorldNew_yes nn s (by omega) (by omega) w
  · exact iWorldNew_no n sh (by simpa using h) w
/-- a new world that is only read -/
structure WV (u : World) (n sh : Int) (aO : Option Addr) (v cO : Nat) (aL : Option Addr) (k cL : Nat) (aN : Option Addr) (aS : Option Addr) (S : Nat) (aD : Option Addr) (D : Nat) (aU : Option Addr) : Prop where
  h : HIn u (hnH n sh) (nwP aO v cO aL k cL aN)
  s : Sq u u.heap.size aS S (nsh n)
  d : Vq u u.heap.size aD D (List.replicate D (.slice none 0 0))
  b : Vq u u.heap.size aU D (List.replicate D (.bool true))
theorem WV.up {u x : World} {n sh : Int} {aO : Option Addr} {v cO : Nat} {aL : Option Addr} {k cL : Nat} {aN : Option Addr} {aS : Option Addr} {S : Nat} {aD : Option Addr} {D : Nat} {aU : Option Addr} (h : WV u n sh aO v cO aL k cL aN aS S aD D aU) (hb : Below u.heap.size u x) : WV x n sh aO v cO aL k cL aN aS S aD D aU := ⟨h.h.up hb, h.s.up hb, h.d.up hb, h.b.up hb⟩
theorem hn_nils (n sh : Int) : (hnH n sh).cuts = [] ∧ (hnH n sh).es = [] ∧ (hnH n sh).said = [] := by unfold hnH; split <;> exact ⟨rfl, rfl, rfl⟩
theorem wk_own {u : World} {lo hi h2 : Nat} {n sh : Int} {aO : Option Addr} {v cO : Nat} {aL : Option Addr} {k cL : Nat} {aN : Option Addr} {R : List Rw} {aS : Option Addr} {nS cS : Nat} {aD : Option Addr} {nD cD : Nat} {aU : Option Addr} {nU cU : Nat} {cs ds us : List Value} (w : WK u lo hi h2 aO v cO aL k cL aN R (hnH n sh).own (hnH n sh).nums aS nS cS aD nD cD aU nU cU cs ds us) (hR : rts R = (hnH n sh).lab) : HOwn u lo (hnH n sh) (nwP aO v cO aL k cL aN) R := by
  obtain ⟨e1, e2, e3⟩ := hn_nils n sh
  refine ⟨w.h.o, ?_, w.h.l.hi (Nat.le_trans w.le w.there) (Nat.le_refl _), hR, w.h.n, ?_, ?_⟩
  · rw [e1]; exact World.ownsRow_nil _ _ _ _
  · rw [e2]; exact World.ownsRow_nil _ _ _ _
  · rw [e3]; exact World.ownsRow_nil _ _ _ _
theorem wk_view {u : World} {lo hi h2 : Nat} {n sh : Int} {aO : Option Addr} {v cO : Nat} {aL : Option Addr} {k cL : Nat} {aN : Option Addr} {R : List Rw} {aS : Option Addr} {S cS : Nat} {aD : Option Addr} {D cD : Nat} {aU : Option Addr} {cU : Nat} {cs : List Value} (w : WK u lo hi h2 aO v cO aL k cL aN R (hnH n sh).own (hnH n sh).nums aS S cS aD D cD aU D cU cs (List.replicate D (.slice none 0 0)) (List.replicate D (.bool true))) (hR : rts R = (hnH n sh).lab) (he : ∀ t < S, El cs t (nsh n t)) : WV u n sh aO v cO aL k cL aN aS S aD D aU :=
  ⟨(wk_own w hR).inn, Sq.of_own w.s he, Vq.of_own w.d, Vq.of_own w.b⟩
theorem eqW (n sh M N : Int) (hN : N = (hnH n sh).N) (S D : Nat) (hS : S ≤ 100) (hD : D ≤ 100) (u : World) (aO : Option Addr) (v cO : Nat) (aL : Option Addr) (k cL : Nat) (aN : Option Addr) (aO0 : Option Addr) (v0 cO0 : Nat) (aL0 : Option Addr) (k0 cL0 : Nat) (aN0 : Option Addr) (aS : Option Addr) (cS : Nat) (aD : Option Addr) (cD : Nat) (aU : Option Addr) (cU : Nat) (aS0 : Option Addr) (cS0 : Nat) (aD0 : Option Addr) (cD0 : Nat) (aU0 : Option Addr) (cU0 : Nat) (hf : HFit (hnH n sh) (nwP aO v cO aL k cL aN)) (h1 : WV u n sh aO v cO aL k cL aN aS S aD D aU) (h2 : WV u n sh aO0 v0 cO0 aL0 k0 cL0 aN0 aS0 S aD0 D aU0) :
    Calls Try.prog 15 #[.agg #[.int .i64 M, .int .i64 N, .slice aO v cO, .slice none 0 0, .slice aL k cL, .slice aN k k, .int .i64 0, .int .i64 0, .int .i64 0, .int .i64 0, .int .i64 0, .int .i64 0, .int .i64 0, .slice none 0 0, .int .i64 0, .slice none 0 0, .slice aS S cS, .slice aD D cD, .slice aU D cU, .slice none 0 0, .slice none 0 0, .slice none 0 0], .agg #[.int .i64 M, .int .i64 N, .slice aO0 v0 cO0, .slice none 0 0, .slice aL0 k0 cL0, .slice aN0 k0 k0, .int .i64 0, .int .i64 0, .int .i64 0, .int .i64 0, .int .i64 0, .int .i64 0, .int .i64 0, .slice none 0 0, .int .i64 0, .slice none 0 0, .slice aS0 S cS0, .slice aD0 D cD0, .slice aU0 D cU0, .slice none 0 0, .slice none 0 0, .slice none 0 0]] u fun e y => e = .returned (.bool true) ∧ Below u.heap.size u y :=
  eqWorld_new M N n aO v cO aL k cL aN aO0 v0 cO0 aL0 k0 cL0 aN0 S D D aS cS aD cD aU cU aS0 cS0 aD0 cD0 aU0 cU0 (fun t => (t : Int) + 1) u (fun x hx => by
    have := eqHead_same (hnH n sh) (nwP aO v cO aL k cL aN) (nwP aO0 v0 cO0 aL0 k0 cL0 aN0) hf x (h1.h.up hx) (h2.h.up hx)
    rw [hnC_eq, hnC_eq, ← hN] at this
    exact this) h1.s h2.s h1.d h2.d h1.b h2.b hS hD hD
end Go.Proofs.Ytiidomopnmjhbaa
