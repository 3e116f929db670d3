/- A drawn right tour and one of its vertices. -/
import Derived.Test.YtcppbgkocipnlaaDrawTour
namespace Go.Proofs.Ytcppbgkocipnlaa
open Go.RowKit

theorem big_any (w : World) (a : Option Addr) (len cap : Nat) : Calls Try.prog 9 #[.slice a len cap] w fun e w' => e = .returned (.bool (decide ((1048576 : Int) < (len : Int)))) ∧ w' = w := by
  go_enter Try.func9, Try.ntmps9
  go_wp2
  go_ret
  exact ⟨rfl, rfl⟩
set_option maxRecDepth 100000 in
set_option maxHeartbeats 2000000 in
theorem drawRightTour_any (w : World) (a : Option Addr) (len cap : Nat) (hl : len ≤ 1048576) (hcode : Code w w.heap.size a len) :
    Calls Try.prog 10 #[.slice a len cap] w fun x w' => ∃ (t : List Int) (v : Int) (g m c' : Nat), Hid (tB t = true ∧ v ∈ t) ∧ x = .returned (.tuple #[.slice (some ⟨g, 0, none⟩) m c', .int .i64 v]) ∧ w'.ownsRow w.heap.size 3 1 (.slice (some ⟨g, 0, none⟩) m c') m (ic t) ∧ Below w.heap.size w w' := by
  have HN := hideIt (l01New_any w a len cap hl hcode)
  clear hcode
  go_enter Try.func10, Try.ntmps10
  go_wp2_with (go_at_call 29; refine HN.out.mono ?_; rintro e w1 ⟨rfl, hc, hd, hb, hs⟩; refine Hid.out ?_)
  refine (show ∀ {p : Prop}, p → Hid p from fun h => h) ?_
  have HT := hideIt (l06Tour_any w1 w.heap.size a len cap hl hc hd)
  clear HN hc hd
  go_wp2_with (go_at_call 30; refine HT.out.mono ?_; rintro e w2 ⟨t, a', m, c', HB, rfl, ho, d2⟩; refine Hid.out ?_)
  refine (show ∀ {p : Prop}, p → Hid p from fun h => h) ?_
  have hml : t.length = m := by have := ho.1; rw [ic_len] at this; omega
  have hm1 := tB_len HB.out
  obtain ⟨g, c2, hform, hgb, hgl⟩ := ho.form (by omega)
  simp at hform
  obtain ⟨rfl, rfl⟩ := hform
  have HX := hideIt (l01Below_any (m : Int) (by omega) (by omega) w2.drew w.heap.size a len cap hl d2.cur d2.code)
  have HO := hideIt (own_mono ho (show w.heap.size + 1 ≤ w1.heap.size by omega))
  have HBl : Hid (Below w.heap.size w w2) := hb.trans ((Below.refl w.heap.size w1).grown d2.grown (by omega) (fun j e => by cases e; exact Nat.le_refl _))
  clear HT ho d2 hb
  go_wp2
  go_region_with ((go_at_call 31; refine HX.out.mono ?_; rintro e w3 ⟨x, hx, rfl, d3⟩; obtain ⟨f, hf⟩ : ∃ f, t[x]? = some f := ⟨t[x]'(by omega), List.getElem?_eq_getElem (by omega)⟩; have hO3 : w3.ownsRow (w.heap.size + 1) 3 1 (.slice (some ⟨g, 0, none⟩) m c') m (ic t) := World.ownsRow.kept (w := w2.drew) HO.out d3.grown (.inr (fun e => by have := (HO.out.lt w.heap.size e).1; omega)); have e0 : w3.cell? ⟨g, x, none⟩ = some (.int .i64 f) := (hO3.cellAt x (by omega)).trans (ic_at hf); have x0 : (0 : Int) ≤ (x : Int) := by omega))
  have HB3 : Below w.heap.size w w3 := HBl.out.drew.trans ((Below.refl w.heap.size w2.drew).grown d3.grown (by show w.heap.size ≤ w2.heap.size; have := HBl.out.size; omega) (fun j e => by cases e; exact Nat.le_refl _))
  have HM := hideIt (List.mem_of_getElem? hf)
  go_wp2
  go_ret2
  exact ⟨t, f, g, m, c', ⟨HB.out, HM.out⟩, rfl, own_mono hO3 (by omega), HB3⟩
end Go.Proofs.Ytcppbgkocipnlaa
