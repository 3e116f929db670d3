/- The program's TourOf. -/
import Derived.Test.YtcppbgkocipnlaaITrees
import Derived.Test.YtcppbgkocipnlaaSortE
import Derived.Test.YtcppbgkocipnlaaITB
import Derived.Test.YtcppbgkocipnlaaChk6
namespace Go.Proofs.Ytcppbgkocipnlaa
open Go.RowKit

theorem wkGo_congr {rec : Int → Int → List Int → Option (List Int × List Int)} {es es' : List EdgeV} (h : ∀ e, e ∈ es ↔ e ∈ es') (n : Nat) (v fr : Int) (rem : Nat) (out seen : List Int) : wkGo rec es n v fr rem out seen = wkGo rec es' n v fr rem out seen := by
  induction rem generalizing out seen with
  | zero => rfl
  | succ rem ih =>
    rw [wkGo, wkGo]
    by_cases hc : ((n - (rem + 1) : Nat) : Int) = fr ∨ mkE v ((n - (rem + 1) : Nat) : Int) ∉ es
    · rw [if_pos hc, if_pos (by rw [← h]; exact hc)]; exact ih _ _
    · have hc' : ¬ (((n - (rem + 1) : Nat) : Int) = fr ∨ mkE v ((n - (rem + 1) : Nat) : Int) ∉ es') := by rw [← h]; exact hc
      rw [if_neg hc, if_neg hc']
      by_cases hs : ((n - (rem + 1) : Nat) : Int) ∈ seen
      · rw [if_pos hs, if_pos hs]
      · rw [if_neg hs, if_neg hs]
        cases rec ((n - (rem + 1) : Nat) : Int) v seen with
        | none => rfl
        | some x => exact ih _ _
theorem wk_congr {es es' : List EdgeV} (h : ∀ e, e ∈ es ↔ e ∈ es') (n f : Nat) : wk es n f = wk es' n f := by
  induction f with
  | zero => rfl
  | succ f ih =>
    funext v fr seen
    rw [wk, wk, ih]
    exact wkGo_congr h n v fr n _ _
theorem wkGo_root {rec : Int → Int → List Int → Option (List Int × List Int)} {es : List EdgeV} (n : Nat) {v : Int} (hv : mkE v v ∉ es) (rem : Nat) (out seen : List Int) : wkGo rec es n v v rem out seen = wkGo rec es n v (-1) rem out seen := by
  induction rem generalizing out seen with
  | zero => rfl
  | succ rem ih =>
    rw [wkGo, wkGo]
    by_cases hc : mkE v ((n - (rem + 1) : Nat) : Int) ∉ es
    · rw [if_pos (.inr hc), if_pos (.inr hc)]; exact ih _ _
    · have c1 : ¬ (((n - (rem + 1) : Nat) : Int) = v ∨ mkE v ((n - (rem + 1) : Nat) : Int) ∉ es) := by
        rintro (h1 | h1)
        · exact hc (by rw [h1]; exact hv)
        · exact hc h1
      have c2 : ¬ (((n - (rem + 1) : Nat) : Int) = -1 ∨ mkE v ((n - (rem + 1) : Nat) : Int) ∉ es) := by
        rintro (h1 | h1)
        · omega
        · exact hc h1
      rw [if_neg c1, if_neg c2]
      by_cases hs : ((n - (rem + 1) : Nat) : Int) ∈ seen
      · rw [if_pos hs, if_pos hs]
      · rw [if_neg hs, if_neg hs]
        cases rec ((n - (rem + 1) : Nat) : Int) v seen with
        | none => rfl
        | some x => exact ih _ _
theorem wk_root {es : List EdgeV} (n f : Nat) {v : Int} (hv : mkE v v ∉ es) (seen : List Int) : wk es n f v v seen = wk es n f v (-1) seen := by
  cases f with
  | zero => rfl
  | succ f => rw [wk, wk]; exact wkGo_root n hv n _ _

theorem b_no {b : Bool} {p : Prop} (h : b = true ↔ p) (hn : ¬ p) : b = false := by
  cases b with
  | false => rfl
  | true => exact absurd (h.1 rfl) hn
set_option maxRecDepth 100000 in
set_option maxHeartbeats 4000000 in
theorem iTourOf_no (es : List EdgeV) (ne : Nat) (a : Option Addr) (c : Nat) (r : Int) (hne : ne ≤ 1000) (hok : ∀ e ∈ es, eB 12 e = true) (hT : ¬ TreeP es) (w : World) (h : Es w w.heap.size a ne es) :
    Calls Try.prog 20 #[.int .i64 12, .slice a ne c, .int .i64 r] w fun e w' => e = .returned (.tuple #[.slice none 0 0, .bool false]) ∧ Below w.heap.size w w' := by
  have HT0 := treesOk_any 12 es ne a c (by omega) (by omega) hne hok w h
  rw [show (((12 : Nat)) : Int) = 12 from rfl] at HT0
  have HT := hideIt HT0
  clear HT0
  have HN := hideIt hT
  clear h hok hT
  go_enter Try.func20, Try.ntmps20
  go_wp2_with (go_at_call 43; refine HT.out.mono ?_; rintro e w1 ⟨b, rfl, hb, hb1⟩; obtain rfl : b = false := b_no hb HN.out; refine Hid.out ?_)
  refine (show ∀ {p : Prop}, p → Hid p from fun h => h) ?_
  clear HT hb
  go_wp2
  go_ret2
  exact ⟨rfl, hb1⟩

set_option maxRecDepth 100000 in
set_option maxHeartbeats 4000000 in
theorem iTourOf_yes (es : List EdgeV) (ne : Nat) (a : Option Addr) (c : Nat) (r : Int) (t sn : List Int) (hne : ne ≤ 66) (hok : ∀ e ∈ es, eB 12 e = true) (hnd : es.Nodup) (hT : TreeP es) (hr0 : 0 ≤ r) (hr1 : r < 12) (hwk : wk es 12 12 r (-1) [] = some (t, sn)) (htl : t.length ≤ 1000) (w : World) (h : Es w w.heap.size a ne es) :
    Calls Try.prog 20 #[.int .i64 12, .slice a ne c, .int .i64 r] w fun e w' => ∃ a' m c', e = .returned (.tuple #[.slice a' m c', .bool true]) ∧ w'.ownsRow w.heap.size 3 1 (.slice a' m c') m (ic t) ∧ Below w.heap.size w w' := by
  have HT0 := treesOk_any 12 es ne a c (by omega) (by omega) (by omega) hok w h
  rw [show (((12 : Nat)) : Int) = 12 from rfl] at HT0
  have HTr := hideIt HT0
  clear HT0
  have HY := hideIt hT
  have hlen := h.1
  have hE : ∀ e ∈ es, 0 ≤ e.1 ∧ e.1 < e.2 ∧ e.2 < ((12 : Nat) : Int) := fun e he => by have := hok e he; unfold eB at this; have := of_decide_eq_true this; omega
  have hGB : gB ((12 : Nat) : Int) (srtE es) = true := by
    unfold gB
    rw [show (((12 : Nat)) : Int) = 12 from rfl, chk_of (fun e he => hok e ((srtE_mem es e).1 he)) (srtE_asc hnd), decide_eq_true (show (1 : Int) ≤ 12 ∧ (12 : Int) ≤ 12 by omega), decide_eq_true (show (srtE es).length ≤ 66 by rw [srtE_len]; omega)]
    rfl
  have hvv : mkE r r ∉ srtE es := fun hm => by
    have := hE _ ((srtE_mem es _).1 hm)
    unfold mkE at this
    rw [if_neg (by omega)] at this
    simp at this
  have hwk2 : wk (srtE es) 12 12 r r [] = some (t, sn) := by rw [wk_root 12 12 hvv, wk_congr (srtE_mem es) 12 12]; exact hwk
  have HTB : Hid (∀ (m : Nat) (a : Option Addr) (c : Nat) (u : World), m ≤ 1000 → Es u u.heap.size a m (srtE es) → Calls Try.prog 47 #[.agg #[.int .i64 12, .slice a m c], .int .i64 r, .int .i64 r] u fun e w' => ∃ a' m c', e = .returned (.slice a' m c') ∧ w'.ownsRow u.heap.size 3 1 (.slice a' m c') m (ic t) ∧ Below u.heap.size u w') := (fun (m : Nat) (a : Option Addr) (c : Nat) (u : World) (hm : m ≤ 1000) (hu : Es u u.heap.size a m (srtE es)) => tourBelow_any (srtE es) 12 m a c hm hGB (fun e he => hE e ((srtE_mem es e).1 he)) 12 r r [] u t sn hwk2 htl hu)
  have HEs := hideIt h
  have d1 : decide (r < 0) = false := decide_eq_false (by omega)
  have d2 : decide (12 ≤ r) = false := decide_eq_false (by omega)
  clear h hok hT hnd hE hGB hvv hwk2 hwk
  go_enter Try.func20, Try.ntmps20
  go_wp2_with (go_at_call 43; refine HTr.out.mono ?_; rintro e w1 ⟨b, rfl, hb, hb1⟩; obtain rfl : b = true := hb.2 HY.out; refine Hid.out ?_)
  refine (show ∀ {p : Prop}, p → Hid p from fun h => h) ?_
  have HV := hideIt (valuesE_any a ne c w1)
  have hba : Below w1.heap.size w1 (w1.alloc (.cells #[.slice a ne c] 37)) := (Below.refl _ _).alloc (Nat.le_refl _) _
  have HS := hideIt (sortedFE_any es ne a c w1.heap.size (by omega) (w1.alloc (.cells #[.slice a ne c] 37)) (by simp) (by simp) ((HEs.out.up hb1).up hba))
  have HB1 := hideIt (hb1.trans (hba.mono hb1.size))
  have z1 := hb1.size
  clear HTr hb hb1 hba
  go_wp2_with (first | (go_at_call 45; refine HV.out.mono ?_; rintro e w2 ⟨rfl, rfl⟩) | (go_at_call 44; refine HS.out.mono ?_; rintro e w3 ⟨a3, c3, rfl, ho3, hb3⟩; refine Hid.out ?_))
  refine (show ∀ {p : Prop}, p → Hid p from fun h => h) ?_
  have B3 := HB1.out.trans (hb3.mono (by simp; omega))
  have hbx : Below w3.heap.size w3 (w3.alloc (.cells #[.int .i64 12, .slice a3 ne c3] 65)) := (Below.refl _ _).alloc (Nat.le_refl _) _
  have HX := hideIt (HTB.out ne a3 c3 _ (by omega) ((Es_of_own ho3).up hbx))
  have HB4 := hideIt (B3.trans (hbx.mono B3.size))
  have z3 := B3.size
  clear HV HS ho3 hb3 B3 hbx HTB
  go_wp2_with (go_at_call 47; refine HX.out.mono ?_; rintro e w5 ⟨a5, m5, c5, rfl, ho5, hb5⟩)
  go_ret2
  exact ⟨a5, m5, c5, rfl, own_mono ho5 (by simp; omega), HB4.out.trans (hb5.mono (by simp; omega))⟩
end Go.Proofs.Ytcppbgkocipnlaa
