/- The program's tourBelow. A list of right edges that ascend is right. The program's TourOf. The program's TourOf over any number of vertices. The library's Min over ints; the program's compareTrees and treesAscend. All vertices of right tours, sorted: pure. -/
import Derived.Test.YtkkplppcgnikoaaGreatKBx7
import Derived.Test.YtkkplppcgnikoaaGreatKFB7
import Derived.Test.YtkkplppcgnikoaaGreatKMk7
import Derived.Test.YtkkplppcgnikoaaGreatKIArn6
import Derived.Test.YtkkplppcgnikoaaGreatKCon9
import Derived.Test.YtkkplppcgnikoaaGreatKITrees
import Derived.Test.YtkkplppcgnikoaaGreatKIVerts
import Derived.Test.YtkkplppcgnikoaaGreatKLk7
namespace Go.Proofs.YtkkplppcgnikoaaGreat
open Go.RowKit

/-- the walk over a list of neighbours -/
def wkL (rec : Int → Int → List Int → Option (List Int × List Int)) (v fr : Int) : List Int → List Int → List Int → Option (List Int × List Int)
  | [], out, seen => some (out, seen)
  | u :: r, out, seen =>
    if u = fr then wkL rec v fr r out seen
    else if u ∈ seen then none
    else match rec u v seen with
      | none => none
      | some x => wkL rec v fr r (out ++ x.1 ++ [v]) x.2
/-- the neighbours from n - rem on -/
def nbK (es : List EdgeV) (v : Int) (n : Nat) : Nat → List Int
  | 0 => []
  | rem + 1 => if mkE v ((n - (rem + 1) : Nat) : Int) ∈ es then ((n - (rem + 1) : Nat) : Int) :: nbK es v n rem else nbK es v n rem
theorem wkGo_L (rec : Int → Int → List Int → Option (List Int × List Int)) (es : List EdgeV) (n : Nat) (v fr : Int) (rem : Nat) (out seen : List Int) : wkGo rec es n v fr rem out seen = wkL rec v fr (nbK es v n rem) out seen := by
  induction rem generalizing out seen with
  | zero => rfl
  | succ rem ih =>
    rw [wkGo, nbK]
    by_cases h : mkE v ((n - (rem + 1) : Nat) : Int) ∈ es
    · rw [if_pos h]
      by_cases h2 : ((n - (rem + 1) : Nat) : Int) = fr
      · rw [if_pos (.inl h2), wkL, if_pos h2]; exact ih _ _
      · rw [if_neg (by rintro (h3 | h3); exact h2 h3; exact h3 h), wkL, if_neg h2]
        by_cases h4 : ((n - (rem + 1) : Nat) : Int) ∈ seen
        · rw [if_pos h4, if_pos h4]
        · rw [if_neg h4, if_neg h4]
          cases rec ((n - (rem + 1) : Nat) : Int) v seen with
          | none => rfl
          | some x => exact ih _ _
    · rw [if_neg h, if_pos (.inr h)]; exact ih _ _
theorem nbK_mem (es : List EdgeV) (v : Int) (n rem : Nat) (hr : rem ≤ n) (x : Int) : x ∈ nbK es v n rem ↔ ((n - rem : Nat) : Int) ≤ x ∧ x < (n : Int) ∧ mkE v x ∈ es := by
  induction rem with
  | zero => simp [nbK]; omega
  | succ rem ih =>
    rw [nbK]
    have ih := ih (by omega)
    by_cases h : mkE v ((n - (rem + 1) : Nat) : Int) ∈ es
    · rw [if_pos h, List.mem_cons, ih]
      constructor
      · rintro (rfl | ⟨h1, h2, h3⟩)
        · exact ⟨by omega, by omega, h⟩
        · exact ⟨by omega, h2, h3⟩
      · rintro ⟨h1, h2, h3⟩
        by_cases e : x = ((n - (rem + 1) : Nat) : Int)
        · exact .inl e
        · exact .inr ⟨by omega, h2, h3⟩
    · rw [if_neg h, ih]
      constructor
      · rintro ⟨h1, h2, h3⟩; exact ⟨by omega, h2, h3⟩
      · rintro ⟨h1, h2, h3⟩
        have : x ≠ ((n - (rem + 1) : Nat) : Int) := fun e => h (e ▸ h3)
        exact ⟨by omega, h2, h3⟩
theorem nbK_asc (es : List EdgeV) (v : Int) (n rem : Nat) (hr : rem ≤ n) : (nbK es v n rem).Pairwise (· < ·) := by
  induction rem with
  | zero => simp [nbK]
  | succ rem ih =>
    rw [nbK]
    have ih := ih (by omega)
    split
    · rw [List.pairwise_cons]
      refine ⟨fun y hy => ?_, ih⟩
      have := (nbK_mem es v n rem (by omega) y).1 hy
      omega
    · exact ih
theorem nb_ar {es : List EdgeV} {n : Nat} (hE : ∀ e ∈ es, 0 ≤ e.1 ∧ e.1 < e.2 ∧ e.2 < (n : Int)) (v : Int) : nbK es v n n = arS es v n := by
  refine asc_ext (nbK_asc es v n n (Nat.le_refl _)) ?_ fun x => ?_
  · unfold arS
    refine List.Pairwise.filter _ ?_
    rw [List.pairwise_map]
    exact List.Pairwise.imp (fun h => by omega) (List.pairwise_lt_range (n := n))
  · rw [nbK_mem es v n n (Nat.le_refl _)]
    unfold arS
    simp only [List.mem_filter, List.mem_map, List.mem_range, hasB, Bool.or_eq_true, decide_eq_true_eq]
    constructor
    · rintro ⟨h1, h2, h3⟩
      refine ⟨⟨x.toNat, by omega, by omega⟩, ?_⟩
      rcases mkE_ends v x with e | e
      · rw [e] at h3; exact .inr h3
      · rw [e] at h3; exact .inl h3
    · rintro ⟨⟨j, hj, rfl⟩, h3⟩
      refine ⟨by omega, by omega, ?_⟩
      unfold mkE
      rcases h3 with h3 | h3
      · have := hE _ h3
        simp at this
        rw [if_neg (by omega)]; exact h3
      · have := hE _ h3
        simp at this
        rw [if_pos (by omega)]; exact h3
theorem wkL_len {rec : Int → Int → List Int → Option (List Int × List Int)} {v fr : Int} {nb out seen t sn : List Int} (h : wkL rec v fr nb out seen = some (t, sn)) : out.length ≤ t.length := by
  induction nb generalizing out seen with
  | nil => simp [wkL] at h; rw [h.1]; exact Nat.le_refl _
  | cons u r ih =>
    rw [wkL] at h
    split at h
    · exact ih h
    · split at h
      · simp at h
      · cases hr : rec u v seen with
        | none => rw [hr] at h; simp at h
        | some p =>
          rw [hr] at h
          have := ih h
          simp at this
          omega
theorem wkL_go {rec : Int → Int → List Int → Option (List Int × List Int)} {v fr u : Int} {r out seen : List Int} {x : List Int × List Int} (h1 : u ≠ fr) (h : wkL rec v fr (u :: r) out seen = some x) : ∃ p, rec u v seen = some p ∧ wkL rec v fr r (out ++ p.1 ++ [v]) p.2 = some x := by
  rw [wkL, if_neg h1] at h
  split at h
  · simp at h
  · cases hr : rec u v seen with
    | none => rw [hr] at h; simp at h
    | some p => rw [hr] at h; exact ⟨p, rfl, h⟩

/-- the tour in the making, and the neighbours, stand -/
structure TBSt (w : World) (W0 : World) (an : Option Addr) (mn : Nat) (nb : List Int) (a : Option Addr) (m c : Nat) (out : List Int) (u : World) : Prop where
  own : u.ownsRow w.heap.size 3 1 (.slice a m c) m (ic out)
  nbs : Is u u.heap.size an mn nb
  bel : Below (w.heap.size + 1) W0 u
  low : Below w.heap.size w u
theorem TBSt.len {w W0 : World} {an : Option Addr} {mn : Nat} {nb : List Int} {a : Option Addr} {m c : Nat} {out : List Int} {u : World} (h : TBSt w W0 an mn nb a m c out u) : out.length = m := by have := h.own.1; rw [ic_len] at this; omega
set_option maxRecDepth 100000 in
set_option maxHeartbeats 8000000 in
theorem tourBelow_any (es : List EdgeV) (n ne : Nat) (a : Option Addr) (c : Nat) (hne : ne ≤ 1000) (hG : gB (n : Int) es = true) (hE : ∀ e ∈ es, 0 ≤ e.1 ∧ e.1 < e.2 ∧ e.2 < (n : Int)) (f : Nat) : ∀ (v fr : Int) (seen : List Int) (w : World) (t sn : List Int), wk es n f v fr seen = some (t, sn) → t.length ≤ 1000 → Es w w.heap.size a ne es →
    Calls Tryz.prog 273 #[.agg #[.int .i64 (n : Int), .slice a ne c], .int .i64 v, .int .i64 fr] w fun e w' => ∃ a' m c', e = .returned (.slice a' m c') ∧ w'.ownsRow w.heap.size 3 1 (.slice a' m c') m (ic t) ∧ Below w.heap.size w w' := by
  have hn12 := (gB_chk hG).1
  induction f with
  | zero => intro v fr seen w t sn h; simp [wk] at h
  | succ f ih =>
    intro v fr seen w t sn hwk htl hes
    have IH := hideIt ih
    clear ih
    rw [wk, wkGo_L, nb_ar hE] at hwk
    have hb0 : Below w.heap.size w (w.alloc (.cells #[.int .i64 (n : Int), .slice a ne c] 33)) := (Below.refl _ _).alloc (Nat.le_refl _) _
    have hs0 : (w.alloc (.cells #[.int .i64 (n : Int), .slice a ne c] 33)).heap.size = w.heap.size + 1 := by simp
    have hbx : (w.alloc (.cells #[.int .i64 (n : Int), .slice a ne c] 33)).heap[w.heap.size]? = some (.cells #[.int .i64 (n : Int), .slice a ne c] 33 (0, 0)) := heap_alloc_new w _
    obtain ⟨W0, hW0⟩ : ∃ W0, W0 = w.alloc (.cells #[.int .i64 (n : Int), .slice a ne c] 33) := ⟨_, rfl⟩
    rw [← hW0] at hb0 hs0 hbx
    have hb1 : Below W0.heap.size W0 (W0.alloc (.cells #[.int .i64 v] 3)) := (Below.refl _ _).alloc (Nat.le_refl _) _
    have HBx : Hid (∀ u, Below (w.heap.size + 1) W0 u → u.cell? ⟨w.heap.size, 0, none⟩ = some (.int .i64 (n : Int)) ∧ u.cell? ⟨w.heap.size, 1, none⟩ = some (.slice a ne c)) := fun u hu =>
      ⟨by rw [hu.cell (p := ⟨w.heap.size, 0, none⟩) (by show w.heap.size < _; omega), cell_of_row _ _ 0 _ _ _ hbx]; rfl, by rw [hu.cell (p := ⟨w.heap.size, 1, none⟩) (by show w.heap.size < _; omega), cell_of_row _ _ 1 _ _ _ hbx]; rfl⟩
    rw [hs0] at hb1
    obtain ⟨x0, x1⟩ := HBx.out _ hb1
    have hB1 : Below w.heap.size w (W0.alloc (.cells #[.int .i64 v] 3)) := hb0.trans (hb1.mono (by omega))
    have HA := iAround_any (n : Int) es v ne a c (by omega) _ (hes.up hB1)
    unfold arE at HA
    rw [if_pos hG, Int.toNat_natCast] at HA
    have HAr := hideIt HA
    have hal := arS_len es v n
    have HW := hideIt hwk
    have HEs := hideIt hes
    have HB0 := hideIt hb0
    have HBs := hideIt hb1
    have HBw := hideIt hB1
    clear hes hwk HA hb0 hb1 hbx hB1
    generalize arS es v n = nb at HAr HW hal
    go_enter Tryz.func273, Tryz.ntmps273
    go_upto_region 2 with fail
    rw [← hW0]
    have HOw : Hid ((W0.alloc (.cells #[.int .i64 v] 3)).ownsRow w.heap.size 3 1 (.slice (some ⟨w.heap.size + 1, 0, none⟩) 1 1) 1 (ic [v])) := by
      have o1 := World.ownsRow_lit (base := w.heap.size) (e := 3) (size := 1) W0 #[.int .i64 v] 1 (by omega) (by unfold maxLen; omega) (by simp)
      rw [hs0] at o1
      show World.ownsRow _ _ _ _ _ _ _
      simpa [ic] using o1
    clear hW0
    go_wp2_with (go_at_call 314; refine HAr.out.mono ?_; rintro e w2 ⟨an, mn, cn, rfl, ho2, hb2⟩; refine Hid.out ?_)
    refine (show ∀ {p : Prop}, p → Hid p from fun h => h) ?_
    have I2 := Is_of_own ho2
    have hmn := I2.1
    have H0 : Hid (TBSt w W0 an mn nb (some ⟨w.heap.size + 1, 0, none⟩) 1 1 [v] w2) := by
      have hsz : (W0.alloc (.cells #[.int .i64 v] 3)).heap.size = w.heap.size + 1 + 1 := by simp [hs0]
      exact ⟨own_up HOw.out hb2, I2, HBs.out.trans (hb2.mono (by rw [hsz]; omega)), HBw.out.trans (hb2.mono (by rw [hsz]; omega))⟩
    clear HAr ho2 hb2 HOw I2 x0 x1
    go_wp2
    go_loopw [7, 16] (fun r i wr => ∃ (j m c1 : Nat) (a1 : Option Addr) (out sk : List Int), j ≤ mn ∧ i = .int .i64 (j : Int) ∧ r = .slice a1 m c1 ∧ Hid (wkL (wk es n f) v fr (nb.drop j) out sk = some (t, sn)) ∧ Hid (TBSt w W0 an mn nb a1 m c1 out wr)) (fun _ i _ => mn - (intOf i).toNat)
    case atStart => exact ⟨0, 1, 1, _, [v], v :: seen, by omega, rfl, rfl, by show _ = _; rw [List.drop_zero]; exact HW.out, H0⟩
    case round =>
      obtain ⟨j, m, c1, a1, out, sk, hj, rfl, rfl, HG, HS⟩ := hrel
      clear H0 HW
      have hml := HS.out.len
      by_cases hlt : j < mn
      · obtain ⟨x, hx⟩ : ∃ x, nb[j]? = some x := ⟨nb[j]'(by omega), List.getElem?_eq_getElem (by omega)⟩
        have hd : nb.drop j = x :: nb.drop (j + 1) := by
          rw [List.drop_eq_getElem_cons (by omega)]
          congr 1
          rw [List.getElem?_eq_getElem (by omega)] at hx
          simpa using hx
        rw [hd] at HG
        rcases HS.out.nbs.2 with hz | ⟨b, off, rfl, hbl, hcl⟩
        · omega
        · have e0 : wr.cell? ⟨b, off + j, none⟩ = some (.int .i64 x) := hcl j x hx
          have b1 : (0 : Int) ≤ (j : Int) := by omega
          have b2 : (j : Int) < (mn : Int) := by omega
          by_cases hxf : x = fr
          · have d1 : (x != fr) = false := by simpa using hxf
            have HG2 : Hid (wkL (wk es n f) v fr (nb.drop (j + 1)) out sk = some (t, sn)) := by
              have := HG.out
              rw [wkL, if_pos hxf] at this
              exact this
            clear HG hd hx hcl hxf
            go_wp2
            exact ⟨⟨j + 1, m, c1, a1, out, sk, by omega, by go_num, rfl, HG2, HS⟩, by simp [intOf]; omega⟩
          · have d1 : (x != fr) = true := by simpa using hxf
            obtain ⟨p, hp, hgo⟩ := wkL_go hxf HG.out
            have hln := wkL_len hgo
            simp at hln
            have HG2 := hideIt hgo
            have HR := hideIt (IH.out x v sk wr p.1 p.2 hp (by omega) (HEs.out.up HS.out.low))
            obtain ⟨y0, y1⟩ := HBx.out wr HS.out.bel
            clear HG hd hx hcl hxf hp hgo
            go_wp2_with (go_at_call 273; refine HR.out.mono ?_; rintro e w4 ⟨a4, m4, c4, rfl, ho4, hb4⟩; refine Hid.out ?_)
            refine (show ∀ {p : Prop}, p → Hid p from fun h => h) ?_
            have I4 := Is_of_own ho4
            have hm4 : p.1.length = m4 := I4.1
            have T4 : Is w4 w4.heap.size a1 m out := (Is_of_own HS.out.own).up hb4
            have hz4 : w.heap.size + 1 ≤ wr.heap.size := by have := HS.out.bel.size; rw [hs0] at this; exact this
            have hz5 := hb4.size
            have HL : Hid (Calls Tryz.prog 315 #[.slice (some ⟨w4.heap.size + 1, 0, none⟩) 3 3] ((w4.alloc (.cells #[.int .i64 v] 3)).alloc (.cells #[.slice a1 m c1, .slice a4 m4 c4, .slice (some ⟨w4.heap.size, 0, none⟩) 1 1] 44))
                fun e u => ∃ g mm, e = .returned (.slice (some ⟨g, 0, none⟩) mm mm) ∧ TBSt w W0 (some ⟨b, off, none⟩) mn nb (some ⟨g, 0, none⟩) mm mm (out ++ p.1 ++ [v]) u) := by
              have hb0 : Below w4.heap.size w4 (w4.alloc (.cells #[.int .i64 v] 3)) := (Below.refl _ _).alloc (Nat.le_refl _) _
              have hP0 := parts3 (p1 := ⟨a1, m, c1, out⟩) (p2 := ⟨a4, m4, c4, p.1⟩) (p3 := ⟨some ⟨w4.heap.size, 0, none⟩, 1, 1, [v]⟩) (T4.up hb0) (I4.up hb0) (Is.single w4 v)
              have hs : (w4.alloc (.cells #[.int .i64 v] 3)).heap.size = w4.heap.size + 1 := by simp
              rw [hs] at hP0
              have hP : PartsI ((w4.alloc (.cells #[.int .i64 v] 3)).alloc (.cells #[.slice a1 m c1, .slice a4 m4 c4, .slice (some ⟨w4.heap.size, 0, none⟩) 1 1] 44)) (w4.heap.size + 1) [⟨a1, m, c1, out⟩, ⟨a4, m4, c4, p.1⟩, ⟨some ⟨w4.heap.size, 0, none⟩, 1, 1, [v]⟩] := hP0
              refine (laid_any _ _ 3 rfl (by omega) _ hP (by simp [qLen]; omega)).mono fun e u ⟨g, mm, he, ho, hb⟩ => ⟨g, mm, he, ?_⟩
              have hq : qAll [⟨a1, m, c1, out⟩, ⟨a4, m4, c4, p.1⟩, ⟨some ⟨w4.heap.size, 0, none⟩, 1, 1, [v]⟩] = out ++ p.1 ++ [v] := by simp [qAll]
              rw [hq] at ho
              have hbu : Below wr.heap.size wr u := (hb4.trans ((hb0.alloc (by simp) _).mono hz5)).trans (hb.mono (by simp; omega))
              exact ⟨own_mono ho (by simp; omega), HS.out.nbs.up hbu, HS.out.bel.trans (hbu.mono hz4), HS.out.low.trans (hbu.mono (by omega))⟩
            clear HR ho4 hb4 I4 T4 HS y0 y1 e0
            go_wp2_with (go_at_call 315; refine HL.out.mono ?_; rintro e w6 ⟨g6, m6, rfl, S6⟩)
            exact ⟨⟨j + 1, m6, m6, _, _, p.2, by omega, by go_num, rfl, HG2, hideIt S6⟩, by simp [intOf]; omega⟩
      · obtain rfl : j = mn := by omega
        have HT : Hid (out = t ∧ sk = sn) := by
          show _ ∧ _
          have := HG.out
          rw [List.drop_of_length_le (by omega), wkL] at this
          simpa using this
        clear HG
        go_wp2
        go_ret
        exact ⟨a1, m, c1, rfl, by rw [← HT.out.1]; exact HS.out.own, HS.out.low⟩
end Go.Proofs.YtkkplppcgnikoaaGreat
namespace Go.Proofs.YtkkplppcgnikoaaGreat
open Go.RowKit

theorem chk_of {n : Int} {es : List EdgeV} (h1 : ∀ e ∈ es, eB n e = true) (h2 : Asc es) : chk n es = true := chk_yes fun j hj => by
  have he : es[j]? = some es[j] := List.getElem?_eq_getElem hj
  have hb := h1 _ (List.getElem_mem hj)
  cases j with
  | zero => rw [chkAt_zero he]; exact hb
  | succ i =>
    have hd : es[i]? = some (es[i]'(by omega)) := List.getElem?_eq_getElem (by omega)
    rw [chkAt_succ he hd, hb, h2 i (i + 1) _ _ (by omega) hd he]
    rfl

end Go.Proofs.YtkkplppcgnikoaaGreat
namespace Go.Proofs.YtkkplppcgnikoaaGreat
open Go.RowKit

theorem wkGo_congr {rec : Int → Int → List Int → Option (List Int × List Int)} {es es' : List EdgeV} (h : ∀ e, e ∈ es ↔ e ∈ es') (n : Nat) (v fr : Int) (rem : Nat) (out seen : List Int) : wkGo rec es n v fr rem out seen = wkGo rec es' n v fr rem out seen := by
  induction rem generalizing out seen with
  | zero => rfl
  | succ rem ih =>
    rw [wkGo, wkGo]
    by_cases hc : ((n - (rem + 1) : Nat) : Int) = fr ∨ mkE v ((n - (rem + 1) : Nat) : Int) ∉ es
    · rw [if_pos hc, if_pos (by rw [← h]; exact hc)]; exact ih _ _
    · have hc' : ¬ (((n - (rem + 1) : Nat) : Int) = fr ∨ mkE v ((n - (rem + 1) : Nat) : Int) ∉ es') := by rw [← h]; exact hc
      rw [if_neg hc, if_neg hc']
      by_cases hs : ((n - (rem + 1) : Nat) : Int) ∈ seen
      · rw [if_pos hs, if_pos hs]
      · rw [if_neg hs, if_neg hs]
        cases rec ((n - (rem + 1) : Nat) : Int) v seen with
        | none => rfl
        | some x => exact ih _ _
theorem wk_congr {es es' : List EdgeV} (h : ∀ e, e ∈ es ↔ e ∈ es') (n f : Nat) : wk es n f = wk es' n f := by
  induction f with
  | zero => rfl
  | succ f ih =>
    funext v fr seen
    rw [wk, wk, ih]
    exact wkGo_congr h n v fr n _ _
theorem wkGo_root {rec : Int → Int → List Int → Option (List Int × List Int)} {es : List EdgeV} (n : Nat) {v : Int} (hv : mkE v v ∉ es) (rem : Nat) (out seen : List Int) : wkGo rec es n v v rem out seen = wkGo rec es n v (-1) rem out seen := by
  induction rem generalizing out seen with
  | zero => rfl
  | succ rem ih =>
    rw [wkGo, wkGo]
    by_cases hc : mkE v ((n - (rem + 1) : Nat) : Int) ∉ es
    · rw [if_pos (.inr hc), if_pos (.inr hc)]; exact ih _ _
    · have c1 : ¬ (((n - (rem + 1) : Nat) : Int) = v ∨ mkE v ((n - (rem + 1) : Nat) : Int) ∉ es) := by
        rintro (h1 | h1)
        · exact hc (by rw [h1]; exact hv)
        · exact hc h1
      have c2 : ¬ (((n - (rem + 1) : Nat) : Int) = -1 ∨ mkE v ((n - (rem + 1) : Nat) : Int) ∉ es) := by
        rintro (h1 | h1)
        · omega
        · exact hc h1
      rw [if_neg c1, if_neg c2]
      by_cases hs : ((n - (rem + 1) : Nat) : Int) ∈ seen
      · rw [if_pos hs, if_pos hs]
      · rw [if_neg hs, if_neg hs]
        cases rec ((n - (rem + 1) : Nat) : Int) v seen with
        | none => rfl
        | some x => exact ih _ _
theorem wk_root {es : List EdgeV} (n f : Nat) {v : Int} (hv : mkE v v ∉ es) (seen : List Int) : wk es n f v v seen = wk es n f v (-1) seen := by
  cases f with
  | zero => rfl
  | succ f => rw [wk, wk]; exact wkGo_root n hv n _ _

end Go.Proofs.YtkkplppcgnikoaaGreat
namespace Go.Proofs.YtkkplppcgnikoaaGreat
open Go.RowKit

set_option maxRecDepth 100000 in
set_option maxHeartbeats 4000000 in
theorem iTourOf_n (es : List EdgeV) (nn ne : Nat) (hn1 : 1 ≤ nn) (hn12 : nn ≤ 12) (a : Option Addr) (c : Nat) (r : Int) (t sn : List Int) (hne : ne ≤ 66) (hok : ∀ e ∈ es, eB (nn : Int) e = true) (hnd : es.Nodup) (hT : TreeP es) (hr0 : 0 ≤ r) (hr1 : r < (nn : Int)) (hwk : wk es nn nn r (-1) [] = some (t, sn)) (htl : t.length ≤ 1000) (w : World) (h : Es w w.heap.size a ne es) :
    Calls Tryz.prog 235 #[.int .i64 (nn : Int), .slice a ne c, .int .i64 r] w fun e w' => ∃ a' m c', e = .returned (.tuple #[.slice a' m c', .bool true]) ∧ w'.ownsRow w.heap.size 3 1 (.slice a' m c') m (ic t) ∧ Below w.heap.size w w' := by
  have HTr := hideIt (treesOk_any nn es ne a c (by omega) (by omega) (by omega) hok w h)
  have HY := hideIt hT
  have hlen := h.1
  have hE : ∀ e ∈ es, 0 ≤ e.1 ∧ e.1 < e.2 ∧ e.2 < (nn : Int) := fun e he => by have := hok e he; unfold eB at this; have := of_decide_eq_true this; omega
  have hGB : gB (nn : Int) (srtE es) = true := by
    unfold gB
    rw [chk_of (fun e he => hok e ((srtE_mem es e).1 he)) (srtE_asc hnd), decide_eq_true (show (1 : Int) ≤ (nn : Int) ∧ (nn : Int) ≤ 12 by omega), decide_eq_true (show (srtE es).length ≤ 66 by rw [srtE_len]; omega)]
    rfl
  have hvv : mkE r r ∉ srtE es := fun hm => by
    have := hE _ ((srtE_mem es _).1 hm)
    unfold mkE at this
    rw [if_neg (by omega)] at this
    simp at this
  have hwk2 : wk (srtE es) nn nn r r [] = some (t, sn) := by rw [wk_root nn nn hvv, wk_congr (srtE_mem es) nn nn]; exact hwk
  have HTB : Hid (∀ (m : Nat) (a : Option Addr) (c : Nat) (u : World), m ≤ 1000 → Es u u.heap.size a m (srtE es) → Calls Tryz.prog 273 #[.agg #[.int .i64 (nn : Int), .slice a m c], .int .i64 r, .int .i64 r] u fun e w' => ∃ a' m c', e = .returned (.slice a' m c') ∧ w'.ownsRow u.heap.size 3 1 (.slice a' m c') m (ic t) ∧ Below u.heap.size u w') := (fun (m : Nat) (a : Option Addr) (c : Nat) (u : World) (hm : m ≤ 1000) (hu : Es u u.heap.size a m (srtE es)) => tourBelow_any (srtE es) nn m a c hm hGB (fun e he => hE e ((srtE_mem es e).1 he)) nn r r [] u t sn hwk2 htl hu)
  have HEs := hideIt h
  have d1 : decide (r < 0) = false := decide_eq_false (by omega)
  have d2 : decide ((nn : Int) ≤ r) = false := decide_eq_false (by omega)
  clear h hok hT hnd hE hGB hvv hwk2 hwk
  go_enter Tryz.func235, Tryz.ntmps235
  go_wp2_with (go_at_call 272; refine HTr.out.mono ?_; rintro e w1 ⟨b, rfl, hb, hb1⟩; obtain rfl : b = true := hb.2 HY.out; refine Hid.out ?_)
  refine (show ∀ {p : Prop}, p → Hid p from fun h => h) ?_
  have HV := hideIt (valuesE_any a ne c w1)
  have hba : Below w1.heap.size w1 (w1.alloc (.cells #[.slice a ne c] 31)) := (Below.refl _ _).alloc (Nat.le_refl _) _
  have HS := hideIt (sortedFE_any es ne a c w1.heap.size (by omega) (w1.alloc (.cells #[.slice a ne c] 31)) (by simp) (by simp) ((HEs.out.up hb1).up hba))
  have HB1 := hideIt (hb1.trans (hba.mono hb1.size))
  have z1 := hb1.size
  clear HTr hb hb1 hba
  go_wp2_with (first | (go_at_call 103; refine HV.out.mono ?_; rintro e w2 ⟨rfl, rfl⟩) | (go_at_call 102; refine HS.out.mono ?_; rintro e w3 ⟨a3, c3, rfl, ho3, hb3⟩; refine Hid.out ?_))
  refine (show ∀ {p : Prop}, p → Hid p from fun h => h) ?_
  have B3 := HB1.out.trans (hb3.mono (by simp; omega))
  have hbx : Below w3.heap.size w3 (w3.alloc (.cells #[.int .i64 (nn : Int), .slice a3 ne c3] 33)) := (Below.refl _ _).alloc (Nat.le_refl _) _
  have HX := hideIt (HTB.out ne a3 c3 _ (by omega) ((Es_of_own ho3).up hbx))
  have HB4 := hideIt (B3.trans (hbx.mono B3.size))
  have z3 := B3.size
  clear HV HS ho3 hb3 B3 hbx HTB
  go_wp2_with (go_at_call 273; refine HX.out.mono ?_; rintro e w5 ⟨a5, m5, c5, rfl, ho5, hb5⟩)
  go_ret2
  exact ⟨a5, m5, c5, rfl, own_mono ho5 (by simp; omega), HB4.out.trans (hb5.mono (by simp; omega))⟩
end Go.Proofs.YtkkplppcgnikoaaGreat
namespace Go.Proofs.YtkkplppcgnikoaaGreat
open Go.RowKit

set_option maxHeartbeats 1000000 in
theorem minI_any (t : List Int) (n : Nat) (a : Option Addr) (c : Nat) (hn : n ≤ 3000000) (h0 : 0 < n) (w : World) (h : Is w w.heap.size a n t) :
    Calls Tryz.prog 316 #[.slice a n c] w fun e w' => ∃ x, e = .returned (.int .i64 x) ∧ (x ∈ t ∧ ∀ y ∈ t, x ≤ y) ∧ w' = w := by
  obtain ⟨hlen, hrow⟩ := h
  rcases hrow with hz | ⟨b, off, rfl, hbl, hc⟩
  · omega
  · obtain ⟨f0, hf0⟩ : ∃ f, t[0]? = some f := ⟨t[0]'(by omega), List.getElem?_eq_getElem (by omega)⟩
    have d0 : decide ((n : Int) < 1) = false := decide_eq_false (by omega)
    have e0 := hc 0 f0 hf0
    rw [Nat.add_zero] at e0
    have q1 : (0 : Int) < (n : Int) := by omega
    have HC := hideIt hc
    have HS : Hid (f0 ∈ t ∧ ∀ (j : Nat) (y : Int), j < 1 → t[j]? = some y → f0 ≤ y) := ⟨List.mem_of_getElem? hf0, fun j y hj hy => by
      obtain rfl : j = 0 := by omega
      rw [hf0] at hy
      cases hy
      exact Int.le_refl _⟩
    clear hc hf0
    go_enter Tryz.func316, Tryz.ntmps316
    go_wp2
    go_loopw [3, 4] (fun m i wr => ∃ (k : Nat) (x : Int), 1 ≤ k ∧ k ≤ n ∧ i = .int .i64 (k : Int) ∧ m = .int .i64 x ∧ Hid (x ∈ t ∧ ∀ (j : Nat) (y : Int), j < k → t[j]? = some y → x ≤ y) ∧ wr = w) (fun _ i _ => n - (intOf i).toNat)
    case atStart => exact ⟨1, f0, by omega, by omega, rfl, rfl, HS, rfl⟩
    case round =>
      obtain ⟨k, x, hk1, hk, rfl, rfl, HX, hw⟩ := hrel
      have hw' := hw.symm
      subst hw'
      clear hw HS e0
      by_cases hlt : k < n
      · obtain ⟨f, hf⟩ : ∃ f, t[k]? = some f := ⟨t[k]'(by omega), List.getElem?_eq_getElem (by omega)⟩
        have e1 := HC.out k f hf
        have b1 : (0 : Int) ≤ (k : Int) := by omega
        have b2 : (k : Int) < (n : Int) := by omega
        have HX2 : Hid (min x f ∈ t ∧ ∀ (j : Nat) (y : Int), j < k + 1 → t[j]? = some y → min x f ≤ y) := by
          obtain ⟨p1, p2⟩ := HX.out
          refine ⟨?_, fun j y hj hy => ?_⟩
          · by_cases hxf : x ≤ f
            · rw [Int.min_eq_left hxf]; exact p1
            · rw [Int.min_eq_right (by omega)]; exact List.mem_of_getElem? hf
          · by_cases hjk : j = k
            · rw [hjk, hf] at hy
              cases hy
              omega
            · have := p2 j y (by omega) hy
              omega
        clear hf HX
        go_wp2
        refine ⟨⟨k + 1, min x f, by omega, by omega, by go_num, ?_, HX2, by first | trivial | rfl⟩, by simp [intOf]; omega⟩
        first | rfl | (congr 1; split <;> omega)
      · obtain rfl : k = n := by omega
        have HX2 : Hid (x ∈ t ∧ ∀ y ∈ t, x ≤ y) := ⟨HX.out.1, fun y hy => by
          obtain ⟨j, hj⟩ := List.mem_iff_getElem?.1 hy
          exact HX.out.2 j y (by have := (List.getElem?_eq_some_iff.1 hj).1; omega) hj⟩
        clear HX
        go_wp2
        go_ret
        exact ⟨x, rfl, HX2.out, rfl⟩

theorem mn_le {t : List Int} (hB : tB t = true) {y : Int} (hy : y ∈ t) : mnV t ≤ y := by
  have hp := vs_pos hB
  have hx : (vsL t)[0]? = some ((vsL t)[0]'hp) := List.getElem?_eq_getElem hp
  rw [mn_first hx]
  obtain ⟨p, hp2⟩ := List.mem_iff_getElem?.1 ((vs_mem_of hB).2 hy)
  obtain ⟨p0, p1⟩ := List.getElem?_eq_some_iff.1 hp2
  by_cases e : p = 0
  · subst e
    rw [← p1]
    exact Int.le_refl _
  · have := List.pairwise_iff_getElem.1 (vsK_asc t 12) 0 p hp p0 (by omega)
    rw [show (vsK t 12)[p]'p0 = y from p1] at this
    exact Int.le_of_lt this
theorem mn_is {t : List Int} (hB : tB t = true) {x : Int} (h : x ∈ t ∧ ∀ y ∈ t, x ≤ y) : x = mnV t := Int.le_antisymm (h.2 _ (mn_mem hB)) (mn_le hB h.1)

theorem compareTrees_any (s t : List Int) (hs : tB s = true) (ht : tB t = true) (a a' : Option Addr) (c c' : Nat) (w : World) (h : Is w w.heap.size a s.length s) (h' : Is w w.heap.size a' t.length t) :
    Calls Tryz.prog 275 #[.slice a s.length c, .slice a' t.length c'] w fun e w' => e = .returned (.int .i64 (cmpI (mnV s) (mnV t))) ∧ w' = w := by
  have l1 := tB_len hs
  have l2 := tB_len ht
  have H1 := hideIt ((minI_any s s.length a c (by omega) (tB_pos hs) w h).mono fun e v ⟨x, he, hx, hv⟩ => (show e = Ending.returned (.int .i64 (mnV s)) ∧ v = w from ⟨by rw [he, mn_is hs hx], hv⟩))
  have H2 := hideIt ((minI_any t t.length a' c' (by omega) (tB_pos ht) w h').mono fun e v ⟨x, he, hx, hv⟩ => (show e = Ending.returned (.int .i64 (mnV t)) ∧ v = w from ⟨by rw [he, mn_is ht hx], hv⟩))
  have HC := hideIt (cmpCompare_any (mnV s) (mnV t) w)
  clear h h'
  go_enter Tryz.func275, Tryz.ntmps275
  go_wp2_with (first | (go_at_call 316; refine H1.out.mono ?_; rintro e w1 ⟨rfl, hw⟩; have hw' := hw.symm; subst hw'; clear hw H1) | (go_at_call 316; refine H2.out.mono ?_; rintro e w1 ⟨rfl, hw⟩; have hw' := hw.symm; subst hw'; clear hw H2) | (go_at_call 193; refine HC.out.mono ?_; rintro e w1 ⟨rfl, hw⟩; have hw' := hw.symm; subst hw'; clear hw))
  go_ret
  exact ⟨rfl, rfl⟩

/-- the tour at i is right, and its least vertex is above that of the one before it -/
def AsAt (ts : List (List Int)) (i : Nat) : Prop := ∀ t, ts[i]? = some t → tB t = true ∧ ∀ j s, j + 1 = i → ts[j]? = some s → mnV s < mnV t
def asP (ts : List (List Int)) : Prop := ∀ i, AsAt ts i
theorem cmpI_ge (x y : Int) : decide (0 ≤ cmpI x y) = !decide (x < y) := by
  by_cases h : x < y
  · have := (cmpI_neg x y).2 h
    rw [decide_eq_true h]
    exact decide_eq_false (by omega)
  · have := mt (cmpI_neg x y).1 h
    rw [decide_eq_false h]
    exact decide_eq_true (by omega)

set_option maxRecDepth 100000 in
set_option maxHeartbeats 4000000 in
theorem treesAscend_any (ts : List (List Int)) (n : Nat) (a : Option Addr) (c : Nat) (hn : n ≤ 3000000) (hm : ∀ t ∈ ts, t.length ≤ 3000000) (w : World) (h : Ts w w.heap.size a n ts) :
    Calls Tryz.prog 236 #[.slice a n c] w fun e w' => ∃ b, e = .returned (.bool b) ∧ (b = true ↔ asP ts) ∧ Below w.heap.size w w' := by
  have hlen := h.1
  have HA := hideIt h
  clear h
  go_enter Tryz.func236, Tryz.ntmps236
  go_wp2
  go_loopw [6] (fun i wr => ∃ k : Nat, k ≤ n ∧ i = .int .i64 (k : Int) ∧ Hid (∀ j, j < k → AsAt ts j) ∧ Good w wr) (fun i _ => n - (intOf i).toNat)
  case atStart => exact ⟨0, by omega, rfl, fun j hj => by omega, Good.refl _⟩
  case round =>
    obtain ⟨k, hk, rfl, HK, hg⟩ := hrel
    by_cases hlt : k < n
    · rcases (HA.out.up hg).2 with hz | ⟨b, off, rfl, hbl, hc⟩
      · omega
      · obtain ⟨t, ht⟩ : ∃ t, ts[k]? = some t := ⟨ts[k]'(by omega), List.getElem?_eq_getElem (by omega)⟩
        obtain ⟨x, cx, e0, i0, _⟩ := hc k t ht
        have b1 : (0 : Int) ≤ (k : Int) := by omega
        have b2 : (k : Int) < (n : Int) := by omega
        have HG := hideIt (fun u (hu : Good wr u) => hg.up hu)
        have hbd := (Good.refl wr).drew
        have HE := hideIt (fun W (hW : Good wr W) => (iTourOk_any t t.length x cx (hm t (List.mem_of_getElem? ht)) W (i0.up hW)).mono fun e v ⟨he, hb⟩ => (show e = Ending.returned (.bool (tB t)) ∧ Good wr v from ⟨he, hW.up hb⟩))
        cases hB : tB t with
        | false =>
          rw [hB] at HE
          have HN : Hid (¬ asP ts) := fun hp => by have := (hp k t ht).1; rw [hB] at this; cases this
          clear hc ht i0 hB HK
          go_wp2
          refine wp_region_any (by kernel_rfl) ?_
          change wpAny _ _ _ _ _ _ _ (World.drew _)
          refine takeOp (i := 0) (v := ?_) rfl (by kernel_rfl) (by kernel_rfl) (by kernel_rfl) (fun _ _ _ h => h) (by kernel_rfl) ?_ ?_
          rotate_left
          · intro w; go_simp; try with_reducible rfl
          refine wpAny_ready (rs := [1]) (by kernel_rfl) (by simp) ?_
          refine AllReady.cons rfl (fun K hK => ?_) AllReady.nil
          go_simp
          refine hK _ _ ?_
          clear hK K
          refine wpAny_ready (rs := [2]) (by kernel_rfl) (by simp) ?_
          refine AllReady.cons rfl (fun K hK => ?_) AllReady.nil
          go_simp
          refine hK _ _ ?_
          clear hK K
          refine wpAny_ready (rs := [3]) (by kernel_rfl) (by simp) ?_
          refine AllReady.cons rfl (fun K hK => ?_) AllReady.nil
          go_simp
          refine hK _ _ ?_
          clear hK K
          refine wpAny_ready (rs := [4]) (by kernel_rfl) (by simp) ?_
          refine AllReady.cons rfl (fun K hK => ?_) AllReady.nil
          go_wp2_with (go_at_call 274; refine (HE.out _ hbd).mono ?_; rintro e w1 ⟨rfl, hg1⟩; refine Hid.out ?_)
          refine (show ∀ {p : Prop}, p → Hid p from fun h => h) ?_
          try refine hK _ _ ?_
          clear hK K
          refine wpAny_ready (rs := [5]) (by kernel_rfl) (by simp) ?_
          refine AllReady.cons rfl (fun K hK => ?_) AllReady.nil
          go_simp
          refine hK _ _ ?_
          clear hK K
          refine wpAny_ready (rs := [6]) (by kernel_rfl) (by simp) ?_
          refine AllReady.cons rfl (fun K hK => ?_) AllReady.nil
          go_simp
          refine hK _ _ ?_
          clear hK K
          refine skipOp (i := 7) rfl (by kernel_rfl) (by kernel_rfl) (by kernel_rfl) (fun _ _ _ h => h) (by kernel_rfl) ?_
          refine skipOp (i := 8) rfl (by kernel_rfl) (by kernel_rfl) (by kernel_rfl) (fun _ _ _ h => h) (by kernel_rfl) ?_
          refine skipOp (i := 9) rfl (by kernel_rfl) (by kernel_rfl) (by kernel_rfl) (fun _ _ _ h => h) (by kernel_rfl) ?_
          refine skipOp (i := 10) rfl (by kernel_rfl) (by kernel_rfl) (by kernel_rfl) (fun _ _ _ h => h) (by kernel_rfl) ?_
          refine skipOp (i := 11) rfl (by kernel_rfl) (by kernel_rfl) (by kernel_rfl) (fun _ _ _ h => h) (by kernel_rfl) ?_
          refine skipOp (i := 12) rfl (by kernel_rfl) (by kernel_rfl) (by kernel_rfl) (fun _ _ _ h => h) (by kernel_rfl) ?_
          refine skipOp (i := 13) rfl (by kernel_rfl) (by kernel_rfl) (by kernel_rfl) (fun _ _ _ h => h) (by kernel_rfl) ?_
          refine skipOp (i := 14) rfl (by kernel_rfl) (by kernel_rfl) (by kernel_rfl) (fun _ _ _ h => h) (by kernel_rfl) ?_
          refine skipOp (i := 15) rfl (by kernel_rfl) (by kernel_rfl) (by kernel_rfl) (fun _ _ _ h => h) (by kernel_rfl) ?_
          refine skipOp (i := 16) rfl (by kernel_rfl) (by kernel_rfl) (by kernel_rfl) (fun _ _ _ h => h) (by kernel_rfl) ?_
          refine skipOp (i := 17) rfl (by kernel_rfl) (by kernel_rfl) (by kernel_rfl) (fun _ _ _ h => h) (by kernel_rfl) ?_
          refine skipOp (i := 18) rfl (by kernel_rfl) (by kernel_rfl) (by kernel_rfl) (fun _ _ _ h => h) (by kernel_rfl) ?_
          refine skipOp (i := 19) rfl (by kernel_rfl) (by kernel_rfl) (by kernel_rfl) (fun _ _ _ h => h) (by kernel_rfl) ?_
          refine skipOp (i := 20) rfl (by kernel_rfl) (by kernel_rfl) (by kernel_rfl) (fun _ _ _ h => h) (by kernel_rfl) ?_
          refine skipOp (i := 21) rfl (by kernel_rfl) (by kernel_rfl) (by kernel_rfl) (fun _ _ _ h => h) (by kernel_rfl) ?_
          refine wpAny_ready (rs := [22]) (by kernel_rfl) (by simp) ?_
          refine AllReady.cons rfl (fun K hK => ?_) AllReady.nil
          go_simp
          refine hK _ _ ?_
          clear hK K
          refine wpAny_done (by kernel_rfl) ?_ _
          go_wp2
          go_ret
          exact ⟨false, rfl, ⟨fun h => (by cases h), fun h => absurd h HN.out⟩, HG.out _ hg1⟩
        | true =>
          rw [hB] at HE
          rcases k with _ | i
          · have HY : Hid (AsAt ts 0) := fun t' ht' => by
              rw [ht] at ht'
              cases ht'
              exact ⟨hB, fun j s hj => by omega⟩
            rw [Nat.add_zero] at e0
            clear hc ht i0 hB
            go_wp2
            refine wp_region_any (by kernel_rfl) ?_
            change wpAny _ _ _ _ _ _ _ (World.drew _)
            refine takeOp (i := 0) (v := ?_) rfl (by kernel_rfl) (by kernel_rfl) (by kernel_rfl) (fun _ _ _ h => h) (by kernel_rfl) ?_ ?_
            rotate_left
            · intro w; go_simp; try with_reducible rfl
            refine wpAny_ready (rs := [1]) (by kernel_rfl) (by simp) ?_
            refine AllReady.cons rfl (fun K hK => ?_) AllReady.nil
            go_simp
            refine hK _ _ ?_
            clear hK K
            refine wpAny_ready (rs := [2]) (by kernel_rfl) (by simp) ?_
            refine AllReady.cons rfl (fun K hK => ?_) AllReady.nil
            go_simp
            refine hK _ _ ?_
            clear hK K
            refine wpAny_ready (rs := [3]) (by kernel_rfl) (by simp) ?_
            refine AllReady.cons rfl (fun K hK => ?_) AllReady.nil
            go_simp
            refine hK _ _ ?_
            clear hK K
            refine wpAny_ready (rs := [4]) (by kernel_rfl) (by simp) ?_
            refine AllReady.cons rfl (fun K hK => ?_) AllReady.nil
            go_wp2_with (go_at_call 274; refine (HE.out _ hbd).mono ?_; rintro e w1 ⟨rfl, hg1⟩; refine Hid.out ?_)
            refine (show ∀ {p : Prop}, p → Hid p from fun h => h) ?_
            try refine hK _ _ ?_
            clear hK K
            refine wpAny_ready (rs := [5]) (by kernel_rfl) (by simp) ?_
            refine AllReady.cons rfl (fun K hK => ?_) AllReady.nil
            go_simp
            refine hK _ _ ?_
            clear hK K
            refine wpAny_ready (rs := [6]) (by kernel_rfl) (by simp) ?_
            refine AllReady.cons rfl (fun K hK => ?_) AllReady.nil
            go_simp
            refine hK _ _ ?_
            clear hK K
            refine wpAny_ready (rs := [7]) (by kernel_rfl) (by simp) ?_
            refine AllReady.cons rfl (fun K hK => ?_) AllReady.nil
            go_simp
            refine hK _ _ ?_
            clear hK K
            refine wpAny_ready (rs := [8]) (by kernel_rfl) (by simp) ?_
            refine AllReady.cons rfl (fun K hK => ?_) AllReady.nil
            go_simp
            refine hK _ _ ?_
            clear hK K
            refine wpAny_ready (rs := [9]) (by kernel_rfl) (by simp) ?_
            refine AllReady.cons rfl (fun K hK => ?_) AllReady.nil
            go_simp
            refine hK _ _ ?_
            clear hK K
            refine skipOp (i := 10) rfl (by kernel_rfl) (by kernel_rfl) (by kernel_rfl) (fun _ _ _ h => h) (by kernel_rfl) ?_
            refine skipOp (i := 11) rfl (by kernel_rfl) (by kernel_rfl) (by kernel_rfl) (fun _ _ _ h => h) (by kernel_rfl) ?_
            refine skipOp (i := 12) rfl (by kernel_rfl) (by kernel_rfl) (by kernel_rfl) (fun _ _ _ h => h) (by kernel_rfl) ?_
            refine skipOp (i := 13) rfl (by kernel_rfl) (by kernel_rfl) (by kernel_rfl) (fun _ _ _ h => h) (by kernel_rfl) ?_
            refine skipOp (i := 14) rfl (by kernel_rfl) (by kernel_rfl) (by kernel_rfl) (fun _ _ _ h => h) (by kernel_rfl) ?_
            refine skipOp (i := 15) rfl (by kernel_rfl) (by kernel_rfl) (by kernel_rfl) (fun _ _ _ h => h) (by kernel_rfl) ?_
            refine skipOp (i := 16) rfl (by kernel_rfl) (by kernel_rfl) (by kernel_rfl) (fun _ _ _ h => h) (by kernel_rfl) ?_
            refine skipOp (i := 17) rfl (by kernel_rfl) (by kernel_rfl) (by kernel_rfl) (fun _ _ _ h => h) (by kernel_rfl) ?_
            refine skipOp (i := 18) rfl (by kernel_rfl) (by kernel_rfl) (by kernel_rfl) (fun _ _ _ h => h) (by kernel_rfl) ?_
            refine skipOp (i := 19) rfl (by kernel_rfl) (by kernel_rfl) (by kernel_rfl) (fun _ _ _ h => h) (by kernel_rfl) ?_
            refine skipOp (i := 20) rfl (by kernel_rfl) (by kernel_rfl) (by kernel_rfl) (fun _ _ _ h => h) (by kernel_rfl) ?_
            refine wpAny_ready (rs := [21]) (by kernel_rfl) (by simp) ?_
            refine AllReady.cons rfl (fun K hK => ?_) AllReady.nil
            go_simp
            refine hK _ _ ?_
            clear hK K
            refine wpAny_ready (rs := [22]) (by kernel_rfl) (by simp) ?_
            refine AllReady.cons rfl (fun K hK => ?_) AllReady.nil
            go_simp
            refine hK _ _ ?_
            clear hK K
            refine wpAny_done (by kernel_rfl) ?_ _
            go_wp2
            exact ⟨⟨1, by omega, by go_num, fun j hj => by
              obtain rfl : j = 0 := by omega
              exact HY.out, HG.out _ hg1⟩, by simp [intOf]; omega⟩
          · obtain ⟨s, hs⟩ : ∃ s, ts[i]? = some s := ⟨ts[i]'(by omega), List.getElem?_eq_getElem (by omega)⟩
            obtain ⟨y, cy, e1, i1, _⟩ := hc i s hs
            have hBs := (HK.out i (by omega) s hs).1
            have HL := hideIt (fun W (hW : Good wr W) => (compareTrees_any s t hBs hB y x cy cx W (i1.up hW) (i0.up hW)).mono fun e v ⟨he, hb⟩ => (show e = Ending.returned (.int .i64 (cmpI (mnV s) (mnV t))) ∧ Good wr v from ⟨he, by rw [hb]; exact hW⟩))
            have HC : Hid (∀ u, Good wr u → u.cell? ⟨b, off + (i + 1), none⟩ = some (.slice x t.length cx) ∧ u.cell? ⟨b, off + i, none⟩ = some (.slice y s.length cy)) := fun u hu => ⟨by rw [hu.cell hbl]; exact e0, by rw [hu.cell hbl]; exact e1⟩
            have hS0 := HC.out _ hbd
            have ek : ((i + 1 : Nat) : Int) = (i : Int) + 1 := by omega
            rw [ek] at b1 b2
            have b3 : (0 : Int) ≤ (i : Int) := by omega
            have b4 : (i : Int) < (n : Int) := by omega
            have tn : ((i : Int) + 1).toNat = i + 1 := by omega
            have d0 : decide ((0 : Int) < (i : Int) + 1) = true := decide_eq_true (by omega)
            have hw1 : IntKind.i64.wrap (i : Int) = (i : Int) := by rw [IntKind.wrap_i64]; omega
            rw [ek]
            have dc := cmpI_ge (mnV s) (mnV t)
            by_cases hL : mnV s < mnV t
            · rw [decide_eq_true hL] at dc
              have HY : Hid (AsAt ts (i + 1)) := fun t' ht' => by
                rw [ht] at ht'
                cases ht'
                exact ⟨hB, fun j s' hj hs' => by
                  obtain rfl : j = i := by omega
                  rw [hs] at hs'
                  cases hs'
                  exact hL⟩
              clear ek hc ht hs i0 i1 hB hBs hL e0 e1
              generalize cmpI (mnV s) (mnV t) = cv at HL dc
              go_wp2
              go_region_held3 (fun u => u.cell? ⟨b, off + (i + 1), none⟩ = some (.slice x t.length cx) ∧ u.cell? ⟨b, off + i, none⟩ = some (.slice y s.length cy))
                (first | assumption)
                (first
                | (go_at_call 274; refine (HE.out _ hbd).mono ?_; rintro e w1 ⟨rfl, hg1⟩; have hS1 := HC.out _ hg1)
                | (go_at_call 275; refine (HL.out _ hg1).mono ?_; rintro e w2 ⟨rfl, hg2⟩; have hS2 := HC.out _ hg2))
              all_goals
                go_wp2
                exact ⟨⟨i + 2, by omega, by go_num, fun j hj => by
                  by_cases hji : j = i + 1
                  · subst hji; exact HY.out
                  · exact HK.out j (by omega), HG.out _ hg2⟩, by simp [intOf]; omega⟩
            · rw [decide_eq_false hL] at dc
              have HN : Hid (¬ asP ts) := fun hp => hL ((hp (i + 1) t ht).2 i s rfl hs)
              clear ek hc ht hs i0 i1 hB hBs hL e0 e1
              generalize cmpI (mnV s) (mnV t) = cv at HL dc
              go_wp2
              go_region_held3 (fun u => u.cell? ⟨b, off + (i + 1), none⟩ = some (.slice x t.length cx) ∧ u.cell? ⟨b, off + i, none⟩ = some (.slice y s.length cy))
                (first | assumption)
                (first
                | (go_at_call 274; refine (HE.out _ hbd).mono ?_; rintro e w1 ⟨rfl, hg1⟩; have hS1 := HC.out _ hg1)
                | (go_at_call 275; refine (HL.out _ hg1).mono ?_; rintro e w2 ⟨rfl, hg2⟩; have hS2 := HC.out _ hg2))
              all_goals
                go_wp2
                go_ret
                exact ⟨false, rfl, ⟨fun h => (by cases h), fun h => absurd h HN.out⟩, HG.out _ hg2⟩
    · obtain rfl : k = n := by omega
      have HY : Hid (asP ts) := fun i t ht => HK.out i (by have := (List.getElem?_eq_some_iff.1 ht).1; omega) t ht
      clear HK
      go_wp2
      go_ret
      exact ⟨true, rfl, ⟨fun _ => HY.out, fun _ => rfl⟩, hg⟩
end Go.Proofs.YtkkplppcgnikoaaGreat
namespace Go.Proofs.YtkkplppcgnikoaaGreat
open Go.RowKit

def rangeI (n : Nat) : List Int := (List.range n).map fun j : Nat => (j : Int)
theorem rangeI_len (n : Nat) : (rangeI n).length = n := by simp [rangeI]
theorem rangeI_at {n k : Nat} (h : k < n) : (rangeI n)[k]? = some (k : Int) := by simp [rangeI, h]
theorem rangeI_mem (n : Nat) (x : Int) : x ∈ rangeI n ↔ 0 ≤ x ∧ x < (n : Int) := by
  simp only [rangeI, List.mem_map, List.mem_range]
  constructor
  · rintro ⟨j, hj, rfl⟩
    omega
  · rintro ⟨h1, h2⟩
    exact ⟨x.toNat, by omega, by omega⟩
theorem rangeI_asc (n : Nat) : (rangeI n).Pairwise (· < ·) := by
  unfold rangeI
  rw [List.pairwise_map]
  exact List.Pairwise.imp (fun h => by omega) (List.pairwise_lt_range (n := n))
/-- all vertices -/
def allV (ts : List (List Int)) : List Int := ts.flatMap vsL
theorem allV_cons (t : List Int) (r : List (List Int)) : allV (t :: r) = vsL t ++ allV r := by simp [allV]
theorem allV_snoc (ts : List (List Int)) (t : List Int) : allV (ts ++ [t]) = allV ts ++ vsL t := by simp [allV]
theorem allV_len (ts : List (List Int)) : (allV ts).length = cnt ts := by
  induction ts with
  | nil => simp [cnt, allV]
  | cons t r ih =>
    rw [allV_cons, List.length_append, ih]
    simp [cnt]
theorem allV_nodup {ts : List (List Int)} (h : ts.Pairwise Apart) : (allV ts).Nodup := by
  induction ts with
  | nil => simp [allV]
  | cons t r ih =>
    rw [List.pairwise_cons] at h
    rw [allV_cons, List.nodup_append]
    refine ⟨vs_nodup t, ih h.2, fun y hy z hz e => ?_⟩
    subst e
    obtain ⟨s, hs, hys⟩ := List.mem_flatMap.1 hz
    exact h.1 s hs y ((vsL_mem t y).1 hy).2 ((vsL_mem s y).1 hys).2
theorem apart_of_nodup {ts : List (List Int)} (hB : ∀ t ∈ ts, tB t = true) (h : (allV ts).Nodup) : ts.Pairwise Apart := by
  induction ts with
  | nil => exact List.Pairwise.nil
  | cons t r ih =>
    rw [allV_cons, List.nodup_append] at h
    rw [List.pairwise_cons]
    refine ⟨fun s hs x hx hxs => ?_, ih (fun s hs => hB s (by simp [hs])) h.2.1⟩
    exact h.2.2 x ((vs_mem_of (hB t (by simp))).2 hx) x (List.mem_flatMap.2 ⟨s, hs, (vs_mem_of (hB s (by simp [hs]))).2 hxs⟩) rfl
/-- sorted -/
def srtI (l : List Int) : List Int := l.mergeSort fun x y => decide (x ≤ y)
theorem srtI_perm (l : List Int) : (srtI l).Perm l := List.mergeSort_perm _ _
theorem srtI_le (l : List Int) : (srtI l).Pairwise fun x y => x ≤ y := by
  have h := List.pairwise_mergeSort (le := fun x y : Int => decide (x ≤ y)) (fun a b c h1 h2 => by simp at *; omega) (fun a b => by simp; omega) l
  exact h.imp fun h => by simpa using h
theorem sh_iff {N : Nat} {ts : List (List Int)} (hB : ∀ t ∈ ts, tB t = true) : FQ (N : Int) ts ↔ srtI (allV ts) = rangeI N := by
  have hp := srtI_perm (allV ts)
  constructor
  · intro h
    have hn : (srtI (allV ts)).Nodup := hp.nodup_iff.2 (allV_nodup h.2.1)
    have hlt : (srtI (allV ts)).Pairwise (· < ·) := by
      have h2 := (srtI_le (allV ts)).and hn
      exact h2.imp fun ⟨h3, h4⟩ => by omega
    refine asc_ext hlt (rangeI_asc N) fun x => ?_
    rw [hp.mem_iff, rangeI_mem]
    constructor
    · intro hx
      obtain ⟨t, ht, hxt⟩ := List.mem_flatMap.1 hx
      obtain ⟨v1, v2⟩ := (vsL_mem t x).1 hxt
      have v1 := of_decide_eq_true (show decide (0 ≤ x ∧ x < 12) = true from v1)
      exact ⟨v1.1, (h.1 t ht).2 x v2⟩
    · rintro ⟨h1, h2⟩
      obtain ⟨t, ht, hx⟩ := h.cover h1 h2
      exact List.mem_flatMap.2 ⟨t, ht, (vs_mem_of (hB t ht)).2 hx⟩
  · intro h
    rw [h] at hp
    have hn : (allV ts).Nodup := hp.nodup_iff.1 ((rangeI_asc N).imp fun h => by omega)
    refine ⟨fun t ht => ⟨hB t ht, fun x hx => ?_⟩, apart_of_nodup hB hn, ?_⟩
    · exact ((rangeI_mem N x).1 (hp.mem_iff.2 (List.mem_flatMap.2 ⟨t, ht, (vs_mem_of (hB t ht)).2 hx⟩))).2
    · rw [← allV_len, ← hp.length_eq, rangeI_len]
theorem asP_B {ts : List (List Int)} (h : asP ts) : ∀ t ∈ ts, tB t = true := fun t ht => by
  obtain ⟨i, hi⟩ := List.mem_iff_getElem?.1 ht
  exact (h i t hi).1
theorem asP_asc {ts : List (List Int)} (h : asP ts) : ts.Pairwise fun s t => mnV s < mnV t := asc_all fun i t j s ht hj hs => (h i t ht).2 j s hj hs
theorem asP_of {ts : List (List Int)} (hB : ∀ t ∈ ts, tB t = true) (h : ts.Pairwise fun s t => mnV s < mnV t) : asP ts := fun i t ht => by
  refine ⟨hB t (List.mem_of_getElem? ht), fun j s hj hs => ?_⟩
  obtain ⟨hi, e⟩ := List.getElem?_eq_some_iff.1 ht
  obtain ⟨hj2, e2⟩ := List.getElem?_eq_some_iff.1 hs
  have := List.pairwise_iff_getElem.1 h j i hj2 hi (by omega)
  rw [e, e2] at this
  exact this
theorem asP_len {ts : List (List Int)} (h : asP ts) : ts.length ≤ 12 := by
  have h1 : (ts.map mnV).Nodup := by
    refine (List.pairwise_map.2 ((asP_asc h).imp fun h => ?_) : (ts.map mnV).Pairwise (· ≠ ·))
    omega
  have h2 := nd_sub (b := rangeI 12) h1 fun x hx => by
    obtain ⟨t, ht, rfl⟩ := List.mem_map.1 hx
    have h3 := ((tB_iff t).1 (asP_B h t ht)).1 _ (mn_mem (asP_B h t ht))
    have h3 := of_decide_eq_true (show decide (0 ≤ mnV t ∧ mnV t < 12) = true from h3)
    exact (rangeI_mem 12 _).2 h3
  rw [List.length_map, rangeI_len] at h2
  exact h2
/-- a right forest, as the program looks -/
theorem FP_prog (N : Int) (ts : List (List Int)) : FP N ts ↔ (1 ≤ N ∧ N ≤ 12) ∧ asP ts ∧ (srtI (allV ts) = rangeI (srtI (allV ts)).length ∧ ((srtI (allV ts)).length : Int) = N) := by
  rw [FP_iff]
  constructor
  · rintro ⟨h1, h2, h3, h4⟩
    have hA := asP_of (fun t ht => (h3.1 t ht).1) h4
    obtain ⟨M, rfl⟩ : ∃ M : Nat, N = (M : Int) := ⟨N.toNat, by omega⟩
    have h5 := (sh_iff (asP_B hA)).1 h3
    exact ⟨⟨h1, h2⟩, hA, by rw [h5, rangeI_len], by rw [h5, rangeI_len]⟩
  · rintro ⟨⟨h1, h2⟩, hA, h3, h4⟩
    refine ⟨h1, h2, ?_, asP_asc hA⟩
    rw [← h4]
    exact (sh_iff (asP_B hA)).2 h3
end Go.Proofs.YtkkplppcgnikoaaGreat
