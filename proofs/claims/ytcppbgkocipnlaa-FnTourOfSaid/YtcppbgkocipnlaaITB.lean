/- The program's tourBelow. -/
import Derived.Test.YtcppbgkocipnlaaWk
import Derived.Test.YtcppbgkocipnlaaVerts
import Derived.Test.YtcppbgkocipnlaaRer
import Derived.Test.YtcppbgkocipnlaaIArn6
namespace Go.Proofs.Ytcppbgkocipnlaa
open Go.RowKit

/-- the walk over a list of neighbours -/
def wkL (rec : Int → Int → List Int → Option (List Int × List Int)) (v fr : Int) : List Int → List Int → List Int → Option (List Int × List Int)
  | [], out, seen => some (out, seen)
  | u :: r, out, seen =>
    if u = fr then wkL rec v fr r out seen
    else if u ∈ seen then none
    else match rec u v seen with
      | none => none
      | some x => wkL rec v fr r (out ++ x.1 ++ [v]) x.2
/-- the neighbours from n - rem on -/
def nbK (es : List EdgeV) (v : Int) (n : Nat) : Nat → List Int
  | 0 => []
  | rem + 1 => if mkE v ((n - (rem + 1) : Nat) : Int) ∈ es then ((n - (rem + 1) : Nat) : Int) :: nbK es v n rem else nbK es v n rem
theorem wkGo_L (rec : Int → Int → List Int → Option (List Int × List Int)) (es : List EdgeV) (n : Nat) (v fr : Int) (rem : Nat) (out seen : List Int) : wkGo rec es n v fr rem out seen = wkL rec v fr (nbK es v n rem) out seen := by
  induction rem generalizing out seen with
  | zero => rfl
  | succ rem ih =>
    rw [wkGo, nbK]
    by_cases h : mkE v ((n - (rem + 1) : Nat) : Int) ∈ es
    · rw [if_pos h]
      by_cases h2 : ((n - (rem + 1) : Nat) : Int) = fr
      · rw [if_pos (.inl h2), wkL, if_pos h2]; exact ih _ _
      · rw [if_neg (by rintro (h3 | h3); exact h2 h3; exact h3 h), wkL, if_neg h2]
        by_cases h4 : ((n - (rem + 1) : Nat) : Int) ∈ seen
        · rw [if_pos h4, if_pos h4]
        · rw [if_neg h4, if_neg h4]
          cases rec ((n - (rem + 1) : Nat) : Int) v seen with
          | none => rfl
          | some x => exact ih _ _
    · rw [if_neg h, if_pos (.inr h)]; exact ih _ _
theorem nbK_mem (es : List EdgeV) (v : Int) (n rem : Nat) (hr : rem ≤ n) (x : Int) : x ∈ nbK es v n rem ↔ ((n - rem : Nat) : Int) ≤ x ∧ x < (n : Int) ∧ mkE v x ∈ es := by
  induction rem with
  | zero => simp [nbK]; omega
  | succ rem ih =>
    rw [nbK]
    have ih := ih (by omega)
    by_cases h : mkE v ((n - (rem + 1) : Nat) : Int) ∈ es
    · rw [if_pos h, List.mem_cons, ih]
      constructor
      · rintro (rfl | ⟨h1, h2, h3⟩)
        · exact ⟨by omega, by omega, h⟩
        · exact ⟨by omega, h2, h3⟩
      · rintro ⟨h1, h2, h3⟩
        by_cases e : x = ((n - (rem + 1) : Nat) : Int)
        · exact .inl e
        · exact .inr ⟨by omega, h2, h3⟩
    · rw [if_neg h, ih]
      constructor
      · rintro ⟨h1, h2, h3⟩; exact ⟨by omega, h2, h3⟩
      · rintro ⟨h1, h2, h3⟩
        have : x ≠ ((n - (rem + 1) : Nat) : Int) := fun e => h (e ▸ h3)
        exact ⟨by omega, h2, h3⟩
theorem nbK_asc (es : List EdgeV) (v : Int) (n rem : Nat) (hr : rem ≤ n) : (nbK es v n rem).Pairwise (· < ·) := by
  induction rem with
  | zero => simp [nbK]
  | succ rem ih =>
    rw [nbK]
    have ih := ih (by omega)
    split
    · rw [List.pairwise_cons]
      refine ⟨fun y hy => ?_, ih⟩
      have := (nbK_mem es v n rem (by omega) y).1 hy
      omega
    · exact ih
theorem nb_ar {es : List EdgeV} {n : Nat} (hE : ∀ e ∈ es, 0 ≤ e.1 ∧ e.1 < e.2 ∧ e.2 < (n : Int)) (v : Int) : nbK es v n n = arS es v n := by
  refine asc_ext (nbK_asc es v n n (Nat.le_refl _)) ?_ fun x => ?_
  · unfold arS
    refine List.Pairwise.filter _ ?_
    rw [List.pairwise_map]
    exact List.Pairwise.imp (fun h => by omega) (List.pairwise_lt_range (n := n))
  · rw [nbK_mem es v n n (Nat.le_refl _)]
    unfold arS
    simp only [List.mem_filter, List.mem_map, List.mem_range, hasB, Bool.or_eq_true, decide_eq_true_eq]
    constructor
    · rintro ⟨h1, h2, h3⟩
      refine ⟨⟨x.toNat, by omega, by omega⟩, ?_⟩
      rcases mkE_ends v x with e | e
      · rw [e] at h3; exact .inr h3
      · rw [e] at h3; exact .inl h3
    · rintro ⟨⟨j, hj, rfl⟩, h3⟩
      refine ⟨by omega, by omega, ?_⟩
      unfold mkE
      rcases h3 with h3 | h3
      · have := hE _ h3
        simp at this
        rw [if_neg (by omega)]; exact h3
      · have := hE _ h3
        simp at this
        rw [if_pos (by omega)]; exact h3
theorem wkL_len {rec : Int → Int → List Int → Option (List Int × List Int)} {v fr : Int} {nb out seen t sn : List Int} (h : wkL rec v fr nb out seen = some (t, sn)) : out.length ≤ t.length := by
  induction nb generalizing out seen with
  | nil => simp [wkL] at h; rw [h.1]; exact Nat.le_refl _
  | cons u r ih =>
    rw [wkL] at h
    split at h
    · exact ih h
    · split at h
      · simp at h
      · cases hr : rec u v seen with
        | none => rw [hr] at h; simp at h
        | some p =>
          rw [hr] at h
          have := ih h
          simp at this
          omega
theorem wkL_go {rec : Int → Int → List Int → Option (List Int × List Int)} {v fr u : Int} {r out seen : List Int} {x : List Int × List Int} (h1 : u ≠ fr) (h : wkL rec v fr (u :: r) out seen = some x) : ∃ p, rec u v seen = some p ∧ wkL rec v fr r (out ++ p.1 ++ [v]) p.2 = some x := by
  rw [wkL, if_neg h1] at h
  split at h
  · simp at h
  · cases hr : rec u v seen with
    | none => rw [hr] at h; simp at h
    | some p => rw [hr] at h; exact ⟨p, rfl, h⟩

/-- the tour in the making, and the neighbours, stand -/
structure TBSt (w : World) (W0 : World) (an : Option Addr) (mn : Nat) (nb : List Int) (a : Option Addr) (m c : Nat) (out : List Int) (u : World) : Prop where
  own : u.ownsRow w.heap.size 3 1 (.slice a m c) m (ic out)
  nbs : Is u u.heap.size an mn nb
  bel : Below (w.heap.size + 1) W0 u
  low : Below w.heap.size w u
theorem TBSt.len {w W0 : World} {an : Option Addr} {mn : Nat} {nb : List Int} {a : Option Addr} {m c : Nat} {out : List Int} {u : World} (h : TBSt w W0 an mn nb a m c out u) : out.length = m := by have := h.own.1; rw [ic_len] at this; omega
set_option maxRecDepth 100000 in
set_option maxHeartbeats 8000000 in
theorem tourBelow_any (es : List EdgeV) (n ne : Nat) (a : Option Addr) (c : Nat) (hne : ne ≤ 1000) (hG : gB (n : Int) es = true) (hE : ∀ e ∈ es, 0 ≤ e.1 ∧ e.1 < e.2 ∧ e.2 < (n : Int)) (f : Nat) : ∀ (v fr : Int) (seen : List Int) (w : World) (t sn : List Int), wk es n f v fr seen = some (t, sn) → t.length ≤ 1000 → Es w w.heap.size a ne es →
    Calls Try.prog 47 #[.agg #[.int .i64 (n : Int), .slice a ne c], .int .i64 v, .int .i64 fr] w fun e w' => ∃ a' m c', e = .returned (.slice a' m c') ∧ w'.ownsRow w.heap.size 3 1 (.slice a' m c') m (ic t) ∧ Below w.heap.size w w' := by
  have hn12 := (gB_chk hG).1
  induction f with
  | zero => intro v fr seen w t sn h; simp [wk] at h
  | succ f ih =>
    intro v fr seen w t sn hwk htl hes
    have IH := hideIt ih
    clear ih
    rw [wk, wkGo_L, nb_ar hE] at hwk
    have hb0 : Below w.heap.size w (w.alloc (.cells #[.int .i64 (n : Int), .slice a ne c] 65)) := (Below.refl _ _).alloc (Nat.le_refl _) _
    have hs0 : (w.alloc (.cells #[.int .i64 (n : Int), .slice a ne c] 65)).heap.size = w.heap.size + 1 := by simp
    have hbx : (w.alloc (.cells #[.int .i64 (n : Int), .slice a ne c] 65)).heap[w.heap.size]? = some (.cells #[.int .i64 (n : Int), .slice a ne c] 65 (0, 0)) := heap_alloc_new w _
    obtain ⟨W0, hW0⟩ : ∃ W0, W0 = w.alloc (.cells #[.int .i64 (n : Int), .slice a ne c] 65) := ⟨_, rfl⟩
    rw [← hW0] at hb0 hs0 hbx
    have hb1 : Below W0.heap.size W0 (W0.alloc (.cells #[.int .i64 v] 3)) := (Below.refl _ _).alloc (Nat.le_refl _) _
    have HBx : Hid (∀ u, Below (w.heap.size + 1) W0 u → u.cell? ⟨w.heap.size, 0, none⟩ = some (.int .i64 (n : Int)) ∧ u.cell? ⟨w.heap.size, 1, none⟩ = some (.slice a ne c)) := fun u hu =>
      ⟨by rw [hu.cell (p := ⟨w.heap.size, 0, none⟩) (by show w.heap.size < _; omega), cell_of_row _ _ 0 _ _ _ hbx]; rfl, by rw [hu.cell (p := ⟨w.heap.size, 1, none⟩) (by show w.heap.size < _; omega), cell_of_row _ _ 1 _ _ _ hbx]; rfl⟩
    rw [hs0] at hb1
    obtain ⟨x0, x1⟩ := HBx.out _ hb1
    have hB1 : Below w.heap.size w (W0.alloc (.cells #[.int .i64 v] 3)) := hb0.trans (hb1.mono (by omega))
    have HA := iAround_any (n : Int) es v ne a c (by omega) _ (hes.up hB1)
    unfold arE at HA
    rw [if_pos hG, Int.toNat_natCast] at HA
    have HAr := hideIt HA
    have hal := arS_len es v n
    have HW := hideIt hwk
    have HEs := hideIt hes
    have HB0 := hideIt hb0
    have HBs := hideIt hb1
    have HBw := hideIt hB1
    clear hes hwk HA hb0 hb1 hbx hB1
    generalize arS es v n = nb at HAr HW hal
    go_enter Try.func47, Try.ntmps47
    go_upto_region 2 with fail
    rw [← hW0]
    have HOw : Hid ((W0.alloc (.cells #[.int .i64 v] 3)).ownsRow w.heap.size 3 1 (.slice (some ⟨w.heap.size + 1, 0, none⟩) 1 1) 1 (ic [v])) := by
      have o1 := World.ownsRow_lit (base := w.heap.size) (e := 3) (size := 1) W0 #[.int .i64 v] 1 (by omega) (by unfold maxLen; omega) (by simp)
      rw [hs0] at o1
      show World.ownsRow _ _ _ _ _ _ _
      simpa [ic] using o1
    clear hW0
    go_wp2_with (go_at_call 73; refine HAr.out.mono ?_; rintro e w2 ⟨an, mn, cn, rfl, ho2, hb2⟩; refine Hid.out ?_)
    refine (show ∀ {p : Prop}, p → Hid p from fun h => h) ?_
    have I2 := Is_of_own ho2
    have hmn := I2.1
    have H0 : Hid (TBSt w W0 an mn nb (some ⟨w.heap.size + 1, 0, none⟩) 1 1 [v] w2) := by
      have hsz : (W0.alloc (.cells #[.int .i64 v] 3)).heap.size = w.heap.size + 1 + 1 := by simp [hs0]
      exact ⟨own_up HOw.out hb2, I2, HBs.out.trans (hb2.mono (by rw [hsz]; omega)), HBw.out.trans (hb2.mono (by rw [hsz]; omega))⟩
    clear HAr ho2 hb2 HOw I2 x0 x1
    go_wp2
    go_loopw [7, 16] (fun r i wr => ∃ (j m c1 : Nat) (a1 : Option Addr) (out sk : List Int), j ≤ mn ∧ i = .int .i64 (j : Int) ∧ r = .slice a1 m c1 ∧ Hid (wkL (wk es n f) v fr (nb.drop j) out sk = some (t, sn)) ∧ Hid (TBSt w W0 an mn nb a1 m c1 out wr)) (fun _ i _ => mn - (intOf i).toNat)
    case atStart => exact ⟨0, 1, 1, _, [v], v :: seen, by omega, rfl, rfl, by show _ = _; rw [List.drop_zero]; exact HW.out, H0⟩
    case round =>
      obtain ⟨j, m, c1, a1, out, sk, hj, rfl, rfl, HG, HS⟩ := hrel
      clear H0 HW
      have hml := HS.out.len
      by_cases hlt : j < mn
      · obtain ⟨x, hx⟩ : ∃ x, nb[j]? = some x := ⟨nb[j]'(by omega), List.getElem?_eq_getElem (by omega)⟩
        have hd : nb.drop j = x :: nb.drop (j + 1) := by
          rw [List.drop_eq_getElem_cons (by omega)]
          congr 1
          rw [List.getElem?_eq_getElem (by omega)] at hx
          simpa using hx
        rw [hd] at HG
        rcases HS.out.nbs.2 with hz | ⟨b, off, rfl, hbl, hcl⟩
        · omega
        · have e0 : wr.cell? ⟨b, off + j, none⟩ = some (.int .i64 x) := hcl j x hx
          have b1 : (0 : Int) ≤ (j : Int) := by omega
          have b2 : (j : Int) < (mn : Int) := by omega
          by_cases hxf : x = fr
          · have d1 : (x != fr) = false := by simpa using hxf
            have HG2 : Hid (wkL (wk es n f) v fr (nb.drop (j + 1)) out sk = some (t, sn)) := by
              have := HG.out
              rw [wkL, if_pos hxf] at this
              exact this
            clear HG hd hx hcl hxf
            go_wp2
            exact ⟨⟨j + 1, m, c1, a1, out, sk, by omega, by go_num, rfl, HG2, HS⟩, by simp [intOf]; omega⟩
          · have d1 : (x != fr) = true := by simpa using hxf
            obtain ⟨p, hp, hgo⟩ := wkL_go hxf HG.out
            have hln := wkL_len hgo
            simp at hln
            have HG2 := hideIt hgo
            have HR := hideIt (IH.out x v sk wr p.1 p.2 hp (by omega) (HEs.out.up HS.out.low))
            obtain ⟨y0, y1⟩ := HBx.out wr HS.out.bel
            clear HG hd hx hcl hxf hp hgo
            go_wp2_with (go_at_call 47; refine HR.out.mono ?_; rintro e w4 ⟨a4, m4, c4, rfl, ho4, hb4⟩; refine Hid.out ?_)
            refine (show ∀ {p : Prop}, p → Hid p from fun h => h) ?_
            have I4 := Is_of_own ho4
            have hm4 : p.1.length = m4 := I4.1
            have T4 : Is w4 w4.heap.size a1 m out := (Is_of_own HS.out.own).up hb4
            have hz4 : w.heap.size + 1 ≤ wr.heap.size := by have := HS.out.bel.size; rw [hs0] at this; exact this
            have hz5 := hb4.size
            have HL : Hid (Calls Try.prog 33 #[.slice (some ⟨w4.heap.size + 1, 0, none⟩) 3 3] ((w4.alloc (.cells #[.int .i64 v] 3)).alloc (.cells #[.slice a1 m c1, .slice a4 m4 c4, .slice (some ⟨w4.heap.size, 0, none⟩) 1 1] 24))
                fun e u => ∃ g mm, e = .returned (.slice (some ⟨g, 0, none⟩) mm mm) ∧ TBSt w W0 (some ⟨b, off, none⟩) mn nb (some ⟨g, 0, none⟩) mm mm (out ++ p.1 ++ [v]) u) := by
              have hb0 : Below w4.heap.size w4 (w4.alloc (.cells #[.int .i64 v] 3)) := (Below.refl _ _).alloc (Nat.le_refl _) _
              have hP0 := parts3 (p1 := ⟨a1, m, c1, out⟩) (p2 := ⟨a4, m4, c4, p.1⟩) (p3 := ⟨some ⟨w4.heap.size, 0, none⟩, 1, 1, [v]⟩) (T4.up hb0) (I4.up hb0) (Is.single w4 v)
              have hs : (w4.alloc (.cells #[.int .i64 v] 3)).heap.size = w4.heap.size + 1 := by simp
              rw [hs] at hP0
              have hP : PartsI ((w4.alloc (.cells #[.int .i64 v] 3)).alloc (.cells #[.slice a1 m c1, .slice a4 m4 c4, .slice (some ⟨w4.heap.size, 0, none⟩) 1 1] 24)) (w4.heap.size + 1) [⟨a1, m, c1, out⟩, ⟨a4, m4, c4, p.1⟩, ⟨some ⟨w4.heap.size, 0, none⟩, 1, 1, [v]⟩] := hP0
              refine (laid_any _ _ 3 rfl (by omega) _ hP (by simp [qLen]; omega)).mono fun e u ⟨g, mm, he, ho, hb⟩ => ⟨g, mm, he, ?_⟩
              have hq : qAll [⟨a1, m, c1, out⟩, ⟨a4, m4, c4, p.1⟩, ⟨some ⟨w4.heap.size, 0, none⟩, 1, 1, [v]⟩] = out ++ p.1 ++ [v] := by simp [qAll]
              rw [hq] at ho
              have hbu : Below wr.heap.size wr u := (hb4.trans ((hb0.alloc (by simp) _).mono hz5)).trans (hb.mono (by simp; omega))
              exact ⟨own_mono ho (by simp; omega), HS.out.nbs.up hbu, HS.out.bel.trans (hbu.mono hz4), HS.out.low.trans (hbu.mono (by omega))⟩
            clear HR ho4 hb4 I4 T4 HS y0 y1 e0
            go_wp2_with (go_at_call 33; refine HL.out.mono ?_; rintro e w6 ⟨g6, m6, rfl, S6⟩)
            exact ⟨⟨j + 1, m6, m6, _, _, p.2, by omega, by go_num, rfl, HG2, hideIt S6⟩, by simp [intOf]; omega⟩
      · obtain rfl : j = mn := by omega
        have HT : Hid (out = t ∧ sk = sn) := by
          show _ ∧ _
          have := HG.out
          rw [List.drop_of_length_le (by omega), wkL] at this
          simpa using this
        clear HG
        go_wp2
        go_ret
        exact ⟨a1, m, c1, rfl, by rw [← HT.out.1]; exact HS.out.own, HS.out.low⟩
end Go.Proofs.Ytcppbgkocipnlaa
