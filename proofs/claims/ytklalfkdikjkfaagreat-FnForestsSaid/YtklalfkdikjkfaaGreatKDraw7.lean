/- The specification's l07With: tours left out, others put in, all by their least vertices. Where Link and Cut stand: a forest, an edge, the answer's place. Boxes of forests (for a seat that has no laws' own types). Bytes in memory of the call's own. What the draws' cursor gives: some byte, some number below a bound, some text; the cursor stays right, and nothing else that was there turns. Draws for forests. -/
import Derived.Test.YtklalfkdikjkfaaGreatKToInt6
import Derived.Test.YtklalfkdikjkfaaGreatKBx7
import Derived.Test.YtklalfkdikjkfaaGreatKLc7
import Derived.Deep.DeepCutAuto
import Derived.Test.YtklalfkdikjkfaaGreatRows
import Derived.WalkKit
import Derived.OwnWalk
import Derived.Laws.IdiomStrings
import Derived.Test.YtklalfkdikjkfaaGreatKITour
import Derived.Laws.Bits64b
import Derived.WalkSpells
import Derived.WalkSmall
import Derived.BigQuiet
import Derived.Deep.QuietTactic
import Derived.Deep.RegionHeld3
import Derived.Deep.AppendLies
namespace Go.Proofs.YtklalfkdikjkfaaGreat
open Go.RowKit

/-- a header of a row that is new, or of one that was handed in -/
def NewOr (w : World) (bi offi : Nat) (v : Value) : Prop := (∀ b off s n c, v = .slice (some ⟨b, off, s⟩) n c → w.heap.size ≤ b) ∨ ∃ j, w.cell? ⟨bi, offi + j, none⟩ = some v
/-- .. and does not lie in the answer's place -/
def PV (w : World) (bi offi : Nat) (v : Value) : Prop := HdN (w.heap.size + 1) v ∧ NewOr w bi offi v
/-- tours by their least vertices, in the making -/
structure GSt (w9 : World) (X : Value → Prop) (N : Int) (a : Option Addr) (m c : Nat) (cur : List (List Int)) (u : World) : Prop where
  box : Box7 u w9.heap.size 26 (.int .i64 N) (.slice a m c)
  own : ∃ hs, u.ownsRow (w9.heap.size + 1) 39 1 (.slice a m c) m hs ∧ HdT u w9.heap.size hs cur ∧ ∀ v ∈ hs, X v
  bel : Below w9.heap.size w9 u
theorem GSt.up {w9 : World} {X : Value → Prop} {N : Int} {a : Option Addr} {m c : Nat} {cur : List (List Int)} {u v : World} (h : GSt w9 X N a m c cur u) (hb : Below u.heap.size u v) : GSt w9 X N a m c cur v := by
  obtain ⟨hs, h1, h2, h3⟩ := h.own
  exact ⟨h.box.up hb, ⟨hs, own_up h1 hb, h2.below hb h.bel.size, h3⟩, h.bel.trans (hb.mono h.bel.size)⟩
theorem newsW (w : World) (x : Value) : ∀ j u, ([x] : List Value)[j]? = some u → (w.alloc (.cells #[x] 39)).cell? ((⟨w.heap.size, 0, none⟩ : Addr).add j) = some u := by
  intro j u hj
  rcases j with _ | j
  · simp at hj; subst hj; simp [Addr.add]
  · simp at hj
/-- those of the first i with least vertex v -/
theorem flt_take {L : List (List Int)} {i v : Nat} {t : List Int} (h : L[i]? = some t) : (L.take (i + 1)).filter (fun t => decide (mnV t = (v : Int))) = (L.take i).filter (fun t => decide (mnV t = (v : Int))) ++ if mnV t = (v : Int) then [t] else [] := by
  rw [take_snocF L i t h, List.filter_append]
  by_cases hc : mnV t = (v : Int) <;> simp [hc]
theorem srtK_le {L : List (List Int)} {N v i : Nat} (h : ∀ t ∈ L, ∃ j, j < N ∧ mnV t = ((j : Nat) : Int)) (hv : v < N) : (srtK L v ++ (L.take i).filter (fun t => decide (mnV t = (v : Int)))).length ≤ L.length := by
  have h1 := (srtK_perm h).length_eq
  have h2 : ∀ k d, (srtK L k).length ≤ (srtK L (k + d)).length := fun k d => by
    induction d with
    | zero => exact Nat.le_refl _
    | succ d ih =>
      show _ ≤ (srtK L (k + d + 1)).length
      simp only [srtK, List.length_append]
      omega
  have h3 := h2 (v + 1) (N - (v + 1))
  rw [show v + 1 + (N - (v + 1)) = N by omega, h1] at h3
  have h4 : ((L.take i).filter (fun t => decide (mnV t = (v : Int)))).length ≤ (L.filter (fun t => decide (mnV t = (v : Int)))).length := by
    conv => rhs; rw [← List.take_append_drop i L, List.filter_append, List.length_append]
    omega
  simp only [srtK, List.length_append] at h3 ⊢
  omega

set_option maxRecDepth 100000 in
set_option maxHeartbeats 8000000 in
theorem l07With_any (N : Nat) (ts : List (List Int)) (outs : List Nat) (ins : List (List Int)) (n : Nat) (a : Option Addr) (c : Nat) (no : Nat) (ao : Option Addr) (co : Nat) (ni bi offi ci : Nat) (hP : FP (N : Int) ts) (hQ : FQ (N : Int) (woK ts outs n ++ ins)) (h0 : 0 < ni) (hni : ni ≤ 2) (hno : no ≤ 2)
    (w : World) (h : Ts w w.heap.size a n ts) (ho : Is w w.heap.size ao no (outs.map fun j : Nat => (j : Int))) (hI : Ts w w.heap.size (some ⟨bi, offi, none⟩) ni ins) :
    Calls Tryz.prog 142 #[.agg #[.int .i64 (N : Int), .slice a n c], .slice ao no co, .slice (some ⟨bi, offi, none⟩) ni ci] w fun e w' => ∃ a' m' c' hs, e = .returned (.agg #[.int .i64 (N : Int), .slice a' m' c']) ∧ (w'.ownsRow w.heap.size 39 1 (.slice a' m' c') m' hs ∧ HdT w' w'.heap.size hs (srtK (woK ts outs n ++ ins) N) ∧ ∀ v ∈ hs, NewOr w bi offi v) ∧ Below w.heap.size w w' := by
  obtain ⟨i0, hi, hz0, hz1, hz2⟩ := info_parts infoIT
  obtain ⟨j0, hj, hy0, hy1, hy2⟩ := info_parts info3i
  have hlen := h.1
  have hn12 : n ≤ 12 := by have := hP.2.2.1; omega
  have hN12 : N ≤ 12 := by have := hP.2.1; omega
  have HB : Hid (∀ t ∈ ts, tB t = true) := fun t ht => (hP.q.1 t ht).1
  have HQ := hideIt hQ
  have b2 : Good w ((w.alloc (.cells #[.int .i64 (N : Int), .slice a n c] 26)).alloc (.cells #[.int .i64 0, .slice none 0 0] 26)) := ((Good.refl w).alloc _).alloc _
  obtain ⟨W2, hW2⟩ : ∃ W2, W2 = (w.alloc (.cells #[.int .i64 (N : Int), .slice a n c] 26)).alloc (.cells #[.int .i64 0, .slice none 0 0] 26) := ⟨_, rfl⟩
  have hs2 : W2.heap.size = w.heap.size + 2 := by rw [hW2]; simp
  have B1 : Box7 W2 w.heap.size 26 (.int .i64 (N : Int)) (.slice a n c) := by rw [hW2]; exact (Box7.new w _ _ _ _ rfl).alloc _
  have B2 : Box7 W2 (w.heap.size + 1) 26 (.int .i64 0) (.slice none 0 0) := by rw [hW2]; exact Box7.new _ _ _ _ _ (by simp)
  have HB1 := hideIt B1
  have HB2 := hideIt B2
  have F0 := FB.start W2
  rw [← hW2] at b2
  have HA := hideIt (h.up b2)
  have HO := hideIt (ho.up b2)
  have HI := hideIt (hI.up b2)
  have HBel := hideIt b2
  have HBi : Hid (bi < w.heap.size) := by
    rcases hI.2 with h1 | ⟨b', off', hb, hl, _⟩
    · omega
    · simp at hb
      show bi < _
      omega
  have HLow : Hid (∀ (x : World) (ih : List Value), Good W2 x → ih.length = ni → (∀ j u, ih[j]? = some u → x.cell? ((⟨bi, offi, none⟩ : Addr).add j) = some u) → HdT x w.heap.size ih ins) := fun x ih hx hl hc => by
    have hb : Below w.heap.size w x := b2.trans (Below.mono hx (by rw [hs2]; omega))
    refine ⟨by have := hI.1; omega, fun j t ht => ?_⟩
    obtain ⟨a', c', p1, p2, p3⟩ := (hI.below hb (Nat.le_refl _)).at ht
    have hj : j < ih.length := by have := (List.getElem?_eq_some_iff.1 ht).1; have := hI.1; omega
    have p4 := hc j _ (List.getElem?_eq_getElem hj)
    rw [show ((⟨bi, offi, none⟩ : Addr).add j) = ⟨bi, offi + j, none⟩ by by_cases h0 : j = 0 <;> simp [Addr.add, h0], p1] at p4
    exact ⟨a', c', by rw [List.getElem?_eq_getElem hj]; exact p4.symm ▸ rfl, p2, p3⟩
  have g0 : Good W2 (W2.alloc (.cells #[] 39)) := (Good.refl W2).alloc _
  rw [hs2] at F0
  clear h ho hI hQ hP b2 B1 B2
  rw [hW2] at F0 g0
  go_enter Tryz.func142, Tryz.ntmps142
  go_wp2
  go_loopw [7, 8] (fun r i wr => ∃ (k m1 c1 : Nat) (a1 : Option Addr) (R : List Rw), k ≤ n ∧ m1 ≤ k ∧ i = .int .i64 (k : Int) ∧ r = .slice a1 m1 c1 ∧ Hid (a1 ≠ none) ∧ Hid (rts R = woK ts outs k) ∧ FB wr (w.heap.size + 2) wr.heap.size a1 m1 c1 R ∧ Good W2 wr) (fun _ i _ => n - (intOf i).toNat)
  case atStart => exact ⟨0, 0, 0, _, [], by omega, by omega, rfl, rfl, by simp [Hid], by show _ = _; rfl, F0, by rw [hW2]; exact g0⟩
  case round =>
    obtain ⟨k, m1, c1, a1, R, hk, hmk, rfl, rfl, HNN, HR, hF, hg⟩ := hrel
    clear F0 g0 hW2
    have q1 := (HB1.out.up hg).cell1
    have q0 := (HB1.out.up hg).cell0
    have hsz := hg.size
    by_cases hlt : k < n
    · obtain ⟨t, ht⟩ : ∃ t, ts[k]? = some t := ⟨ts[k]'(by omega), List.getElem?_eq_getElem (by omega)⟩
      rcases (HA.out.up hg).2 with hz | ⟨b, off, rfl, hbl, hc⟩
      · omega
      · obtain ⟨x, cx, e0, iI, _⟩ := hc k t ht
        have hBt := HB.out t (List.mem_of_getElem? ht)
        have hl := tB_len hBt
        have y1 : (0 : Int) ≤ (k : Int) := by omega
        have y2 : (k : Int) < (n : Int) := by omega
        have HIn := hideIt (l05In_any (outs.map fun j : Nat => (j : Int)) (k : Int) no ao co (by omega) wr (HO.out.up hg))
        have hmem : (k : Int) ∈ outs.map (fun j : Nat => (j : Int)) ↔ k ∈ outs := by
          rw [List.mem_map]
          constructor
          · rintro ⟨j, hj, e⟩
            have : j = k := by omega
            exact this ▸ hj
          · exact fun h => ⟨k, h, rfl⟩
        by_cases hin : k ∈ outs
        · rw [decide_eq_true (hmem.2 hin)] at HIn
          have HR2 : Hid (rts R = woK ts outs (k + 1)) := by show _ = _; simp only [woK]; rw [if_pos hin, List.append_nil]; exact HR.out
          have HF := hideIt hF
          clear hc ht iI hmem hin hF
          go_wp2_with (go_at_call 66; refine HIn.out.mono ?_; rintro e w1 ⟨rfl, hw⟩; have hw' := hw.symm; subst hw'; clear hw)
          exact ⟨⟨k + 1, m1, c1, a1, R, by omega, by omega, by go_num, rfl, HNN, HR2, HF.out, hg⟩, by simp [intOf]; omega⟩
        · rw [decide_eq_false (mt hmem.1 hin)] at HIn
          have HR2 : Hid (∀ r : Rw, r.t = t → rts (R ++ [r]) = woK ts outs (k + 1)) := fun r hr => by
            simp only [woK]
            rw [rts_snoc, HR.out, if_neg hin, ht, hr]
            rfl
          rcases iI.2 with h0 | ⟨bx, ox, rfl, hbx, hcx⟩
          · omega
          · have HF := hideIt hF
            have HIx := hideIt (show Is wr wr.heap.size (some ⟨bx, ox, none⟩) t.length t from iI)
            have HNews : Hid (∀ j y, (ic t)[j]? = some y → (wr.alloc (.cells #[] 3)).cell? ((⟨bx, ox, none⟩ : Addr).add j) = some y) := fun j y hj2 => by
              have hl2 : j < t.length := by have := (List.getElem?_eq_some_iff.1 hj2).1; rw [ic_len] at this; exact this
              rw [show ((⟨bx, ox, none⟩ : Addr).add j) = ⟨bx, ox + j, none⟩ by by_cases h0 : j = 0 <;> simp [Addr.add, h0]]
              rw [(((Good.refl wr).alloc (.cells #[] 3)).cell hbx)]
              rw [hcx j t[j] (List.getElem?_eq_getElem hl2), ← hj2, ic_at (List.getElem?_eq_getElem hl2)]
            have HE0 : Hid ((wr.alloc (.cells #[] 3)).ownsRow wr.heap.size 3 1 (.slice (some ⟨wr.heap.size, 0, none⟩) 0 0) 0 []) := by
              have h0 := World.ownsRow_lit (base := wr.heap.size) (e := 3) (size := 1) wr #[] 0 (Nat.le_refl _) (by unfold maxLen; omega) (by simp)
              show World.ownsRow _ _ _ _ _ _ _
              simpa using h0
            have q1' : (wr.alloc (.cells #[] 3)).cell? ⟨w.heap.size, 1, none⟩ = some (.slice (some ⟨b, off, none⟩) n c) := by rw [((Good.refl wr).alloc (.cells #[] 3)).cell (by omega)]; exact q1
            have e0' : (wr.alloc (.cells #[] 3)).cell? ⟨b, off + k, none⟩ = some (.slice (some ⟨bx, ox, none⟩) t.length cx) := by rw [((Good.refl wr).alloc (.cells #[] 3)).cell hbl]; exact e0
            have HG := hideIt hg
            clear hc ht iI hmem hin hF hcx hg
            go_wp2_with (first | (go_at_call 66; refine HIn.out.mono ?_; rintro e w1 ⟨rfl, hw⟩; have hw' := hw.symm; subst hw'; clear hw) | (at_builtin; refine wpList_append_lies _ rfl _ _ 39 rfl wr.heap.size 3 j0 _ 1 8 Tryz.underlying39 hj hy0 hy1 hy2 rfl (by decide) _ _ _ rfl HE0.out ⟨bx, ox, none⟩ t.length cx (ic t) rfl (by rw [ic_len]; omega) HNews.out (by intro y hy; simp [ic] at hy; obtain ⟨q, _, rfl⟩ := hy; rfl) (by omega) (by unfold maxLen; omega) (by omega) (by simp) (wr.heap.size + 1) (by simp) ?_))
            intro g5 c5 w5 hown5 hg5 hG5 _
            have hb5 : Below wr.heap.size wr w5 := ((Below.refl _ _).alloc (Nat.le_refl _) _).grown hg5 (by simp) (fun j e => by simp [Value.ownBlock] at e; omega)
            have HF5 := hideIt (HF.out.keep hb5)
            have hgl := (hown5.lt g5 rfl).1
            have HRw : Hid (RwB w5 ⟨g5, c5, t⟩) := RwB.of_own hown5
            have HG5 := hideIt (HG.out.up hb5)
            have hsz5 := HG5.out.size
            have HFr : Hid (∀ x ∈ R, x.g ≠ g5) := fun x hx e => by have := (HF.out.ins x hx).2.2; omega
            clear hown5 hg5 hG5 hb5 HF HNews HE0 HG HIx e0 q1' e0'
            go_wp2_with (at_builtin; refine wpList_append_lies _ rfl _ _ 24 rfl (w.heap.size + 2) 39 i0 _ 1 24 Tryz.underlying24 hi hz0 hz1 hz2 rfl (by decide) _ _ _ rfl (HF5.out.own.alloc _) ⟨w5.heap.size, 0, none⟩ 1 1 [.slice (some ⟨g5, 0, none⟩) t.length c5] rfl rfl (newsW w5 _) (by intro y hy; simp at hy; subst hy; rfl) (by omega) (by unfold maxLen; omega) (by omega) (by simp; omega) (w5.heap.size + 1) (by simp) ?_)
            intro g6 c6 w6 hown6 hg6 hG6 _
            obtain ⟨a7, c7, e7, F7⟩ := HF5.out.app (r := ⟨g5, c5, t⟩) HRw.out (by show w.heap.size + 2 ≤ g5; omega) HFr.out hown6 hg6
            simp at e7
            obtain ⟨rfl, rfl⟩ := e7
            have HG6 : Hid (Good W2 w6) := by
              have h1 := HG5.out.alloc (.cells #[.slice (some ⟨g5, 0, none⟩) t.length c5] 39)
              exact Below.grown h1 hg6 (by simp; omega) (fun j e => by have := (HF5.out.own.lt j e).1; omega)
            clear hown6 hg6 hG6 HF5 HRw HG5
            go_wp2
            exact ⟨⟨k + 1, m1 + 1, c6, some ⟨g6, 0, none⟩, R ++ [⟨g5, c5, t⟩], by omega, by omega, by go_num, rfl, by simp [Hid], HR2.out _ rfl, F7, HG6.out⟩, by simp [intOf]; omega⟩
    · obtain rfl : k = n := by omega
      obtain ⟨ih, hh1, hh2, hh3, hh4⟩ := (HI.out.up hg).hdt
      have hHI := (HI.out.hdt)
      have HF := hideIt hF
      have HG := hideIt hg
      have HN3 := hideIt hh3
      have HN4 := hideIt hh4
      have HN2 := hideIt (show ih.length = ni * 1 by omega)
      have HIh := hideIt hh1
      have HOld : Hid (∀ y ∈ ih, ∃ j, w.cell? ⟨bi, offi + j, none⟩ = some y) := fun y hy => by
        obtain ⟨j, hj⟩ := List.mem_iff_getElem?.1 hy
        have h1 := HN3.out j y hj
        rw [show ((⟨bi, offi, none⟩ : Addr).add j) = ⟨bi, offi + j, none⟩ by by_cases h0 : j = 0 <;> simp [Addr.add, h0], (HBel.out.up HG.out).cell HBi.out] at h1
        exact ⟨j, h1⟩
      have HIN : Hid (∀ y ∈ ih, HdN (w.heap.size + 1) y) := (show HdT wr w.heap.size ih ins from HLow.out wr ih HG.out hh2 HN3.out).lowN (fun t ht => tB_pos (HQ.out.1 t (by simp [ht])).1) (by omega)
      clear hF hg hh3 hh4 hh2 hh1 hHI
      go_wp2_with (at_builtin; refine wpList_append_lies _ rfl _ _ 24 rfl (w.heap.size + 2) 39 i0 _ 1 24 Tryz.underlying24 hi hz0 hz1 hz2 rfl (by decide) _ _ _ rfl HF.out.own ⟨bi, offi, none⟩ ni ci ih rfl HN2.out HN3.out HN4.out (by omega) (by unfold maxLen; omega) (by omega) (by omega) wr.heap.size rfl ?_)
      intro g6 c6 w6 hown6 hg6 hG6 _
      have HG6 : Hid (Good W2 w6) := Below.grown HG.out hg6 (by omega) (fun j e => by have := (HF.out.own.lt j e).1; omega)
      have hsz6 := HG6.out.size
      have HL : Hid (HdT w6 w6.heap.size (rhs R ++ ih) (woK ts outs k ++ ins)) := by
        rw [← HR.out]
        refine HdT.app (hdtR fun r hr => ?_) ?_
        · have h1 := (HF.out.ins r hr).1
          exact h1.grown hg6 (fun e => own_ne' HF.out.own h1 e)
        · obtain ⟨ih2, k1, k2, k3, k4⟩ := HI.out.hdt
          have e : ih = ih2 := by
            apply List.ext_getElem?
            intro j
            by_cases hj : j < ni
            · have l1 : j < ih.length := by have := HN2.out; omega
              have l2 : j < ih2.length := by omega
              have p1 : ih[j]? = some ih[j] := List.getElem?_eq_getElem l1
              have p2 : ih2[j]? = some ih2[j] := List.getElem?_eq_getElem l2
              have p3 := HN3.out j _ p1
              have p4 := k3 j _ p2
              rw [show ((⟨bi, offi, none⟩ : Addr).add j) = ⟨bi, offi + j, none⟩ by by_cases h0 : j = 0 <;> simp [Addr.add, h0]] at p3 p4
              have hbi : bi < W2.heap.size := World.block_lt_of_cell? W2 _ p4
              rw [HG.out.cell hbi, p4] at p3
              rw [p1, p2]
              exact p3.symm
            · rw [List.getElem?_eq_none (by have := HN2.out; omega), List.getElem?_eq_none (by omega)]
          rw [e]
          exact (k1.below HG6.out (Nat.le_refl _)).mono HG6.out.size
      have HLN : Hid (∀ y ∈ rhs R ++ ih, PV w bi offi y) := fun y hy => by
        rcases List.mem_append.1 hy with hy | hy
        · refine ⟨rhsN (fun r hr => by have := (HF.out.ins r hr).2.1; omega) y hy, .inl fun b off s n c e => ?_⟩
          obtain ⟨r, hr, rfl⟩ := List.mem_map.1 hy
          simp only [Rw.hdr, Value.slice.injEq, Option.some.injEq, Addr.mk.injEq] at e
          have := (HF.out.ins r hr).2.1
          omega
        · exact ⟨HIN.out y hy, .inr (HOld.out y hy)⟩
      obtain ⟨L, hLe⟩ : ∃ L, woK ts outs k ++ ins = L := ⟨_, rfl⟩
      have HLe := hideIt hLe
      rw [hLe] at HL HQ
      have HMr : Hid (∀ t ∈ L, ∃ j, j < N ∧ mnV t = ((j : Nat) : Int)) := fun t ht => mn_range (HQ.out.1 t ht).1 (HQ.out.1 t ht).2
      have HOw := hideIt hown6
      have hll : L.length = m1 + ni := by have := HL.out.1; have := hown6.1; omega
      have hgl6 := (hown6.lt g6 rfl).2
      have HCl : Hid (∀ u, Below w6.heap.size w6 u → ∀ (j : Nat) (t : List Int), L[j]? = some t → ∃ (x : Option Addr) (cx : Nat), u.cell? ⟨g6, j, none⟩ = some (.slice x t.length cx) ∧ Is u w6.heap.size x t.length t ∧ t.length ≤ cx ∧ PV w bi offi (.slice x t.length cx)) := fun u hu j t ht => by
        obtain ⟨x, cx, p1, p2, p3⟩ := HL.out.2 j t ht
        exact ⟨x, cx, by rw [hu.cell hgl6, HOw.out.cellAt j (by have := (List.getElem?_eq_some_iff.1 ht).1; omega)]; exact p1, p2.below hu (Nat.le_refl _), p3, HLN.out _ (List.mem_of_getElem? p1)⟩
      have HN : Hid (∀ u, Below w6.heap.size w6 u → u.cell? ⟨w.heap.size, 0, none⟩ = some (.int .i64 (N : Int))) := fun u hu => ((HB1.out.up HG6.out).below hu (HB1.out.up HG6.out).lt).cell0
      have n0 := HN.out w6 (Below.refl _ _)
      have G0 : GSt w6 (PV w bi offi) (N : Int) none 0 0 [] (w6.alloc (.cells #[.int .i64 (N : Int), .slice none 0 0] 26)) := ⟨Box7.new _ _ _ _ _ rfl, ⟨[], World.ownsRow_nil _ _ _ _, HdT.nil _ _, by simp⟩, (Below.refl _ _).alloc (Nat.le_refl _) _⟩
      clear hLe hown6 hg6 hG6 HF HG HN3 HN4 HN2 HIh HR q0 q1
      go_wp2
      go_loopw [10] (fun r wr => ∃ (v m3 c3 : Nat) (a3 : Option Addr), v ≤ N ∧ r = .int .i64 (v : Int) ∧ GSt w6 (PV w bi offi) (N : Int) a3 m3 c3 (srtK L v) wr) (fun r _ => N - (intOf r).toNat)
      case atStart => exact ⟨0, 0, 0, none, by omega, rfl, G0⟩
      case round =>
        obtain ⟨v, m3, c3, a3, hv, rfl, hgs⟩ := hrel
        clear G0 n0
        have n1 := HN.out _ hgs.bel
        by_cases hvl : v < N
        · have d1 : decide ((v : Int) < (N : Int)) = true := decide_eq_true (by omega)
          have HGS : Hid (GSt w6 (PV w bi offi) (N : Int) a3 m3 c3 (srtK L v ++ (L.take 0).filter (fun t => decide (mnV t = (v : Int)))) wr) := by
            show GSt _ _ _ _ _ _ _ _
            simpa using hgs
          clear hgs
          go_wp2
          go_loopw [11] (fun r wr => ∃ (i m3 c3 : Nat) (a3 : Option Addr), i ≤ L.length ∧ r = .int .i64 (i : Int) ∧ GSt w6 (PV w bi offi) (N : Int) a3 m3 c3 (srtK L v ++ (L.take i).filter (fun t => decide (mnV t = (v : Int)))) wr) (fun r _ => L.length - (intOf r).toNat)
          case atStart => exact ⟨0, m3, c3, a3, by omega, rfl, HGS.out⟩
          case round =>
            obtain ⟨i, m4, c4, a4, hi4, rfl, hgs⟩ := hrel
            clear HGS n1
            by_cases hil : i < L.length
            · obtain ⟨t, ht⟩ : ∃ t, L[i]? = some t := ⟨L[i]'hil, List.getElem?_eq_getElem hil⟩
              obtain ⟨x, cx, e0, iI, hcx, hxn⟩ := HCl.out _ hgs.bel i t ht
              have HXN := hideIt hxn
              have hBt := (HQ.out.1 t (List.mem_of_getElem? ht)).1
              have hl := tB_len hBt
              have y1 : (0 : Int) ≤ (i : Int) := by omega
              have y2 : (i : Int) < ((m1 + ni : Nat) : Int) := by omega
              have HV := hideIt (vertsFirst (w2 := wr) hBt x cx (by omega) wr (Good.refl wr) (iI.mono hgs.bel.size))
              have HGS := hideIt hgs
              have HTk := hideIt (flt_take (v := v) ht)
              have HI1 := hideIt iI
              have hle := srtK_le (i := i) HMr.out hvl
              obtain ⟨hs, ho4, hd4, _⟩ := hgs.own
              have hm4 : m4 ≤ 14 := by have h1 := ho4.1; have h2 := hd4.1; omega
              clear ht hgs iI ho4 hd4 hle hxn
              by_cases hmv : mnV t = (v : Int)
              · have d2 : (mnV t == (v : Int)) = true := by simpa using hmv
                rw [if_pos hmv] at HTk
                clear hmv
                go_wp2_with (go_at_call 63; refine HV.out.mono ?_; rintro e w2 ⟨g3, m9, c9, rfl, hp3, hc3, hg3⟩; refine Hid.out ?_)
                refine (show ∀ {p : Prop}, p → Hid p from fun h => h) ?_
                have HG2 := hideIt (HGS.out.up hg3)
                have bx := HG2.out.box
                have b1 := bx.cell1
                have z1 := bx.frozen 1
                have e1 : w2.cell? ⟨g6, i, none⟩ = some (.slice x t.length cx) := by rw [hg3.cell (Nat.lt_of_lt_of_le hgl6 HGS.out.bel.size)]; exact e0
                have hlt6 := bx.lt
                obtain ⟨hs, hown, hd, hnn⟩ := HG2.out.own
                have HNN2 : Hid (∀ y ∈ hs ++ [.slice x t.length cx], PV w bi offi y) := fun y hy => by
                  rcases List.mem_append.1 hy with hy | hy
                  · exact hnn y hy
                  · simp at hy
                    rw [hy]
                    exact HXN.out
                have hrow : ∀ b', b' ≤ w6.heap.size → some b' ≠ (Value.slice a4 m4 c4).ownBlock := fun b' hb' e => by have := (hown.lt b' e.symm).1; omega
                have HK : Hid (∀ w1 : World, ((w2.alloc (.cells #[.slice x t.length cx] 39)).drew).grownBy w1 (Value.slice a4 m4 c4).ownBlock →
                    Box7 w1 w6.heap.size 26 (.int .i64 (N : Int)) (.slice a4 m4 c4) ∧ Below w6.heap.size w6 w1 ∧ HdT w1 w6.heap.size hs (srtK L v ++ (L.take i).filter (fun t => decide (mnV t = (v : Int)))) ∧ Is w1 w6.heap.size x t.length t) := fun w1 hg => by
                  have hb2 : Below w6.heap.size w2 w1 := (((Below.refl _ _).alloc (by omega) _).drew).grown hg (by simp; omega) (fun j hj => by have := (hown.lt j hj).1; omega)
                  have hg' : (w2.alloc (.cells #[.slice x t.length cx] 39)).grownBy w1 (Value.slice a4 m4 c4).ownBlock := ⟨hg.os, hg.tape, hg.output, hg.size, hg.block⟩
                  exact ⟨(bx.alloc _).grown hg' (hrow _ (Nat.le_refl _)), HG2.out.bel.trans hb2, hd.below hb2 (Nat.le_refl _), (HI1.out.below hg3 HGS.out.bel.size).below hb2 (Nat.le_refl _)⟩
                have HX : Hid (t.length ≤ cx) := hcx
                clear e0 hd hrow hcx hnn
                go_wp2
                go_region_law (refine step_append_lies _ (by rfl) _ _ _ (by rfl) (w6.heap.size + 1) 39 i0 _ 1 24 Tryz.underlying24 hi hz0 hz1 hz2 rfl (by omega) _ m4 _ (by rfl) ((hown.alloc _).drew) ⟨w2.heap.size, 0, none⟩ 1 1 [.slice x t.length cx] (by rfl) (by rfl) (World.news_of_block (cs := #[.slice x t.length cx]) (t := 39) (fr := (0, 0)) (heap_alloc_new w2 _)) (by simp [Value.oneCell']) (by omega) (by unfold maxLen; omega) (by omega) (by simp; omega) (w2.heap.size + 1) (by simp) ?_; intro g7 cap7 w7 hown7 hg7 hat7 hlt7; obtain ⟨y0, hb7, hd7, ii7⟩ := HK.out _ hg7; have z7 := y0.cell1; have z8 := y0.frozen 1)
                all_goals
                  have lg := (hown7.lt g7 rfl).1
                  have HO7 := hideIt (own_setOther hown7 w6.heap.size 1 (.slice (some ⟨g7, 0, none⟩) (m4 + 1) cap7) (by omega))
                  have q2 := y0.set1 (.slice (some ⟨g7, 0, none⟩) (m4 + 1) cap7)
                  have hsb : Below w6.heap.size w7 (w7.setCell ⟨w6.heap.size, 1, none⟩ (.slice (some ⟨g7, 0, none⟩) (m4 + 1) cap7)) := (Below.refl _ _).setCell (p := ⟨w6.heap.size, 1, none⟩) (Nat.le_refl _) _
                  have HD7 := hideIt ((hd7.app (HdT.one ii7 HX.out)).below hsb (Nat.le_refl _))
                  have HB7 := hideIt (hb7.trans hsb)
                  clear hown7 hg7 HK hd7 ii7 hsb hown
                  go_wp2
                  exact ⟨⟨i + 1, m4 + 1, cap7, some ⟨g7, 0, none⟩, by omega, by go_num, q2, ⟨_, HO7.out, by rw [HTk.out, ← List.append_assoc]; exact HD7.out, HNN2.out⟩, HB7.out⟩, by simp [intOf]; omega⟩
              · have d2 : (mnV t == (v : Int)) = false := by simpa using hmv
                rw [if_neg hmv, List.append_nil] at HTk
                clear hmv
                go_wp2_with (go_at_call 63; refine HV.out.mono ?_; rintro e w2 ⟨g3, m9, c9, rfl, hp3, hc3, hg3⟩)
                exact ⟨⟨i + 1, m4, c4, a4, by omega, by go_num, by rw [HTk.out]; exact HGS.out.up hg3⟩, by simp [intOf]; omega⟩
            · obtain rfl : i = L.length := by omega
              have HGS := hideIt hgs
              clear hgs
              have y2 : ¬ ((L.length : Int) < ((m1 + ni : Nat) : Int)) := by omega
              go_wp2
              refine ⟨⟨v + 1, m4, c4, a4, by omega, by go_num, ?_⟩, by simp [intOf]; omega⟩
              have := HGS.out
              rw [List.take_of_length_le (Nat.le_refl _)] at this
              exact this
        · obtain rfl : v = N := by omega
          have d1 : decide ((v : Int) < (v : Int)) = false := decide_eq_false (by omega)
          have bx := hgs.box
          have c0 := bx.cell0
          have c1' := bx.cell1
          have hb2 := HG6.out.up (hgs.bel.mono (Nat.le_refl _))
          have B2 := HB2.out.up hb2
          have f7 := B2.frozen 0
          have f8 := B2.frozen 1
          have f9 := B2.cell0
          have f10 := B2.cell1
          obtain ⟨hs, ho5, hd5, hn5⟩ := hgs.own
          have hlt5 := bx.lt
          have hbel := hgs.bel
          have HO5 := hideIt (own_setLow (own_setLow ho5 (w.heap.size + 1) 0 (.int .i64 (v : Int)) (by omega)) (w.heap.size + 1) 1 (.slice a3 m3 c3) (by omega))
          have hsb : Below w.heap.size wr ((wr.setCell ⟨w.heap.size + 1, 0, none⟩ (.int .i64 (v : Int))).setCell ⟨w.heap.size + 1, 1, none⟩ (.slice a3 m3 c3)) := ((Below.refl _ _).setCell (p := ⟨w.heap.size + 1, 0, none⟩) (by show w.heap.size ≤ w.heap.size + 1; omega) _).setCell (p := ⟨w.heap.size + 1, 1, none⟩) (by show w.heap.size ≤ w.heap.size + 1; omega) _
          have HBw := hideIt ((HBel.out.trans (hb2.mono (by omega))).trans hsb)
          have HD5 := hideIt (((hd5.set (fun y hy => (hn5 y hy).1) (.int .i64 (v : Int)) (j := 0)).set (fun y hy => (hn5 y hy).1) (.slice a3 m3 c3) (j := 1)).mono (C := ((wr.setCell ⟨w.heap.size + 1, 0, none⟩ (.int .i64 (v : Int))).setCell ⟨w.heap.size + 1, 1, none⟩ (.slice a3 m3 c3)).heap.size) (by simp [World.setCell]; exact hbel.size))
          have HLe2 := HLe
          have HN5 : Hid (∀ y ∈ hs, NewOr w bi offi y) := fun y hy => (hn5 y hy).2
          clear ho5 hd5 hn5 hgs bx B2 hb2 hsb hbel
          go_wp2
          exact bodyPost_ret (v := .agg #[.int .i64 (v : Int), .slice a3 m3 c3]) (by simp [results, Tryz.results142, go_sem, f9, f10]) rfl ⟨a3, m3, c3, hs, rfl, ⟨own_mono HO5.out (by omega), by rw [HLe2.out]; exact HD5.out, HN5.out⟩, HBw.out⟩
/-- what l07With answers, laid into a place of its own -/
theorem with_set {u : World} {lo X : Nat} {a : Option Addr} {m c : Nat} {hs : List Value} {ts : List (List Int)} (h : u.ownsRow lo 39 1 (.slice a m c) m hs ∧ HdT u u.heap.size hs ts) (hX : X < lo) (hn : ∀ v ∈ hs, HdN X v) (v0 v1 : Value) :
    ((u.setCell ⟨X, 0, none⟩ v0).setCell ⟨X, 1, none⟩ v1).ownsRow lo 39 1 (.slice a m c) m hs ∧ HdT ((u.setCell ⟨X, 0, none⟩ v0).setCell ⟨X, 1, none⟩ v1) ((u.setCell ⟨X, 0, none⟩ v0).setCell ⟨X, 1, none⟩ v1).heap.size hs ts :=
  ⟨own_setLow (own_setLow h.1 X 0 v0 hX) X 1 v1 hX, ((h.2.set hn v0 (j := 0)).set hn v1 (j := 1)).mono (by simp [World.setCell])⟩
end Go.Proofs.YtklalfkdikjkfaaGreat
namespace Go.Proofs.YtklalfkdikjkfaaGreat
open Go.RowKit

/-- the answer of Link, Cut, ForestNew: a forest of the answer's own -/
def FAns (w : World) (N : Int) (o : Option (List (List Int))) (e : Ending) (w' : World) : Prop :=
  ∃ a m c R, e = .returned (.tuple #[.agg #[.int .i64 (if o.isSome then N else 0), .slice a m c], .bool o.isSome]) ∧ FB w' w.heap.size w'.heap.size a m c R ∧ rts R = o.getD [] ∧ Below w.heap.size w w'
/-- .. that is only read -/
def RAns (w : World) (N : Int) (o : Option (List (List Int))) (e : Ending) (w' : World) : Prop :=
  ∃ a m c hs, e = .returned (.tuple #[.agg #[.int .i64 (if o.isSome then N else 0), .slice a m c], .bool o.isSome]) ∧ (w'.ownsRow w.heap.size 39 1 (.slice a m c) m hs ∧ HdT w' w'.heap.size hs (o.getD []) ∧ ∀ v ∈ hs, HdL w.heap.size v) ∧ Below w.heap.size w w'
theorem RAns.ts {w : World} {N : Int} {o : Option (List (List Int))} {e : Ending} {w' : World} (h : RAns w N o e w') : ∃ a m c, e = .returned (.tuple #[.agg #[.int .i64 (if o.isSome then N else 0), .slice a m c], .bool o.isSome]) ∧ Ts w' w'.heap.size a m (o.getD []) ∧ Below w.heap.size w w' := by
  obtain ⟨a, m, c, hs, h1, h2, h3⟩ := h
  exact ⟨a, m, c, h1, h2.2.1.ts h2.1, h3⟩
theorem fans_no {w u : World} {N : Int} {o : Option (List (List Int))} (ho : o = none) (h : Below w.heap.size w u) : FAns w N o (.returned (.tuple #[.agg #[.int .i64 0, .slice none 0 0], .bool false])) u := by
  subst ho
  exact ⟨none, 0, 0, [], rfl, FB.nil _ _, rfl, h⟩

/-- behind the three boxes -/
def w3of (w : World) (N : Int) (a : Option Addr) (n c : Nat) (f : EdgeV) : World := ((w.alloc (.cells #[.int .i64 N, .slice a n c] 26)).alloc (.cells #[.int .i64 f.1, .int .i64 f.2] 28)).alloc (.cells #[.int .i64 0, .slice none 0 0] 26)
theorem w3_size (w : World) (N : Int) (a : Option Addr) (n c : Nat) (f : EdgeV) : (w3of w N a n c f).heap.size = w.heap.size + 3 := by simp [w3of]
theorem w3_good (w : World) (N : Int) (a : Option Addr) (n c : Nat) (f : EdgeV) : Good w (w3of w N a n c f) := (((Good.refl w).alloc _).alloc _).alloc _
theorem w3_res (w : World) (N : Int) (a : Option Addr) (n c : Nat) (f : EdgeV) : Box7 (w3of w N a n c f) (w.heap.size + 2) 26 (.int .i64 0) (.slice none 0 0) := Box7.new _ _ _ _ _ (by simp)
theorem w3_f (w : World) (N : Int) (a : Option Addr) (n c : Nat) (f : EdgeV) : Box7 (w3of w N a n c f) w.heap.size 26 (.int .i64 N) (.slice a n c) := ((Box7.new w _ _ _ _ rfl).alloc _).alloc _
theorem w3_e (w : World) (N : Int) (a : Option Addr) (n c : Nat) (f : EdgeV) : Box7 (w3of w N a n c f) (w.heap.size + 1) 28 (.int .i64 f.1) (.int .i64 f.2) := (Box7.new _ _ _ _ _ (by simp)).alloc _
/-- what can be read there -/
theorem w3_cells {w : World} {N : Int} {a : Option Addr} {n c : Nat} {f : EdgeV} {u : World} (h : Good (w3of w N a n c f) u) :
    (u.cell? ⟨w.heap.size, 0, none⟩ = some (.int .i64 N) ∧ u.cell? ⟨w.heap.size, 1, none⟩ = some (.slice a n c)) ∧ u.cell? ⟨w.heap.size + 1, 0, none⟩ = some (.int .i64 f.1) ∧ u.cell? ⟨w.heap.size + 1, 1, none⟩ = some (.int .i64 f.2) :=
  ⟨⟨((w3_f w N a n c f).up h).cell0, ((w3_f w N a n c f).up h).cell1⟩, ((w3_e w N a n c f).up h).cell0, ((w3_e w N a n c f).up h).cell1⟩
theorem w3_out {w : World} {N : Int} {a : Option Addr} {n c : Nat} {f : EdgeV} {u : World} (h : Below (w.heap.size + 3) (w3of w N a n c f) u) :
    (u.cell? ⟨w.heap.size + 2, 0, none⟩ = some (.int .i64 0) ∧ u.cell? ⟨w.heap.size + 2, 1, none⟩ = some (.slice none 0 0)) ∧ u.frozen? ⟨w.heap.size + 2, 0, none⟩ = false ∧ u.frozen? ⟨w.heap.size + 2, 1, none⟩ = false := by
  have b := (w3_res w N a n c f).below h (by omega)
  exact ⟨⟨b.cell0, b.cell1⟩, b.frozen 0, b.frozen 1⟩
/-- tours in order that are those of a list -/
theorem ord_is {N : Nat} {X L : List (List Int)} (h1 : 1 ≤ N) (h2 : N ≤ 12) (hQ : FQ (N : Int) L) (hp : X.Perm L) (ha : X.Pairwise fun s t => mnV s < mnV t) : X = srtK L N :=
  asc_uniq ha ((FP_iff _ _).1 (FP_srt h1 h2 hQ)).2.2.2 (hp.trans (srt_perm hQ).symm)
/-- no edge of a tree links it -/
theorem jo_same {a : List Int} {u v : Int} (hu : u ∈ a) : joO a u a v = none := by
  unfold joO
  rw [if_neg]
  rintro ⟨_, _, h⟩
  have hc : comB a a = true := by
    unfold comB
    rw [List.any_eq_true]
    exact ⟨u, hu, decide_eq_true hu⟩
  rw [hc] at h
  cases h
end Go.Proofs.YtklalfkdikjkfaaGreat
namespace Go.Proofs.YtklalfkdikjkfaaGreat
open Go.RowKit

theorem Good.set {w u : World} (h : Good w u) (b j : Nat) (v : Value) (hb : w.heap.size ≤ b) : Good w (u.setCell ⟨b, j, none⟩ v) := Below.setCell h (p := ⟨b, j, none⟩) hb v
theorem Box7.set {w : World} {b : Nat} {t : TypeId} {v0 v1 : Value} (h : Box7 w b t v0 v1) (u0 u1 : Value) : Box7 ((w.setCell ⟨b, 0, none⟩ u0).setCell ⟨b, 1, none⟩ u1) b t u0 u1 := by
  have h1 : Box7 (w.setCell ⟨b, 0, none⟩ u0) b t u0 v1 := by
    unfold Box7
    rw [heap_setCell_same w b 0 _ t u0 h]; rfl
  exact h1.set1 u1
theorem own_typed {u : World} {lo b j n : Nat} {v x : Value} {xs : List Value} {cs : Array Value} {fr : Nat × Nat} (h : u.ownsRow lo 39 1 v n xs) (hb : u.heap[b]? = some (.cells cs 26 fr)) : (u.setCell ⟨b, j, none⟩ x).ownsRow lo 39 1 v n xs := by
  refine World.ownsRow.kept h (grownSet u b j x) (.inr fun e => ?_)
  rcases h.2 with ⟨rfl, _⟩ | ⟨g, cap, cur, rfl, _, hg, _⟩
  · simp [Value.ownBlock] at e
  · simp [Value.ownBlock] at e
    rw [e, hb] at hg
    simp at hg
def Keep7 (u v : World) : Prop := ∀ b t x y, Box7 u b t x y → Box7 v b t x y
theorem Keep7.of {u v : World} (h : Below u.heap.size u v) : Keep7 u v := fun _ _ _ _ hb => hb.up h
theorem Keep7.nil {u v : World} (h : Keep7 u v) {b : Nat} (hb : Box7 u b 26 (.int .i64 0) (.slice none 0 0)) : Box7 v b 26 (.int .i64 0) (.slice none 0 0) := h _ _ _ _ hb
def Away (u : World) (hs : List Value) : Prop := ∀ b, Box7 u b 26 (.int .i64 0) (.slice none 0 0) → ∀ v ∈ hs, HdN b v
theorem FP_small {N : Int} {ts : List (List Int)} (h : FP N ts) : ts.length + lnS ts ≤ 1000 := by
  have h1 := h.2.2.1
  have h2 : ∀ l : List (List Int), (∀ t ∈ l, tB t = true) → lnS l ≤ 23 * l.length := fun l hl => by
    induction l with
    | nil => simp [lnS]
    | cons t r ih =>
      have h3 := tB_len (hl t (by simp))
      have h4 := ih fun s hs => hl s (by simp [hs])
      simp only [lnS, List.map_cons, List.sum_cons, List.length_cons] at h4 ⊢
      omega
  have h5 := h2 ts fun t ht => (h.q.1 t ht).1
  omega
end Go.Proofs.YtklalfkdikjkfaaGreat
namespace Go.Proofs.YtklalfkdikjkfaaGreat
open Go.RowKit

theorem info5 : (Tryz.prog.info? 5).map (fun i => (i.zero, i.size, i.bytes)) = some (some (.int .u8 0), 1, 1) := by kernel_rfl

/-- the cells of the bytes l -/
def bv (l : List UInt8) : List Value := l.map fun b => Value.int .u8 (b.toNat : Int)

theorem bv_snoc (l : List UInt8) (b : UInt8) (n : Int) (h : (b.toNat : Int) = n) : bv l ++ [Value.int .u8 n] = bv (l ++ [b]) := by
  subst h; simp [bv]

theorem one_new (w : World) (v : Value) (t : TypeId) : ∀ j u, [v][j]? = some u → (w.alloc (.cells #[v] t)).cell? ((⟨w.heap.size, 0, none⟩ : Addr).add j) = some u := by
  intro j u hj
  match j, hj with
  | 0, hj => simp at hj; subst hj; simp [Addr.add]

/-- behind an append to a row of the call's own, nothing below B has turned -/
theorem below_app {B : Nat} {w wr w1 : World} {v : Value} {n : Nat} {xs : List Value} {o : Obj} (hb : Below B w wr) (hB : B ≤ w.heap.size)
    (hown : wr.ownsRow B 5 1 v n xs) (hg : (wr.alloc o).grownBy w1 v.ownBlock) : Below B w w1 :=
  (hb.alloc (by have := hb.size; omega) _).grown hg (by have := hb.size; simp; omega) (fun k hk => (hown.lt k hk).1)

theorem below_appD {B : Nat} {w wr w1 : World} {v : Value} {n : Nat} {xs : List Value} {o : Obj} (hb : Below B w wr) (hB : B ≤ w.heap.size)
    (hown : wr.ownsRow B 5 1 v n xs) (hg : ((wr.alloc o).drew).grownBy w1 v.ownBlock) : Below B w w1 :=
  below_app (o := o) hb hB hown ⟨hg.os, hg.tape, hg.output, hg.size, hg.block⟩

/-- 'string(out)' of a row of bytes of the call's own -/
theorem conv_own {B n : Nat} {v : Value} {l : List UInt8} {w : World} (hown : w.ownsRow B 5 1 v n (bv l)) (hv : ¬ v = .slice none 0 0) :
    ∃ g cap, v = .slice (some ⟨g, 0, none⟩) l.length cap ∧ (convert 22 9 (.slice (some ⟨g, 0, none⟩) l.length cap)).run Tryz.prog w = .ok (.string ⟨l.toArray⟩) w := by
  have hn : l.length = n := by have := hown.1; simpa [bv] using this
  subst hn
  have hown0 := hown
  rcases hown.2 with ⟨h, _⟩ | ⟨g, cap, cur, rfl, -, -, -, -, -, -⟩
  · exact absurd h hv
  · exact ⟨g, cap, rfl, run_convert_bytes_back (P := Tryz.prog) w 22 9 5 ⟨g, 0, none⟩ cap l Tryz.underlying22 Tryz.underlying5 Tryz.underlying9 (fun j hj => hown0.cells (g := g) rfl j _ (by simp [bv, hj]))⟩

theorem conv_at {B n g cap : Nat} {l : List UInt8} {w : World} (hown : w.ownsRow B 5 1 (.slice (some ⟨g, 0, none⟩) n cap) n (bv l)) :
    (convert 22 9 (.slice (some ⟨g, 0, none⟩) n cap)).run Tryz.prog w = .ok (.string ⟨l.toArray⟩) w := by
  obtain ⟨g', cap', hv, hcv⟩ := conv_own hown (by simp)
  rw [hv]
  exact hcv

end Go.Proofs.YtklalfkdikjkfaaGreat
namespace Go.Proofs.YtklalfkdikjkfaaGreat
open Go.RowKit

theorem and_small (x : Int) (b : Nat) (hb : b < 4611686018427387904) : 0 ≤ bits .and .i64 x (b : Int) ∧ bits .and .i64 x (b : Int) ≤ (b : Int) := by
  have h2 : (BitVec.ofInt 64 (b : Int)).toNat = b := by
    rw [BitVec.ofInt_natCast, BitVec.toNat_ofNat]; exact Nat.mod_eq_of_lt (by omega)
  have e : bits .and .i64 x (b : Int) = IntKind.i64.wrap ((BitVec.ofInt 64 x &&& BitVec.ofInt 64 (b : Int)).toNat : Int) := rfl
  rw [e, BitVec.toNat_and, h2, IntKind.wrap_i64]
  have := Nat.and_le_right (n := (BitVec.ofInt 64 x).toNat) (m := b)
  omega

theorem and255 (x : Int) : 0 ≤ bits .and .i64 x 255 ∧ bits .and .i64 x 255 ≤ 255 := and_small x 255 (by omega)
theorem and30 (x : Int) : 0 ≤ bits .and .i64 x 1073741823 ∧ bits .and .i64 x 1073741823 ≤ 1073741823 := and_small x 1073741823 (by omega)

/-- the bytes that the draws are drawn from: none, or a row of bytes in a block of its own -/
def Code (w : World) (G : Nat) (a : Option Addr) (len : Nat) : Prop :=
  len = 0 ∨ ∃ b off, a = some ⟨b, off, none⟩ ∧ b < w.heap.size ∧ b ≠ G ∧ ∀ j, j < len → ∃ z : Nat, z ≤ 255 ∧ w.cell? ⟨b, off + j, none⟩ = some (.int .u8 (z : Int))

/-- the cursor in block G -/
def Cur (w : World) (G : Nat) (a : Option Addr) (len cap : Nat) : Prop :=
  ∃ (i : Nat) (h : Int), i ≤ len ∧ w.heap[G]? = some (.cells #[.slice a len cap, .int .i64 (i : Int), .int .i64 h] 122 (0, 0))

theorem grownT {a b c : World} {row : Option Nat} (h : a.grownBy b row) (k : b.grownBy c row) : a.grownBy c row :=
  ⟨k.os.trans h.os, k.tape.trans h.tape, k.output.trans h.output, Nat.le_trans h.size k.size, fun i hi hr => (k.block i (Nat.lt_of_lt_of_le hi h.size) hr).trans (h.block i hi hr)⟩

theorem Code.kept {w w' : World} {G : Nat} {a : Option Addr} {len : Nat} (h : Code w G a len) (hg : w.grownBy w' (some G)) : Code w' G a len := by
  rcases h with h | ⟨b, off, ha, hb, hn, hc⟩
  · exact .inl h
  · refine .inr ⟨b, off, ha, Nat.lt_of_lt_of_le hb hg.size, hn, fun j hj => ?_⟩
    obtain ⟨z, hz, hcell⟩ := hc j hj
    refine ⟨z, hz, ?_⟩
    rw [World.cell?_of_block (w := w) (hg.block b hb (by simp; exact hn))]
    exact hcell

theorem set1 {w : World} {G : Nat} {A B C D : Value} {t : TypeId} (h : w.heap[G]? = some (.cells #[A, B, C] t (0, 0))) : (w.setCell ⟨G, 1, none⟩ D).heap[G]? = some (.cells #[A, D, C] t (0, 0)) := by
  rw [heap_setCell_same w G 1 _ t D h]; rfl
theorem set2 {w : World} {G : Nat} {A B C D : Value} {t : TypeId} (h : w.heap[G]? = some (.cells #[A, B, C] t (0, 0))) : (w.setCell ⟨G, 2, none⟩ D).heap[G]? = some (.cells #[A, B, D] t (0, 0)) := by
  rw [heap_setCell_same w G 2 _ t D h]; rfl
theorem grown_set (w : World) (G j : Nat) (u : Value) : w.grownBy (w.setCell ⟨G, j, none⟩ u) (some G) :=
  ⟨rfl, rfl, rfl, by simp [World.setCell], fun k _ hk => heap_setCell_other w ⟨G, j, none⟩ k u (fun e => hk (by simp [e]))⟩
theorem grown_draws (w : World) (n : Nat) (row : Option Nat) : w.grownBy (w.drewN n) row := ⟨rfl, rfl, rfl, Nat.le_refl _, fun _ _ _ => rfl⟩

theorem fin_byte {y : Int} {R : Prop} (h : 0 ≤ y ∧ y ≤ 255) (hr : R) : ∃ x : Nat, x ≤ 255 ∧ Ending.returned (.int .i64 y) = .returned (.int .i64 (x : Int)) ∧ R :=
  ⟨y.toNat, by omega, by rw [Int.toNat_of_nonneg h.1], hr⟩

set_option maxRecDepth 100000 in
set_option maxHeartbeats 2000000 in
theorem l01Byte_any (w : World) (G : Nat) (a : Option Addr) (len cap : Nat) (hl : len ≤ 1048576) (hcur : Cur w G a len cap) (hcode : Code w G a len) :
    Calls Tryz.prog 121 #[.pointer (some ⟨G, 0, none⟩)] w fun e w' => ∃ x : Nat, x ≤ 255 ∧ e = .returned (.int .i64 (x : Int)) ∧ Cur w' G a len cap ∧ w.grownBy w' (some G) := by
  obtain ⟨i, h, hi, hG⟩ := hcur
  have c0 : w.cell? ⟨G, 0, none⟩ = some (.slice a len cap) := by rw [cell_of_row w G 0 _ _ _ hG]; rfl
  have c1 : w.cell? ⟨G, 1, none⟩ = some (.int .i64 (i : Int)) := by rw [cell_of_row w G 1 _ _ _ hG]; rfl
  have c2 : w.cell? ⟨G, 2, none⟩ = some (.int .i64 h) := by rw [cell_of_row w G 2 _ _ _ hG]; rfl
  have f1 : w.frozen? ⟨G, 1, none⟩ = false := frozen_of_row w G 1 _ _ hG
  have f2 : w.frozen? ⟨G, 2, none⟩ = false := frozen_of_row w G 2 _ _ hG
  have HG : Hid _ := hG
  clear hG
  by_cases hlt : i < len
  · have e1 : decide ((i : Int) < (len : Int)) = true := by simp; omega
    rcases hcode with h0 | ⟨b, off, rfl, hb, hne, hc⟩
    · omega
    · obtain ⟨z, hz, hcell⟩ := hc i hlt
      have b1 : (0 : Int) ≤ (i : Int) := by omega
      have b2 : (i : Int) < (len : Int) := by omega
      have hcell2 : ∀ v, (w.setCell ⟨G, 2, none⟩ v).cell? ⟨b, off + i, none⟩ = some (.int .u8 (z : Int)) := fun v => by
        rw [World.cell?_of_block (w := w) (heap_setCell_other w ⟨G, 2, none⟩ b v (by exact hne))]
        exact hcell
      clear hc
      go_enter Tryz.func121, Tryz.ntmps121
      go_wp2
      go_quiet (fail)
      go_wp2
      go_quiet (fail)
      go_wp2
      go_quiet (fail)
      go_wp2
      go_ret
      refine fin_byte (and255 _) ⟨?_, ?_⟩
      · exact ⟨i + 1, _, by omega, set1 (set2 HG.out)⟩
      · exact grownT (grownT (grown_set w G 2 _) (grown_set _ G 1 _)) (grown_draws _ _ _)
  · have e1 : decide ((i : Int) < (len : Int)) = false := by simp; omega
    go_enter Tryz.func121, Tryz.ntmps121
    go_wp2
    go_quiet (fail)
    go_wp2
    go_quiet (fail)
    go_wp2
    go_ret
    refine fin_byte (and255 _) ⟨?_, ?_⟩
    · exact ⟨i, _, hi, set2 HG.out⟩
    · exact grownT (grownT (grown_set w G 2 _) (grown_draws _ _ _)) (grown_draws _ _ _)

/-- what a draw leaves: the cursor, the bytes, the rest as it was -/
structure Drawn (w w' : World) (G : Nat) (a : Option Addr) (len cap : Nat) : Prop where
  cur : Cur w' G a len cap
  code : Code w' G a len
  grown : w.grownBy w' (some G)

theorem Drawn.trans {w w1 w2 : World} {G : Nat} {a : Option Addr} {len cap : Nat} (h : Drawn w w1 G a len cap) (k : Drawn w1 w2 G a len cap) : Drawn w w2 G a len cap :=
  ⟨k.cur, k.code, grownT h.grown k.grown⟩

theorem l01Byte_drawn (w : World) (G : Nat) (a : Option Addr) (len cap : Nat) (hl : len ≤ 1048576) (hcur : Cur w G a len cap) (hcode : Code w G a len) :
    Calls Tryz.prog 121 #[.pointer (some ⟨G, 0, none⟩)] w fun e w' => ∃ x : Nat, x ≤ 255 ∧ e = .returned (.int .i64 (x : Int)) ∧ Drawn w w' G a len cap :=
  (l01Byte_any w G a len cap hl hcur hcode).mono fun _ _ ⟨x, hx, he, hc, hg⟩ => ⟨x, hx, he, hc, hcode.kept hg, hg⟩

theorem fin_rem {y n : Int} {R : Prop} (h : 0 < n) (hr : R) : ∃ x : Nat, (x : Int) < n ∧ Ending.returned (.int .i64 (y % n)) = .returned (.int .i64 (x : Int)) ∧ R := by
  have h1 := Int.emod_lt_of_pos y h
  have h2 := Int.emod_nonneg y (show n ≠ 0 by omega)
  exact ⟨(y % n).toNat, by omega, by rw [Int.toNat_of_nonneg h2], hr⟩

set_option maxRecDepth 100000 in
set_option maxHeartbeats 2000000 in
theorem l01Below_any (n : Int) (h0 : 0 < n) (h1 : n ≤ 4294967296) (w : World) (G : Nat) (a : Option Addr) (len cap : Nat) (hl : len ≤ 1048576) (hcur : Cur w G a len cap) (hcode : Code w G a len) :
    Calls Tryz.prog 69 #[.pointer (some ⟨G, 0, none⟩), .int .i64 n] w fun e w' => ∃ x : Nat, (x : Int) < n ∧ e = .returned (.int .i64 (x : Int)) ∧ Drawn w w' G a len cap := by
  have B := fun (W : World) (hc : Cur W G a len cap) (hd : Code W G a len) => l01Byte_drawn W G a len cap hl hc hd
  have HB := (show ∀ {p : Prop}, p → Hid p from fun h => h) B
  clear B
  have H1 := (show ∀ {p : Prop}, p → Hid p from fun h => h) hcur
  have H2 := (show ∀ {p : Prop}, p → Hid p from fun h => h) hcode
  clear hcur hcode
  by_cases hs : n ≤ 256
  · go_enter Tryz.func69, Tryz.ntmps69
    go_wp2_with (go_at_call 121; refine (HB.out _ H1.out H2.out).mono ?_; rintro e w1 ⟨x, hx, rfl, hd⟩)
    go_ret
    exact fin_rem h0 hd
  · go_enter Tryz.func69, Tryz.ntmps69
    go_wp2_with (go_at_call 121; refine (HB.out _ H1.out H2.out).mono ?_; rintro e w1 ⟨x, hx, rfl, d1⟩; refine Hid.out ?_)
    refine (show ∀ {p : Prop}, p → Hid p from fun h => h) ?_
    go_wp2_with (go_at_call 121; refine (HB.out _ d1.cur d1.code).mono ?_; rintro e w2 ⟨y, hy, rfl, d2⟩; refine Hid.out ?_)
    refine (show ∀ {p : Prop}, p → Hid p from fun h => h) ?_
    go_wp2_with (go_at_call 121; refine (HB.out _ d2.cur d2.code).mono ?_; rintro e w3 ⟨z, hz, rfl, d3⟩; refine Hid.out ?_)
    refine (show ∀ {p : Prop}, p → Hid p from fun h => h) ?_
    go_wp2_with (go_at_call 121; refine (HB.out _ d3.cur d3.code).mono ?_; rintro e w4 ⟨v, hv, rfl, d4⟩; refine Hid.out ?_)
    refine (show ∀ {p : Prop}, p → Hid p from fun h => h) ?_
    go_wp2
    go_ret
    exact fin_rem h0 (d1.trans (d2.trans (d3.trans d4)))

theorem cur_new (w : World) (a : Option Addr) (len cap : Nat) (h : Int) : Cur (w.alloc (.cells #[.slice a len cap, .int .i64 0, .int .i64 h] 122)) w.heap.size a len cap :=
  ⟨0, h, Nat.zero_le _, heap_alloc_new w _⟩

theorem code_new {w : World} {a : Option Addr} {len : Nat} (h : Code w w.heap.size a len) (o : Obj) : Code (w.alloc o) w.heap.size a len := by
  rcases h with h | ⟨b, off, ha, hb, hn, hc⟩
  · exact .inl h
  · refine .inr ⟨b, off, ha, by simp; omega, hn, fun j hj => ?_⟩
    obtain ⟨z, hz, hcell⟩ := hc j hj
    exact ⟨z, hz, by rw [World.cell?_of_block (w := w) (Below.heap_alloc w o b hb)]; exact hcell⟩

set_option maxRecDepth 100000 in
set_option maxHeartbeats 2000000 in
theorem l01New_any (w : World) (a : Option Addr) (len cap : Nat) (hl : len ≤ 1048576) (hcode : Code w w.heap.size a len) :
    Calls Tryz.prog 47 #[.slice a len cap] w fun e w' => e = .returned (.pointer (some ⟨w.heap.size, 0, none⟩)) ∧ Cur w' w.heap.size a len cap ∧ Code w' w.heap.size a len ∧ Below w.heap.size w w' ∧ w.heap.size < w'.heap.size := by
  have HC := hideIt hcode
  clear hcode
  go_enter Tryz.func47, Tryz.ntmps47
  go_wp2
  go_loop [3, 4] (fun hh i => ∃ (k : Nat) (h : Int), k ≤ len ∧ 0 ≤ h ∧ h ≤ 2147483648 ∧ i = .int .i64 k ∧ hh = .int .i64 h) (fun _ i => len - (intOf i).toNat)
  case atStart => exact ⟨0, 13501 + (len : Int), by omega, by omega, by omega, rfl, rfl⟩
  case round =>
    obtain ⟨k, h, hk, h0, h1, rfl, rfl⟩ := hrel
    by_cases hlt : k < len
    · have e0 : decide ((k : Int) < (len : Int)) = true := by simp; omega
      by_cases h4 : k < 4000
      · have e1 : decide ((k : Int) < 4000) = true := by simp; omega
        rcases HC.out with hz | ⟨b, off, rfl, hb, hne, hc⟩
        · omega
        · obtain ⟨z, hz, hcell⟩ := hc k hlt
          have b1 : (0 : Int) ≤ (k : Int) := by omega
          have b2 : (k : Int) < (len : Int) := by omega
          clear hc HC
          go_wp2
          have ha := and30 (h * 131 + (z : Int) + 7)
          go_round
          case rel => exact ⟨k + 1, _, by omega, ha.1, by omega, by go_num, rfl⟩
          case measure => simp [intOf]; omega
      · have e1 : decide ((k : Int) < 4000) = false := by simp; omega
        go_wp2
        go_ret
        exact ⟨rfl, cur_new w a len cap h, code_new HC.out _, (Below.refl _ _).alloc (Nat.le_refl _) _, by simp⟩
    · have e0 : decide ((k : Int) < (len : Int)) = false := by simp; omega
      go_wp2
      go_ret
      exact ⟨rfl, cur_new w a len cap h, code_new HC.out _, (Below.refl _ _).alloc (Nat.le_refl _) _, by simp⟩

theorem l01Once_any (n : Int) (h0 : 0 < n) (h1 : n ≤ 4294967296) (w : World) (G : Nat) (a : Option Addr) (len cap : Nat) (hl : len ≤ 1048576) (hcur : Cur w G a len cap) (hcode : Code w G a len) :
    Calls Tryz.prog 68 #[.pointer (some ⟨G, 0, none⟩), .int .i64 n] w fun e w' => ∃ b : Bool, e = .returned (.bool b) ∧ Drawn w w' G a len cap := by
  have HB := hideIt (l01Below_any n h0 h1 w G a len cap hl hcur hcode)
  clear hcur hcode
  go_enter Tryz.func68, Tryz.ntmps68
  go_wp2_with (go_at_call 69; refine HB.out.mono ?_; rintro e w1 ⟨x, hx, rfl, hd⟩)
  go_ret
  exact ⟨_, rfl, hd⟩

end Go.Proofs.YtklalfkdikjkfaaGreat
namespace Go.Proofs.YtklalfkdikjkfaaGreat
open Go.RowKit

theorem Cur.up7 {u v : World} {G : Nat} {a : Option Addr} {len cap : Nat} (h : Cur u G a len cap) (hb : Below u.heap.size u v) : Cur v G a len cap := by
  obtain ⟨p, q, h1, h⟩ := h
  exact ⟨p, q, h1, by rw [hb.block G (Array.getElem?_eq_some_iff.1 h).1]; exact h⟩
theorem Code.up7 {u v : World} {G : Nat} {a : Option Addr} {len : Nat} (h : Code u G a len) (hb : Below u.heap.size u v) : Code v G a len :=
  h.kept ⟨hb.os, hb.tape, hb.output, hb.size, fun k hk _ => hb.block k hk⟩
theorem big7_any (w : World) (a : Option Addr) (len cap : Nat) : Calls Tryz.prog 8 #[.slice a len cap] w fun e w' => e = .returned (.bool (decide ((1048576 : Int) < (len : Int)))) ∧ w' = w := by
  go_enter Tryz.func8, Tryz.ntmps8
  go_wp2
  go_ret
  exact ⟨rfl, rfl⟩
theorem five_cells7 (w : World) (z0 z1 z2 z3 z4 : Int) (t : TypeId) : ∀ j, j < 5 → ∃ z : Int, (w.alloc (.cells #[.int .i64 z0, .int .i64 z1, .int .i64 z2, .int .i64 z3, .int .i64 z4] t)).cell? ⟨w.heap.size, j, none⟩ = some (.int .i64 z) := by
  intro j hj
  rw [cell_of_row _ w.heap.size j _ t (0, 0) (heap_alloc_new w _)]
  rcases (show j = 0 ∨ j = 1 ∨ j = 2 ∨ j = 3 ∨ j = 4 from by omega) with rfl | rfl | rfl | rfl | rfl <;> exact ⟨_, rfl⟩
theorem Drawn.from7 {w w' : World} {o : Obj} {G : Nat} {a : Option Addr} {len cap : Nat} (h : Drawn (w.alloc o) w' G a len cap) : Drawn w w' G a len cap := ⟨h.cur, h.code, grownT (World.grownBy_alloc w o (some G)) h.grown⟩
theorem Cur.lt7 {u : World} {G : Nat} {a : Option Addr} {len cap : Nat} (h : Cur u G a len cap) : G < u.heap.size := by
  obtain ⟨p, q, _, h⟩ := h
  exact (Array.getElem?_eq_some_iff.1 h).1
end Go.Proofs.YtklalfkdikjkfaaGreat
