/- The specification's Labels. -/
import Derived.Test.YtfkoddhojcjohaaISt
import Derived.Test.YtfkoddhojcjohaaLab
namespace Go.Proofs.Ytfkoddhojcjohaa
open Go.RowKit

theorem ic_set (ls : List Int) (i : Nat) (x : Int) : (ic ls).set i (.int .i64 x) = ic (ls.set i x) := by simp [ic, List.map_set]

/-- the row of labels is ours -/
structure LSt (w : World) (g cap n : Nat) (ls : List Int) (u : World) : Prop where
  own : u.ownsRow w.heap.size 3 1 (.slice (some ⟨g, 0, none⟩) n cap) n (ic ls)
  bel : Below w.heap.size w u
theorem LSt.len {w : World} {g cap n : Nat} {ls : List Int} {u : World} (h : LSt w g cap n ls u) : ls.length = n := by have := h.own.1; rw [ic_len] at this; omega
theorem LSt.cell {w : World} {g cap n : Nat} {ls : List Int} {u : World} (h : LSt w g cap n ls u) (i : Nat) (hi : i < n) : u.cell? ⟨g, i, none⟩ = some (.int .i64 (atI ls (i : Int))) := by
  rw [h.own.cellAt i (by omega)]
  exact ic_at (atI_some (by rw [h.len]; exact hi))
theorem LSt.set {w : World} {g cap n : Nat} {ls : List Int} {u : World} (h : LSt w g cap n ls u) (i : Nat) (x : Int) : LSt w g cap n (ls.set i x) (u.setCell ⟨g, i, none⟩ (.int .i64 x)) := by
  have hs := h.own.stored i (.int .i64 x)
  have hl := h.own.lt g rfl
  refine ⟨?_, h.bel.setCell (p := ⟨g, i, none⟩) hl.1 _⟩
  rw [← ic_set]
  exact hs.1

set_option maxRecDepth 100000 in
set_option maxHeartbeats 4000000 in
theorem l05Labels_any (nn : Nat) (hn0 : 1 ≤ nn) (hn12 : nn ≤ 12) (es : List EdgeV) (hE : EsIn es nn) (n : Nat) (a : Option Addr) (c : Nat) (hn : n ≤ 1048576) (w : World) (h : Es w w.heap.size a n es) :
    Calls Try.prog 46 #[.int .i64 (nn : Int), .slice a n c] w fun e w' => IAns w (labs es nn nn) e w' := by
  obtain ⟨i0, hi, hz0, hz1, hz2⟩ := info_parts info3i
  obtain ⟨hlen, hrow⟩ := h
  have HR := hideIt hrow
  have HE := hideIt hE
  clear hrow hE
  go_enter Try.func46, Try.ntmps46
  go_wp2
  go_loopw [5, 6] (fun r i wr => ∃ (k : Nat) (a' : Option Addr) (c' : Nat), k ≤ nn ∧ i = .int .i64 (k : Int) ∧ r = .slice a' k c' ∧ ISt w a' k c' (lab0 k) wr) (fun _ i _ => nn - (intOf i).toNat)
  case atStart => exact ⟨0, _, _, by omega, rfl, rfl, ISt.start w⟩
  case round =>
    obtain ⟨k, a', c', hk, rfl, rfl, hst⟩ := hrel
    have zr := hst.size
    by_cases hlt : k < nn
    · have b2 : (k : Int) < (nn : Int) := by omega
      go_wp2_with (at_builtin; refine wpList_append_own _ rfl _ _ 37 rfl w.heap.size 3 i0 _ 1 8 Try.underlying37 hi hz0 hz1 hz2 rfl (by decide) _ _ _ rfl (hst.own.alloc _) ⟨wr.heap.size, 0, none⟩ 1 1 [.int .i64 (k : Int)] rfl rfl (newsI _ _) (by intro u hu; simp at hu; subst hu; rfl) (by unfold maxLen; omega) (by omega) (by simp; omega) ?_)
      intro v2 w2 hown2 hg2 hn2
      obtain ⟨a2, c2, rfl, hst2⟩ := hst.app hown2 hg2
      rw [← lab0_snoc] at hst2
      clear hown2 hg2 hn2 hst
      go_wp2
      exact ⟨⟨k + 1, a2, c2, by omega, by go_num, rfl, hst2⟩, by simp [intOf]; omega⟩
    · obtain rfl : k = nn := by omega
      obtain ⟨g, rfl, hL0⟩ : ∃ g, a' = some ⟨g, 0, none⟩ ∧ LSt w g c' k (lab0 k) wr := by
        rcases hst.own.2 with ⟨_, h0⟩ | ⟨g, cap, cur, hv, _⟩
        · omega
        · simp at hv
          obtain ⟨rfl, rfl⟩ := hv
          exact ⟨g, rfl, hst.own, hst.bel⟩
      clear hst zr
      have d0 : decide ((k : Int) < (k : Int)) = false := decide_eq_false (by omega)
      go_wp2
      go_loopw [7] (fun i v => ∃ (q : Nat), q ≤ k ∧ i = .int .i64 (q : Int) ∧ LSt w g c' k (labs es k q) v) (fun i _ => k - (intOf i).toNat)
      case atStart => exact ⟨0, by omega, rfl, hL0⟩
      case round =>
        obtain ⟨q, hq, rfl, hL⟩ := hrel
        clear hL0
        by_cases hlt2 : q < k
        · have b2 : (q : Int) < (k : Int) := by omega
          have HL0 := hideIt hL
          clear hL
          generalize hls0 : labs es k q = ls0 at HL0
          have HQ : Hid (roundL ls0 es = labs es k (q + 1)) := by show _ = _; rw [← hls0]; rfl
          clear hls0
          go_wp2
          go_loopw [8] (fun i v => ∃ (p : Nat), p ≤ n ∧ i = .int .i64 (p : Int) ∧ LSt w g c' k (roundL ls0 (es.take p)) v) (fun i _ => n - (intOf i).toNat)
          case atStart => exact ⟨0, by omega, rfl, by rw [List.take_zero]; exact HL0.out⟩
          case round =>
            obtain ⟨p, hp, rfl, hL⟩ := hrel
            by_cases hlt3 : p < n
            · rcases HR.out with hz | ⟨b, off, rfl, hbl, hc⟩
              · omega
              · obtain ⟨f, hf⟩ : ∃ f, es[p]? = some f := ⟨es[p]'(by omega), List.getElem?_eq_getElem (by omega)⟩
                obtain ⟨c0, c1⟩ := hc p f hf
                have hfi := HE.out f (List.mem_of_getElem? hf)
                have b3 : (0 : Int) ≤ (p : Int) := by omega
                have b4 : (p : Int) < (n : Int) := by omega
                have b5 : (0 : Int) ≤ f.1 := hfi.1
                have b6 : f.1 < (k : Int) := by omega
                have b7 : (0 : Int) ≤ f.2 := by omega
                have b8 : f.2 < (k : Int) := hfi.2.2
                have e0 : wr.cell? ⟨b, off + p * 2, none⟩ = some (.int .i64 f.1) := by rw [hL.bel.cell hbl]; exact c0
                have e1 : wr.cell? ⟨b, off + p * 2 + 1, none⟩ = some (.int .i64 f.2) := by rw [hL.bel.cell hbl]; exact c1
                have x0 := hL.cell f.1.toNat (by omega)
                have x1 := hL.cell f.2.toNat (by omega)
                rw [show ((f.1.toNat : Nat) : Int) = f.1 by omega] at x0
                rw [show ((f.2.toNat : Nat) : Int) = f.2 by omega] at x1
                have f0 := hL.own.frozenAt f.1.toNat
                have f1 := hL.own.frozenAt f.2.toNat
                have HX := hideIt (roundL_snoc ls0 (es.take p) f)
                rw [← take_snocF es p f hf] at HX
                have hgl := (hL.own.lt g rfl).1
                have hgb : g ≠ b := by omega
                generalize hls : roundL ls0 (es.take p) = ls at hL x0 x1 HX
                clear hls hf hc c0 c1
                by_cases h1 : atI ls f.1 < atI ls f.2
                · have HS : Hid (LSt w g c' k (roundL ls0 (es.take (p + 1))) (wr.setCell ⟨g, f.2.toNat, none⟩ (.int .i64 (atI ls f.1)))) := by
                    show LSt _ _ _ _ _ _
                    rw [HX.out]; unfold relax; rw [if_pos h1]; exact hL.set _ _
                  have d1 : decide (atI ls f.1 < atI ls f.2) = true := decide_eq_true h1
                  have d2 : decide (atI ls f.2 < atI ls f.1) = false := decide_eq_false (by omega)
                  have e0' : (wr.setCell ⟨g, f.2.toNat, none⟩ (.int .i64 (atI ls f.1))).cell? ⟨b, off + p * 2, none⟩ = some (.int .i64 f.1) := by rw [set_other (fun e => hgb e.symm)]; exact e0
                  generalize atI ls f.1 = va at *
                  generalize atI ls f.2 = vb at *
                  clear hL HX
                  go_wp2
                  exact ⟨⟨p + 1, by omega, by go_num, HS.out⟩, by simp [intOf]; omega⟩
                · have d1 : decide (atI ls f.1 < atI ls f.2) = false := decide_eq_false h1
                  by_cases h2 : atI ls f.2 < atI ls f.1
                  · have HS : Hid (LSt w g c' k (roundL ls0 (es.take (p + 1))) (wr.setCell ⟨g, f.1.toNat, none⟩ (.int .i64 (atI ls f.2)))) := by
                      show LSt _ _ _ _ _ _
                      rw [HX.out]; unfold relax; rw [if_neg h1, if_pos h2]; exact hL.set _ _
                    have d2 : decide (atI ls f.2 < atI ls f.1) = true := decide_eq_true h2
                    generalize atI ls f.1 = va at *
                    generalize atI ls f.2 = vb at *
                    clear hL HX
                    go_wp2
                    exact ⟨⟨p + 1, by omega, by go_num, HS.out⟩, by simp [intOf]; omega⟩
                  · have HS : Hid (LSt w g c' k (roundL ls0 (es.take (p + 1))) wr) := by
                      show LSt _ _ _ _ _ _
                      rw [HX.out]; unfold relax; rw [if_neg h1, if_neg h2]; exact hL
                    have d2 : decide (atI ls f.2 < atI ls f.1) = false := decide_eq_false h2
                    generalize atI ls f.1 = va at *
                    generalize atI ls f.2 = vb at *
                    clear hL HX
                    go_wp2
                    exact ⟨⟨p + 1, by omega, by go_num, HS.out⟩, by simp [intOf]; omega⟩
            · rw [List.take_of_length_le (by omega), HQ.out] at hL
              go_wp2
              exact ⟨⟨q + 1, by omega, by go_num, hL⟩, by simp [intOf]; omega⟩
        · obtain rfl : q = k := by omega
          have HA := hideIt (show IAns w (labs es q q) (.returned (.slice (some ⟨g, 0, none⟩) q c')) wr from ⟨_, _, _, rfl, hL.own, hL.bel⟩)
          clear hL
          go_wp2
          go_ret
          exact HA.out

set_option maxHeartbeats 2000000 in
theorem sLabels_any (N : Int) (es : List EdgeV) (n : Nat) (a : Option Addr) (c : Nat) (hn : n ≤ 1048576) (w : World) (h : Es w w.heap.size a n es) :
    Calls Try.prog 20 #[.agg #[.int .i64 N, .slice a n c]] w fun e w' => IAns w (labE N es) e w' := by
  have HGO : Hid (∀ u, InG w N a n c u → Calls Try.prog 17 #[.agg #[.int .i64 N, .slice a n c]] u fun e v => e = .returned (.bool (gB N es)) ∧ InG w N a n c v) := fun u hu =>
    (sGraphOk_any N es n a c hn u (h.up hu.below)).mono fun _ _ ⟨he, hb⟩ => ⟨he, hu.up hb⟩
  have S1 := InG.start w N a n c
  cases hG : gB N es with
  | false =>
    rw [hG] at HGO
    have HO := hideIt (show labE N es = [] by unfold labE; rw [hG, if_neg (by simp)])
    clear hG h
    go_enter Try.func20, Try.ntmps20
    go_wp2_with (go_at_call 17; refine (HGO.out _ S1).mono ?_; rintro e w4 ⟨rfl, S4⟩; refine Hid.out ?_)
    refine (show ∀ {p : Prop}, p → Hid p from fun h => h) ?_
    have HA := hideIt ((ISt.start w4).ans S4)
    go_wp2
    go_ret
    rw [HO.out]
    exact HA.out
  | true =>
    rw [hG] at HGO
    have hNb := (gB_chk hG).1
    have HEI := hideIt (esIn_of hG)
    have HO := hideIt (show labE N es = labs es N.toNat N.toNat by unfold labE; rw [hG, if_pos rfl])
    have HR := hideIt h
    obtain ⟨nn, rfl⟩ : ∃ nn : Nat, N = (nn : Int) := ⟨N.toNat, by omega⟩
    rw [Int.toNat_natCast] at HO HEI
    clear hG h
    go_enter Try.func20, Try.ntmps20
    go_wp2_with (go_at_call 17; refine (HGO.out _ S1).mono ?_; rintro e w4 ⟨rfl, S4⟩; refine Hid.out ?_)
    refine (show ∀ {p : Prop}, p → Hid p from fun h => h) ?_
    obtain ⟨k0, k1⟩ := S4.cells
    have z4 := S4.size
    have HL := hideIt (l05Labels_any nn (by omega) (by omega) es HEI.out n a c hn w4 (HR.out.up S4.below))
    clear HGO S1
    go_wp2_with (go_at_call 46; refine HL.out.mono ?_; rintro e w5 ⟨a', m', c', rfl, ho, hb⟩; refine Hid.out ?_)
    refine (show ∀ {p : Prop}, p → Hid p from fun h => h) ?_
    have HA := hideIt (show IAns w (labs es nn nn) (.returned (.slice a' m' c')) w5 from ⟨a', m', c', rfl, own_mono ho (by omega), S4.below.trans (hb.mono (by omega))⟩)
    clear ho hb HL
    go_wp2
    go_ret
    rw [HO.out]
    exact HA.out
end Go.Proofs.Ytfkoddhojcjohaa
