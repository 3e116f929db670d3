/- The program's Around. -/
import Derived.Test.YtcppbgkocipnlaaInG6
import Derived.Test.YtcppbgkocipnlaaIGr6
import Derived.Test.YtcppbgkocipnlaaArn6
namespace Go.Proofs.Ytcppbgkocipnlaa
open Go.RowKit

set_option maxRecDepth 100000 in
set_option maxHeartbeats 4000000 in
theorem iAround_any (N : Int) (es : List EdgeV) (v : Int) (n : Nat) (a : Option Addr) (c : Nat) (hn : n ≤ 1048576) (w : World) (h : Es w w.heap.size a n es) :
    Calls Try.prog 73 #[.agg #[.int .i64 N, .slice a n c], .int .i64 v] w fun e w' => IAns w (arE N es v) e w' := by
  obtain ⟨i0, hi, hz0, hz1, hz2⟩ := info_parts info3i
  have HGO : Hid (∀ u, InG w N a n c u → Calls Try.prog 84 #[.agg #[.int .i64 N, .slice a n c]] u fun e v => e = .returned (.bool (gB N es)) ∧ InG w N a n c v) := fun u hu =>
    (iGraphOk_any N es n a c hn u (h.up hu.below)).mono fun _ _ ⟨he, hb⟩ => ⟨he, hu.up hb⟩
  have S1 := InG.start w N a n c
  cases hG : gB N es with
  | false =>
    rw [hG] at HGO
    have HO := hideIt (show arE N es v = [] by unfold arE; rw [hG, if_neg (by simp)])
    clear hG h
    go_enter Try.func73, Try.ntmps73
    go_wp2_with (go_at_call 84; refine (HGO.out _ S1).mono ?_; rintro e w4 ⟨rfl, S4⟩; refine Hid.out ?_)
    refine (show ∀ {p : Prop}, p → Hid p from fun h => h) ?_
    go_wp2
    go_ret
    rw [HO.out]
    exact ians_nil S4.below
  | true =>
    rw [hG] at HGO
    have HO := hideIt (show arE N es v = arI es v by unfold arE; rw [hG, if_pos rfl, ar_same v hG])
    have HR := hideIt h
    have hlen := h.1
    clear hG h
    go_enter Try.func73, Try.ntmps73
    go_wp2_with (go_at_call 84; refine (HGO.out _ S1).mono ?_; rintro e w4 ⟨rfl, S4⟩; refine Hid.out ?_)
    refine (show ∀ {p : Prop}, p → Hid p from fun h => h) ?_
    obtain ⟨k0, k1⟩ := S4.cells
    have z4 := S4.size
    have hq0 : (w4.alloc (.cells #[] 3)).cell? ⟨w.heap.size, 1, none⟩ = some (.slice a n c) := by rw [World.cell?_of_block (w := w4) (Below.heap_alloc w4 _ w.heap.size (by omega))]; exact k1
    go_wp2
    go_loopw [5, 15] (fun r i wr => ∃ (k m' : Nat) (a' : Option Addr) (c' : Nat) (gs : List Int), k ≤ n ∧ i = .int .i64 (k : Int) ∧ r = .slice a' m' c' ∧ m' ≤ k ∧ Hid (gs = arI (es.take k) v) ∧ ISt w4 a' m' c' gs wr) (fun _ i _ => n - (intOf i).toNat)
    case atStart => exact ⟨0, 0, _, _, [], by omega, rfl, rfl, by omega, by show _ = _; simp [arI], ISt.start w4⟩
    case round =>
      obtain ⟨k, m', a', c', gs, hk, rfl, rfl, hm, hgs, hst⟩ := hrel
      by_cases hlt : k < n
      · rcases HR.out.2 with hz | ⟨b, off, rfl, hbl, hc⟩
        · omega
        · obtain ⟨f, hf⟩ : ∃ f, es[k]? = some f := ⟨es[k]'(by omega), List.getElem?_eq_getElem (by omega)⟩
          obtain ⟨c0, c1⟩ := hc k f hf
          have b1 : (0 : Int) ≤ (k : Int) := by omega
          have b2 : (k : Int) < (n : Int) := by omega
          have hbw := (hst.inG S4).below
          have e0 : wr.cell? ⟨b, off + k * 2, none⟩ = some (.int .i64 f.1) := by rw [hbw.cell hbl]; exact c0
          have e1 : wr.cell? ⟨b, off + k * 2 + 1, none⟩ = some (.int .i64 f.2) := by rw [hbw.cell hbl]; exact c1
          have zr := hst.size
          have hst1 := hst.up ((Below.refl wr.heap.size wr).alloc (Nat.le_refl _) (.cells #[.int .i64 f.1, .int .i64 f.2] 40))
          by_cases h1 : v = f.1
          · have HG : Hid (gs ++ [f.2] = arI (es.take (k + 1)) v) := by
              show _ = _
              rw [take_snocF es k f hf, arI_snoc, hgs.out]
              simp [otherE, h1]
            have d1 : (v == f.1) = true := by simpa using h1
            clear hc hf c0 c1 hgs hbw h1
            go_wp2_with (at_builtin; refine wpList_append_own _ rfl _ _ 24 rfl w4.heap.size 3 i0 _ 1 8 Try.underlying24 hi hz0 hz1 hz2 rfl (by decide) _ _ _ rfl (hst1.own.alloc _) ⟨wr.heap.size + 1, 0, none⟩ 1 1 [.int .i64 f.2] rfl rfl (by have := newsI (wr.alloc (.cells #[.int .i64 f.1, .int .i64 f.2] 40)) f.2; simpa using this) (by intro u hu; simp at hu; subst hu; rfl) (by unfold maxLen; omega) (by omega) (by simp; omega) ?_)
            intro v2 w2 hown2 hg2 hn2
            obtain ⟨a2, c2, rfl, hst2⟩ := hst1.app hown2 hg2
            clear hown2 hg2 hn2 hst hst1 e0 e1
            go_wp2
            exact ⟨⟨k + 1, m' + 1, a2, c2, gs ++ [f.2], by omega, by go_num, rfl, by omega, HG, hst2⟩, by simp [intOf]; omega⟩
          · have d1 : (v == f.1) = false := by simpa using h1
            by_cases h2 : v = f.2
            · have HG : Hid (gs ++ [f.1] = arI (es.take (k + 1)) v) := by
                show _ = _
                rw [take_snocF es k f hf, arI_snoc, hgs.out]
                simp [otherE, h2]
                rw [if_neg (fun h3 => h1 (h2.trans h3))]
                rfl
              have d2 : (v == f.2) = true := by simpa using h2
              clear hc hf c0 c1 hgs hbw h1 h2
              go_wp2_with (at_builtin; refine wpList_append_own _ rfl _ _ 24 rfl w4.heap.size 3 i0 _ 1 8 Try.underlying24 hi hz0 hz1 hz2 rfl (by decide) _ _ _ rfl (hst1.own.alloc _) ⟨wr.heap.size + 1, 0, none⟩ 1 1 [.int .i64 f.1] rfl rfl (by have := newsI (wr.alloc (.cells #[.int .i64 f.1, .int .i64 f.2] 40)) f.1; simpa using this) (by intro u hu; simp at hu; subst hu; rfl) (by unfold maxLen; omega) (by omega) (by simp; omega) ?_)
              intro v2 w2 hown2 hg2 hn2
              obtain ⟨a2, c2, rfl, hst2⟩ := hst1.app hown2 hg2
              clear hown2 hg2 hn2 hst hst1 e0 e1
              go_wp2
              exact ⟨⟨k + 1, m' + 1, a2, c2, gs ++ [f.1], by omega, by go_num, rfl, by omega, HG, hst2⟩, by simp [intOf]; omega⟩
            · have HG : Hid (gs = arI (es.take (k + 1)) v) := by
                show _ = _
                rw [take_snocF es k f hf, arI_snoc, hgs.out]
                simp [otherE, h1, h2]
              have d2 : (v == f.2) = false := by simpa using h2
              clear hc hf c0 c1 hgs hbw h1 h2
              go_wp2
              exact ⟨⟨k + 1, m', a', c', gs, by omega, by go_num, rfl, by omega, HG, hst1⟩, by simp [intOf]; omega⟩
      · obtain rfl : k = n := by omega
        have HF : Hid (gs = arI es v) := by show _ = _; rw [hgs.out, List.take_of_length_le (by omega)]
        have HA := hideIt (hst.ans S4)
        clear hgs hst
        go_wp2
        go_ret
        rw [HO.out, ← HF.out]
        exact HA.out
end Go.Proofs.Ytcppbgkocipnlaa
