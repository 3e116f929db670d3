/- The specification's Around. -/
import Derived.Test.YtfkoddhojcjohabISt
import Derived.Test.YtfkoddhojcjohabArnd
namespace Go.Proofs.Ytfkoddhojcjohab
open Go.RowKit

set_option maxRecDepth 100000 in
set_option maxHeartbeats 4000000 in
theorem sAround_any (N : Int) (es : List EdgeV) (v : Int) (n : Nat) (a : Option Addr) (c : Nat) (hn : n ≤ 1048576) (w : World) (h : Es w w.heap.size a n es) :
    Calls Try.prog 22 #[.agg #[.int .i64 N, .slice a n c], .int .i64 v] w fun e w' => IAns w (arE N es v) e w' := by
  obtain ⟨i0, hi, hz0, hz1, hz2⟩ := info_parts info3i
  have S1 := InG.start w N a n c
  have T1 := ISt.start (wG w N a n c)
  have HGO : Hid (∀ u a' m' c' gs, ISt (wG w N a n c) a' m' c' gs u → Calls Try.prog 25 #[.agg #[.int .i64 N, .slice a n c]] u fun e v => e = .returned (.bool (gB N es)) ∧ ISt (wG w N a n c) a' m' c' gs v) := fun u a' m' c' gs hu =>
    (sGraphOk_any N es n a c hn u (h.up (hu.inG S1).below)).mono fun _ _ ⟨he, hb⟩ => ⟨he, hu.up hb⟩
  have HHA : Hid (∀ u a' m' c' gs (f : EdgeV), ISt (wG w N a n c) a' m' c' gs u → Calls Try.prog 39 #[.slice a n c, .agg #[.int .i64 f.1, .int .i64 f.2]] u fun e v => e = .returned (.bool (hasB es f)) ∧ ISt (wG w N a n c) a' m' c' gs v) := fun u a' m' c' gs f hu =>
    (l05Has_any es f n a c hn u (h.up (hu.inG S1).below)).mono fun _ _ ⟨he, hb⟩ => ⟨he, hu.up hb⟩
  rw [wG_size] at T1
  have HG1 := hideIt (HGO.out _ _ _ _ _ T1)
  clear HGO h
  cases hG : gB N es with
  | false =>
    rw [hG] at HG1
    have HO := hideIt (show arE N es v = [] by unfold arE; rw [hG, if_neg (by simp)])
    clear hG
    go_enter Try.func22, Try.ntmps22
    go_wp2_with (go_at_call 25; refine HG1.out.mono ?_; rintro e w4 ⟨rfl, S4⟩; refine Hid.out ?_)
    refine (show ∀ {p : Prop}, p → Hid p from fun h => h) ?_
    have HA := hideIt (S4.ans S1)
    go_wp2
    go_ret
    rw [HO.out]
    exact HA.out
  | true =>
    rw [hG] at HG1
    have hNb := (gB_chk hG).1
    have HO := hideIt (show arE N es v = arS es v N.toNat by unfold arE; rw [hG, if_pos rfl])
    clear hG
    obtain ⟨nn, rfl⟩ : ∃ nn : Nat, N = (nn : Int) := ⟨N.toNat, by omega⟩
    rw [Int.toNat_natCast] at HO
    go_enter Try.func22, Try.ntmps22
    go_wp2_with (go_at_call 25; refine HG1.out.mono ?_; rintro e w4 ⟨rfl, S4⟩; refine Hid.out ?_)
    refine (show ∀ {p : Prop}, p → Hid p from fun h => h) ?_
    clear HG1
    go_wp2
    go_loopw [5, 6] (fun r i wr => ∃ (k m' : Nat) (a' : Option Addr) (c' : Nat) (gs : List Int), k ≤ nn ∧ i = .int .i64 (k : Int) ∧ r = .slice a' m' c' ∧ m' ≤ k ∧ Hid (gs = arS es v k) ∧ ISt (wG w nn a n c) a' m' c' gs wr) (fun _ i _ => nn - (intOf i).toNat)
    case atStart => exact ⟨0, 0, _, _, [], by omega, rfl, rfl, by omega, by show _ = _; simp [arS], S4⟩
    case round =>
      obtain ⟨k, m', a', c', gs, hk, rfl, rfl, hm, hgs, hst⟩ := hrel
      obtain ⟨k0, k1⟩ := (hst.inG S1).cells
      have zr := hst.size
      rw [wG_size] at zr
      by_cases hlt : k < nn
      · have b2 : (k : Int) < (nn : Int) := by omega
        have HH1 := hideIt (HHA.out wr _ _ _ _ ((k : Int), v) hst)
        have hs := arS_snoc es v k
        cases h1 : hasB es ((k : Int), v) with
        | true =>
          rw [h1] at HH1 hs
          have HG : Hid (gs ++ [(k : Int)] = arS es v (k + 1)) := by show _ = _; rw [hs, hgs.out]; rfl
          clear hs hgs h1
          dsimp only at HH1
          go_wp2_with (go_at_call 39; refine HH1.out.mono ?_; rintro e w5 ⟨rfl, S5⟩; refine Hid.out ?_)
          refine (show ∀ {p : Prop}, p → Hid p from fun h => h) ?_
          have z5 := S5.size
          rw [wG_size] at z5
          clear k0 k1
          go_wp2_with (at_builtin; refine wpList_append_own _ rfl _ _ 39 rfl (wG w nn a n c).heap.size 3 i0 _ 1 8 Try.underlying39 hi hz0 hz1 hz2 rfl (by decide) _ _ _ rfl (S5.own.alloc _) ⟨w5.heap.size, 0, none⟩ 1 1 [.int .i64 (k : Int)] rfl rfl (newsI _ _) (by intro u hu; simp at hu; subst hu; rfl) (by unfold maxLen; omega) (by omega) (by have := S5.size; simp; omega) ?_)
          intro v2 w2 hown2 hg2 hn2
          obtain ⟨a2, c2, rfl, hst2⟩ := S5.app hown2 hg2
          clear hown2 hg2 hn2 hst S5
          go_wp2
          exact ⟨⟨k + 1, m' + 1, a2, c2, gs ++ [(k : Int)], by omega, by go_num, rfl, by omega, HG, hst2⟩, by simp [intOf]; omega⟩
        | false =>
          rw [h1] at HH1 hs
          cases h2 : hasB es (v, (k : Int)) with
          | true =>
            rw [h2] at hs
            have HG : Hid (gs ++ [(k : Int)] = arS es v (k + 1)) := by show _ = _; rw [hs, hgs.out]; rfl
            dsimp only at HH1
            go_wp2_with (go_at_call 39; refine HH1.out.mono ?_; rintro e w5 ⟨rfl, S5⟩; refine Hid.out ?_)
            refine (show ∀ {p : Prop}, p → Hid p from fun h => h) ?_
            have HH2 := hideIt (HHA.out w5 _ _ _ _ (v, (k : Int)) S5)
            rw [h2] at HH2
            dsimp only at HH2
            clear k0 k1 hs hgs h1 h2
            obtain ⟨k0, k1⟩ := (S5.inG S1).cells
            go_wp2_with (go_at_call 39; refine HH2.out.mono ?_; rintro e w6 ⟨rfl, S6⟩; refine Hid.out ?_)
            refine (show ∀ {p : Prop}, p → Hid p from fun h => h) ?_
            have z6 := S6.size
            rw [wG_size] at z6
            clear k0 k1
            go_wp2_with (at_builtin; refine wpList_append_own _ rfl _ _ 39 rfl (wG w nn a n c).heap.size 3 i0 _ 1 8 Try.underlying39 hi hz0 hz1 hz2 rfl (by decide) _ _ _ rfl (S6.own.alloc _) ⟨w6.heap.size, 0, none⟩ 1 1 [.int .i64 (k : Int)] rfl rfl (newsI _ _) (by intro u hu; simp at hu; subst hu; rfl) (by unfold maxLen; omega) (by omega) (by have := S6.size; simp; omega) ?_)
            intro v2 w2 hown2 hg2 hn2
            obtain ⟨a2, c2, rfl, hst2⟩ := S6.app hown2 hg2
            clear hown2 hg2 hn2 hst S5 S6
            go_wp2
            exact ⟨⟨k + 1, m' + 1, a2, c2, gs ++ [(k : Int)], by omega, by go_num, rfl, by omega, HG, hst2⟩, by simp [intOf]; omega⟩
          | false =>
            rw [h2] at hs
            have HG : Hid (gs = arS es v (k + 1)) := by show _ = _; rw [hs, hgs.out]; simp
            dsimp only at HH1
            go_wp2_with (go_at_call 39; refine HH1.out.mono ?_; rintro e w5 ⟨rfl, S5⟩; refine Hid.out ?_)
            refine (show ∀ {p : Prop}, p → Hid p from fun h => h) ?_
            have HH2 := hideIt (HHA.out w5 _ _ _ _ (v, (k : Int)) S5)
            rw [h2] at HH2
            dsimp only at HH2
            clear k0 k1 hs hgs h1 h2
            obtain ⟨k0, k1⟩ := (S5.inG S1).cells
            go_wp2_with (go_at_call 39; refine HH2.out.mono ?_; rintro e w6 ⟨rfl, S6⟩; refine Hid.out ?_)
            refine (show ∀ {p : Prop}, p → Hid p from fun h => h) ?_
            clear k0 k1
            go_wp2
            exact ⟨⟨k + 1, m', a', c', gs, by omega, by go_num, rfl, by omega, HG, S6⟩, by simp [intOf]; omega⟩
      · obtain rfl : k = nn := by omega
        have HF := hgs
        have HA := hideIt (hst.ans S1)
        clear hgs hst
        go_wp2
        go_ret
        rw [HO.out, ← HF.out]
        exact HA.out
end Go.Proofs.Ytfkoddhojcjohab
