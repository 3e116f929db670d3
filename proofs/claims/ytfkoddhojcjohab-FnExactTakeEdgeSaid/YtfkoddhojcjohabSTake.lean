/- The specification's l05Without and TakeEdge. -/
import Derived.Test.YtfkoddhojcjohabSPutE
namespace Go.Proofs.Ytfkoddhojcjohab
open Go.RowKit

theorem PutSt.drewN {w : World} {e : EdgeV} {a : Option Addr} {m c : Nat} {gs : List EdgeV} {u : World} (h : PutSt w e a m c gs u) (k : Nat) : PutSt w e a m c gs (u.drewN k) := h.up (below_drewN (Below.refl _ _) k)

set_option maxRecDepth 100000 in
set_option maxHeartbeats 4000000 in
theorem l05Without_any (es : List EdgeV) (e : EdgeV) (n : Nat) (a : Option Addr) (c : Nat) (hn : n ≤ 1048576) (w : World) (h : Es w w.heap.size a n es) :
    Calls Try.prog 27 #[.slice a n c, .agg #[.int .i64 e.1, .int .i64 e.2]] w fun x w' => ∃ a' m' c', x = .returned (.slice a' m' c') ∧ w'.ownsRow w.heap.size 34 2 (.slice a' m' c') m' (ecells (outE es e)) ∧ Below w.heap.size w w' := by
  obtain ⟨i0, hi, hz0, hz1, hz2⟩ := info_parts infoIE
  obtain ⟨hlen, hrow⟩ := h
  have HR := hideIt hrow
  clear hrow
  go_enter Try.func27, Try.ntmps27
  go_wp2
  go_loopw [5, 6] (fun v i wr => ∃ (k m' : Nat) (a' : Option Addr) (c' : Nat) (gs : List EdgeV), k ≤ n ∧ i = .int .i64 (k : Int) ∧ v = .slice a' m' c' ∧ m' ≤ k ∧ Hid (gs = outE (es.take k) e) ∧ PutSt w e a' m' c' gs wr) (fun _ i _ => n - (intOf i).toNat)
  case atStart =>
    refine ⟨0, 0, _, _, [], by omega, rfl, rfl, by omega, by show _ = _; simp [outE], ?_, ?_⟩
    · have h0 := World.ownsRow_lit (base := w.heap.size + 1) (e := 34) (size := 2) (wE w e) #[] 0 (by rw [wE_size]; omega) (by unfold maxLen; omega) (by simp)
      rw [wE_size] at h0
      simpa [ecells, wE] using h0
    · have h1 := (Below.refl (w.heap.size + 1) (wE w e)).alloc (by rw [wE_size]; omega) (.cells #[] 34)
      simpa [wE] using h1
  case round =>
    obtain ⟨k, m', a', c', gs, hk, rfl, rfl, hm, hgs, hst⟩ := hrel
    by_cases hlt : k < n
    · rcases HR.out with hz | ⟨b, off, rfl, hbl, hc⟩
      · omega
      · obtain ⟨f, hf⟩ : ∃ f, es[k]? = some f := ⟨es[k]'(by omega), List.getElem?_eq_getElem (by omega)⟩
        obtain ⟨c0, c1⟩ := hc k f hf
        have b1 : (0 : Int) ≤ (k : Int) := by omega
        have b2 : (k : Int) < (n : Int) := by omega
        have e0 : wr.cell? ⟨b, off + k * 2, none⟩ = some (.int .i64 f.1) := by rw [hst.below.cell hbl]; exact c0
        have e1 : wr.cell? ⟨b, off + k * 2 + 1, none⟩ = some (.int .i64 f.2) := by rw [hst.below.cell hbl]; exact c1
        obtain ⟨x0, x1⟩ := hst.box
        by_cases hfe : f = e
        · subst hfe
          have HG : Hid (gs = outE (es.take (k + 1)) f) := by
            show _ = _
            rw [take_snocF es k f hf, hgs.out]
            simp [outE]
          clear hc hf c0 c1 hgs
          go_wp2
          go_quiet (fail)
          go_wp2
          exact ⟨⟨k + 1, m', a', c', gs, by omega, by go_num, rfl, by omega, HG, hst.drewN _⟩, by simp [intOf]; omega⟩
        · have HG : Hid (gs ++ [f] = outE (es.take (k + 1)) e) := by
            show _ = _
            rw [take_snocF es k f hf, hgs.out]
            simp [outE, hfe]
          have z1 := hst.size
          clear hc hf c0 c1 hgs
          have hk4 : (wr.drew.cell? ⟨b, off + k * 2, none⟩ = some (.int .i64 f.1) ∧ wr.drew.cell? ⟨b, off + k * 2 + 1, none⟩ = some (.int .i64 f.2)) ∧ wr.drew.cell? ⟨w.heap.size, 0, none⟩ = some (.int .i64 e.1) ∧ wr.drew.cell? ⟨w.heap.size, 1, none⟩ = some (.int .i64 e.2) := ⟨⟨e0, e1⟩, x0, x1⟩
          by_cases h1 : f.1 = e.1
          · obtain ⟨fa, fb⟩ := f
            dsimp only at *
            subst h1
            have h2 : ¬ fb = e.2 := fun h2 => hfe (Prod.ext rfl h2)
            have d2 : (fb == e.2) = false := by simpa using h2
            clear hfe
            go_wp2
            go_region_held3 (fun u => (u.cell? ⟨b, off + k * 2, none⟩ = some (.int .i64 e.1) ∧ u.cell? ⟨b, off + k * 2 + 1, none⟩ = some (.int .i64 fb)) ∧ u.cell? ⟨w.heap.size, 0, none⟩ = some (.int .i64 e.1) ∧ u.cell? ⟨w.heap.size, 1, none⟩ = some (.int .i64 e.2)) (exact hk4) (fail)
            go_wp2_with (at_builtin; refine wpList_append_own _ rfl _ _ 28 rfl (w.heap.size + 1) 34 i0 _ 2 16 Try.underlying28 hi hz0 hz1 hz2 rfl (by decide) _ _ _ rfl ((hst.own.alloc _).drew) ⟨wr.heap.size, 0, none⟩ 1 1 [.int .i64 e.1, .int .i64 fb] rfl rfl (news1 _ (e.1, fb)) (by intro u hu; simp at hu; rcases hu with rfl | rfl <;> rfl) (by unfold maxLen; omega) (by omega) (by simp; omega) ?_)
            intro v2 w2 hown2 hg2 hn2
            obtain ⟨a2, c2, rfl, hst2⟩ := (hst.up (Below.refl _ _).drew).app (g := (e.1, fb)) (o := .cells #[.int .i64 e.1, .int .i64 fb] 34) hown2 hg2
            clear hown2 hg2 hn2 e0 e1 x0 x1 hst hk4
            go_wp2
            exact ⟨⟨k + 1, m' + 1, a2, c2, gs ++ [(e.1, fb)], by omega, by go_num, rfl, by omega, HG, hst2⟩, by simp [intOf]; omega⟩
          · have d1 : (f.1 == e.1) = false := by simpa using h1
            clear hfe
            go_wp2
            go_region_held3 (fun u => (u.cell? ⟨b, off + k * 2, none⟩ = some (.int .i64 f.1) ∧ u.cell? ⟨b, off + k * 2 + 1, none⟩ = some (.int .i64 f.2)) ∧ u.cell? ⟨w.heap.size, 0, none⟩ = some (.int .i64 e.1) ∧ u.cell? ⟨w.heap.size, 1, none⟩ = some (.int .i64 e.2)) (exact hk4) (fail)
            go_wp2_with (at_builtin; refine wpList_append_own _ rfl _ _ 28 rfl (w.heap.size + 1) 34 i0 _ 2 16 Try.underlying28 hi hz0 hz1 hz2 rfl (by decide) _ _ _ rfl ((hst.own.alloc _).drew) ⟨wr.heap.size, 0, none⟩ 1 1 [.int .i64 f.1, .int .i64 f.2] rfl rfl (news1 _ f) (by intro u hu; simp at hu; rcases hu with rfl | rfl <;> rfl) (by unfold maxLen; omega) (by omega) (by simp; omega) ?_)
            intro v2 w2 hown2 hg2 hn2
            obtain ⟨a2, c2, rfl, hst2⟩ := (hst.up (Below.refl _ _).drew).app (o := .cells #[.int .i64 f.1, .int .i64 f.2] 34) hown2 hg2
            clear hown2 hg2 hn2 e0 e1 x0 x1 hst hk4
            go_wp2
            exact ⟨⟨k + 1, m' + 1, a2, c2, gs ++ [f], by omega, by go_num, rfl, by omega, HG, hst2⟩, by simp [intOf]; omega⟩
    · obtain rfl : k = n := by omega
      have HF : Hid (gs = outE es e) := by show _ = _; rw [hgs.out, List.take_of_length_le (by omega)]
      have HO := hideIt (own_mono hst.own (show w.heap.size ≤ w.heap.size + 1 by omega))
      have hb := hst.below
      clear hgs hst
      go_wp2
      go_ret
      exact ⟨a', m', c', rfl, by rw [← HF.out]; exact HO.out, hb⟩

set_option maxRecDepth 100000 in
set_option maxHeartbeats 4000000 in
theorem sTakeEdge_any (N : Int) (es : List EdgeV) (f : EdgeV) (n : Nat) (a : Option Addr) (c : Nat) (hn : n ≤ 1048576) (w : World) (h : Es w w.heap.size a n es) :
    Calls Try.prog 8 #[.agg #[.int .i64 N, .slice a n c], .agg #[.int .i64 f.1, .int .i64 f.2]] w fun e w' => GAns w N (takE N es f) e w' := by
  have hA : Hid (∀ u, In3 w N a n c f u → Es u u.heap.size a n es) := fun u hu => h.up hu.below
  have HGO : Hid (∀ u, In3 w N a n c f u → Calls Try.prog 25 #[.agg #[.int .i64 N, .slice a n c]] u fun e v => e = .returned (.bool (gB N es)) ∧ In3 w N a n c f v) := fun u hu =>
    (sGraphOk_any N es n a c hn u (hA.out u hu)).mono fun _ _ ⟨he, hb⟩ => ⟨he, hu.up hb⟩
  have HHE : Hid (∀ u, In3 w N a n c f u → Calls Try.prog 26 #[.agg #[.int .i64 N, .slice a n c], .agg #[.int .i64 f.1, .int .i64 f.2]] u fun e v => e = .returned (.bool (hasB es f)) ∧ In3 w N a n c f v) := fun u hu =>
    (sHasEdge_any N es f n a c hn u (hA.out u hu)).mono fun _ _ ⟨he, hb⟩ => ⟨he, hu.up hb⟩
  have S1 := In3.start w N a n c f
  have HK : Hid (∀ u, In3 w N a n c f u → (u.cell? ⟨w.heap.size, 0, none⟩ = some (.int .i64 N) ∧ u.cell? ⟨w.heap.size, 1, none⟩ = some (.slice a n c)) ∧ (u.cell? ⟨w.heap.size + 1, 0, none⟩ = some (.int .i64 f.1) ∧ u.cell? ⟨w.heap.size + 1, 1, none⟩ = some (.int .i64 f.2))) := fun u hu => hu.cells
  cases hG : gB N es with
  | false =>
    rw [hG] at HGO
    have HO := hideIt (show takE N es f = none by unfold takE; rw [hG, if_neg (by simp)])
    clear hG HHE h hA
    go_enter Try.func8, Try.ntmps8
    go_wp2_with (go_at_call 25; refine (HGO.out _ S1).mono ?_; rintro e w4 ⟨rfl, S4⟩; refine Hid.out ?_)
    refine (show ∀ {p : Prop}, p → Hid p from fun h => h) ?_
    obtain ⟨⟨r0, r1⟩, r2, r3⟩ := S4.out
    have s4 := S4.size
    go_wp2
    exact bodyPost_ret (v := .tuple #[.agg #[.int .i64 0, .slice none 0 0], .bool false]) (by simp [results, Try.results8, go_sem, r0, r1]) rfl (gans_no S4 HO.out)
  | true =>
    rw [hG] at HGO
    cases hH : hasB es f with
    | false =>
      rw [hH] at HHE
      have HO := hideIt (show takE N es f = none by unfold takE; rw [hH, if_neg (by simp)])
      clear hG hH h hA
      go_enter Try.func8, Try.ntmps8
      go_wp2_with (go_at_call 25; refine (HGO.out _ S1).mono ?_; rintro e w4 ⟨rfl, S4⟩; refine Hid.out ?_)
      refine (show ∀ {p : Prop}, p → Hid p from fun h => h) ?_
      obtain ⟨⟨k0, k1⟩, k2, k3⟩ := HK.out _ S4
      go_wp2_with (go_at_call 26; refine (HHE.out _ S4).mono ?_; rintro e w6 ⟨rfl, S6⟩; refine Hid.out ?_)
      refine (show ∀ {p : Prop}, p → Hid p from fun h => h) ?_
      obtain ⟨⟨r0, r1⟩, r2, r3⟩ := S6.out
      have s6 := S6.size
      clear k0 k1 k2 k3
      go_wp2
      exact bodyPost_ret (v := .tuple #[.agg #[.int .i64 0, .slice none 0 0], .bool false]) (by simp [results, Try.results8, go_sem, r0, r1]) rfl (gans_no S6 HO.out)
    | true =>
      rw [hH] at HHE
      have HO := hideIt (show takE N es f = some (outE es f) by unfold takE; rw [hG, hH, if_pos (by simp)])
      have HPt : Hid (∀ u, In3 w N a n c f u → Calls Try.prog 27 #[.slice a n c, .agg #[.int .i64 f.1, .int .i64 f.2]] u fun x v => ∃ a' m' c', x = .returned (.slice a' m' c') ∧ Hid (v.ownsRow u.heap.size 34 2 (.slice a' m' c') m' (ecells (outE es f))) ∧ In3 w N a n c f v) := fun u hu =>
        (l05Without_any es f n a c hn u (hA.out u hu)).mono fun _ _ ⟨a', m', c', he, ho, hb⟩ => ⟨a', m', c', he, ho, hu.up hb⟩
      clear hG hH h
      go_enter Try.func8, Try.ntmps8
      go_wp2_with (go_at_call 25; refine (HGO.out _ S1).mono ?_; rintro e w4 ⟨rfl, S4⟩; refine Hid.out ?_)
      refine (show ∀ {p : Prop}, p → Hid p from fun h => h) ?_
      obtain ⟨⟨k0, k1⟩, k2, k3⟩ := HK.out _ S4
      go_wp2_with (go_at_call 26; refine (HHE.out _ S4).mono ?_; rintro e w7 ⟨rfl, S7⟩; refine Hid.out ?_)
      refine (show ∀ {p : Prop}, p → Hid p from fun h => h) ?_
      clear k0 k1 k2 k3 S4 S1 HGO HHE
      have S7d := S7.drew
      have z7 := S7.size
      have HPc := hideIt (HPt.out _ S7d)
      clear HPt hA
      go_wp2
      go_region_held3 (fun u => (u.cell? ⟨w.heap.size, 0, none⟩ = some (.int .i64 N) ∧ u.cell? ⟨w.heap.size, 1, none⟩ = some (.slice a n c)) ∧ (u.cell? ⟨w.heap.size + 1, 0, none⟩ = some (.int .i64 f.1) ∧ u.cell? ⟨w.heap.size + 1, 1, none⟩ = some (.int .i64 f.2)))
        (first | exact S8.cellsSet _ _ | exact HK.out _ S8 | exact HK.out _ S7d)
        ((go_at_call 27; refine HPc.out.mono ?_; rintro e w8 ⟨a', m', c', rfl, hown8, S8⟩; obtain ⟨⟨r0, r1⟩, r2, r3⟩ := S8.out))
      all_goals
        go_wp2
        exact bodyPost_ret (v := .tuple #[.agg #[.int .i64 N, .slice a' m' c'], .bool true]) (by simp [results, Try.results8, go_sem, r0, r1]) rfl (gans_yes S8 HO.out (by show _ ≤ w7.heap.size; omega) hown8.out)
end Go.Proofs.Ytfkoddhojcjohab
