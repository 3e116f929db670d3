/- The specification's Labels. Draws of answers. Draws of any answers. Drawn answers, and drawn texts of answers. Lists that are the same are told so. The specification's ReadOrder. -/
import Derived.Test.YtkhhagjcmbbdpaaKLab10
import Derived.Test.YtkhhagjcmbbdpaaKDw10
import Derived.Test.YtkhhagjcmbbdpaaKIRa10
import Derived.Test.YtkhhagjcmbbdpaaKLawB10
namespace Go.Proofs.Ytkhhagjcmbbdpaa
open Go.RowKit

theorem set_other {u : World} {G j x o : Nat} {v : Value} (h : x ≠ G) : (u.setCell ⟨G, j, none⟩ v).cell? ⟨x, o, none⟩ = u.cell? ⟨x, o, none⟩ := World.cell?_of_block (w := u) (heap_setCell_other u ⟨G, j, none⟩ x v h)

theorem ic_set (ls : List Int) (i : Nat) (x : Int) : (ic ls).set i (.int .i64 x) = ic (ls.set i x) := by simp [ic, List.map_set]

/-- the row of labels is ours -/
structure LSt (w : World) (g cap n : Nat) (ls : List Int) (u : World) : Prop where
  own : u.ownsRow w.heap.size 3 1 (.slice (some ⟨g, 0, none⟩) n cap) n (ic ls)
  bel : Below w.heap.size w u
theorem LSt.len {w : World} {g cap n : Nat} {ls : List Int} {u : World} (h : LSt w g cap n ls u) : ls.length = n := by have := h.own.1; rw [ic_len] at this; omega
theorem LSt.cell {w : World} {g cap n : Nat} {ls : List Int} {u : World} (h : LSt w g cap n ls u) (i : Nat) (hi : i < n) : u.cell? ⟨g, i, none⟩ = some (.int .i64 (atI ls (i : Int))) := by
  rw [h.own.cellAt i (by omega)]
  exact ic_at (atI_some (by rw [h.len]; exact hi))
theorem LSt.set {w : World} {g cap n : Nat} {ls : List Int} {u : World} (h : LSt w g cap n ls u) (i : Nat) (x : Int) : LSt w g cap n (ls.set i x) (u.setCell ⟨g, i, none⟩ (.int .i64 x)) := by
  have hs := h.own.stored i (.int .i64 x)
  have hl := h.own.lt g rfl
  refine ⟨?_, h.bel.setCell (p := ⟨g, i, none⟩) hl.1 _⟩
  rw [← ic_set]
  exact hs.1

set_option maxRecDepth 100000 in
set_option maxHeartbeats 4000000 in
theorem l05Labels_any (nn : Nat) (hn0 : 1 ≤ nn) (hn12 : nn ≤ 12) (es : List EdgeV) (hE : EsIn es nn) (n : Nat) (a : Option Addr) (c : Nat) (hn : n ≤ 1048576) (w : World) (h : Es w w.heap.size a n es) :
    Calls Try.prog 109 #[.int .i64 (nn : Int), .slice a n c] w fun e w' => IAns w (labs es nn nn) e w' := by
  obtain ⟨i0, hi, hz0, hz1, hz2⟩ := info_parts info3i
  obtain ⟨hlen, hrow⟩ := h
  have HR := hideIt hrow
  have HE := hideIt hE
  clear hrow hE
  go_enter Try.func109, Try.ntmps109
  go_wp2
  go_loopw [5, 6] (fun r i wr => ∃ (k : Nat) (a' : Option Addr) (c' : Nat), k ≤ nn ∧ i = .int .i64 (k : Int) ∧ r = .slice a' k c' ∧ ISt w a' k c' (lab0 k) wr) (fun _ i _ => nn - (intOf i).toNat)
  case atStart => exact ⟨0, _, _, by omega, rfl, rfl, ISt.start w⟩
  case round =>
    obtain ⟨k, a', c', hk, rfl, rfl, hst⟩ := hrel
    have zr := hst.size
    by_cases hlt : k < nn
    · have b2 : (k : Int) < (nn : Int) := by omega
      go_wp2_with (at_builtin; refine wpList_append_own _ rfl _ _ 35 rfl w.heap.size 3 i0 _ 1 8 Try.underlying35 hi hz0 hz1 hz2 rfl (by decide) _ _ _ rfl (hst.own.alloc _) ⟨wr.heap.size, 0, none⟩ 1 1 [.int .i64 (k : Int)] rfl rfl (newsI _ _) (by intro u hu; simp at hu; subst hu; rfl) (by unfold maxLen; omega) (by omega) (by simp; omega) ?_)
      intro v2 w2 hown2 hg2 hn2
      obtain ⟨a2, c2, rfl, hst2⟩ := hst.app hown2 hg2
      rw [← lab0_snoc] at hst2
      clear hown2 hg2 hn2 hst
      go_wp2
      exact ⟨⟨k + 1, a2, c2, by omega, by go_num, rfl, hst2⟩, by simp [intOf]; omega⟩
    · obtain rfl : k = nn := by omega
      obtain ⟨g, rfl, hL0⟩ : ∃ g, a' = some ⟨g, 0, none⟩ ∧ LSt w g c' k (lab0 k) wr := by
        rcases hst.own.2 with ⟨_, h0⟩ | ⟨g, cap, cur, hv, _⟩
        · omega
        · simp at hv
          obtain ⟨rfl, rfl⟩ := hv
          exact ⟨g, rfl, hst.own, hst.bel⟩
      clear hst zr
      have d0 : decide ((k : Int) < (k : Int)) = false := decide_eq_false (by omega)
      go_wp2
      go_loopw [7] (fun i v => ∃ (q : Nat), q ≤ k ∧ i = .int .i64 (q : Int) ∧ LSt w g c' k (labs es k q) v) (fun i _ => k - (intOf i).toNat)
      case atStart => exact ⟨0, by omega, rfl, hL0⟩
      case round =>
        obtain ⟨q, hq, rfl, hL⟩ := hrel
        clear hL0
        by_cases hlt2 : q < k
        · have b2 : (q : Int) < (k : Int) := by omega
          have HL0 := hideIt hL
          clear hL
          generalize hls0 : labs es k q = ls0 at HL0
          have HQ : Hid (roundL ls0 es = labs es k (q + 1)) := by show _ = _; rw [← hls0]; rfl
          clear hls0
          go_wp2
          go_loopw [8] (fun i v => ∃ (p : Nat), p ≤ n ∧ i = .int .i64 (p : Int) ∧ LSt w g c' k (roundL ls0 (es.take p)) v) (fun i _ => n - (intOf i).toNat)
          case atStart => exact ⟨0, by omega, rfl, by rw [List.take_zero]; exact HL0.out⟩
          case round =>
            obtain ⟨p, hp, rfl, hL⟩ := hrel
            by_cases hlt3 : p < n
            · rcases HR.out with hz | ⟨b, off, rfl, hbl, hc⟩
              · omega
              · obtain ⟨f, hf⟩ : ∃ f, es[p]? = some f := ⟨es[p]'(by omega), List.getElem?_eq_getElem (by omega)⟩
                obtain ⟨c0, c1⟩ := hc p f hf
                have hfi := HE.out f (List.mem_of_getElem? hf)
                have b3 : (0 : Int) ≤ (p : Int) := by omega
                have b4 : (p : Int) < (n : Int) := by omega
                have b5 : (0 : Int) ≤ f.1 := hfi.1
                have b6 : f.1 < (k : Int) := by omega
                have b7 : (0 : Int) ≤ f.2 := by omega
                have b8 : f.2 < (k : Int) := hfi.2.2
                have e0 : wr.cell? ⟨b, off + p * 2, none⟩ = some (.int .i64 f.1) := by rw [hL.bel.cell hbl]; exact c0
                have e1 : wr.cell? ⟨b, off + p * 2 + 1, none⟩ = some (.int .i64 f.2) := by rw [hL.bel.cell hbl]; exact c1
                have x0 := hL.cell f.1.toNat (by omega)
                have x1 := hL.cell f.2.toNat (by omega)
                rw [show ((f.1.toNat : Nat) : Int) = f.1 by omega] at x0
                rw [show ((f.2.toNat : Nat) : Int) = f.2 by omega] at x1
                have f0 := hL.own.frozenAt f.1.toNat
                have f1 := hL.own.frozenAt f.2.toNat
                have HX := hideIt (roundL_snoc ls0 (es.take p) f)
                rw [← take_snocF es p f hf] at HX
                have hgl := (hL.own.lt g rfl).1
                have hgb : g ≠ b := by omega
                generalize hls : roundL ls0 (es.take p) = ls at hL x0 x1 HX
                clear hls hf hc c0 c1
                by_cases h1 : atI ls f.1 < atI ls f.2
                · have HS : Hid (LSt w g c' k (roundL ls0 (es.take (p + 1))) (wr.setCell ⟨g, f.2.toNat, none⟩ (.int .i64 (atI ls f.1)))) := by
                    show LSt _ _ _ _ _ _
                    rw [HX.out]; unfold relax; rw [if_pos h1]; exact hL.set _ _
                  have d1 : decide (atI ls f.1 < atI ls f.2) = true := decide_eq_true h1
                  have d2 : decide (atI ls f.2 < atI ls f.1) = false := decide_eq_false (by omega)
                  have e0' : (wr.setCell ⟨g, f.2.toNat, none⟩ (.int .i64 (atI ls f.1))).cell? ⟨b, off + p * 2, none⟩ = some (.int .i64 f.1) := by rw [set_other (fun e => hgb e.symm)]; exact e0
                  generalize atI ls f.1 = va at *
                  generalize atI ls f.2 = vb at *
                  clear hL HX
                  go_wp2
                  exact ⟨⟨p + 1, by omega, by go_num, HS.out⟩, by simp [intOf]; omega⟩
                · have d1 : decide (atI ls f.1 < atI ls f.2) = false := decide_eq_false h1
                  by_cases h2 : atI ls f.2 < atI ls f.1
                  · have HS : Hid (LSt w g c' k (roundL ls0 (es.take (p + 1))) (wr.setCell ⟨g, f.1.toNat, none⟩ (.int .i64 (atI ls f.2)))) := by
                      show LSt _ _ _ _ _ _
                      rw [HX.out]; unfold relax; rw [if_neg h1, if_pos h2]; exact hL.set _ _
                    have d2 : decide (atI ls f.2 < atI ls f.1) = true := decide_eq_true h2
                    generalize atI ls f.1 = va at *
                    generalize atI ls f.2 = vb at *
                    clear hL HX
                    go_wp2
                    exact ⟨⟨p + 1, by omega, by go_num, HS.out⟩, by simp [intOf]; omega⟩
                  · have HS : Hid (LSt w g c' k (roundL ls0 (es.take (p + 1))) wr) := by
                      show LSt _ _ _ _ _ _
                      rw [HX.out]; unfold relax; rw [if_neg h1, if_neg h2]; exact hL
                    have d2 : decide (atI ls f.2 < atI ls f.1) = false := decide_eq_false h2
                    generalize atI ls f.1 = va at *
                    generalize atI ls f.2 = vb at *
                    clear hL HX
                    go_wp2
                    exact ⟨⟨p + 1, by omega, by go_num, HS.out⟩, by simp [intOf]; omega⟩
            · rw [List.take_of_length_le (by omega), HQ.out] at hL
              go_wp2
              exact ⟨⟨q + 1, by omega, by go_num, hL⟩, by simp [intOf]; omega⟩
        · obtain rfl : q = k := by omega
          have HA := hideIt (show IAns w (labs es q q) (.returned (.slice (some ⟨g, 0, none⟩) q c')) wr from ⟨_, _, _, rfl, hL.own, hL.bel⟩)
          clear hL
          go_wp2
          go_ret
          exact HA.out

set_option maxHeartbeats 2000000 in
theorem sLabels_any (N : Int) (es : List EdgeV) (n : Nat) (a : Option Addr) (c : Nat) (hn : n ≤ 1048576) (w : World) (h : Es w w.heap.size a n es) :
    Calls Try.prog 106 #[.agg #[.int .i64 N, .slice a n c]] w fun e w' => IAns w (labE N es) e w' := by
  have HGO : Hid (∀ u, InG w N a n c u → Calls Try.prog 108 #[.agg #[.int .i64 N, .slice a n c]] u fun e v => e = .returned (.bool (gB N es)) ∧ InG w N a n c v) := fun u hu =>
    (sGraphOk_any N es n a c hn u (h.up hu.below)).mono fun _ _ ⟨he, hb⟩ => ⟨he, hu.up hb⟩
  have S1 := InG.start w N a n c
  cases hG : gB N es with
  | false =>
    rw [hG] at HGO
    have HO := hideIt (show labE N es = [] by unfold labE; rw [hG, if_neg (by simp)])
    clear hG h
    go_enter Try.func106, Try.ntmps106
    go_wp2_with (go_at_call 108; refine (HGO.out _ S1).mono ?_; rintro e w4 ⟨rfl, S4⟩; refine Hid.out ?_)
    refine (show ∀ {p : Prop}, p → Hid p from fun h => h) ?_
    have HA := hideIt ((ISt.start w4).ans S4)
    go_wp2
    go_ret
    rw [HO.out]
    exact HA.out
  | true =>
    rw [hG] at HGO
    have hNb := (gB_chk hG).1
    have HEI := hideIt (esIn_of hG)
    have HO := hideIt (show labE N es = labs es N.toNat N.toNat by unfold labE; rw [hG, if_pos rfl])
    have HR := hideIt h
    obtain ⟨nn, rfl⟩ : ∃ nn : Nat, N = (nn : Int) := ⟨N.toNat, by omega⟩
    rw [Int.toNat_natCast] at HO HEI
    clear hG h
    go_enter Try.func106, Try.ntmps106
    go_wp2_with (go_at_call 108; refine (HGO.out _ S1).mono ?_; rintro e w4 ⟨rfl, S4⟩; refine Hid.out ?_)
    refine (show ∀ {p : Prop}, p → Hid p from fun h => h) ?_
    obtain ⟨k0, k1⟩ := S4.cells
    have z4 := S4.size
    have HL := hideIt (l05Labels_any nn (by omega) (by omega) es HEI.out n a c hn w4 (HR.out.up S4.below))
    clear HGO S1
    go_wp2_with (go_at_call 109; refine HL.out.mono ?_; rintro e w5 ⟨a', m', c', rfl, ho, hb⟩; refine Hid.out ?_)
    refine (show ∀ {p : Prop}, p → Hid p from fun h => h) ?_
    have HA := hideIt (show IAns w (labs es nn nn) (.returned (.slice a' m' c')) w5 from ⟨a', m', c', rfl, own_mono ho (by omega), S4.below.trans (hb.mono (by omega))⟩)
    clear ho hb HL
    go_wp2
    go_ret
    rw [HO.out]
    exact HA.out
end Go.Proofs.Ytkhhagjcmbbdpaa
namespace Go.Proofs.Ytkhhagjcmbbdpaa
open Go.RowKit Vt

theorem chk_of {n : Int} {es : List EdgeV} (h1 : ∀ e ∈ es, eB n e = true) (h2 : Asc es) : chk n es = true := chk_yes fun j hj => by
  have he : es[j]? = some es[j] := List.getElem?_eq_getElem hj
  have hb := h1 _ (List.getElem_mem hj)
  cases j with
  | zero => rw [chkAt_zero he]; exact hb
  | succ i =>
    have hd : es[i]? = some (es[i]'(by omega)) := List.getElem?_eq_getElem (by omega)
    rw [chkAt_succ he hd, hb, h2 i (i + 1) _ _ (by omega) hd he]
    rfl

theorem asc_of_pairwise {es : List EdgeV} (h : es.Pairwise fun d e => lt d e = true) : Asc es := by
  intro i j d e hij hd he
  obtain ⟨h1, rfl⟩ := List.getElem?_eq_some_iff.1 hd
  obtain ⟨h2, rfl⟩ := List.getElem?_eq_some_iff.1 he
  exact List.pairwise_iff_getElem.1 h i j h1 h2 hij

theorem pairwise_asc' {es : List EdgeV} (h : Asc es) : es.Pairwise fun d e => lt d e = true := by
  rw [List.pairwise_iff_getElem]
  exact fun i j hi hj hij => h i j _ _ hij (List.getElem?_eq_getElem hi) (List.getElem?_eq_getElem hj)

theorem asc_put {es : List EdgeV} {e : EdgeV} (h : Asc es) : Asc (putE es e) := by
  have hp := pairwise_asc' h
  refine asc_of_pairwise ?_
  unfold putE
  rw [List.pairwise_append, List.pairwise_append]
  refine ⟨⟨hp.filter _, List.pairwise_singleton _ _, ?_⟩, hp.filter _, ?_⟩
  · intro d hd x hx
    simp at hx
    subst hx
    exact (List.mem_filter.1 hd).2
  · intro d hd x hx
    have h2 := (List.mem_filter.1 hx).2
    rcases List.mem_append.1 hd with h1 | h1
    · exact lt_trans' (List.mem_filter.1 h1).2 h2
    · simp at h1; subst h1; exact h2

/-- a right graph, drawn so far -/
structure GR (nn : Nat) (es : List EdgeV) (k : Nat) : Prop where
  n2 : 2 ≤ nn
  n12 : nn ≤ 12
  ok : chk (nn : Int) es = true
  len : es.length ≤ k

theorem GR.put {nn : Nat} {es : List EdgeV} {k : Nat} (h : GR nn es k) {e : EdgeV} (he : eB (nn : Int) e = true) : GR nn (putE es e) (k + 1) := by
  refine ⟨h.n2, h.n12, chk_of ?_ (asc_put (asc_of_chk h.ok)), by have := put_len es e; have := h.len; omega⟩
  intro d hd
  unfold putE at hd
  rcases List.mem_append.1 hd with h1 | h1
  · rcases List.mem_append.1 h1 with h2 | h2
    · exact chk_eB h.ok (List.mem_filter.1 h2).1
    · simp at h2; subst h2; exact he
  · exact chk_eB h.ok (List.mem_filter.1 h1).1

theorem GR.more {nn : Nat} {es : List EdgeV} {k j : Nat} (h : GR nn es k) (hkj : k ≤ j) : GR nn es j := ⟨h.n2, h.n12, h.ok, Nat.le_trans h.len hkj⟩

theorem GR.gB {nn : Nat} {es : List EdgeV} {k : Nat} (h : GR nn es k) (hk : k ≤ 66) : gB (nn : Int) es = true := by
  have h1 := h.n2
  have h2 := h.n12
  have h3 := h.len
  unfold Go.Proofs.Ytkhhagjcmbbdpaa.gB
  rw [h.ok, decide_eq_true (by omega), decide_eq_true (by omega)]
  rfl


theorem labE_right {nn : Nat} {es : List EdgeV} (h : gB (nn : Int) es = true) : (labE (nn : Int) es).length = nn := by
  unfold labE
  rw [if_pos h, labs_len, Int.toNat_natCast]

/-- what a draw of an answer answers -/
def DrA (w : World) (G : Nat) (a : Option Addr) (len cap : Nat) (most : Nat) (e : Ending) (w' : World) : Prop :=
  ∃ (num : Int) (ok : Bool) (a' : Option Addr) (k c' : Nat) (es : List EdgeV) (b' : Option Addr) (m d' : Nat) (ls : List Int), e = .returned (ansV num ok a' k c' b' m d') ∧ w'.ownsRow w.heap.size 78 2 (.slice a' k c') k (ecells es) ∧ w'.ownsRow w.heap.size 3 1 (.slice b' m d') m (ic ls) ∧ k ≤ most ∧ m ≤ 12 ∧ Drawn w w' G a len cap

set_option maxRecDepth 100000 in
set_option maxHeartbeats 8000000 in
theorem l09Answer_any (nn : Nat) (h2 : 2 ≤ nn) (h12 : nn ≤ 12) (w : World) (G : Nat) (a : Option Addr) (len cap : Nat) (hl : len ≤ 1048576) (hcur : Cur w G a len cap) (hcode : Code w G a len) :
    Calls Try.prog 96 #[.pointer (some ⟨G, 0, none⟩), .int .i64 (nn : Int)] w fun e w' => ∃ (num : Int) (ok : Bool) (a' : Option Addr) (k c' : Nat) (es : List EdgeV) (b' : Option Addr) (d' : Nat) (ls : List Int), e = .returned (ansV num ok a' k c' b' nn d') ∧ w'.ownsRow w.heap.size 78 2 (.slice a' k c') k (ecells es) ∧ w'.ownsRow w.heap.size 3 1 (.slice b' nn d') nn (ic ls) ∧ k ≤ 8 ∧ Drawn w w' G a len cap := by
  have hGl := hcur.lt
  have HB : Hid (∀ W (m : Int), 0 < m → m ≤ 100 → DS w W G a len cap → Calls Try.prog 90 #[.pointer (some ⟨G, 0, none⟩), .int .i64 m] W fun e w' => ∃ x : Nat, (x : Int) < m ∧ e = .returned (.int .i64 (x : Int)) ∧ Drawn W w' G a len cap) := fun W m h0 h1 hW => l01Below_any m h0 (by omega) W G a len cap hl hW.cur (hW.code hcode)
  have HOn : Hid (∀ W, DS w W G a len cap → Calls Try.prog 67 #[.pointer (some ⟨G, 0, none⟩), .int .i64 2] W fun e w' => ∃ b : Bool, e = .returned (.bool b) ∧ Drawn W w' G a len cap) := fun W hW => l01Once_any 2 (by omega) (by omega) W G a len cap hl hW.cur (hW.code hcode)
  have HE : Hid (∀ W, DS w W G a len cap → Calls Try.prog 102 #[.pointer (some ⟨G, 0, none⟩), .int .i64 (nn : Int)] W fun x w' => ∃ e : EdgeV, Hid (eB (nn : Int) e = true) ∧ x = .returned (.agg #[.int .i64 e.1, .int .i64 e.2]) ∧ Drawn W w' G a len cap) := fun W hW => l05Edge_any nn h2 h12 W G a len cap hl hW.cur (hW.code hcode)
  have HCode := hideIt hcode
  have D0 : DS w ((w.alloc (.cells (ac 0 false none 0 0 none 0 0) 37)).alloc (.cells #[.int .i64 (nn : Int), .slice none 0 0] 120)) G a len cap := ((DS.start hcur).alloc _).alloc _
  have r0 : ((w.alloc (.cells (ac 0 false none 0 0 none 0 0) 37)).alloc (.cells #[.int .i64 (nn : Int), .slice none 0 0] 120)).heap[w.heap.size]? = some (.cells (ac 0 false none 0 0 none 0 0) 37 (0, 0)) := blk_alloc (heap_alloc_new w _) _
  have g0 : ((w.alloc (.cells (ac 0 false none 0 0 none 0 0) 37)).alloc (.cells #[.int .i64 (nn : Int), .slice none 0 0] 120)).heap[w.heap.size + 1]? = some (.cells #[.int .i64 (nn : Int), .slice none 0 0] 120 (0, 0)) := by
    have := heap_alloc_new (w.alloc (.cells (ac 0 false none 0 0 none 0 0) 37)) (.cells #[.int .i64 (nn : Int), .slice none 0 0] 120)
    simpa using this
  have HD0 := hideIt D0
  have Hr0 := hideIt r0
  have Hg0 := hideIt g0
  have HGR : Hid (GR nn [] 0) := ⟨h2, h12, by rfl, by simp⟩
  clear hcur hcode D0 r0 g0
  go_enter Try.func96, Try.ntmps96
  go_wp2
  go_loopw [6] (fun i wr => ∃ (j : Nat) (a' : Option Addr) (k c' : Nat) (es : List EdgeV), j ≤ 7 ∧ i = .int .i64 (j : Int) ∧ Hid (GR nn es j) ∧ Hid (DS w wr G a len cap) ∧ Hid (wr.heap[w.heap.size]? = some (.cells (ac 0 false none 0 0 none 0 0) 37 (0, 0))) ∧ Hid (wr.heap[w.heap.size + 1]? = some (.cells #[.int .i64 (nn : Int), .slice a' k c'] 120 (0, 0))) ∧ Hid (wr.ownsRow w.heap.size 78 2 (.slice a' k c') k (ecells es))) (fun i _ => 8 - (intOf i).toNat)
  case atStart => exact ⟨0, none, 0, 0, [], by omega, rfl, HGR, HD0, Hr0, Hg0, ⟨rfl, .inl ⟨rfl, rfl⟩⟩⟩
  case round =>
    obtain ⟨j, a', k, c', es, hj, rfl, hGR, hD, hr, hg, ho⟩ := hrel
    go_wp2_with (go_at_call 90; refine (HB.out _ 8 (by omega) (by omega) hD.out).mono ?_; rintro e w3 ⟨x3, hx3, rfl, hd3⟩; refine Hid.out ?_)
    refine (show ∀ {p : Prop}, p → Hid p from fun h => h) ?_
    have D3 := hD.out.drawn hd3
    have r3 := blk_drawn hr.out hd3 (by omega)
    have g3 := blk_drawn hg.out hd3 (by omega)
    have o3 := own_drawn ho.out hd3 hGl
    clear hD hr hg ho hd3
    have hkl : es.length = k := by have := o3.1; rw [ecells_length] at this; omega
    have hkj : k ≤ j := by have := hGR.out.len; omega
    by_cases hlt : (j : Int) < (x3 : Int)
    · have d1 : decide ((j : Int) < (x3 : Int)) = true := by simpa using hlt
      have HD3 := hideIt D3
      have Hr3 := hideIt r3
      have Hg3 := hideIt g3
      have Ho3 := hideIt o3
      clear D3 r3 g3 o3
      go_wp2_with (go_at_call 102; refine (HE.out _ HD3.out).mono ?_; rintro e w4 ⟨ed, hed, rfl, hd4⟩; refine Hid.out ?_)
      refine (show ∀ {p : Prop}, p → Hid p from fun h => h) ?_
      have D4 := (HD3.out.drawn hd4).alloc (.cells #[.int .i64 ed.1, .int .i64 ed.2] 78)
      have r4 := blk_alloc (blk_drawn Hr3.out hd4 (by omega)) (.cells #[.int .i64 ed.1, .int .i64 ed.2] 78)
      have g4 := blk_alloc (blk_drawn Hg3.out hd4 (by omega)) (.cells #[.int .i64 ed.1, .int .i64 ed.2] 78)
      have o4 := (own_drawn Ho3.out hd4 hGl).alloc (.cells #[.int .i64 ed.1, .int .i64 ed.2] 78)
      have q0 : (w4.alloc (.cells #[.int .i64 ed.1, .int .i64 ed.2] 78)).cell? ⟨w.heap.size + 1, 0, none⟩ = some (.int .i64 (nn : Int)) := by rw [cell_of_row _ _ 0 _ _ _ g4]; rfl
      have q1 : (w4.alloc (.cells #[.int .i64 ed.1, .int .i64 ed.2] 78)).cell? ⟨w.heap.size + 1, 1, none⟩ = some (.slice a' k c') := by rw [cell_of_row _ _ 1 _ _ _ g4]; rfl
      have HH := hideIt (sHasEdge_any (nn : Int) es ed k a' c' (by omega) _ (Es_of_own o4))
      have bE : Hid ((w4.alloc (.cells #[.int .i64 ed.1, .int .i64 ed.2] 78)).heap[w4.heap.size]? = some (.cells #[.int .i64 ed.1, .int .i64 ed.2] 78 (0, 0))) := heap_alloc_new w4 _
      have HD4 := hideIt D4
      have Hr4 := hideIt r4
      have Hg4 := hideIt g4
      have Ho4 := hideIt o4
      clear D4 r4 g4 o4 hd4 HD3 Hr3 Hg3 Ho3
      cases hb : hasB es ed with
      | true =>
        rw [hb] at HH
        go_wp2_with (go_at_call 105; refine HH.out.mono ?_; rintro e w5 ⟨rfl, hb5⟩)
        refine ⟨⟨j + 1, a', k, c', es, by omega, by go_num, hGR.out.more (by omega), HD4.out.up hb5, blk_up Hr4.out hb5, blk_up Hg4.out hb5, own_up10 Ho4.out hb5⟩, by simp [intOf]; omega⟩
      | false =>
        rw [hb] at HH
        go_wp2_with (go_at_call 105; refine HH.out.mono ?_; rintro e w5 ⟨rfl, hb5⟩; refine Hid.out ?_)
        refine (show ∀ {p : Prop}, p → Hid p from fun h => h) ?_
        have D5 := HD4.out.up hb5
        have r5 := blk_up Hr4.out hb5
        have g5 := blk_up Hg4.out hb5
        have o5 := own_up10 Ho4.out hb5
        have b5 := blk_up bE.out hb5
        have s0 : w5.cell? ⟨w4.heap.size, 0, none⟩ = some (.int .i64 ed.1) := by rw [cell_of_row w5 _ 0 _ _ _ b5]; rfl
        have s1 : w5.cell? ⟨w4.heap.size, 1, none⟩ = some (.int .i64 ed.2) := by rw [cell_of_row w5 _ 1 _ _ _ b5]; rfl
        clear q0 q1
        have q1 : w5.cell? ⟨w.heap.size + 1, 1, none⟩ = some (.slice a' k c') := by rw [cell_of_row _ _ 1 _ _ _ g5]; rfl
        have HPu := hideIt (l05Put_any es ed k a' c' (by omega) w5 (Es_of_own o5))
        have z5 := D5.size
        have HD5 := hideIt D5
        have Hr5 := hideIt r5
        have Hg5 := hideIt g5
        clear D5 r5 g5 o5 b5 bE HD4 Hr4 Hg4 Ho4 hb5 HH
        go_wp2_with (go_at_call 104; refine HPu.out.mono ?_; rintro e w6 ⟨a6, m6, c6, rfl, hown6, hb6⟩; refine Hid.out ?_)
        refine (show ∀ {p : Prop}, p → Hid p from fun h => h) ?_
        have D6 := HD5.out.up hb6
        have r6 := blk_up Hr5.out hb6
        have g6 := blk_up Hg5.out hb6
        have y1 := frozen_of_row w6 _ 1 _ _ g6
        have q2 : w6.cell? ⟨w.heap.size + 1, 1, none⟩ = some (.slice a' k c') := by rw [cell_of_row _ _ 1 _ _ _ g6]; rfl
        have o6 := own_mono hown6 z5
        have HD7 := hideIt (D6.set hGl (w.heap.size + 1) 1 (.slice a6 m6 c6) (by omega))
        have Hr7 : Hid ((w6.setCell ⟨w.heap.size + 1, 1, none⟩ (.slice a6 m6 c6)).heap[w.heap.size]? = some (.cells (ac 0 false none 0 0 none 0 0) 37 (0, 0))) := by show _ = _; rw [heap_setCell_other w6 ⟨w.heap.size + 1, 1, none⟩ w.heap.size _ (by simp)]; exact r6
        have Hg7 : Hid ((w6.setCell ⟨w.heap.size + 1, 1, none⟩ (.slice a6 m6 c6)).heap[w.heap.size + 1]? = some (.cells #[.int .i64 (nn : Int), .slice a6 m6 c6] 120 (0, 0))) := by show _ = _; rw [heap_setCell_same w6 _ 1 _ _ _ g6]; rfl
        have Ho7 := hideIt (o6.kept (gr_set w6 (w.heap.size + 1) 1 (.slice a6 m6 c6)) (.inr (own_box o6 g6 (by decide))))
        have HGR7 := hideIt (hGR.out.put hed.out)
        clear D6 r6 g6 o6 hown6 hb6 HD5 Hr5 Hg5 HPu s0 s1 q1
        go_wp2
        refine ⟨⟨j + 1, a6, m6, c6, _, by omega, by go_num, HGR7, HD7, Hr7, Hg7, Ho7⟩, by simp [intOf]; omega⟩
    · have d1 : decide ((j : Int) < (x3 : Int)) = false := by simpa using hlt
      have hgB := hGR.out.gB (by omega)
      have hz3 := D3.size
      have KG : Hid (∀ W, w3.grownBy W (some G) → (W.cell? ⟨w.heap.size + 1, 0, none⟩ = some (.int .i64 (nn : Int)) ∧ W.cell? ⟨w.heap.size + 1, 1, none⟩ = some (.slice a' k c'))) := fun W hW => by
        have h1 := blk_row g3 hW (by simp; omega)
        exact ⟨by rw [cell_of_row W _ 0 _ _ _ h1]; rfl, by rw [cell_of_row W _ 1 _ _ _ h1]; rfl⟩
      have HLb : Hid (∀ W, w3.grownBy W (some G) → Calls Try.prog 106 #[.agg #[.int .i64 (nn : Int), .slice a' k c']] W fun e w' => ∃ b' d', e = .returned (.slice b' nn d') ∧ w'.ownsRow W.heap.size 3 1 (.slice b' nn d') nn (ic (labE (nn : Int) es)) ∧ Below W.heap.size W w') := fun W hW => (sLabels_any (nn : Int) es k a' c' (by omega) W (Es_of_own (o3.kept hW (own_ne o3 hGl)))).mono fun _ _ ⟨b', m', d', he, hown, hb⟩ => by
        have hm : m' = nn := by have := hown.1; rw [ic_len, labE_right hgB] at this; omega
        subst hm
        exact ⟨b', d', he, hown, hb⟩
      have HB3 : Hid (∀ W (m : Int), 0 < m → m ≤ 100 → DS w W G a len cap → Calls Try.prog 90 #[.pointer (some ⟨G, 0, none⟩), .int .i64 m] W fun e w' => ∃ x : Nat, (x : Int) < m ∧ e = .returned (.int .i64 (x : Int)) ∧ Drawn W w' G a len cap) := HB
      have D4 := D3.drew
      have G4 := gr_drew w3 (some G)
      have Hr3 := hideIt r3
      have Ho3 := hideIt o3
      clear D3 r3 g3 o3 hGR hgB HE HB hkl
      have HK8 : Hid (∀ (u : World) (v0 v1 v2 v3 : Value), (u.cell? ⟨w.heap.size + 1, 0, none⟩ = some (.int .i64 (nn : Int)) ∧ u.cell? ⟨w.heap.size + 1, 1, none⟩ = some (.slice a' k c')) → (((((u.setCell ⟨w.heap.size, 0, none⟩ v0).setCell ⟨w.heap.size, 1, none⟩ v1).setCell ⟨w.heap.size, 2, none⟩ v2).setCell ⟨w.heap.size, 3, none⟩ v3).cell? ⟨w.heap.size + 1, 0, none⟩ = some (.int .i64 (nn : Int)) ∧ ((((u.setCell ⟨w.heap.size, 0, none⟩ v0).setCell ⟨w.heap.size, 1, none⟩ v1).setCell ⟨w.heap.size, 2, none⟩ v2).setCell ⟨w.heap.size, 3, none⟩ v3).cell? ⟨w.heap.size + 1, 1, none⟩ = some (.slice a' k c'))) := fun u v0 v1 v2 v3 h => by
        rw [set_other (by omega), set_other (by omega), set_other (by omega), set_other (by omega), set_other (by omega), set_other (by omega), set_other (by omega), set_other (by omega)]
        exact h
      have HRc : Hid (∀ W, w3.grownBy W (some G) → W.heap[w.heap.size]? = some (.cells (ac 0 false none 0 0 none 0 0) 37 (0, 0))) := fun W hW => blk_row Hr3.out hW (by simp; omega)
      go_wp2
      go_region_held3 (fun u => u.cell? ⟨w.heap.size + 1, 0, none⟩ = some (.int .i64 (nn : Int)) ∧ u.cell? ⟨w.heap.size + 1, 1, none⟩ = some (.slice a' k c'))
        (first | exact KG.out _ G4 | exact KG.out _ G5 | exact KG.out _ G6 | exact KG.out _ G7 | exact HK8.out _ _ _ _ _ (KG.out _ G7))
        (first
        | (go_at_call 90; refine (HB3.out _ 9 (by omega) (by omega) D4).mono ?_; rintro e w5 ⟨x5, hx5, rfl, hd5⟩; have D5 := D4.drawn hd5; have G5 := gr_trans G4 hd5.grown)
        | (go_at_call 67; refine (HOn.out _ D5).mono ?_; rintro e w6 ⟨b6, rfl, hd6⟩; have D6 := D5.drawn hd6; have G6 := gr_trans G5 hd6.grown)
        | (go_at_call 106; refine (HLb.out _ G6).mono ?_; rintro e w7 ⟨b', d', rfl, hown7, hb7⟩; have D7 := D6.up hb7; have G7 := gr_trans G6 (gr_below hb7 (some G)); have r7 := HRc.out _ G7; have z0 : w7.cell? ⟨w.heap.size, 0, none⟩ = some (.int .i64 0) := (by rw [cell_of_row w7 _ 0 _ _ _ r7]; rfl); have z1 : w7.cell? ⟨w.heap.size, 1, none⟩ = some (.bool false) := (by rw [cell_of_row w7 _ 1 _ _ _ r7]; rfl); have z2 : w7.cell? ⟨w.heap.size, 2, none⟩ = some (.slice none 0 0) := (by rw [cell_of_row w7 _ 2 _ _ _ r7]; rfl); have z3 : w7.cell? ⟨w.heap.size, 3, none⟩ = some (.slice none 0 0) := (by rw [cell_of_row w7 _ 3 _ _ _ r7]; rfl); have y0 := frozen_of_row w7 _ 0 _ _ r7; have y1 := frozen_of_row w7 _ 1 _ _ r7; have y2 := frozen_of_row w7 _ 2 _ _ r7; have y3 := frozen_of_row w7 _ 3 _ _ r7))
      all_goals
        go_wp2
        refine bodyPost_ret (v := ansV (IntKind.i64.wrap (1 + (x5 : Int))) b6 a' k c' b' nn d') (by simp [results, Try.results96, go_sem, z0, z1, z2, z3]) rfl ⟨_, _, a', k, c', es, b', d', labE (nn : Int) es, rfl, ?_, ?_, by omega, DS.fin ?_ HCode.out⟩
        · have o7 := Ho3.out.kept G7 (own_ne Ho3.out hGl)
          have hne := own_box o7 r7 (by decide)
          exact (((o7.kept (gr_set _ w.heap.size 0 _) (.inr hne)).kept (gr_set _ w.heap.size 1 _) (.inr hne)).kept (gr_set _ w.heap.size 2 _) (.inr hne)).kept (gr_set _ w.heap.size 3 _) (.inr hne)
        · have o7 := own_mono hown7 D6.size
          have hne := own_box o7 r7 (by decide)
          exact (((o7.kept (gr_set _ w.heap.size 0 _) (.inr hne)).kept (gr_set _ w.heap.size 1 _) (.inr hne)).kept (gr_set _ w.heap.size 2 _) (.inr hne)).kept (gr_set _ w.heap.size 3 _) (.inr hne)
        · exact (((D7.set hGl _ _ _ (Nat.le_refl _)).set hGl _ _ _ (Nat.le_refl _)).set hGl _ _ _ (Nat.le_refl _)).set hGl _ _ _ (Nat.le_refl _)
end Go.Proofs.Ytkhhagjcmbbdpaa
namespace Go.Proofs.Ytkhhagjcmbbdpaa
open Go.RowKit Vt

/-- labels in a row of their own, from a place on -/
def LbR (u : World) (B : Nat) (b' : Option Addr) (m : Nat) (ls : List Int) : Prop :=
  ∃ (g o cp : Nat) (xs : List Int), b' = some ⟨g, o, none⟩ ∧ u.ownsRow B 3 1 (.slice (some ⟨g, 0, none⟩) (o + m) cp) (o + m) (ic xs) ∧ ls = xs.drop o

section
variable {u u' : World} {B : Nat} {b' : Option Addr} {m : Nat} {ls : List Int}
theorem LbR.is (h : LbR u B b' m ls) : Is u u.heap.size b' m ls := by
  obtain ⟨g, o, cp, xs, rfl, ho, rfl⟩ := h
  have hl := ho.1
  rw [ic_len] at hl
  refine ⟨by simp; omega, .inr ⟨g, o, rfl, (ho.lt g rfl).2, fun j x hx => ?_⟩⟩
  rw [List.getElem?_drop] at hx
  have hj : o + j < xs.length := (List.getElem?_eq_some_iff.1 hx).1
  rw [ho.cellAt (o + j) (by omega)]
  exact ic_at hx
theorem LbR.kept {row : Option Nat} (h : LbR u B b' m ls) (hg : u.grownBy u' row) (hne : ∀ g, row = some g → (∀ o, b' ≠ some ⟨g, o, none⟩)) : LbR u' B b' m ls := by
  obtain ⟨g, o, cp, xs, rfl, ho, rfl⟩ := h
  refine ⟨g, o, cp, xs, rfl, own_kept ho hg (fun q hq => ?_), rfl⟩
  simp only [Value.ownBlock]
  intro e
  simp at e
  exact hne q hq o (by simp [e])
theorem LbR.lt (h : LbR u B b' m ls) : ∀ g o, b' = some ⟨g, o, none⟩ → B ≤ g ∧ g < u.heap.size := by
  obtain ⟨g, o, cp, xs, rfl, ho, rfl⟩ := h
  intro q p e
  simp at e
  obtain ⟨rfl, rfl⟩ := e
  exact ho.lt _ rfl
theorem LbR.up (h : LbR u B b' m ls) (hb : Below u.heap.size u u') : LbR u' B b' m ls := by
  obtain ⟨g, o, cp, xs, rfl, ho, rfl⟩ := h
  exact ⟨g, o, cp, xs, rfl, own_up10 ho hb, rfl⟩
theorem LbR.box {t : TypeId} {b : Nat} {cs : Array Value} {fz : Nat × Nat} (h : LbR u B b' m ls) (hb : u.heap[b]? = some (.cells cs t fz)) (hne : (3 : TypeId) ≠ t) : ∀ o, b' ≠ some ⟨b, o, none⟩ := by
  obtain ⟨g, o, cp, xs, rfl, ho, rfl⟩ := h
  intro p e
  simp at e
  have := own_box ho hb hne
  simp [Value.ownBlock] at this
  exact this e.1
theorem LbR.mono {B' : Nat} (h : LbR u B b' m ls) (hB : B' ≤ B) : LbR u B' b' m ls := by
  obtain ⟨g, o, cp, xs, rfl, ho, rfl⟩ := h
  exact ⟨g, o, cp, xs, rfl, own_mono ho hB, rfl⟩
end

/-- an answer in the making -/
structure AD (w u : World) (G : Nat) (a : Option Addr) (len cap : Nat) (O R : Nat) (num : Int) (ok : Bool) (a' : Option Addr) (k c' : Nat) (b' : Option Addr) (m d' : Nat) (es : List EdgeV) (ls : List Int) : Prop where
  ds : DS w u G a len cap
  ob : u.heap[O]? = some (.cells (ac num ok a' k c' b' m d') 37 (0, 0))
  rb : u.heap[R]? = some (.cells (ac 0 false none 0 0 none 0 0) 37 (0, 0))
  own : u.ownsRow w.heap.size 78 2 (.slice a' k c') k (ecells es)
  lab : LbR u w.heap.size b' m ls
  ge : G < w.heap.size ∧ w.heap.size ≤ O ∧ w.heap.size ≤ R ∧ O ≠ R

section
variable {w u u' : World} {G : Nat} {a : Option Addr} {len cap : Nat} {O R : Nat} {num : Int} {ok : Bool} {a' : Option Addr} {k c' : Nat} {b' : Option Addr} {m d' : Nat} {es : List EdgeV} {ls : List Int}
theorem AD.drawn (h : AD w u G a len cap O R num ok a' k c' b' m d' es ls) (d : Drawn u u' G a len cap) : AD w u' G a len cap O R num ok a' k c' b' m d' es ls :=
  ⟨h.ds.drawn d, blk_drawn h.ob d (by have := h.ge; omega), blk_drawn h.rb d (by have := h.ge; omega), own_drawn h.own d h.ge.1, h.lab.kept d.grown (fun g hg o e => by simp at hg; subst hg; have := h.lab.lt _ _ e; have := h.ge.1; omega), h.ge⟩
theorem AD.up (h : AD w u G a len cap O R num ok a' k c' b' m d' es ls) (hb : Below u.heap.size u u') : AD w u' G a len cap O R num ok a' k c' b' m d' es ls :=
  ⟨h.ds.up hb, blk_up h.ob hb, blk_up h.rb hb, own_up10 h.own hb, h.lab.up hb, h.ge⟩
theorem AD.cells (h : AD w u G a len cap O R num ok a' k c' b' m d' es ls) : u.cell? ⟨O, 0, none⟩ = some (.int .i64 num) ∧ u.cell? ⟨O, 1, none⟩ = some (.bool ok) ∧ u.cell? ⟨O, 2, none⟩ = some (.slice a' k c') ∧ u.cell? ⟨O, 3, none⟩ = some (.slice b' m d') :=
  ⟨by rw [cell_of_row u O 0 _ _ _ h.ob]; rfl, by rw [cell_of_row u O 1 _ _ _ h.ob]; rfl, by rw [cell_of_row u O 2 _ _ _ h.ob]; rfl, by rw [cell_of_row u O 3 _ _ _ h.ob]; rfl⟩
theorem AD.cellsR (h : AD w u G a len cap O R num ok a' k c' b' m d' es ls) : u.cell? ⟨R, 0, none⟩ = some (.int .i64 0) ∧ u.cell? ⟨R, 1, none⟩ = some (.bool false) ∧ u.cell? ⟨R, 2, none⟩ = some (.slice none 0 0) ∧ u.cell? ⟨R, 3, none⟩ = some (.slice none 0 0) :=
  ⟨by rw [cell_of_row u R 0 _ _ _ h.rb]; rfl, by rw [cell_of_row u R 1 _ _ _ h.rb]; rfl, by rw [cell_of_row u R 2 _ _ _ h.rb]; rfl, by rw [cell_of_row u R 3 _ _ _ h.rb]; rfl⟩
theorem AD.frozen (h : AD w u G a len cap O R num ok a' k c' b' m d' es ls) (j : Nat) : u.frozen? ⟨O, j, none⟩ = false := frozen_of_row u O j _ _ h.ob
theorem AD.frozenR (h : AD w u G a len cap O R num ok a' k c' b' m d' es ls) (j : Nat) : u.frozen? ⟨R, j, none⟩ = false := frozen_of_row u R j _ _ h.rb
theorem AD.set {num' : Int} {ok' : Bool} {p : Option Addr} {q r : Nat} {p' : Option Addr} {q' r' : Nat} {fs : List EdgeV} {ks : List Int} (h : AD w u G a len cap O R num ok a' k c' b' m d' es ls) (j : Nat) (x : Value) (hc : (ac num ok a' k c' b' m d').setIfInBounds j x = ac num' ok' p q r p' q' r')
    (ho : u.ownsRow w.heap.size 78 2 (.slice p q r) q (ecells fs)) (hb : LbR u w.heap.size p' q' ks) : AD w (u.setCell ⟨O, j, none⟩ x) G a len cap O R num' ok' p q r p' q' r' fs ks :=
  ⟨h.ds.set h.ge.1 _ _ _ h.ge.2.1, by rw [heap_setCell_same u O j _ _ x h.ob, hc], by rw [heap_setCell_other u ⟨O, j, none⟩ R x (by exact Ne.symm h.ge.2.2.2)]; exact h.rb, ho.kept (gr_set u O j x) (.inr (own_box ho h.ob (by decide))), hb.kept (gr_set u O j x) (fun g hg => by simp at hg; subst hg; exact hb.box h.ob (by decide)), h.ge⟩
theorem AD.app {ed : EdgeV} {g cp : Nat} (h : AD w u G a len cap O R num ok a' k c' b' m d' es ls)
    (hown : u'.ownsRow w.heap.size 78 2 (.slice (some ⟨g, 0, none⟩) (k + 1) cp) (k + 1) (ecells es ++ [.int .i64 ed.1, .int .i64 ed.2])) (hg : (u.alloc (.cells #[.int .i64 ed.1, .int .i64 ed.2] 78)).grownBy u' (Value.slice a' k c').ownBlock) :
    u'.frozen? ⟨O, 2, none⟩ = false ∧ u'.cell? ⟨O, 2, none⟩ = some (.slice a' k c') ∧ AD w (u'.setCell ⟨O, 2, none⟩ (.slice (some ⟨g, 0, none⟩) (k + 1) cp)) G a len cap O R num ok (some ⟨g, 0, none⟩) (k + 1) cp b' m d' (es ++ [ed]) ls := by
  have hgg : u.grownBy u' (Value.slice a' k c').ownBlock := gr_trans (World.grownBy_alloc u _ _) hg
  have ho := blk_row h.ob hgg (own_box h.own h.ob (by decide))
  have hr := blk_row h.rb hgg (own_box h.own h.rb (by decide))
  have hd := h.ds.row h.ge.1 hgg (fun q hq => (h.own.lt q hq).1)
  have hlb : LbR u' w.heap.size b' m ls := h.lab.kept hgg (fun q hq o e => by
    obtain ⟨g2, o2, cp2, xs2, e2, ho2, _⟩ := h.lab
    rw [e2] at e
    simp at e
    have := rows_ne h.own ho2 (by decide) q hq
    simp [Value.ownBlock] at this
    exact this e.1)
  rw [← ecells_snoc] at hown
  refine ⟨frozen_of_row u' O 2 _ _ ho, by rw [cell_of_row u' O 2 _ _ _ ho]; rfl, ?_⟩
  exact ⟨hd.set h.ge.1 _ _ _ h.ge.2.1, by rw [heap_setCell_same u' O 2 _ _ _ ho]; rfl, by rw [heap_setCell_other u' ⟨O, 2, none⟩ R _ (by exact Ne.symm h.ge.2.2.2)]; exact hr, hown.kept (gr_set u' O 2 _) (.inr (own_box hown ho (by decide))), hlb.kept (gr_set u' O 2 _) (fun q hq => by simp at hq; subst hq; exact hlb.box ho (by decide)), h.ge⟩
/-- a label is turned -/
theorem AD.label {g cp : Nat} {xs : List Int} (h : AD w u G a len cap O R num ok a' k c' (some ⟨g, 0, none⟩) m d' es ls) (hx : u.ownsRow w.heap.size 3 1 (.slice (some ⟨g, 0, none⟩) m cp) m (ic xs)) (j : Nat) (z : Int) :
    AD w (u.setCell ⟨g, j, none⟩ (.int .i64 z)) G a len cap O R num ok a' k c' (some ⟨g, 0, none⟩) m d' es (xs.set j z) := by
  have hgl := hx.lt g rfl
  have hO := own_box hx h.ob (by decide)
  have hR := own_box hx h.rb (by decide)
  simp [Value.ownBlock] at hO hR
  have hst := (hx.stored j (.int .i64 z)).1
  rw [ic_set] at hst
  exact ⟨h.ds.set h.ge.1 _ _ _ hgl.1, by rw [heap_setCell_other u ⟨g, j, none⟩ O _ (by exact Ne.symm hO)]; exact h.ob, by rw [heap_setCell_other u ⟨g, j, none⟩ R _ (by exact Ne.symm hR)]; exact h.rb, own_kept h.own (gr_set u g j _) (fun q hq => by simp at hq; subst hq; exact rows_ne hx h.own (by decide) _ rfl), ⟨g, 0, cp, _, rfl, by simpa using hst, by simp⟩, h.ge⟩
end

/-- what a draw of any answer answers -/
def DrB (w : World) (G : Nat) (a : Option Addr) (len cap : Nat) (e : Ending) (w' : World) : Prop :=
  ∃ (num : Int) (ok : Bool) (a' : Option Addr) (k c' : Nat) (b' : Option Addr) (m d' : Nat) (es : List EdgeV) (ls : List Int), e = .returned (ansV num ok a' k c' b' m d') ∧ w'.ownsRow w.heap.size 78 2 (.slice a' k c') k (ecells es) ∧ LbR w' w.heap.size b' m ls ∧ k ≤ 9 ∧ m ≤ 12 ∧ Drawn w w' G a len cap

theorem AD.fin {w u : World} {G : Nat} {a : Option Addr} {len cap : Nat} {O R : Nat} {num : Int} {ok : Bool} {a' : Option Addr} {k c' : Nat} {b' : Option Addr} {m d' : Nat} {es : List EdgeV} {ls : List Int} (h : AD w u G a len cap O R num ok a' k c' b' m d' es ls) (hk : k ≤ 9) (hm : m ≤ 12) (hcode : Code w G a len) :
    DrB w G a len cap (.returned (ansV num ok a' k c' b' m d')) ((((u.setCell ⟨R, 0, none⟩ (.int .i64 num)).setCell ⟨R, 1, none⟩ (.bool ok)).setCell ⟨R, 2, none⟩ (.slice a' k c')).setCell ⟨R, 3, none⟩ (.slice b' m d')) := by
  have hne := own_box h.own h.rb (by decide : (78 : TypeId) ≠ 37)
  have hlb := h.lab.box h.rb (by decide : (3 : TypeId) ≠ 37)
  have hl : ∀ (v : World) (j : Nat) (x : Value), LbR v w.heap.size b' m ls → LbR (v.setCell ⟨R, j, none⟩ x) w.heap.size b' m ls := fun v j x hv => hv.kept (gr_set v R j x) (fun g hg => by simp at hg; subst hg; exact hlb)
  refine ⟨num, ok, a', k, c', b', m, d', es, ls, rfl, ?_, hl _ _ _ (hl _ _ _ (hl _ _ _ (hl _ _ _ h.lab))), hk, hm, DS.fin ?_ hcode⟩
  · exact (((h.own.kept (gr_set _ R 0 _) (.inr hne)).kept (gr_set _ R 1 _) (.inr hne)).kept (gr_set _ R 2 _) (.inr hne)).kept (gr_set _ R 3 _) (.inr hne)
  · exact (((h.ds.set h.ge.1 _ _ _ h.ge.2.2.1).set h.ge.1 _ _ _ h.ge.2.2.1).set h.ge.1 _ _ _ h.ge.2.2.1).set h.ge.1 _ _ _ h.ge.2.2.1

theorem pick_at {G : Nat} {a : Option Addr} {len cap : Nat} (hl : len ≤ 1048576) (W : World) (L n : Nat) (cs : Array Value) (h0 : 0 < n) (h1 : n ≤ 1000) (hcur : Cur W G a len cap) (hcode : Code W G a len) (hb : W.heap[L]? = some (.cells cs 3 (0, 0))) (hLG : L ≠ G) (hcs : ∀ j, j < n → ∃ z : Int, cs[j]? = some (.int .i64 z)) :
    Calls Try.prog 68 #[.pointer (some ⟨G, 0, none⟩), .slice (some ⟨L, 0, none⟩) n n] W fun e w' => ∃ x : Int, e = .returned (.int .i64 x) ∧ Drawn W w' G a len cap :=
  l01PickInt_any L n n h0 h1 W G a len cap hl hcur hcode (Array.getElem?_eq_some_iff.1 hb).1 hLG (fun j hj => by
    obtain ⟨z, hz⟩ := hcs j hj
    exact ⟨z, by rw [cell_of_row W L j _ _ _ hb]; exact hz⟩)

set_option maxRecDepth 100000 in
set_option maxHeartbeats 8000000 in
theorem l09AnyAnswer_any (nn : Nat) (h2 : 2 ≤ nn) (h12 : nn ≤ 12) (w : World) (G : Nat) (a : Option Addr) (len cap : Nat) (hl : len ≤ 1048576) (hcur : Cur w G a len cap) (hcode : Code w G a len) :
    Calls Try.prog 66 #[.pointer (some ⟨G, 0, none⟩), .int .i64 (nn : Int)] w (DrB w G a len cap) := by
  obtain ⟨i0, hi, hz0, hz1, hz2⟩ := info_parts infoIE
  have hGl := hcur.lt
  have HB : Hid (∀ W (m : Int), 0 < m → m ≤ 100 → DS w W G a len cap → Calls Try.prog 90 #[.pointer (some ⟨G, 0, none⟩), .int .i64 m] W fun e w' => ∃ x : Nat, (x : Int) < m ∧ e = .returned (.int .i64 (x : Int)) ∧ Drawn W w' G a len cap) := fun W m h0 h1 hW => l01Below_any m h0 (by omega) W G a len cap hl hW.cur (hW.code hcode)
  have HA : Hid (∀ W, DS w W G a len cap → Calls Try.prog 92 #[.pointer (some ⟨G, 0, none⟩), .agg #[.int .i64 0, .slice none 0 0]] W fun x w' => ∃ e : EdgeV, x = .returned (.agg #[.int .i64 e.1, .int .i64 e.2]) ∧ Drawn W w' G a len cap) := fun W hW => l05AnyEdge_any W G a len cap hl hW.cur (hW.code hcode)
  have HP : Hid (∀ (W : World) (zs : List Int), 0 < zs.length → zs.length ≤ 1000 → DS w W G a len cap → Calls Try.prog 68 #[.pointer (some ⟨G, 0, none⟩), .slice (some ⟨W.heap.size, 0, none⟩) zs.length zs.length] (W.alloc (.cells (zs.map (Value.int .i64)).toArray 3)) fun e w' => ∃ x : Int, e = .returned (.int .i64 x) ∧ Drawn (W.alloc (.cells (zs.map (Value.int .i64)).toArray 3)) w' G a len cap) := fun W zs h0 h1 hW => pick_DS hl hcode hGl W zs h0 h1 hW
  have HPa : Hid (∀ (W : World) (L : Nat), DS w W G a len cap → W.heap[L]? = some (.cells #[.int .i64 (-1), .int .i64 0, .int .i64 1, .int .i64 11] 3 (0, 0)) → w.heap.size ≤ L → Calls Try.prog 68 #[.pointer (some ⟨G, 0, none⟩), .slice (some ⟨L, 0, none⟩) 4 4] W fun e w' => ∃ x : Int, e = .returned (.int .i64 x) ∧ Drawn W w' G a len cap) := fun W L hW hb hL => pick_at hl W L 4 _ (by omega) (by omega) hW.cur (hW.code hcode) hb (by omega) (fun j hj => by
    match j, hj with
    | 0, _ => exact ⟨_, rfl⟩
    | 1, _ => exact ⟨_, rfl⟩
    | 2, _ => exact ⟨_, rfl⟩
    | 3, _ => exact ⟨_, rfl⟩)
  have HCode := hideIt hcode
  have D0 : DS w (w.alloc (.cells (ac 0 false none 0 0 none 0 0) 37)) G a len cap := (DS.start hcur).alloc _
  have Hr0 : Hid ((w.alloc (.cells (ac 0 false none 0 0 none 0 0) 37)).heap[w.heap.size]? = some (.cells (ac 0 false none 0 0 none 0 0) 37 (0, 0))) := heap_alloc_new w _
  have HOr := hideIt (l09Answer_any nn h2 h12 _ G a len cap hl D0.cur (D0.code hcode))
  have HD0 := hideIt D0
  clear hcur hcode D0
  go_enter Try.func66, Try.ntmps66
  go_wp2_with (go_at_call 96; refine HOr.out.mono ?_; rintro e w1 ⟨num, ok, a', k, c', es, b0, d', ls, rfl, hown1, hlab1, hk1, hd1⟩; refine Hid.out ?_)
  refine (show ∀ {p : Prop}, p → Hid p from fun h => h) ?_
  have D1 := HD0.out.drawn hd1
  have r1 := blk_drawn Hr0.out hd1 (show w.heap.size ≠ G by omega)
  have hrl := (Array.getElem?_eq_some_iff.1 r1).1
  obtain ⟨g, hg0, hcd⟩ : ∃ g, b0 = some ⟨g, 0, none⟩ ∧ nn ≤ d' := by
    rcases hlab1.2 with ⟨_, h0⟩ | ⟨g, cp, cur, hv, _, _, hn, _⟩
    · omega
    · simp at hv
      exact ⟨g, hv.1, by omega⟩
  subst hg0
  have X1 : AD w (w1.alloc (.cells (ac num ok a' k c' (some ⟨g, 0, none⟩) nn d') 37)) G a len cap w1.heap.size w.heap.size num ok a' k c' (some ⟨g, 0, none⟩) nn d' es ls :=
    ⟨D1.alloc _, heap_alloc_new w1 _, blk_alloc r1 _, (own_mono hown1 (by simp)).alloc _, ⟨g, 0, d', ls, rfl, by simpa using ((own_mono hlab1 (by simp)).alloc _), by simp⟩, by omega⟩
  have L1 : (w1.alloc (.cells (ac num ok a' k c' (some ⟨g, 0, none⟩) nn d') 37)).ownsRow w.heap.size 3 1 (.slice (some ⟨g, 0, none⟩) nn d') nn (ic ls) := (own_mono hlab1 (by simp)).alloc _
  have D2 := X1.ds
  have HX1 := hideIt X1
  have HL1 := hideIt L1
  clear X1 D1 r1 hd1 hown1 hlab1 HD0 Hr0 HOr L1
  go_wp2_with (go_at_call 90; refine (HB.out _ 20 (by omega) (by omega) D2).mono ?_; rintro e w2 ⟨x2, hx2, rfl, hd2⟩; refine Hid.out ?_)
  refine (show ∀ {p : Prop}, p → Hid p from fun h => h) ?_
  have X2 := HX1.out.drawn hd2
  have HX2 := hideIt X2
  have HL2 := hideIt (own_drawn HL1.out hd2 hGl)
  obtain ⟨q0, q1, q2, q3⟩ := X2.cells
  clear D2 hd2 HX1 HL1
  by_cases hq0 : (x2 : Int) = 0
  · have e0 : ((x2 : Int) == 0) = true := by simpa using hq0
    have D2 := X2.ds
    have P1 := hideIt (HP.out w2 [0, -1, 100000, 100001] (by simp) (by simp) D2)
    simp only [List.map_cons, List.map_nil, List.length_cons, List.length_nil, Nat.zero_add, Nat.reduceAdd] at P1
    clear X2 D2 HL2
    go_wp2_with (go_at_call 68; refine P1.out.mono ?_; rintro e w3 ⟨y, rfl, hd3⟩; refine Hid.out ?_)
    refine (show ∀ {p : Prop}, p → Hid p from fun h => h) ?_
    have X3 := (HX2.out.up (bel1 _ _)).drawn hd3
    have f9 := X3.frozen 0
    clear q0 q1 q2 q3
    obtain ⟨q0, q1, q2, q3⟩ := X3.cells
    have X4 := X3.set 0 (.int .i64 y) rfl X3.own X3.lab
    obtain ⟨r0, r1, r2, r3⟩ := X3.cellsR
    have g0 := X3.frozenR 0
    have g1 := X3.frozenR 1
    have g2 := X3.frozenR 2
    have g3 := X3.frozenR 3
    have hne : ¬ w1.heap.size = w.heap.size := by omega
    have HX := hideIt X4
    clear X3 X4 hd3 P1 HX2
    go_wp2
    exact bodyPost_ret (v := ansV y ok a' k c' (some ⟨g, 0, none⟩) nn d') (by simp [results, Try.results66, go_sem, r0, r1, r2, r3]) rfl (HX.out.fin (by omega) (by omega) HCode.out)
  · have e0 : ((x2 : Int) == 0) = false := by simpa using hq0
    by_cases hq1 : (x2 : Int) = 1
    · have e1 : ((x2 : Int) == 1) = true := by simpa using hq1
      clear X2 HP HA
      have DD := hideIt HX2.out.ds.drew
      have hlt2 := (Array.getElem?_eq_some_iff.1 HX2.out.ob).1
      go_wp2
      refine wp_region_held_drew (S := (fun u => u.cell? ⟨w1.heap.size, 3, none⟩ = some (.slice (some ⟨g, 0, none⟩) nn d'))) (by kernel_rfl) q3 (fun hHeld => ?_)
      refine wpAnyH_take (i := 0) (v := ?_) rfl (by kernel_rfl) (by kernel_rfl) (by kernel_rfl) (fun _ _ _ h => h) (Or.inl ⟨by kernel_rfl, ?_⟩) (by assumption) ?_
      rotate_left
      · intro w hSw; (try dsimp only at hSw); go_simp; try with_reducible rfl
      try simp only [Act.put, List.getElem_toArray, List.getElem_cons_zero, List.setIfInBounds_toArray, List.set_cons_zero, List.set_cons_succ]
      refine wpAnyH_take (i := 1) (v := ?_) rfl (by kernel_rfl) (by kernel_rfl) (by kernel_rfl) (fun _ _ _ h => h) (Or.inl ⟨by kernel_rfl, ?_⟩) (by assumption) ?_
      rotate_left
      · intro w hSw; (try dsimp only at hSw); go_simp; try with_reducible rfl
      try simp only [Act.put, List.getElem_toArray, List.getElem_cons_succ, List.getElem_cons_zero, List.setIfInBounds_toArray, List.set_cons_zero, List.set_cons_succ]
      refine wpAnyH_take (i := 2) (v := ?_) rfl (by kernel_rfl) (by kernel_rfl) (by kernel_rfl) (fun _ _ _ h => h) (Or.inl ⟨by kernel_rfl, ?_⟩) (by assumption) ?_
      rotate_left
      · intro w hSw; (try dsimp only at hSw); go_simp; try with_reducible rfl
      try simp only [Act.put, List.getElem_toArray, List.getElem_cons_succ, List.getElem_cons_zero, List.setIfInBounds_toArray, List.set_cons_zero, List.set_cons_succ]
      refine wpAnyH_take (i := 3) (v := ?_) rfl (by kernel_rfl) (by kernel_rfl) (by kernel_rfl) (fun _ _ _ h => h) (Or.inl ⟨by kernel_rfl, ?_⟩) (by assumption) ?_
      rotate_left
      · intro w hSw; (try dsimp only at hSw); go_simp; try with_reducible rfl
      try simp only [Act.put, List.getElem_toArray, List.getElem_cons_succ, List.getElem_cons_zero, List.setIfInBounds_toArray, List.set_cons_zero, List.set_cons_succ]
      refine wpAnyH_take (i := 5) (v := ?_) rfl (by kernel_rfl) (by kernel_rfl) (by kernel_rfl) (fun _ _ _ h => h) (Or.inl ⟨by kernel_rfl, ?_⟩) (by assumption) ?_
      rotate_left
      · intro w hSw; (try dsimp only at hSw); go_simp; try with_reducible rfl
      try simp only [Act.put, List.getElem_toArray, List.getElem_cons_succ, List.getElem_cons_zero, List.setIfInBounds_toArray, List.set_cons_zero, List.set_cons_succ]
      refine wpAnyH_ready (rs := [4, 6]) (by kernel_rfl) (by simp) ?_
      refine AllReadyH.cons rfl (fun K hK => ?_) (AllReadyH.cons rfl (fun K hK => ?_) AllReadyH.nil)
      · rw [if_pos]
        rotate_left
        · kernel_rfl
        go_wp2_with (go_at_call 90; refine (HB.out w2.drew (nn : Int) (by omega) (by omega) DD.out).mono ?_; rintro e w4 ⟨x4, hx4, rfl, hd4⟩; have X4 := HX2.out.drawn (drew_drawn hd4); have k4 := X4.cells.2.2.2; have L4 := own_drawn HL2.out (drew_drawn hd4) hGl; refine Hid.out ?_)
        refine (show ∀ {p : Prop}, p → Hid p from fun h => h) ?_
        refine hK.out _ _ k4 (fun hHeld => ?_)
        clear hK K
        try simp only [Act.put, List.getElem_toArray, List.getElem_cons_succ, List.getElem_cons_zero, List.setIfInBounds_toArray, List.set_cons_zero, List.set_cons_succ]
        have HX4 := hideIt (X4.up (bel1 w4 (.cells #[.int .i64 (-1), .int .i64 0, .int .i64 1, .int .i64 11] 3)))
        have HL4 := hideIt (L4.alloc (.cells #[.int .i64 (-1), .int .i64 0, .int .i64 1, .int .i64 11] 3))
        have z4 := X4.ds.size
        have k4a := (X4.up (bel1 w4 (.cells #[.int .i64 (-1), .int .i64 0, .int .i64 1, .int .i64 11] 3))).cells.2.2.2
        clear X4 L4 hd4
        refine wpAnyH_ready (rs := [6]) (by kernel_rfl) (by simp) ?_
        refine AllReadyH.cons rfl (fun K hK => ?_) AllReadyH.nil
        go_simp
        refine hK.out _ _ k4a (fun hHeld => ?_)
        clear hK K
        try simp only [Act.put, List.getElem_toArray, List.getElem_cons_succ, List.getElem_cons_zero, List.setIfInBounds_toArray, List.set_cons_zero, List.set_cons_succ]
        have PB := hideIt (HPa.out (w4.alloc (.cells #[.int .i64 (-1), .int .i64 0, .int .i64 1, .int .i64 11] 3)) w4.heap.size HX4.out.ds (heap_alloc_new w4 _) z4)
        refine wpAnyH_ready (rs := [7]) (by kernel_rfl) (by simp) ?_
        refine AllReadyH.cons rfl (fun K hK => ?_) AllReadyH.nil
        rw [if_pos]
        rotate_left
        · kernel_rfl
        go_wp2_with (go_at_call 68; refine PB.out.mono ?_; rintro e w5 ⟨z5, rfl, hd5⟩; have X5 := HX4.out.drawn hd5; have k5 := X5.cells.2.2.2; have HL5 := hideIt (own_drawn HL4.out hd5 hGl); refine Hid.out ?_)
        refine (show ∀ {p : Prop}, p → Hid p from fun h => h) ?_
        refine hK.out _ _ k5 (fun hHeld => ?_)
        clear hK K
        try simp only [Act.put, List.getElem_toArray, List.getElem_cons_succ, List.getElem_cons_zero, List.setIfInBounds_toArray, List.set_cons_zero, List.set_cons_succ]
        have HX5 := hideIt X5
        clear X5 hd5 PB
        have L5 := HL5.out
        have hl5 : ls.length = nn := by have := L5.1; rw [ic_len] at this; omega
        have fz := L5.frozenAt x4
        have cz : w5.cell? ⟨g, x4, none⟩ = some (.int .i64 (ls[x4]'(by omega))) := by rw [L5.cellAt x4 (by omega), ic_at (List.getElem?_eq_getElem (by omega))]
        have b4 : (0 : Int) ≤ (x4 : Int) := by omega
        have X6 := HX5.out.label L5 x4 z5
        have HX6 := hideIt X6
        have c6 := X6.cells.2.2.2
        clear X6 L5
        refine wpAnyH_ready (rs := [8]) (by kernel_rfl) (by simp) ?_
        refine AllReadyH.cons rfl (fun K hK => ?_) AllReadyH.nil
        go_simp
        refine hK.out _ _ (by assumption) (fun hHeld => ?_)
        clear hK K
        try simp only [Act.put, List.getElem_toArray, List.getElem_cons_succ, List.getElem_cons_zero, List.setIfInBounds_toArray, List.set_cons_zero, List.set_cons_succ]
        refine wpAnyH_ready (rs := [9]) (by kernel_rfl) (by simp) ?_
        refine AllReadyH.cons rfl (fun K hK => ?_) AllReadyH.nil
        go_simp
        refine hK.out _ _ c6 (fun hHeld => ?_)
        clear hK K
        try simp only [Act.put, List.getElem_toArray, List.getElem_cons_succ, List.getElem_cons_zero, List.setIfInBounds_toArray, List.set_cons_zero, List.set_cons_succ]
        refine wpAnyH_done (by kernel_rfl) ?_ _
        obtain ⟨t0, t1, t2, t3⟩ := HX6.out.cells
        obtain ⟨r0, r1, r2, r3⟩ := HX6.out.cellsR
        have g0 := HX6.out.frozenR 0
        have g1 := HX6.out.frozenR 1
        have g2 := HX6.out.frozenR 2
        have g3 := HX6.out.frozenR 3
        go_wp2
        exact bodyPost_ret (v := ansV num ok a' k c' (some ⟨g, 0, none⟩) nn d') (by simp [results, Try.results66, go_sem, r0, r1, r2, r3]) rfl (HX6.out.fin (by omega) (by omega) HCode.out)
      · have k2a := ((HX2.out.up (u' := w2.drew) ((Below.refl _ _).drew)).up (bel1 w2.drew (.cells #[.int .i64 (-1), .int .i64 0, .int .i64 1, .int .i64 11] 3))).cells.2.2.2
        go_simp
        refine hK.out _ _ k2a (fun hHeld => ?_)
        clear hK K
        try simp only [Act.put, List.getElem_toArray, List.getElem_cons_succ, List.getElem_cons_zero, List.setIfInBounds_toArray, List.set_cons_zero, List.set_cons_succ]
        have XA := (HX2.out.up (u' := w2.drew) ((Below.refl _ _).drew)).up (bel1 w2.drew (.cells #[.int .i64 (-1), .int .i64 0, .int .i64 1, .int .i64 11] 3))
        have bA : (w2.drew.alloc (.cells #[.int .i64 (-1), .int .i64 0, .int .i64 1, .int .i64 11] 3)).heap[w2.heap.size]? = some (.cells #[.int .i64 (-1), .int .i64 0, .int .i64 1, .int .i64 11] 3 (0, 0)) := heap_alloc_new w2.drew _
        have LA := HL2.out.drew.alloc (.cells #[.int .i64 (-1), .int .i64 0, .int .i64 1, .int .i64 11] 3)
        have HXA := hideIt XA
        have HbA := hideIt bA
        have HLA := hideIt LA
        clear XA bA LA
        refine wpAnyH_ready (rs := [4]) (by kernel_rfl) (by simp) ?_
        refine AllReadyH.cons rfl (fun K hK => ?_) AllReadyH.nil
        rw [if_pos]
        rotate_left
        · kernel_rfl
        go_wp2_with (go_at_call 90; refine (HB.out _ (nn : Int) (by omega) (by omega) HXA.out.ds).mono ?_; rintro e w4 ⟨x4, hx4, rfl, hd4⟩; have X4 := HXA.out.drawn hd4; have k4 := X4.cells.2.2.2; have HL4 := hideIt (own_drawn HLA.out hd4 hGl); refine Hid.out ?_)
        refine (show ∀ {p : Prop}, p → Hid p from fun h => h) ?_
        refine hK.out _ _ k4 (fun hHeld => ?_)
        clear hK K
        try simp only [Act.put, List.getElem_toArray, List.getElem_cons_succ, List.getElem_cons_zero, List.setIfInBounds_toArray, List.set_cons_zero, List.set_cons_succ]
        have z4 := HX2.out.ds.size
        have PB := hideIt (HPa.out w4 w2.heap.size X4.ds (blk_drawn HbA.out hd4 (by omega)) z4)
        have HX4 := hideIt X4
        clear X4 hd4
        refine wpAnyH_ready (rs := [7]) (by kernel_rfl) (by simp) ?_
        refine AllReadyH.cons rfl (fun K hK => ?_) AllReadyH.nil
        rw [if_pos]
        rotate_left
        · kernel_rfl
        go_wp2_with (go_at_call 68; refine PB.out.mono ?_; rintro e w5 ⟨z5, rfl, hd5⟩; have X5 := HX4.out.drawn hd5; have k5 := X5.cells.2.2.2; have HL5 := hideIt (own_drawn HL4.out hd5 hGl); refine Hid.out ?_)
        refine (show ∀ {p : Prop}, p → Hid p from fun h => h) ?_
        refine hK.out _ _ k5 (fun hHeld => ?_)
        clear hK K
        try simp only [Act.put, List.getElem_toArray, List.getElem_cons_succ, List.getElem_cons_zero, List.setIfInBounds_toArray, List.set_cons_zero, List.set_cons_succ]
        have HX5 := hideIt X5
        clear X5 hd5 PB
        have L5 := HL5.out
        have hl5 : ls.length = nn := by have := L5.1; rw [ic_len] at this; omega
        have fz := L5.frozenAt x4
        have cz : w5.cell? ⟨g, x4, none⟩ = some (.int .i64 (ls[x4]'(by omega))) := by rw [L5.cellAt x4 (by omega), ic_at (List.getElem?_eq_getElem (by omega))]
        have b4 : (0 : Int) ≤ (x4 : Int) := by omega
        have X6 := HX5.out.label L5 x4 z5
        have HX6 := hideIt X6
        have c6 := X6.cells.2.2.2
        clear X6 L5
        refine wpAnyH_ready (rs := [8]) (by kernel_rfl) (by simp) ?_
        refine AllReadyH.cons rfl (fun K hK => ?_) AllReadyH.nil
        go_simp
        refine hK.out _ _ (by assumption) (fun hHeld => ?_)
        clear hK K
        try simp only [Act.put, List.getElem_toArray, List.getElem_cons_succ, List.getElem_cons_zero, List.setIfInBounds_toArray, List.set_cons_zero, List.set_cons_succ]
        refine wpAnyH_ready (rs := [9]) (by kernel_rfl) (by simp) ?_
        refine AllReadyH.cons rfl (fun K hK => ?_) AllReadyH.nil
        go_simp
        refine hK.out _ _ c6 (fun hHeld => ?_)
        clear hK K
        try simp only [Act.put, List.getElem_toArray, List.getElem_cons_succ, List.getElem_cons_zero, List.setIfInBounds_toArray, List.set_cons_zero, List.set_cons_succ]
        refine wpAnyH_done (by kernel_rfl) ?_ _
        obtain ⟨t0, t1, t2, t3⟩ := HX6.out.cells
        obtain ⟨r0, r1, r2, r3⟩ := HX6.out.cellsR
        have g0 := HX6.out.frozenR 0
        have g1 := HX6.out.frozenR 1
        have g2 := HX6.out.frozenR 2
        have g3 := HX6.out.frozenR 3
        go_wp2
        exact bodyPost_ret (v := ansV num ok a' k c' (some ⟨g, 0, none⟩) nn d') (by simp [results, Try.results66, go_sem, r0, r1, r2, r3]) rfl (HX6.out.fin (by omega) (by omega) HCode.out)
    · have e1 : ((x2 : Int) == 1) = false := by simpa using hq1
      by_cases hq2 : (x2 : Int) = 2
      · have e2 : ((x2 : Int) == 2) = true := by simpa using hq2
        have f9 := X2.frozen 3
        have hlb : LbR w2 w.heap.size (some ⟨g, 1, none⟩) (nn - 1) (ls.drop 1) := ⟨g, 1, d', ls, rfl, by rw [show 1 + (nn - 1) = nn by omega]; exact HL2.out, rfl⟩
        have X4 := X2.set 3 (.slice (some ⟨g, 1, none⟩) (nn - 1) (d' - 1)) rfl X2.own hlb
        obtain ⟨r0, r1, r2, r3⟩ := X2.cellsR
        have g0 := X2.frozenR 0
        have g1 := X2.frozenR 1
        have g2 := X2.frozenR 2
        have g3 := X2.frozenR 3
        have hne : ¬ w1.heap.size = w.heap.size := by omega
        have j1 : (1 : Int) ≤ (nn : Int) := by omega
        have j2 : (nn : Int) ≤ (d' : Int) := by omega
        have j3 : ¬ d' = 1 := by omega
        have HX := hideIt X4
        clear X2 X4 HX2 HP HA HL2 hlb HB HPa
        go_wp2
        exact bodyPost_ret (v := ansV num ok a' k c' (some ⟨g, 1, none⟩) (nn - 1) (d' - 1)) (by simp [results, Try.results66, go_sem, r0, r1, r2, r3]) rfl (HX.out.fin (by omega) (by omega) HCode.out)
      · have e2 : ((x2 : Int) == 2) = false := by simpa using hq2
        by_cases hq3 : (x2 : Int) = 3
        · have e3 : ((x2 : Int) == 3) = true := by simpa using hq3
          clear X2 HP HL2 HB HPa
          go_wp2
          refine wp_region_any (by kernel_rfl) ?_
          change wpAny _ _ _ _ _ _ _ (World.drew _)
          refine takeOp (i := 0) (v := ?_) rfl (by kernel_rfl) (by kernel_rfl) (by kernel_rfl) (fun _ _ _ h => h) (by kernel_rfl) ?_ ?_
          rotate_left
          · intro w; go_simp; try with_reducible rfl
          try simp only [Act.put, List.getElem_toArray, List.getElem_cons_zero, List.setIfInBounds_toArray, List.set_cons_zero, List.set_cons_succ]
          refine takeOp (i := 2) (v := ?_) rfl (by kernel_rfl) (by kernel_rfl) (by kernel_rfl) (fun _ _ _ h => h) (by kernel_rfl) ?_ ?_
          rotate_left
          · intro w; go_simp; try with_reducible rfl
          try simp only [Act.put, List.getElem_toArray, List.getElem_cons_succ, List.getElem_cons_zero, List.setIfInBounds_toArray, List.set_cons_zero, List.set_cons_succ]
          refine takeOp (i := 3) (v := ?_) rfl (by kernel_rfl) (by kernel_rfl) (by kernel_rfl) (fun _ _ _ h => h) (by kernel_rfl) ?_ ?_
          rotate_left
          · intro w; go_simp; try with_reducible rfl
          try simp only [Act.put, List.getElem_toArray, List.getElem_cons_succ, List.getElem_cons_zero, List.setIfInBounds_toArray, List.set_cons_zero, List.set_cons_succ]
          refine wpAny_ready (rs := [1, 4]) (by kernel_rfl) (by simp) ?_
          refine AllReady.cons rfl (fun K hK => ?_) (AllReady.cons rfl (fun K hK => ?_) AllReady.nil)
          · go_simp
            refine hK _ _ ?_
            clear hK K
            try simp only [Act.put, List.getElem_toArray, List.getElem_cons_succ, List.getElem_cons_zero, List.setIfInBounds_toArray, List.set_cons_zero, List.set_cons_succ]
            refine wpAny_ready (rs := [4]) (by kernel_rfl) (by simp) ?_
            refine AllReady.cons rfl (fun K hK => ?_) AllReady.nil
            rw [if_pos]
            rotate_left
            · kernel_rfl
            go_wp2_with (go_at_call 92; refine (HA.out w2.drew HX2.out.ds.drew).mono ?_; rintro e w3 ⟨ed, rfl, hd3⟩; refine Hid.out ?_)
            refine (show ∀ {p : Prop}, p → Hid p from fun h => h) ?_
            have X3 := HX2.out.drawn (drew_drawn hd3)
            have l3 := X3.cells.2.2.1
            have HX3 := hideIt X3
            clear X3 hd3
            refine hK _ _ ?_
            clear hK K
            try simp only [Act.put, List.getElem_toArray, List.getElem_cons_succ, List.getElem_cons_zero, List.setIfInBounds_toArray, List.set_cons_zero, List.set_cons_succ]
            refine wpAny_ready (rs := [5]) (by kernel_rfl) (by simp) ?_
            refine AllReady.cons rfl (fun K hK => ?_) AllReady.nil
            go_simp
            refine hK _ _ ?_
            clear hK K
            try simp only [Act.put, List.getElem_toArray, List.getElem_cons_succ, List.getElem_cons_zero, List.setIfInBounds_toArray, List.set_cons_zero, List.set_cons_succ]
            refine wpAny_ready (rs := [6]) (by kernel_rfl) (by simp) ?_
            refine AllReady.cons rfl (fun K hK => ?_) AllReady.nil
            refine step_append_lies _ rfl _ _ 24 rfl w.heap.size 78 i0 _ 2 16 Try.underlying24 hi hz0 hz1 hz2 rfl (by decide) _ _ _ rfl (HX3.out.own.alloc (.cells #[.int .i64 ed.1, .int .i64 ed.2] 78)) ⟨w3.heap.size, 0, none⟩ 1 1 [.int .i64 ed.1, .int .i64 ed.2] rfl rfl (news1 w3 ed) (by intro u hu; simp at hu; rcases hu with rfl | rfl <;> rfl) (by omega) (by unfold maxLen; omega) (by omega) (by have := HX3.out.ds.size; simp; omega) (w3.heap.size + 1) (by simp) ?_
            intro ga capa w4 hown4 hg4 hat4 hlt4
            obtain ⟨y4, l5, X4⟩ := HX3.out.app hown4 hg4
            have HX4 := hideIt X4
            clear X4 hown4 hg4 hat4
            refine hK _ _ ?_
            clear hK K
            try simp only [Act.put, List.getElem_toArray, List.getElem_cons_succ, List.getElem_cons_zero, List.setIfInBounds_toArray, List.set_cons_zero, List.set_cons_succ]
            refine wpAny_ready (rs := [7]) (by kernel_rfl) (by simp) ?_
            refine AllReady.cons rfl (fun K hK => ?_) AllReady.nil
            go_simp
            refine hK _ _ ?_
            clear hK K
            try simp only [Act.put, List.getElem_toArray, List.getElem_cons_succ, List.getElem_cons_zero, List.setIfInBounds_toArray, List.set_cons_zero, List.set_cons_succ]
            refine wpAny_ready (rs := [8]) (by kernel_rfl) (by simp) ?_
            refine AllReady.cons rfl (fun K hK => ?_) AllReady.nil
            go_simp
            refine hK _ _ ?_
            clear hK K
            try simp only [Act.put, List.getElem_toArray, List.getElem_cons_succ, List.getElem_cons_zero, List.setIfInBounds_toArray, List.set_cons_zero, List.set_cons_succ]
            refine wpAny_done (by kernel_rfl) ?_ _
            obtain ⟨t0, t1, t2, t3⟩ := HX4.out.cells
            obtain ⟨r0, r1, r2, r3⟩ := HX4.out.cellsR
            have g0 := HX4.out.frozenR 0
            have g1 := HX4.out.frozenR 1
            have g2 := HX4.out.frozenR 2
            have g3 := HX4.out.frozenR 3
            go_wp2
            exact bodyPost_ret (v := ansV num ok (some ⟨ga, 0, none⟩) (k + 1) capa (some ⟨g, 0, none⟩) nn d') (by simp [results, Try.results66, go_sem, r0, r1, r2, r3]) rfl (HX4.out.fin (by omega) (by omega) HCode.out)
          · rw [if_pos]
            rotate_left
            · kernel_rfl
            go_wp2_with (go_at_call 92; refine (HA.out w2.drew HX2.out.ds.drew).mono ?_; rintro e w3 ⟨ed, rfl, hd3⟩; refine Hid.out ?_)
            refine (show ∀ {p : Prop}, p → Hid p from fun h => h) ?_
            have X3 := HX2.out.drawn (drew_drawn hd3)
            have l3 := X3.cells.2.2.1
            have HX3 := hideIt X3
            clear X3 hd3
            refine hK _ _ ?_
            clear hK K
            try simp only [Act.put, List.getElem_toArray, List.getElem_cons_succ, List.getElem_cons_zero, List.setIfInBounds_toArray, List.set_cons_zero, List.set_cons_succ]
            refine wpAny_ready (rs := [1, 5]) (by kernel_rfl) (by simp) ?_
            refine AllReady.cons rfl (fun K hK => ?_) (AllReady.cons rfl (fun K hK => ?_) AllReady.nil)
            · go_simp
              refine hK _ _ ?_
              clear hK K
              try simp only [Act.put, List.getElem_toArray, List.getElem_cons_succ, List.getElem_cons_zero, List.setIfInBounds_toArray, List.set_cons_zero, List.set_cons_succ]
              refine wpAny_ready (rs := [5]) (by kernel_rfl) (by simp) ?_
              refine AllReady.cons rfl (fun K hK => ?_) AllReady.nil
              go_simp
              refine hK _ _ ?_
              clear hK K
              try simp only [Act.put, List.getElem_toArray, List.getElem_cons_succ, List.getElem_cons_zero, List.setIfInBounds_toArray, List.set_cons_zero, List.set_cons_succ]
              refine wpAny_ready (rs := [6]) (by kernel_rfl) (by simp) ?_
              refine AllReady.cons rfl (fun K hK => ?_) AllReady.nil
              refine step_append_lies _ rfl _ _ 24 rfl w.heap.size 78 i0 _ 2 16 Try.underlying24 hi hz0 hz1 hz2 rfl (by decide) _ _ _ rfl (HX3.out.own.alloc (.cells #[.int .i64 ed.1, .int .i64 ed.2] 78)) ⟨w3.heap.size, 0, none⟩ 1 1 [.int .i64 ed.1, .int .i64 ed.2] rfl rfl (news1 w3 ed) (by intro u hu; simp at hu; rcases hu with rfl | rfl <;> rfl) (by omega) (by unfold maxLen; omega) (by omega) (by have := HX3.out.ds.size; simp; omega) (w3.heap.size + 1) (by simp) ?_
              intro ga capa w4 hown4 hg4 hat4 hlt4
              obtain ⟨y4, l5, X4⟩ := HX3.out.app hown4 hg4
              have HX4 := hideIt X4
              clear X4 hown4 hg4 hat4
              refine hK _ _ ?_
              clear hK K
              try simp only [Act.put, List.getElem_toArray, List.getElem_cons_succ, List.getElem_cons_zero, List.setIfInBounds_toArray, List.set_cons_zero, List.set_cons_succ]
              refine wpAny_ready (rs := [7]) (by kernel_rfl) (by simp) ?_
              refine AllReady.cons rfl (fun K hK => ?_) AllReady.nil
              go_simp
              refine hK _ _ ?_
              clear hK K
              try simp only [Act.put, List.getElem_toArray, List.getElem_cons_succ, List.getElem_cons_zero, List.setIfInBounds_toArray, List.set_cons_zero, List.set_cons_succ]
              refine wpAny_ready (rs := [8]) (by kernel_rfl) (by simp) ?_
              refine AllReady.cons rfl (fun K hK => ?_) AllReady.nil
              go_simp
              refine hK _ _ ?_
              clear hK K
              try simp only [Act.put, List.getElem_toArray, List.getElem_cons_succ, List.getElem_cons_zero, List.setIfInBounds_toArray, List.set_cons_zero, List.set_cons_succ]
              refine wpAny_done (by kernel_rfl) ?_ _
              obtain ⟨t0, t1, t2, t3⟩ := HX4.out.cells
              obtain ⟨r0, r1, r2, r3⟩ := HX4.out.cellsR
              have g0 := HX4.out.frozenR 0
              have g1 := HX4.out.frozenR 1
              have g2 := HX4.out.frozenR 2
              have g3 := HX4.out.frozenR 3
              go_wp2
              exact bodyPost_ret (v := ansV num ok (some ⟨ga, 0, none⟩) (k + 1) capa (some ⟨g, 0, none⟩) nn d') (by simp [results, Try.results66, go_sem, r0, r1, r2, r3]) rfl (HX4.out.fin (by omega) (by omega) HCode.out)
            · go_simp
              refine hK _ _ ?_
              clear hK K
              try simp only [Act.put, List.getElem_toArray, List.getElem_cons_succ, List.getElem_cons_zero, List.setIfInBounds_toArray, List.set_cons_zero, List.set_cons_succ]
              have l4 : (w3.alloc (.cells #[.int .i64 ed.1, .int .i64 ed.2] 78)).cell? ⟨w1.heap.size, 2, none⟩ = some (.slice a' k c') := by rw [World.cell?_of_block (w := w3) (Below.heap_alloc w3 _ _ (Array.getElem?_eq_some_iff.1 HX3.out.ob).1)]; exact l3
              refine wpAny_ready (rs := [1]) (by kernel_rfl) (by simp) ?_
              refine AllReady.cons rfl (fun K hK => ?_) AllReady.nil
              go_simp
              refine hK _ _ ?_
              clear hK K
              try simp only [Act.put, List.getElem_toArray, List.getElem_cons_succ, List.getElem_cons_zero, List.setIfInBounds_toArray, List.set_cons_zero, List.set_cons_succ]
              refine wpAny_ready (rs := [6]) (by kernel_rfl) (by simp) ?_
              refine AllReady.cons rfl (fun K hK => ?_) AllReady.nil
              refine step_append_lies _ rfl _ _ 24 rfl w.heap.size 78 i0 _ 2 16 Try.underlying24 hi hz0 hz1 hz2 rfl (by decide) _ _ _ rfl (HX3.out.own.alloc (.cells #[.int .i64 ed.1, .int .i64 ed.2] 78)) ⟨w3.heap.size, 0, none⟩ 1 1 [.int .i64 ed.1, .int .i64 ed.2] rfl rfl (news1 w3 ed) (by intro u hu; simp at hu; rcases hu with rfl | rfl <;> rfl) (by omega) (by unfold maxLen; omega) (by omega) (by have := HX3.out.ds.size; simp; omega) (w3.heap.size + 1) (by simp) ?_
              intro ga capa w4 hown4 hg4 hat4 hlt4
              obtain ⟨y4, l5, X4⟩ := HX3.out.app hown4 hg4
              have HX4 := hideIt X4
              clear X4 hown4 hg4 hat4
              refine hK _ _ ?_
              clear hK K
              try simp only [Act.put, List.getElem_toArray, List.getElem_cons_succ, List.getElem_cons_zero, List.setIfInBounds_toArray, List.set_cons_zero, List.set_cons_succ]
              refine wpAny_ready (rs := [7]) (by kernel_rfl) (by simp) ?_
              refine AllReady.cons rfl (fun K hK => ?_) AllReady.nil
              go_simp
              refine hK _ _ ?_
              clear hK K
              try simp only [Act.put, List.getElem_toArray, List.getElem_cons_succ, List.getElem_cons_zero, List.setIfInBounds_toArray, List.set_cons_zero, List.set_cons_succ]
              refine wpAny_ready (rs := [8]) (by kernel_rfl) (by simp) ?_
              refine AllReady.cons rfl (fun K hK => ?_) AllReady.nil
              go_simp
              refine hK _ _ ?_
              clear hK K
              try simp only [Act.put, List.getElem_toArray, List.getElem_cons_succ, List.getElem_cons_zero, List.setIfInBounds_toArray, List.set_cons_zero, List.set_cons_succ]
              refine wpAny_done (by kernel_rfl) ?_ _
              obtain ⟨t0, t1, t2, t3⟩ := HX4.out.cells
              obtain ⟨r0, r1, r2, r3⟩ := HX4.out.cellsR
              have g0 := HX4.out.frozenR 0
              have g1 := HX4.out.frozenR 1
              have g2 := HX4.out.frozenR 2
              have g3 := HX4.out.frozenR 3
              go_wp2
              exact bodyPost_ret (v := ansV num ok (some ⟨ga, 0, none⟩) (k + 1) capa (some ⟨g, 0, none⟩) nn d') (by simp [results, Try.results66, go_sem, r0, r1, r2, r3]) rfl (HX4.out.fin (by omega) (by omega) HCode.out)
        · have e3 : ((x2 : Int) == 3) = false := by simpa using hq3
          obtain ⟨r0, r1, r2, r3⟩ := X2.cellsR
          have g0 := X2.frozenR 0
          have g1 := X2.frozenR 1
          have g2 := X2.frozenR 2
          have g3 := X2.frozenR 3
          clear X2 HP HA HL2 HB HPa
          go_wp2
          exact bodyPost_ret (v := ansV num ok a' k c' (some ⟨g, 0, none⟩) nn d') (by simp [results, Try.results66, go_sem, r0, r1, r2, r3]) rfl (HX2.out.fin (by omega) (by omega) HCode.out)
end Go.Proofs.Ytkhhagjcmbbdpaa
namespace Go.Proofs.Ytkhhagjcmbbdpaa
open Go.RowKit Vt

/-- what a draw of an answer and a number of vertices answers -/
def DnA (w : World) (e : Ending) (w' : World) : Prop :=
  ∃ (n num : Int) (ok : Bool) (a' : Option Addr) (k c' : Nat) (b' : Option Addr) (m d' : Nat) (es : List EdgeV) (ls : List Int), e = .returned (.tuple #[.int .i64 n, ansV num ok a' k c' b' m d']) ∧ w'.ownsRow w.heap.size 78 2 (.slice a' k c') k (ecells es) ∧ LbR w' w.heap.size b' m ls ∧ k ≤ 9 ∧ m ≤ 12 ∧ Below w.heap.size w w'

theorem lb_drawn {u u' : World} {B G : Nat} {a : Option Addr} {len cap : Nat} {b' : Option Addr} {m : Nat} {ls : List Int} (h : LbR u B b' m ls) (d : Drawn u u' G a len cap) (hG : G < B) : LbR u' B b' m ls :=
  h.kept d.grown (fun g hg o e => by simp at hg; subst hg; have := h.lt _ _ e; omega)
theorem lb_set {u : World} {B R : Nat} {b' : Option Addr} {m : Nat} {ls : List Int} (hR : R < B) (j : Nat) (x : Value) (h : LbR u B b' m ls) : LbR (u.setCell ⟨R, j, none⟩ x) B b' m ls :=
  h.kept (gr_set u R j x) (fun g hg o e => by simp at hg; subst hg; have := h.lt _ _ e; omega)

set_option maxRecDepth 100000 in
set_option maxHeartbeats 4000000 in
theorem drawAnswerOk_any (w : World) (a : Option Addr) (len cap : Nat) (hl : len ≤ 1048576) (hcode : Code w w.heap.size a len) :
    Calls Try.prog 51 #[.slice a len cap] w (DnA w) := by
  have hc1 : Code (w.alloc (.cells (ac 0 false none 0 0 none 0 0) 37)) (w.alloc (.cells (ac 0 false none 0 0 none 0 0) 37)).heap.size a len := code_up hcode (bel1 _ _)
  have HNew := hideIt (l01New_any (w.alloc (.cells (ac 0 false none 0 0 none 0 0) 37)) a len cap hl hc1)
  have hb0 : (w.alloc (.cells (ac 0 false none 0 0 none 0 0) 37)).heap[w.heap.size]? = some (.cells (ac 0 false none 0 0 none 0 0) 37 (0, 0)) := heap_alloc_new w _
  have Hb0 := hideIt hb0
  have hz0 : (w.alloc (.cells (ac 0 false none 0 0 none 0 0) 37)).heap.size = w.heap.size + 1 := by simp
  rw [hz0] at HNew
  clear hcode hc1 hb0
  go_enter Try.func51, Try.ntmps51
  go_wp2_with (go_at_call 59; refine HNew.out.mono ?_; rintro e w1 ⟨rfl, hcur1, hcode1, hb1, hz1⟩; refine Hid.out ?_)
  refine (show ∀ {p : Prop}, p → Hid p from fun h => h) ?_
  have r1 := blk_up Hb0.out (hz0 ▸ hb1)
  have B1 : Below w.heap.size w w1 := (bel1 _ _).trans (hb1.mono (by omega))
  have HN := hideIt (l09N_any w1 (w.heap.size + 1) a len cap hl hcur1 hcode1)
  have HD0 := hideIt (DS.start hcur1)
  have HCd := hideIt hcode1
  clear HNew Hb0 hb1 hcur1 hcode1
  go_wp2_with (go_at_call 60; refine HN.out.mono ?_; rintro e w2 ⟨nn, hnn, rfl, hd2⟩; refine Hid.out ?_)
  refine (show ∀ {p : Prop}, p → Hid p from fun h => h) ?_
  have r2 := blk_drawn r1 hd2 (by omega)
  have D2 := HD0.out.drawn hd2
  have HO := hideIt (l09AnyAnswer_any nn hnn.1 hnn.2 w2 (w.heap.size + 1) a len cap hl D2.cur (D2.code HCd.out))
  have z2 := D2.size
  have HD2 := hideIt D2
  clear r1 hd2 HD0 HN D2
  go_wp2_with (go_at_call 66; refine HO.out.mono ?_; rintro e w3 ⟨num, ok, a', k, c', b', m, d', es, ls, rfl, hown3, hlab3, hk3, hm3, hd3⟩; refine Hid.out ?_)
  refine (show ∀ {p : Prop}, p → Hid p from fun h => h) ?_
  have D3 := HD2.out.drawn hd3
  have r3 := blk_drawn r2 hd3 (by omega)
  have D4 := D3.alloc (.cells (ac num ok a' k c' b' m d') 37)
  have o4 : (w3.alloc (.cells (ac num ok a' k c' b' m d') 37)).heap[w3.heap.size]? = some (.cells (ac num ok a' k c' b' m d') 37 (0, 0)) := heap_alloc_new w3 _
  have r4 := blk_alloc r3 (.cells (ac num ok a' k c' b' m d') 37)
  have own4 := (own_mono hown3 z2).alloc (.cells (ac num ok a' k c' b' m d') 37)
  have HL4 := hideIt ((hlab3.mono z2).up (bel1 _ (.cells (ac num ok a' k c' b' m d') 37)))
  have HOn := hideIt (l01Once_any 15 (by omega) (by omega) _ (w.heap.size + 1) a len cap hl D4.cur (D4.code HCd.out))
  have z4 := D3.size
  have Ho4 := hideIt o4
  have Hr4 := hideIt r4
  have HW4 := hideIt own4
  have HD4 := hideIt D4
  clear D3 r3 hd3 hown3 hlab3 o4 r4 own4 D4 HD2 r2 HO
  go_wp2_with (go_at_call 67; refine HOn.out.mono ?_; rintro e w5 ⟨b, rfl, hd5⟩; refine Hid.out ?_)
  refine (show ∀ {p : Prop}, p → Hid p from fun h => h) ?_
  have D5 := HD4.out.drawn hd5
  have o5 := blk_drawn Ho4.out hd5 (by omega)
  have r5 := blk_drawn Hr4.out hd5 (by omega)
  have own5 := own_drawn HW4.out hd5 (by omega)
  have lab5 := lb_drawn HL4.out hd5 (by omega)
  clear HL4 hd5 Ho4 Hr4 HW4 HD4 HOn
  have fin : Hid (∀ (n : Int) (u : World), DS w1 u (w.heap.size + 1) a len cap → u.heap[w.heap.size]? = some (.cells (ac 0 false none 0 0 none 0 0) 37 (0, 0)) → u.ownsRow w1.heap.size 78 2 (.slice a' k c') k (ecells es) → LbR u w1.heap.size b' m ls →
      DnA w (.returned (.tuple #[.int .i64 n, ansV num ok a' k c' b' m d'])) ((((u.setCell ⟨w.heap.size, 0, none⟩ (.int .i64 num)).setCell ⟨w.heap.size, 1, none⟩ (.bool ok)).setCell ⟨w.heap.size, 2, none⟩ (.slice a' k c')).setCell ⟨w.heap.size, 3, none⟩ (.slice b' m d'))) := fun n u hD hr ho hlb => by
    refine ⟨n, num, ok, a', k, c', b', m, d', es, ls, rfl, ?_, ?_, hk3, hm3, ?_⟩
    · refine own_mono (B := w1.heap.size) ?_ B1.size
      refine own_two ho (fun g hg _ => ?_)
      have hne : g ≠ w.heap.size := by omega
      rw [heap_setCell_other _ _ _ _ (by exact hne), heap_setCell_other _ _ _ _ (by exact hne), heap_setCell_other _ _ _ _ (by exact hne), heap_setCell_other _ _ _ _ (by exact hne)]
    · exact LbR.mono (lb_set (by omega) _ _ (lb_set (by omega) _ _ (lb_set (by omega) _ _ (lb_set (by omega) _ _ hlb)))) B1.size
    · have hB : Below w.heap.size w u := bel_grown B1 hD.grown (by omega)
      exact (((hB.setCell (Nat.le_refl _) _).setCell (Nat.le_refl _) _).setCell (Nat.le_refl _) _).setCell (Nat.le_refl _) _
  cases b with
  | false =>
    have t0 : w5.cell? ⟨w3.heap.size, 0, none⟩ = some (.int .i64 num) := by rw [cell_of_row w5 _ 0 _ _ _ o5]; rfl
    have t1 : w5.cell? ⟨w3.heap.size, 1, none⟩ = some (.bool ok) := by rw [cell_of_row w5 _ 1 _ _ _ o5]; rfl
    have t2 : w5.cell? ⟨w3.heap.size, 2, none⟩ = some (.slice a' k c') := by rw [cell_of_row w5 _ 2 _ _ _ o5]; rfl
    have t3 : w5.cell? ⟨w3.heap.size, 3, none⟩ = some (.slice b' m d') := by rw [cell_of_row w5 _ 3 _ _ _ o5]; rfl
    have r0 : w5.cell? ⟨w.heap.size, 0, none⟩ = some (.int .i64 0) := by rw [cell_of_row w5 _ 0 _ _ _ r5]; rfl
    have r1 : w5.cell? ⟨w.heap.size, 1, none⟩ = some (.bool false) := by rw [cell_of_row w5 _ 1 _ _ _ r5]; rfl
    have r2 : w5.cell? ⟨w.heap.size, 2, none⟩ = some (.slice none 0 0) := by rw [cell_of_row w5 _ 2 _ _ _ r5]; rfl
    have r3 : w5.cell? ⟨w.heap.size, 3, none⟩ = some (.slice none 0 0) := by rw [cell_of_row w5 _ 3 _ _ _ r5]; rfl
    have g0 := frozen_of_row w5 _ 0 _ _ r5
    have g1 := frozen_of_row w5 _ 1 _ _ r5
    have g2 := frozen_of_row w5 _ 2 _ _ r5
    have g3 := frozen_of_row w5 _ 3 _ _ r5
    have HF := hideIt (fin.out (nn : Int) w5.drew D5.drew r5 own5 lab5)
    clear fin D5 own5 lab5 o5 r5
    go_wp2
    go_region
    all_goals
      go_wp2
      exact bodyPost_ret (v := .tuple #[.int .i64 (nn : Int), ansV num ok a' k c' b' m d']) (by simp [results, Try.results51, go_sem, r0, r1, r2, r3]) rfl HF.out
  | true =>
    have P1 := hideIt (pick_DS hl HCd.out (by omega) w5 [0, 1, 13] (by simp) (by simp) D5)
    simp only [List.map_cons, List.map_nil, List.length_cons, List.length_nil, Nat.zero_add, Nat.reduceAdd] at P1
    have Ho5 := hideIt o5
    have Hr5 := hideIt r5
    have HW5 := hideIt own5
    have HD5 := hideIt D5
    have HL5 := hideIt lab5
    clear o5 r5 own5 D5 lab5
    go_wp2_with (go_at_call 68; refine P1.out.mono ?_; rintro e w6 ⟨y, rfl, hd6⟩; refine Hid.out ?_)
    refine (show ∀ {p : Prop}, p → Hid p from fun h => h) ?_
    have D6 := (HD5.out.alloc _).drawn hd6
    have o6 := blk_drawn (blk_alloc Ho5.out _) hd6 (by omega)
    have r6 := blk_drawn (blk_alloc Hr5.out _) hd6 (by omega)
    have own6 := own_drawn (HW5.out.alloc _) hd6 (by omega)
    have lab6 := lb_drawn (HL5.out.up (bel1 _ _)) hd6 (by omega)
    have t0 : w6.cell? ⟨w3.heap.size, 0, none⟩ = some (.int .i64 num) := by rw [cell_of_row w6 _ 0 _ _ _ o6]; rfl
    have t1 : w6.cell? ⟨w3.heap.size, 1, none⟩ = some (.bool ok) := by rw [cell_of_row w6 _ 1 _ _ _ o6]; rfl
    have t2 : w6.cell? ⟨w3.heap.size, 2, none⟩ = some (.slice a' k c') := by rw [cell_of_row w6 _ 2 _ _ _ o6]; rfl
    have t3 : w6.cell? ⟨w3.heap.size, 3, none⟩ = some (.slice b' m d') := by rw [cell_of_row w6 _ 3 _ _ _ o6]; rfl
    have r0 : w6.cell? ⟨w.heap.size, 0, none⟩ = some (.int .i64 0) := by rw [cell_of_row w6 _ 0 _ _ _ r6]; rfl
    have r1 : w6.cell? ⟨w.heap.size, 1, none⟩ = some (.bool false) := by rw [cell_of_row w6 _ 1 _ _ _ r6]; rfl
    have r2 : w6.cell? ⟨w.heap.size, 2, none⟩ = some (.slice none 0 0) := by rw [cell_of_row w6 _ 2 _ _ _ r6]; rfl
    have r3 : w6.cell? ⟨w.heap.size, 3, none⟩ = some (.slice none 0 0) := by rw [cell_of_row w6 _ 3 _ _ _ r6]; rfl
    have g0 := frozen_of_row w6 _ 0 _ _ r6
    have g1 := frozen_of_row w6 _ 1 _ _ r6
    have g2 := frozen_of_row w6 _ 2 _ _ r6
    have g3 := frozen_of_row w6 _ 3 _ _ r6
    have HF := hideIt (fin.out y w6.drew D6.drew r6 own6 lab6)
    clear HL5 lab6 fin D6 own6 o6 r6 hd6 P1 Ho5 Hr5 HW5 HD5
    go_wp2
    go_region
    all_goals
      go_wp2
      exact bodyPost_ret (v := .tuple #[.int .i64 y, ansV num ok a' k c' b' m d']) (by simp [results, Try.results51, go_sem, r0, r1, r2, r3]) rfl HF.out
set_option maxRecDepth 100000 in
set_option maxHeartbeats 4000000 in
theorem drawAnswerText_any (w : World) (a : Option Addr) (len cap : Nat) (hl : len ≤ 1048576) (hcode : Code w w.heap.size a len) :
    Calls Try.prog 17 #[.slice a len cap] w (DnA w) := by
  have HO := hideIt (drawAnswerOk_any (w.alloc (.cells (ac 0 false none 0 0 none 0 0) 37)) a len cap hl (code_up hcode (bel1 _ _)))
  have hb0 : (w.alloc (.cells (ac 0 false none 0 0 none 0 0) 37)).heap[w.heap.size]? = some (.cells (ac 0 false none 0 0 none 0 0) 37 (0, 0)) := heap_alloc_new w _
  have Hb0 := hideIt hb0
  clear hcode hb0
  go_enter Try.func17, Try.ntmps17
  go_wp2_with (go_at_call 51; refine HO.out.mono ?_; rintro e w1 ⟨n, num, ok, a', k, c', b', m, d', es, ls, rfl, hown, hlab, hk, hm, hb⟩; refine Hid.out ?_)
  refine (show ∀ {p : Prop}, p → Hid p from fun h => h) ?_
  have r5 := blk_up Hb0.out hb
  have r0 : w1.cell? ⟨w.heap.size, 0, none⟩ = some (.int .i64 0) := by rw [cell_of_row w1 _ 0 _ _ _ r5]; rfl
  have r1 : w1.cell? ⟨w.heap.size, 1, none⟩ = some (.bool false) := by rw [cell_of_row w1 _ 1 _ _ _ r5]; rfl
  have r2 : w1.cell? ⟨w.heap.size, 2, none⟩ = some (.slice none 0 0) := by rw [cell_of_row w1 _ 2 _ _ _ r5]; rfl
  have r3 : w1.cell? ⟨w.heap.size, 3, none⟩ = some (.slice none 0 0) := by rw [cell_of_row w1 _ 3 _ _ _ r5]; rfl
  have g0 := frozen_of_row w1 _ 0 _ _ r5
  have g1 := frozen_of_row w1 _ 1 _ _ r5
  have g2 := frozen_of_row w1 _ 2 _ _ r5
  have g3 := frozen_of_row w1 _ 3 _ _ r5
  have HF : Hid (DnA w (.returned (.tuple #[.int .i64 n, ansV num ok a' k c' b' m d'])) ((((w1.setCell ⟨w.heap.size, 0, none⟩ (.int .i64 num)).setCell ⟨w.heap.size, 1, none⟩ (.bool ok)).setCell ⟨w.heap.size, 2, none⟩ (.slice a' k c')).setCell ⟨w.heap.size, 3, none⟩ (.slice b' m d'))) := by
    refine ⟨n, num, ok, a', k, c', b', m, d', es, ls, rfl, ?_, ?_, hk, hm, ?_⟩
    · refine own_mono (B := w.heap.size + 1) ?_ (by omega)
      have h0 : w1.ownsRow (w.heap.size + 1) 78 2 (.slice a' k c') k (ecells es) := by simpa using hown
      refine own_two h0 (fun g hg _ => ?_)
      have hne : g ≠ w.heap.size := by omega
      rw [heap_setCell_other _ _ _ _ (by exact hne), heap_setCell_other _ _ _ _ (by exact hne), heap_setCell_other _ _ _ _ (by exact hne), heap_setCell_other _ _ _ _ (by exact hne)]
    · have h1 : LbR w1 (w.heap.size + 1) b' m ls := by simpa using hlab
      exact LbR.mono (lb_set (by omega) _ _ (lb_set (by omega) _ _ (lb_set (by omega) _ _ (lb_set (by omega) _ _ h1)))) (by omega)
    · have hB : Below w.heap.size w w1 := (bel1 _ _).trans (hb.mono (by simp))
      exact (((hB.setCell (Nat.le_refl _) _).setCell (Nat.le_refl _) _).setCell (Nat.le_refl _) _).setCell (Nat.le_refl _) _
  clear r5 hown hlab hb Hb0 HO
  go_wp2
  exact bodyPost_ret (v := .tuple #[.int .i64 n, ansV num ok a' k c' b' m d']) (by simp [results, Try.results17, go_sem, r0, r1, r2, r3]) rfl HF.out

theorem atV_small (n : Int) (o : AnsV) : ∃ S b, atV n o = .tuple #[.string S, .bool b] ∧ S.size ≤ 300 := by
  cases h : aB n o with
  | false => exact ⟨_, _, atV_no h, by show (0 : Nat) ≤ 300; omega⟩
  | true =>
    refine ⟨_, _, atV_yes h, ?_⟩
    obtain ⟨p0, p1, p2, p3⟩ := aB_parts h
    rw [str_size]
    unfold aText
    have := vt_le5 o.num.toNat (by omega)
    have := et_len (es := o.es) (by omega)
    have := (lB_bytes p0.2 p3).1
    simp
    omega

set_option maxRecDepth 100000 in
set_option maxHeartbeats 4000000 in
theorem drawReadAnswer_any (w : World) (a : Option Addr) (len cap : Nat) (hl : len ≤ 1048576) (hcode : Code w w.heap.size a len) :
    Calls Try.prog 25 #[.slice a len cap] w fun e w' => ∃ (n : Int) (S : ByteArray), S.size ≤ 6000 ∧ e = .returned (.tuple #[.int .i64 n, .string S]) ∧ Below w.heap.size w w' := by
  have HNew := hideIt (l01New_any w a len cap hl hcode)
  clear hcode
  go_enter Try.func25, Try.ntmps25
  go_wp2_with (go_at_call 59; refine HNew.out.mono ?_; rintro e w1 ⟨rfl, hcur1, hcode1, hb1, hz1⟩; refine Hid.out ?_)
  refine (show ∀ {p : Prop}, p → Hid p from fun h => h) ?_
  have HN := hideIt (l09N_any w1 w.heap.size a len cap hl hcur1 hcode1)
  have hGl := hcur1.lt
  have HD0 := hideIt (DS.start hcur1)
  have HCd := hideIt hcode1
  clear HNew hcur1 hcode1
  go_wp2_with (go_at_call 60; refine HN.out.mono ?_; rintro e w2 ⟨nn, hnn, rfl, hd2⟩; refine Hid.out ?_)
  refine (show ∀ {p : Prop}, p → Hid p from fun h => h) ?_
  have D2 := HD0.out.drawn hd2
  have HO := hideIt (l09AnyAnswer_any nn hnn.1 hnn.2 w2 w.heap.size a len cap hl D2.cur (D2.code HCd.out))
  have HD2 := hideIt D2
  clear hd2 HD0 HN D2
  go_wp2_with (go_at_call 66; refine HO.out.mono ?_; rintro e w3 ⟨num, ok, a', k, c', b', m, d', es, ls, rfl, hown3, hlab3, hk3, hm3, hd3⟩; refine Hid.out ?_)
  refine (show ∀ {p : Prop}, p → Hid p from fun h => h) ?_
  have D3 := HD2.out.drawn hd3
  have HT := hideIt (sAnswerText_any (nn : Int) num ok es ls k a' c' (by omega) m b' d' (by omega) w3 (Es_of_own hown3) hlab3.is)
  obtain ⟨S, b, hS, hSz⟩ := atV_small (nn : Int) ⟨num, ok, es, ls⟩
  rw [hS] at HT
  unfold ansV at HT
  have HD3 := hideIt D3
  clear D3 hd3 hown3 hlab3 HD2 HO hS
  go_wp2_with (go_at_call 36; refine HT.out.mono ?_; rintro e w4 ⟨rfl, hb4⟩; refine Hid.out ?_)
  refine (show ∀ {p : Prop}, p → Hid p from fun h => h) ?_
  have D4 := HD3.out.up hb4
  have HOn := hideIt (l01Once_any 15 (by omega) (by omega) _ w.heap.size a len cap hl D4.cur (D4.code HCd.out))
  have HD4 := hideIt D4
  clear D4 hb4 HD3 HT
  go_wp2_with (go_at_call 67; refine HOn.out.mono ?_; rintro e w5 ⟨bb, rfl, hd5⟩; refine Hid.out ?_)
  refine (show ∀ {p : Prop}, p → Hid p from fun h => h) ?_
  have D5 := HD4.out.drawn hd5
  clear hd5 HD4 HOn
  cases bb with
  | false =>
    have HSp := hideIt (l02Spoilt_any S (by omega) w5 w.heap.size a len cap hl D5.cur (D5.code HCd.out))
    have HB4 : Hid (Below w.heap.size w w5) := bel_grown hb1 D5.grown (Nat.le_refl _)
    clear D5
    go_wp2_with (go_at_call 62; refine HSp.out.mono ?_; rintro e w6 ⟨S5, hS5, rfl, hb5⟩; refine Hid.out ?_)
    refine (show ∀ {p : Prop}, p → Hid p from fun h => h) ?_
    go_wp2
    go_ret2
    exact ⟨_, S5, hS5, rfl, HB4.out.trans hb5⟩
  | true =>
    have P1 := hideIt (pick_DS hl HCd.out hGl w5 [-1, 0, 13, 9223372036854775807] (by simp) (by simp) D5)
    simp only [List.map_cons, List.map_nil, List.length_cons, List.length_nil, Nat.zero_add, Nat.reduceAdd] at P1
    have HD5 := hideIt D5
    clear D5
    go_wp2_with (go_at_call 68; refine P1.out.mono ?_; rintro e w6 ⟨y, rfl, hd6⟩; refine Hid.out ?_)
    refine (show ∀ {p : Prop}, p → Hid p from fun h => h) ?_
    have D6 := (HD5.out.alloc _).drawn hd6
    have HSp := hideIt (l02Spoilt_any S (by omega) w6 w.heap.size a len cap hl D6.cur (D6.code HCd.out))
    have HB4 : Hid (Below w.heap.size w w6) := bel_grown hb1 D6.grown (Nat.le_refl _)
    clear D6 hd6 P1 HD5
    go_wp2_with (go_at_call 62; refine HSp.out.mono ?_; rintro e w7 ⟨S5, hS5, rfl, hb5⟩; refine Hid.out ?_)
    refine (show ∀ {p : Prop}, p → Hid p from fun h => h) ?_
    go_wp2
    go_ret2
    exact ⟨_, S5, hS5, rfl, HB4.out.trans hb5⟩
end Go.Proofs.Ytkhhagjcmbbdpaa
namespace Go.Proofs.Ytkhhagjcmbbdpaa
open Go.RowKit

set_option maxHeartbeats 1000000 in
theorem sameInts_same (ls : List Int) (n : Nat) (a a' : Option Addr) (c c' : Nat) (hn : n ≤ 1048576) (w : World) (h : Is w w.heap.size a n ls) (h' : Is w w.heap.size a' n ls) :
    Calls Try.prog 58 #[.slice a n c, .slice a' n c'] w fun e w' => e = .returned (.bool true) ∧ Below w.heap.size w w' := by
  obtain ⟨hlen, hrow⟩ := h
  obtain ⟨_, hrow'⟩ := h'
  have HR := hideIt hrow
  have HR' := hideIt hrow'
  clear hrow hrow'
  have dn : ((n : Int) != (n : Int)) = false := by simp
  go_enter Try.func58, Try.ntmps58
  go_wp2
  go_loopw [5] (fun i wr => ∃ (k : Nat), k ≤ n ∧ i = .int .i64 (k : Int) ∧ Below w.heap.size w wr) (fun i _ => n - (intOf i).toNat)
  case atStart => exact ⟨0, by omega, rfl, Below.refl _ _⟩
  case round =>
    obtain ⟨k, hk, rfl, hb⟩ := hrel
    by_cases hlt : k < n
    · rcases HR.out with hz | ⟨b, off, rfl, hbl, hc⟩
      · omega
      · rcases HR'.out with hz | ⟨b', off', rfl, hbl', hc'⟩
        · omega
        · obtain ⟨f, hf⟩ : ∃ f, ls[k]? = some f := ⟨ls[k]'(by omega), List.getElem?_eq_getElem (by omega)⟩
          have e0 : wr.cell? ⟨b, off + k, none⟩ = some (.int .i64 f) := by rw [hb.cell hbl]; exact hc k f hf
          have e1 : wr.cell? ⟨b', off' + k, none⟩ = some (.int .i64 f) := by rw [hb.cell hbl']; exact hc' k f hf
          have b1 : (0 : Int) ≤ (k : Int) := by omega
          have b2 : (k : Int) < (n : Int) := by omega
          have d1 : (f != f) = false := by simp
          clear hc hc' hf
          go_wp2
          go_quiet (fail)
          go_wp2
          exact ⟨⟨k + 1, by omega, by go_num, below_drewN hb _⟩, by simp [intOf]; omega⟩
    · go_wp2
      go_ret
      exact ⟨rfl, hb⟩

set_option maxHeartbeats 1000000 in
theorem sameEdges_same (fs : List EdgeV) (n : Nat) (a a' : Option Addr) (c c' : Nat) (hn : n ≤ 1048576) (w : World) (h : Es w w.heap.size a n fs) (h' : Es w w.heap.size a' n fs) :
    Calls Try.prog 16 #[.slice a n c, .slice a' n c'] w fun e w' => e = .returned (.bool true) ∧ Below w.heap.size w w' := by
  obtain ⟨hlen, hrow⟩ := h
  obtain ⟨_, hrow'⟩ := h'
  have HR := hideIt hrow
  have HR' := hideIt hrow'
  clear hrow hrow'
  have dn : ((n : Int) != (n : Int)) = false := by simp
  go_enter Try.func16, Try.ntmps16
  go_wp2
  go_loopw [5] (fun i wr => ∃ k : Nat, k ≤ n ∧ i = .int .i64 (k : Int) ∧ Below w.heap.size w wr) (fun i _ => n - (intOf i).toNat)
  case atStart => exact ⟨0, by omega, rfl, Below.refl _ _⟩
  case round =>
    obtain ⟨k, hk, rfl, hb⟩ := hrel
    by_cases hlt : k < n
    · rcases HR.out with hz | ⟨b, off, rfl, hbl, hc⟩
      · omega
      · rcases HR'.out with hz | ⟨b', off', rfl, hbl', hc'⟩
        · omega
        · obtain ⟨f, hf⟩ : ∃ f, fs[k]? = some f := ⟨fs[k]'(by omega), List.getElem?_eq_getElem (by omega)⟩
          obtain ⟨c0, c1⟩ := hc k f hf
          obtain ⟨d0, d1⟩ := hc' k f hf
          have e0 : wr.cell? ⟨b, off + k * 2, none⟩ = some (.int .i64 f.1) := by rw [hb.cell hbl]; exact c0
          have e1 : wr.cell? ⟨b, off + k * 2 + 1, none⟩ = some (.int .i64 f.2) := by rw [hb.cell hbl]; exact c1
          have e3 : wr.cell? ⟨b', off' + k * 2, none⟩ = some (.int .i64 f.1) := by rw [hb.cell hbl']; exact d0
          have e4 : wr.cell? ⟨b', off' + k * 2 + 1, none⟩ = some (.int .i64 f.2) := by rw [hb.cell hbl']; exact d1
          have b1 : (0 : Int) ≤ (k : Int) := by omega
          have b2 : (k : Int) < (n : Int) := by omega
          clear c0 c1 d0 d1 hc hc' hf
          go_wp2
          go_quiet (fail)
          go_wp2
          exact ⟨⟨k + 1, by omega, by go_num, below_drewN hb _⟩, by simp [intOf]; omega⟩
    · go_wp2
      go_ret
      exact ⟨rfl, hb⟩


set_option maxHeartbeats 4000000 in
theorem sameAnswer_same (num : Int) (ok : Bool) (fs : List EdgeV) (ls : List Int) (n : Nat) (a b : Option Addr) (c d : Nat) (hn : n ≤ 1048576) (m : Nat) (a' b' : Option Addr) (c' d' : Nat) (hm : m ≤ 1048576) (w : World)
    (h1 : Es w w.heap.size a n fs) (h2 : Es w w.heap.size b n fs) (h3 : Is w w.heap.size a' m ls) (h4 : Is w w.heap.size b' m ls) :
    Calls Try.prog 22 #[ansV num ok a n c a' m c', ansV num ok b n d b' m d'] w fun e w' => e = .returned (.bool true) ∧ Below w.heap.size w w' := by
  unfold ansV
  have B2 : Below w.heap.size w ((w.alloc (.cells #[.int .i64 num, .bool ok, .slice a n c, .slice a' m c'] 37)).alloc (.cells #[.int .i64 num, .bool ok, .slice b n d, .slice b' m d'] 37)) := (bel1 _ _).alloc (by simp) _
  have HT := hideIt (sameEdges_same fs n a b c d hn _ (h1.up B2) (h2.up B2))
  have HI : Hid (∀ W, Below w.heap.size w W → Calls Try.prog 58 #[.slice a' m c', .slice b' m d'] W fun e w' => e = .returned (.bool true) ∧ Below W.heap.size W w') := fun W hW => sameInts_same ls m a' b' c' d' hm W (h3.up hW) (h4.up hW)
  have HB2 := hideIt B2
  have dr : (ok == ok) = true := by simp
  have dn : (num == num) = true := by simp
  clear h1 h2 h3 h4 B2
  go_enter Try.func22, Try.ntmps22
  go_wp2_with (go_at_call 16; refine HT.out.mono ?_; rintro e w1 ⟨rfl, hb1⟩; refine Hid.out ?_)
  refine (show ∀ {p : Prop}, p → Hid p from fun h => h) ?_
  obtain ⟨hc, hf⟩ := bcell hb1
  have HB := hideIt (HB2.out.trans (hb1.mono (by simp; omega)))
  have q0 : w1.cell? ⟨w.heap.size, 3, none⟩ = some (.slice a' m c') := by rw [hc _ _ (by simp; omega)]; simp
  have q1 : w1.cell? ⟨w.heap.size + 1, 3, none⟩ = some (.slice b' m d') := by rw [hc _ _ (by simp)]; simp
  clear hc hf hb1 HT
  go_wp2_with (go_at_call 58; refine (HI.out _ HB.out).mono ?_; rintro e w2 ⟨rfl, hb2⟩)
  go_ret
  exact ⟨rfl, HB.out.trans (hb2.mono HB.out.size)⟩
end Go.Proofs.Ytkhhagjcmbbdpaa
namespace Go.Proofs.Ytkhhagjcmbbdpaa
open Go.RowKit Vt

theorem str_neq {L : List UInt8} {s : ByteArray} (h : L ≠ s.data.toList) : ((str L).toList == s.toList) = false := by
  rw [beq_eq_false_iff_ne, Lib.toList_data, Lib.toList_data, str_list]
  exact h
theorem str_eq {L : List UInt8} {s : ByteArray} (h : L = s.data.toList) : str L = s := by
  apply ByteArray.ext
  rw [h]
  simp [str]

set_option maxRecDepth 100000 in
set_option maxHeartbeats 4000000 in
theorem sReadOrder_any (n : Int) (s : ByteArray) (hs : s.size ≤ 1048576) (w : World) :
    Calls Try.prog 24 #[.int .i64 n, .string s] w fun e w' => ∃ r, IsO n s.data.toList r ∧ OrdAns w w' e r := by
  have HN : Hid (∀ W G st, RdAt False 90 W G s st → Calls Try.prog 63 #[.pointer (some ⟨G, 0, none⟩)] W fun e w' => e = .returned (.int .i64 (((nx pN st).1 : Nat) : Int)) ∧ RdAt False 90 w' G s (nx pN st).2 ∧ W.grownBy w' (some G)) := fun W G st h => l09Var_any s hs W G st h
  have HO : Hid (∀ W G st, RdAt False 90 W G s st → Calls Try.prog 64 #[.pointer (some ⟨G, 0, none⟩)] W fun e w' => e = .returned (.int .i64 (((nx pO st).1 : Nat) : Int)) ∧ RdAt False 90 w' G s (nx pO st).2 ∧ W.grownBy w' (some G)) := fun W G st h => l09One_any s hs W G st h
  have HE : Hid (∀ W G st, RdAt False 90 W G s st → Calls Try.prog 65 #[.pointer (some ⟨G, 0, none⟩)] W fun e w' => ∃ v, e = .returned v ∧ EdAns False 90 W w' G s st v 100) := fun W G st h => l09ReadEdges_any s hs W G st h
  have hR0 : RdAt False 90 ((w.alloc (.cells (oc 0 0 none 0 0 0) 26)).alloc (.cells #[.string s, .int .i64 0, .bool false] 90)) (w.heap.size + 1) s (some s.data.toList) := by
    refine ⟨0, false, ?_, by omega, .inl ⟨rfl, by simp [from_]⟩⟩
    have := heap_alloc_new (w.alloc (.cells (oc 0 0 none 0 0 0) 26)) (.cells #[.string s, .int .i64 0, .bool false] 90)
    simpa using this
  have hb0 : ((w.alloc (.cells (oc 0 0 none 0 0 0) 26)).alloc (.cells #[.string s, .int .i64 0, .bool false] 90)).heap[w.heap.size]? = some (.cells (oc 0 0 none 0 0 0) 26 (0, 0)) := by
    rw [Below.heap_alloc _ _ _ (by simp)]
    exact heap_alloc_new w _
  have hB0 : Below w.heap.size w ((w.alloc (.cells (oc 0 0 none 0 0 0) 26)).alloc (.cells #[.string s, .int .i64 0, .bool false] 90)) := ((Below.refl _ _).alloc (Nat.le_refl _) _).alloc (by simp) _
  have HR0 := hideIt hR0
  have Hb0 := hideIt hb0
  have HB0 := hideIt hB0
  clear hR0 hb0 hB0
  go_enter Try.func24, Try.ntmps24
  go_wp2_with (go_at_call 63; refine (HN.out _ _ _ HR0.out).mono ?_; rintro e w1 ⟨rfl, hr1, hg1⟩; refine Hid.out ?_)
  refine (show ∀ {p : Prop}, p → Hid p from fun h => h) ?_
  have z1 := hg1.size
  simp at z1
  have R1 : RO False 90 w (w1.alloc (.cells (oc (((nx pN (some s.data.toList)).1 : Nat) : Int) 0 none 0 0 0) 26)) (w.heap.size + 1) w1.heap.size w.heap.size s (nx pN (some s.data.toList)).2 (((nx pN (some s.data.toList)).1 : Nat) : Int) 0 none 0 0 0 := by
    refine ⟨hr1.alloc _, heap_alloc_new w1 _, ?_, ?_, by omega, by omega⟩
    · rw [Below.heap_alloc _ _ _ (by omega), hg1.block _ (by simp; omega) (by simp)]
      exact Hb0.out
    · exact (bel_grown HB0.out hg1 (by omega)).alloc (by omega) _
  have R2 := R1
  clear R1 hr1 hg1 HR0 Hb0 HB0
  go_wp2_with (go_at_call 64; refine (HO.out _ _ _ R2.rd).mono ?_; rintro e w3 ⟨rfl, hr3, hg3⟩; refine Hid.out ?_)
  refine (show ∀ {p : Prop}, p → Hid p from fun h => h) ?_
  have R3 := R2.call hr3 hg3
  clear R2 hr3 hg3
  obtain ⟨_, c1, _, _⟩ := R3.cells
  have f1 := R3.frozen 1
  have R4 := R3.set 1 (.int .i64 (((nx pO (nx pN (some s.data.toList)).2).1 : Nat) : Int)) rfl
  clear R3
  go_wp2_with (go_at_call 63; refine (HN.out _ _ _ R4.rd).mono ?_; rintro e w5 ⟨rfl, hr5, hg5⟩; refine Hid.out ?_)
  refine (show ∀ {p : Prop}, p → Hid p from fun h => h) ?_
  have R5 := R4.call hr5 hg5
  clear R4 hr5 hg5 c1 f1
  obtain ⟨_, _, _, c3⟩ := R5.cells
  have f3 := R5.frozen 3
  have R6 := R5.set 3 (.int .i64 (((nx pN (nx pO (nx pN (some s.data.toList)).2).2).1 : Nat) : Int)) rfl
  clear R5
  go_wp2_with (go_at_call 65; refine (HE.out _ _ _ R6.rd).mono ?_; rintro e w7 ⟨v7, rfl, hA7⟩; refine Hid.out ?_)
  refine (show ∀ {p : Prop}, p → Hid p from fun h => h) ?_
  obtain ⟨a, k, c, es, st4, rfl, hk, hby, hown, hER, hr7, hg7⟩ := ed_es hA7
  have R7 := R6.call hr7 hg7
  have hz6 := R6.lt
  have hge6 := R6.bel.size
  clear R6 hr7 hg7 hA7 c3 f3
  obtain ⟨_, _, c2, _⟩ := R7.cells
  have f2 := R7.frozen 2
  have R8 := R7.set 2 (.slice a k c) rfl
  have own8 := own_block (W := w7.setCell ⟨w1.heap.size, 2, none⟩ (.slice a k c)) hown (fun g hg _ => heap_setCell_other _ _ _ _ (by intro h; simp at h; have := hz6.2.1; omega))
  clear R7 hown
  generalize hq1 : (((nx pN (some s.data.toList)).1 : Nat) : Int) = num at *
  generalize hq2 : (((nx pO (nx pN (some s.data.toList)).2).1 : Nat) : Int) = op at *
  generalize hq3 : (((nx pN (nx pO (nx pN (some s.data.toList)).2).2).1 : Nat) : Int) = v at *
  have HCh : Hid (Ch s.data.toList ⟨num, op, es, v⟩ st4) := ⟨_, _, _, hq1.symm, rfl, hq2.symm, rfl, hq3.symm, rfl, hER⟩
  clear hq1 hq2 hq3 hER
  generalize (w5.setCell ⟨w1.heap.size, 3, none⟩ (.int .i64 v)).heap.size = B at own8 hz6 hge6
  obtain ⟨q0, q1, q2, q3⟩ := R8.cells
  have HOk := hideIt (sOrderText_any n num op es v k a c (by omega) _ (Es_of_own own8))
  unfold ordV at HOk
  have own8 := hideIt own8
  have HR8 := hideIt R8
  clear R8
  cases hB : oB n ⟨num, op, es, v⟩ with
  | false =>
    rw [otV_no hB] at HOk
    have HI : Hid (IsO n s.data.toList none) := IsO.back HCh.out (.inr (.inl hB))
    clear hB
    cases hst : st4 with
    | none =>
      go_wp2_with (go_at_call 33; refine HOk.out.mono ?_; rintro e w10 ⟨rfl, hb10⟩; refine Hid.out ?_)
      refine (show ∀ {p : Prop}, p → Hid p from fun h => h) ?_
      have R10 := HR8.out.below hb10
      have cf := R10.rd.flag
      rw [hst] at cf
      obtain ⟨r0, r1, r2, r3⟩ := R10.cellsR
      have g0 := R10.frozenR 0
      have g1 := R10.frozenR 1
      have g2 := R10.frozenR 2
      have g3 := R10.frozenR 3
      have HB := hideIt R10.bel
      clear R10 q0 q1 q2 q3 hb10
      go_wp2
      refine bodyPost_ret (v := .tuple #[ordV 0 0 none 0 0 0, .bool false]) (by simp [results, Try.results24, go_sem, r0, r1, r2, r3]) rfl ⟨none, HI.out, none, 0, 0, rfl, ⟨rfl, .inl ⟨rfl, rfl⟩⟩, by omega, ?_⟩
      exact (((HB.out.setCell (Nat.le_refl _) _).setCell (Nat.le_refl _) _).setCell (Nat.le_refl _) _).setCell (Nat.le_refl _) _
    | some M =>
      go_wp2_with (go_at_call 33; refine HOk.out.mono ?_; rintro e w10 ⟨rfl, hb10⟩; refine Hid.out ?_)
      refine (show ∀ {p : Prop}, p → Hid p from fun h => h) ?_
      have R10 := HR8.out.below hb10
      have cf := R10.rd.flag
      rw [hst] at cf
      obtain ⟨r0, r1, r2, r3⟩ := R10.cellsR
      have g0 := R10.frozenR 0
      have g1 := R10.frozenR 1
      have g2 := R10.frozenR 2
      have g3 := R10.frozenR 3
      have HB := hideIt R10.bel
      clear R10 q0 q1 q2 q3 hb10
      go_wp2
      refine bodyPost_ret (v := .tuple #[ordV 0 0 none 0 0 0, .bool false]) (by simp [results, Try.results24, go_sem, r0, r1, r2, r3]) rfl ⟨none, HI.out, none, 0, 0, rfl, ⟨rfl, .inl ⟨rfl, rfl⟩⟩, by omega, ?_⟩
      exact (((HB.out.setCell (Nat.le_refl _) _).setCell (Nat.le_refl _) _).setCell (Nat.le_refl _) _).setCell (Nat.le_refl _) _
  | true =>
    rw [otV_yes hB] at HOk
    cases hst : st4 with
    | none =>
      have HI : Hid (IsO n s.data.toList none) := IsO.back HCh.out (.inl hst)
      clear hB
      go_wp2_with (go_at_call 33; refine HOk.out.mono ?_; rintro e w10 ⟨rfl, hb10⟩; refine Hid.out ?_)
      refine (show ∀ {p : Prop}, p → Hid p from fun h => h) ?_
      have R10 := HR8.out.below hb10
      have cf := R10.rd.flag
      rw [hst] at cf
      obtain ⟨r0, r1, r2, r3⟩ := R10.cellsR
      have g0 := R10.frozenR 0
      have g1 := R10.frozenR 1
      have g2 := R10.frozenR 2
      have g3 := R10.frozenR 3
      have HB := hideIt R10.bel
      clear R10 q0 q1 q2 q3 hb10
      go_wp2
      refine bodyPost_ret (v := .tuple #[ordV 0 0 none 0 0 0, .bool false]) (by simp [results, Try.results24, go_sem, r0, r1, r2, r3]) rfl ⟨none, HI.out, none, 0, 0, rfl, ⟨rfl, .inl ⟨rfl, rfl⟩⟩, by omega, ?_⟩
      exact (((HB.out.setCell (Nat.le_refl _) _).setCell (Nat.le_refl _) _).setCell (Nat.le_refl _) _).setCell (Nat.le_refl _) _
    | some M =>
      by_cases hT : oText ⟨num, op, es, v⟩ = s.data.toList
      · have HI : Hid (IsO n s.data.toList (some ⟨num, op, es, v⟩)) := ⟨hB, hT⟩
        rw [str_eq hT] at HOk
        clear hB hT
        go_wp2_with (go_at_call 33; refine HOk.out.mono ?_; rintro e w10 ⟨rfl, hb10⟩; refine Hid.out ?_)
        refine (show ∀ {p : Prop}, p → Hid p from fun h => h) ?_
        have R10 := HR8.out.below hb10
        have cf := R10.rd.flag
        rw [hst] at cf
        obtain ⟨r0, r1, r2, r3⟩ := R10.cellsR
        have g0 := R10.frozenR 0
        have g1 := R10.frozenR 1
        have g2 := R10.frozenR 2
        have g3 := R10.frozenR 3
        have HB := hideIt R10.bel
        have own10 : Hid (w10.ownsRow B 78 2 (.slice a k c) k (ecells es)) := own_block own8.out (fun g _ hlt => hb10.block g hlt)
        clear q0 q1 q2 q3
        obtain ⟨q0, q1, q2, q3⟩ := R10.cells
        clear R10 hb10
        go_wp2
        refine bodyPost_ret (v := .tuple #[ordV num op a k c v, .bool true]) (by simp [results, Try.results24, go_sem, r0, r1, r2, r3]) rfl ⟨some ⟨num, op, es, v⟩, HI.out, a, k, c, rfl, ?_, by omega, ?_⟩
        · refine own_mono (B := B) ?_ hge6
          refine own_block own10.out (fun g hg hlt => ?_)
          have hne : g ≠ w.heap.size := by have := hz6.2.2; omega
          rw [heap_setCell_other _ _ _ _ (by exact hne), heap_setCell_other _ _ _ _ (by exact hne), heap_setCell_other _ _ _ _ (by exact hne), heap_setCell_other _ _ _ _ (by exact hne)]
        · exact (((HB.out.setCell (Nat.le_refl _) _).setCell (Nat.le_refl _) _).setCell (Nat.le_refl _) _).setCell (Nat.le_refl _) _
      · have HI : Hid (IsO n s.data.toList none) := IsO.back HCh.out (.inr (.inr hT))
        have tq := str_neq hT
        generalize str (oText ⟨num, op, es, v⟩) = S at HOk tq
        clear hB hT
        go_wp2_with (go_at_call 33; refine HOk.out.mono ?_; rintro e w10 ⟨rfl, hb10⟩; refine Hid.out ?_)
        refine (show ∀ {p : Prop}, p → Hid p from fun h => h) ?_
        have R10 := HR8.out.below hb10
        have cf := R10.rd.flag
        rw [hst] at cf
        obtain ⟨r0, r1, r2, r3⟩ := R10.cellsR
        have g0 := R10.frozenR 0
        have g1 := R10.frozenR 1
        have g2 := R10.frozenR 2
        have g3 := R10.frozenR 3
        have HB := hideIt R10.bel
        clear R10 q0 q1 q2 q3 hb10
        go_wp2
        refine bodyPost_ret (v := .tuple #[ordV 0 0 none 0 0 0, .bool false]) (by simp [results, Try.results24, go_sem, r0, r1, r2, r3]) rfl ⟨none, HI.out, none, 0, 0, rfl, ⟨rfl, .inl ⟨rfl, rfl⟩⟩, by omega, ?_⟩
        exact (((HB.out.setCell (Nat.le_refl _) _).setCell (Nat.le_refl _) _).setCell (Nat.le_refl _) _).setCell (Nat.le_refl _) _
end Go.Proofs.Ytkhhagjcmbbdpaa
