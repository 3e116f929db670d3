/- An edge is put into a list of edges. -/
import Derived.Test.YtcppbgkocipnlaaE6
import Derived.Deep.AppendLies
namespace Go.Proofs.Ytcppbgkocipnlaa
open Go.RowKit

/-- the world behind the edge's box -/
def wE (w : World) (e : EdgeV) : World := w.alloc (.cells #[.int .i64 e.1, .int .i64 e.2] 40)

theorem wE_size (w : World) (e : EdgeV) : (wE w e).heap.size = w.heap.size + 1 := by simp [wE]

/-- nothing of it has turned, and the row is ours -/
structure PutSt (w : World) (e : EdgeV) (a : Option Addr) (m c : Nat) (gs : List EdgeV) (u : World) : Prop where
  own : u.ownsRow (w.heap.size + 1) 40 2 (.slice a m c) m (ecells gs)
  bel : Below (w.heap.size + 1) (wE w e) u

theorem PutSt.size {w : World} {e : EdgeV} {a : Option Addr} {m c : Nat} {gs : List EdgeV} {u : World} (h : PutSt w e a m c gs u) : w.heap.size + 1 ≤ u.heap.size := by have := h.bel.size; rw [wE_size] at this; exact this

theorem PutSt.len {w : World} {e : EdgeV} {a : Option Addr} {m c : Nat} {gs : List EdgeV} {u : World} (h : PutSt w e a m c gs u) : gs.length = m := by have := h.own.1; rw [ecells_length] at this; omega

theorem PutSt.below {w : World} {e : EdgeV} {a : Option Addr} {m c : Nat} {gs : List EdgeV} {u : World} (h : PutSt w e a m c gs u) : Below w.heap.size w u :=
  ((Below.refl w.heap.size w).alloc (Nat.le_refl _) _).trans (h.bel.mono (by omega))

theorem PutSt.up {w : World} {e : EdgeV} {a : Option Addr} {m c : Nat} {gs : List EdgeV} {u v : World} (h : PutSt w e a m c gs u) (hb : Below u.heap.size u v) : PutSt w e a m c gs v :=
  ⟨World.ownsRow.kept h.own (show u.grownBy v none from ⟨hb.os, hb.tape, hb.output, hb.size, fun k hk _ => hb.block k hk⟩) (by cases hv : (Value.slice a m c).ownBlock <;> simp), h.bel.trans (hb.mono h.size)⟩

theorem PutSt.box {w : World} {e : EdgeV} {a : Option Addr} {m c : Nat} {gs : List EdgeV} {u : World} (h : PutSt w e a m c gs u) : u.cell? ⟨w.heap.size, 0, none⟩ = some (.int .i64 e.1) ∧ u.cell? ⟨w.heap.size, 1, none⟩ = some (.int .i64 e.2) := by
  refine ⟨?_, ?_⟩
  · rw [h.bel.cell (by show w.heap.size < _; omega)]; simp [wE]
  · rw [h.bel.cell (by show w.heap.size < _; omega)]; simp [wE]

/-- behind an append of one edge -/
theorem PutSt.app {w : World} {e : EdgeV} {a : Option Addr} {m c : Nat} {gs : List EdgeV} {u : World} (h : PutSt w e a m c gs u) {g : EdgeV} {o : Obj} {v : Value} {u' : World}
    (ho : u'.ownsRow (w.heap.size + 1) 40 2 v (m + 1) (ecells gs ++ [.int .i64 g.1, .int .i64 g.2])) (hg : (u.alloc o).grownBy u' (Value.slice a m c).ownBlock) :
    ∃ a' c', v = .slice a' (m + 1) c' ∧ PutSt w e a' (m + 1) c' (gs ++ [g]) u' := by
  obtain ⟨a', c', rfl⟩ := own_form ho
  rw [← ecells_snoc] at ho
  refine ⟨a', c', rfl, ho, ?_⟩
  exact (h.bel.alloc h.size _).grown hg (by have := h.size; simp; omega) (fun j hj => (h.own.lt j hj).1)

theorem news1 (w : World) (g : EdgeV) : ∀ j u, ([Value.int .i64 g.1, Value.int .i64 g.2] : List Value)[j]? = some u → (w.alloc (.cells #[.int .i64 g.1, .int .i64 g.2] 40)).cell? ((⟨w.heap.size, 0, none⟩ : Addr).add j) = some u := by
  intro j u hj
  rcases j with _ | _ | j
  · simp at hj; subst hj; simp [Addr.add]
  · simp at hj; subst hj; simp [Addr.add]
  · simp at hj

set_option maxRecDepth 100000 in
set_option maxHeartbeats 4000000 in
theorem l05Put_any (es : List EdgeV) (e : EdgeV) (n : Nat) (a : Option Addr) (c : Nat) (hn : n ≤ 1048576) (w : World) (h : Es w w.heap.size a n es) :
    Calls Try.prog 76 #[.slice a n c, .agg #[.int .i64 e.1, .int .i64 e.2]] w fun x w' => ∃ a' m' c', x = .returned (.slice a' m' c') ∧ w'.ownsRow w.heap.size 40 2 (.slice a' m' c') m' (ecells (putE es e)) ∧ Below w.heap.size w w' := by
  obtain ⟨i0, hi, hz0, hz1, hz2⟩ := info_parts infoIE
  obtain ⟨hlen, hrow⟩ := h
  have HR := hideIt hrow
  clear hrow
  have HLs : Hid (∀ (a' : Option Addr) (m' c' : Nat) (gs : List EdgeV) (d f : EdgeV) (W : World), PutSt w e a' m' c' gs W → Calls Try.prog 85 #[.agg #[.int .i64 d.1, .int .i64 d.2], .agg #[.int .i64 f.1, .int .i64 f.2]] W fun x w' => x = .returned (.bool (lt d f)) ∧ PutSt w e a' m' c' gs w') := fun _ _ _ _ d f W hW =>
    (l05Less_any d f W).mono fun _ _ ⟨he, hb⟩ => ⟨he, hW.up hb⟩
  go_enter Try.func76, Try.ntmps76
  go_wp2
  go_loopw [5, 6] (fun v i wr => ∃ (k m' : Nat) (a' : Option Addr) (c' : Nat) (gs : List EdgeV), k ≤ n ∧ i = .int .i64 (k : Int) ∧ v = .slice a' m' c' ∧ m' ≤ k ∧ Hid (gs = (es.take k).filter (fun d => lt d e)) ∧ PutSt w e a' m' c' gs wr) (fun _ i _ => n - (intOf i).toNat)
  case atStart =>
    refine ⟨0, 0, _, _, [], by omega, rfl, rfl, by omega, by show _ = _; simp, ?_, ?_⟩
    · have h0 := World.ownsRow_lit (base := w.heap.size + 1) (e := 40) (size := 2) (wE w e) #[] 0 (by rw [wE_size]; omega) (by unfold maxLen; omega) (by simp)
      rw [wE_size] at h0
      simpa [ecells, wE] using h0
    · have h1 := (Below.refl (w.heap.size + 1) (wE w e)).alloc (by rw [wE_size]; omega) (.cells #[] 40)
      simpa [wE] using h1
  case round =>
    obtain ⟨k, m', a', c', gs, hk, rfl, rfl, hm, hgs, hst⟩ := hrel
    by_cases hlt : k < n
    · rcases HR.out with hz | ⟨b, off, rfl, hbl, hc⟩
      · omega
      · obtain ⟨f, hf⟩ : ∃ f, es[k]? = some f := ⟨es[k]'(by omega), List.getElem?_eq_getElem (by omega)⟩
        obtain ⟨c0, c1⟩ := hc k f hf
        have b1 : (0 : Int) ≤ (k : Int) := by omega
        have b2 : (k : Int) < (n : Int) := by omega
        have HK : Hid (∀ W : World, PutSt w e a' m' c' gs W → (W.cell? ⟨b, off + k * 2, none⟩ = some (.int .i64 f.1) ∧ W.cell? ⟨b, off + k * 2 + 1, none⟩ = some (.int .i64 f.2)) ∧ W.cell? ⟨w.heap.size, 0, none⟩ = some (.int .i64 e.1) ∧ W.cell? ⟨w.heap.size, 1, none⟩ = some (.int .i64 e.2)) := fun W hW =>
          ⟨⟨by rw [hW.below.cell hbl]; exact c0, by rw [hW.below.cell hbl]; exact c1⟩, hW.box⟩
        have S0 := hst.up (Below.refl _ _).drew
        have HLc := hideIt (HLs.out a' m' c' gs f e _ S0)
        have e0 := (HK.out _ hst).1.1
        have e1 := (HK.out _ hst).1.2
        cases hL : lt f e with
        | true =>
          rw [hL] at HLc
          have HG : Hid (gs ++ [f] = (es.take (k + 1)).filter (fun d => lt d e)) := by
            show _ = _
            rw [take_snocF es k f hf, List.filter_append, hgs.out]
            simp [hL]
          clear hc hf c0 c1 hL
          go_wp2
          go_region_held3 (fun u => PutSt w e a' m' c' gs u ∧ (u.cell? ⟨b, off + k * 2, none⟩ = some (.int .i64 f.1) ∧ u.cell? ⟨b, off + k * 2 + 1, none⟩ = some (.int .i64 f.2)) ∧ u.cell? ⟨w.heap.size, 0, none⟩ = some (.int .i64 e.1) ∧ u.cell? ⟨w.heap.size, 1, none⟩ = some (.int .i64 e.2))
            (first | exact ⟨S1, HK.out _ S1⟩ | exact ⟨S0, HK.out _ S0⟩)
            ((go_at_call 85; refine HLc.out.mono ?_; rintro x w1 ⟨rfl, S1⟩))
          obtain ⟨⟨y0, y1⟩, _, _⟩ := HK.out _ S1
          have z1 := S1.size
          clear HLc S0
          go_wp2_with (at_builtin; refine wpList_append_own _ rfl _ _ 37 rfl (w.heap.size + 1) 40 i0 _ 2 16 Try.underlying37 hi hz0 hz1 hz2 rfl (by decide) _ _ _ rfl (S1.own.alloc _) ⟨w1.heap.size, 0, none⟩ 1 1 [.int .i64 f.1, .int .i64 f.2] rfl rfl (news1 _ _) (by intro u hu; simp at hu; rcases hu with rfl | rfl <;> rfl) (by unfold maxLen; omega) (by omega) (by simp; omega) ?_)
          intro v2 w2 hown2 hg2 hn2
          obtain ⟨a2, c2, rfl, hst2⟩ := S1.app hown2 hg2
          clear hown2 hg2 hn2 S1 y0 y1 e0 e1 hst
          go_wp2
          exact ⟨⟨k + 1, m' + 1, a2, c2, gs ++ [f], by omega, by go_num, rfl, by omega, HG, hst2⟩, by simp [intOf]; omega⟩
        | false =>
          rw [hL] at HLc
          have HG : Hid (gs = (es.take (k + 1)).filter (fun d => lt d e)) := by
            show _ = _
            rw [take_snocF es k f hf, List.filter_append, hgs.out]
            simp [hL]
          clear hc hf c0 c1 hL
          go_wp2
          go_region_held3 (fun u => PutSt w e a' m' c' gs u ∧ (u.cell? ⟨b, off + k * 2, none⟩ = some (.int .i64 f.1) ∧ u.cell? ⟨b, off + k * 2 + 1, none⟩ = some (.int .i64 f.2)) ∧ u.cell? ⟨w.heap.size, 0, none⟩ = some (.int .i64 e.1) ∧ u.cell? ⟨w.heap.size, 1, none⟩ = some (.int .i64 e.2))
            (first | exact ⟨S1, HK.out _ S1⟩ | exact ⟨S0, HK.out _ S0⟩)
            ((go_at_call 85; refine HLc.out.mono ?_; rintro x w1 ⟨rfl, S1⟩))
          go_wp2
          exact ⟨⟨k + 1, m', a', c', gs, by omega, by go_num, rfl, by omega, HG, S1⟩, by simp [intOf]; omega⟩
    · obtain rfl : k = n := by omega
      have HG : Hid (gs ++ [e] = es.filter (fun d => lt d e) ++ [e]) := by show _ = _; rw [hgs.out, List.take_of_length_le (by omega)]
      obtain ⟨x0, x1⟩ := hst.box
      have z1 := hst.size
      clear hgs
      go_wp2_with (at_builtin; refine wpList_append_own _ rfl _ _ 37 rfl (w.heap.size + 1) 40 i0 _ 2 16 Try.underlying37 hi hz0 hz1 hz2 rfl (by decide) _ _ _ rfl (hst.own.alloc _) ⟨wr.heap.size, 0, none⟩ 1 1 [.int .i64 e.1, .int .i64 e.2] rfl rfl (news1 _ _) (by intro u hu; simp at hu; rcases hu with rfl | rfl <;> rfl) (by unfold maxLen; omega) (by omega) (by simp; omega) ?_)
      intro v2 w2 hown2 hg2 hn2
      obtain ⟨a2, c2, rfl, hst2⟩ := hst.app hown2 hg2
      have hmk : m' + 1 ≤ k + 1 := by omega
      generalize m' + 1 = m3 at hst2 hmk
      generalize gs ++ [e] = g0 at HG hst2
      clear hown2 hg2 hn2 x0 x1 hst
      go_wp2
      go_loopw [5, 7] (fun v i wr => ∃ (q m' : Nat) (a' : Option Addr) (c' : Nat) (gs : List EdgeV), q ≤ k ∧ i = .int .i64 (q : Int) ∧ v = .slice a' m' c' ∧ m' ≤ k + 1 + q ∧ Hid (gs = g0 ++ (es.take q).filter (fun d => lt e d)) ∧ PutSt w e a' m' c' gs wr) (fun _ i _ => k - (intOf i).toNat)
      case atStart => exact ⟨0, m3, a2, c2, g0, by omega, rfl, rfl, by omega, by show _ = _; simp, hst2⟩
      case round =>
        obtain ⟨q, m', a', c', gs, hq, rfl, rfl, hm, hgs, hst⟩ := hrel
        by_cases hlt : q < k
        · rcases HR.out with hz | ⟨b, off, rfl, hbl, hc⟩
          · omega
          · obtain ⟨f, hf⟩ : ∃ f, es[q]? = some f := ⟨es[q]'(by omega), List.getElem?_eq_getElem (by omega)⟩
            obtain ⟨c0, c1⟩ := hc q f hf
            have b1 : (0 : Int) ≤ (q : Int) := by omega
            have b2 : (q : Int) < (k : Int) := by omega
            have HK : Hid (∀ W : World, PutSt w e a' m' c' gs W → (W.cell? ⟨b, off + q * 2, none⟩ = some (.int .i64 f.1) ∧ W.cell? ⟨b, off + q * 2 + 1, none⟩ = some (.int .i64 f.2)) ∧ W.cell? ⟨w.heap.size, 0, none⟩ = some (.int .i64 e.1) ∧ W.cell? ⟨w.heap.size, 1, none⟩ = some (.int .i64 e.2)) := fun W hW =>
              ⟨⟨by rw [hW.below.cell hbl]; exact c0, by rw [hW.below.cell hbl]; exact c1⟩, hW.box⟩
            have S0 := hst.up (Below.refl _ _).drew
            have HLc := hideIt (HLs.out a' m' c' gs e f _ S0)
            have e0 := (HK.out _ hst).1.1
            have e1 := (HK.out _ hst).1.2
            cases hL : lt e f with
            | true =>
              rw [hL] at HLc
              have HG : Hid (gs ++ [f] = g0 ++ (es.take (q + 1)).filter (fun d => lt e d)) := by
                show _ = _
                rw [take_snocF es q f hf, List.filter_append, hgs.out]
                simp [hL]
              clear hc hf c0 c1 hL
              go_wp2
              go_region_held3 (fun u => PutSt w e a' m' c' gs u ∧ (u.cell? ⟨b, off + q * 2, none⟩ = some (.int .i64 f.1) ∧ u.cell? ⟨b, off + q * 2 + 1, none⟩ = some (.int .i64 f.2)) ∧ u.cell? ⟨w.heap.size, 0, none⟩ = some (.int .i64 e.1) ∧ u.cell? ⟨w.heap.size, 1, none⟩ = some (.int .i64 e.2))
                (first | exact ⟨S1, HK.out _ S1⟩ | exact ⟨S0, HK.out _ S0⟩)
                ((go_at_call 85; refine HLc.out.mono ?_; rintro x w1 ⟨rfl, S1⟩))
              obtain ⟨⟨y0, y1⟩, _, _⟩ := HK.out _ S1
              have z1 := S1.size
              clear HLc S0
              go_wp2_with (at_builtin; refine wpList_append_own _ rfl _ _ 37 rfl (w.heap.size + 1) 40 i0 _ 2 16 Try.underlying37 hi hz0 hz1 hz2 rfl (by decide) _ _ _ rfl (S1.own.alloc _) ⟨w1.heap.size, 0, none⟩ 1 1 [.int .i64 f.1, .int .i64 f.2] rfl rfl (news1 _ _) (by intro u hu; simp at hu; rcases hu with rfl | rfl <;> rfl) (by unfold maxLen; omega) (by omega) (by simp; omega) ?_)
              intro v2 w2 hown2 hg2 hn2
              obtain ⟨a2, c2, rfl, hst2⟩ := S1.app hown2 hg2
              clear hown2 hg2 hn2 S1 y0 y1 e0 e1 hst
              go_wp2
              exact ⟨⟨q + 1, m' + 1, a2, c2, gs ++ [f], by omega, by go_num, rfl, by omega, HG, hst2⟩, by simp [intOf]; omega⟩
            | false =>
              rw [hL] at HLc
              have HG : Hid (gs = g0 ++ (es.take (q + 1)).filter (fun d => lt e d)) := by
                show _ = _
                rw [take_snocF es q f hf, List.filter_append, hgs.out]
                simp [hL]
              clear hc hf c0 c1 hL
              go_wp2
              go_region_held3 (fun u => PutSt w e a' m' c' gs u ∧ (u.cell? ⟨b, off + q * 2, none⟩ = some (.int .i64 f.1) ∧ u.cell? ⟨b, off + q * 2 + 1, none⟩ = some (.int .i64 f.2)) ∧ u.cell? ⟨w.heap.size, 0, none⟩ = some (.int .i64 e.1) ∧ u.cell? ⟨w.heap.size, 1, none⟩ = some (.int .i64 e.2))
                (first | exact ⟨S1, HK.out _ S1⟩ | exact ⟨S0, HK.out _ S0⟩)
                ((go_at_call 85; refine HLc.out.mono ?_; rintro x w1 ⟨rfl, S1⟩))
              go_wp2
              exact ⟨⟨q + 1, m', a', c', gs, by omega, by go_num, rfl, by omega, HG, S1⟩, by simp [intOf]; omega⟩
        · obtain rfl : q = k := by omega
          have HF : Hid (gs = putE es e) := by show _ = _; rw [hgs.out, HG.out, List.take_of_length_le (by omega)]; unfold putE; rfl
          have HO := hideIt (own_mono hst.own (show w.heap.size ≤ w.heap.size + 1 by omega))
          have hb := hst.below
          clear hgs hst
          go_wp2
          go_ret
          exact ⟨a', m', c', rfl, by rw [← HF.out]; exact HO.out, hb⟩

end Go.Proofs.Ytcppbgkocipnlaa
