/- The specification's l05Put and AddEdge. The draw of a right graph and of an edge for it. All edges of a whole: the specification's WholeEdges. What the laws' own functions over lists of lists of edges answer. The walk of FnExactWholeEdges. A list of ints, a list of edges that come in. -/
import Derived.Test.YtcmjfnaenkdidaaKIn11
import Derived.Deep.AppendLies
import Derived.Test.YtcmjfnaenkdidaaKDrawE
import Derived.WalkKit
import Derived.ProofKit
import Derived.OpenShut
import Derived.ChangeOld
import Derived.ChangeArms
import Derived.Below
import Derived.ChangeSlices
namespace Go.Proofs.Ytcmjfnaenkdidaa
open Go.RowKit

/-- the world behind the edge's box -/
def wE (w : World) (e : EdgeV) : World := w.alloc (.cells #[.int .i64 e.1, .int .i64 e.2] 28)
theorem wE_size (w : World) (e : EdgeV) : (wE w e).heap.size = w.heap.size + 1 := by simp [wE]
/-- nothing of it has turned, and the row is ours -/
structure PutSt (w : World) (e : EdgeV) (a : Option Addr) (m c : Nat) (gs : List EdgeV) (u : World) : Prop where
  own : u.ownsRow (w.heap.size + 1) 28 2 (.slice a m c) m (ecells gs)
  bel : Below (w.heap.size + 1) (wE w e) u
theorem PutSt.size {w : World} {e : EdgeV} {a : Option Addr} {m c : Nat} {gs : List EdgeV} {u : World} (h : PutSt w e a m c gs u) : w.heap.size + 1 ≤ u.heap.size := by have := h.bel.size; rw [wE_size] at this; exact this
theorem PutSt.len {w : World} {e : EdgeV} {a : Option Addr} {m c : Nat} {gs : List EdgeV} {u : World} (h : PutSt w e a m c gs u) : gs.length = m := by have := h.own.1; rw [ecells_length] at this; omega
theorem PutSt.below {w : World} {e : EdgeV} {a : Option Addr} {m c : Nat} {gs : List EdgeV} {u : World} (h : PutSt w e a m c gs u) : Below w.heap.size w u :=
  ((Below.refl w.heap.size w).alloc (Nat.le_refl _) _).trans (h.bel.mono (by omega))
theorem PutSt.up {w : World} {e : EdgeV} {a : Option Addr} {m c : Nat} {gs : List EdgeV} {u v : World} (h : PutSt w e a m c gs u) (hb : Below u.heap.size u v) : PutSt w e a m c gs v :=
  ⟨World.ownsRow.kept h.own (show u.grownBy v none from ⟨hb.os, hb.tape, hb.output, hb.size, fun k hk _ => hb.block k hk⟩) (by cases hv : (Value.slice a m c).ownBlock <;> simp), h.bel.trans (hb.mono h.size)⟩
theorem PutSt.box {w : World} {e : EdgeV} {a : Option Addr} {m c : Nat} {gs : List EdgeV} {u : World} (h : PutSt w e a m c gs u) : u.cell? ⟨w.heap.size, 0, none⟩ = some (.int .i64 e.1) ∧ u.cell? ⟨w.heap.size, 1, none⟩ = some (.int .i64 e.2) := by
  refine ⟨?_, ?_⟩
  · rw [h.bel.cell (by show w.heap.size < _; omega)]; simp [wE]
  · rw [h.bel.cell (by show w.heap.size < _; omega)]; simp [wE]
/-- behind an append of one edge -/
theorem PutSt.app {w : World} {e : EdgeV} {a : Option Addr} {m c : Nat} {gs : List EdgeV} {u : World} (h : PutSt w e a m c gs u) {g : EdgeV} {o : Obj} {v : Value} {u' : World}
    (ho : u'.ownsRow (w.heap.size + 1) 28 2 v (m + 1) (ecells gs ++ [.int .i64 g.1, .int .i64 g.2])) (hg : (u.alloc o).grownBy u' (Value.slice a m c).ownBlock) :
    ∃ a' c', v = .slice a' (m + 1) c' ∧ PutSt w e a' (m + 1) c' (gs ++ [g]) u' := by
  obtain ⟨a', c', rfl⟩ := own_form ho
  rw [← ecells_snoc] at ho
  refine ⟨a', c', rfl, ho, ?_⟩
  exact (h.bel.alloc h.size _).grown hg (by have := h.size; simp; omega) (fun j hj => (h.own.lt j hj).1)
theorem news1 (w : World) (g : EdgeV) : ∀ j u, ([Value.int .i64 g.1, Value.int .i64 g.2] : List Value)[j]? = some u → (w.alloc (.cells #[.int .i64 g.1, .int .i64 g.2] 28)).cell? ((⟨w.heap.size, 0, none⟩ : Addr).add j) = some u := by
  intro j u hj
  rcases j with _ | _ | j
  · simp at hj; subst hj; simp [Addr.add]
  · simp at hj; subst hj; simp [Addr.add]
  · simp at hj

set_option maxRecDepth 100000 in
set_option maxHeartbeats 4000000 in
theorem l05Put_any (es : List EdgeV) (e : EdgeV) (n : Nat) (a : Option Addr) (c : Nat) (hn : n ≤ 1048576) (w : World) (h : Es w w.heap.size a n es) :
    Calls Try.prog 63 #[.slice a n c, .agg #[.int .i64 e.1, .int .i64 e.2]] w fun x w' => ∃ a' m' c', x = .returned (.slice a' m' c') ∧ w'.ownsRow w.heap.size 28 2 (.slice a' m' c') m' (ecells (putE es e)) ∧ Below w.heap.size w w' := by
  obtain ⟨i0, hi, hz0, hz1, hz2⟩ := info_parts infoIE
  obtain ⟨hlen, hrow⟩ := h
  have HR := hideIt hrow
  clear hrow
  have HLs : Hid (∀ (a' : Option Addr) (m' c' : Nat) (gs : List EdgeV) (d f : EdgeV) (W : World), PutSt w e a' m' c' gs W → Calls Try.prog 73 #[.agg #[.int .i64 d.1, .int .i64 d.2], .agg #[.int .i64 f.1, .int .i64 f.2]] W fun x w' => x = .returned (.bool (lt d f)) ∧ PutSt w e a' m' c' gs w') := fun _ _ _ _ d f W hW =>
    (l05Less_any d f W).mono fun _ _ ⟨he, hb⟩ => ⟨he, hW.up hb⟩
  go_enter Try.func63, Try.ntmps63
  go_wp2
  go_loopw [5, 6] (fun v i wr => ∃ (k m' : Nat) (a' : Option Addr) (c' : Nat) (gs : List EdgeV), k ≤ n ∧ i = .int .i64 (k : Int) ∧ v = .slice a' m' c' ∧ m' ≤ k ∧ Hid (gs = (es.take k).filter (fun d => lt d e)) ∧ PutSt w e a' m' c' gs wr) (fun _ i _ => n - (intOf i).toNat)
  case atStart =>
    refine ⟨0, 0, _, _, [], by omega, rfl, rfl, by omega, by show _ = _; simp, ?_, ?_⟩
    · have h0 := World.ownsRow_lit (base := w.heap.size + 1) (e := 28) (size := 2) (wE w e) #[] 0 (by rw [wE_size]; omega) (by unfold maxLen; omega) (by simp)
      rw [wE_size] at h0
      simpa [ecells, wE] using h0
    · have h1 := (Below.refl (w.heap.size + 1) (wE w e)).alloc (by rw [wE_size]; omega) (.cells #[] 28)
      simpa [wE] using h1
  case round =>
    obtain ⟨k, m', a', c', gs, hk, rfl, rfl, hm, hgs, hst⟩ := hrel
    by_cases hlt : k < n
    · rcases HR.out with hz | ⟨b, off, rfl, hbl, hc⟩
      · omega
      · obtain ⟨f, hf⟩ : ∃ f, es[k]? = some f := ⟨es[k]'(by omega), List.getElem?_eq_getElem (by omega)⟩
        obtain ⟨c0, c1⟩ := hc k f hf
        have b1 : (0 : Int) ≤ (k : Int) := by omega
        have b2 : (k : Int) < (n : Int) := by omega
        have HK : Hid (∀ W : World, PutSt w e a' m' c' gs W → (W.cell? ⟨b, off + k * 2, none⟩ = some (.int .i64 f.1) ∧ W.cell? ⟨b, off + k * 2 + 1, none⟩ = some (.int .i64 f.2)) ∧ W.cell? ⟨w.heap.size, 0, none⟩ = some (.int .i64 e.1) ∧ W.cell? ⟨w.heap.size, 1, none⟩ = some (.int .i64 e.2)) := fun W hW =>
          ⟨⟨by rw [hW.below.cell hbl]; exact c0, by rw [hW.below.cell hbl]; exact c1⟩, hW.box⟩
        have S0 := hst.up (Below.refl _ _).drew
        have HLc := hideIt (HLs.out a' m' c' gs f e _ S0)
        have e0 := (HK.out _ hst).1.1
        have e1 := (HK.out _ hst).1.2
        cases hL : lt f e with
        | true =>
          rw [hL] at HLc
          have HG : Hid (gs ++ [f] = (es.take (k + 1)).filter (fun d => lt d e)) := by
            show _ = _
            rw [take_snocF es k f hf, List.filter_append, hgs.out]
            simp [hL]
          clear hc hf c0 c1 hL
          go_wp2
          go_region_held3 (fun u => PutSt w e a' m' c' gs u ∧ (u.cell? ⟨b, off + k * 2, none⟩ = some (.int .i64 f.1) ∧ u.cell? ⟨b, off + k * 2 + 1, none⟩ = some (.int .i64 f.2)) ∧ u.cell? ⟨w.heap.size, 0, none⟩ = some (.int .i64 e.1) ∧ u.cell? ⟨w.heap.size, 1, none⟩ = some (.int .i64 e.2))
            (first | exact ⟨S1, HK.out _ S1⟩ | exact ⟨S0, HK.out _ S0⟩)
            ((go_at_call 73; refine HLc.out.mono ?_; rintro x w1 ⟨rfl, S1⟩))
          obtain ⟨⟨y0, y1⟩, _, _⟩ := HK.out _ S1
          have z1 := S1.size
          clear HLc S0
          go_wp2_with (at_builtin; refine wpList_append_own _ rfl _ _ 24 rfl (w.heap.size + 1) 28 i0 _ 2 16 Try.underlying24 hi hz0 hz1 hz2 rfl (by decide) _ _ _ rfl (S1.own.alloc _) ⟨w1.heap.size, 0, none⟩ 1 1 [.int .i64 f.1, .int .i64 f.2] rfl rfl (news1 _ _) (by intro u hu; simp at hu; rcases hu with rfl | rfl <;> rfl) (by unfold maxLen; omega) (by omega) (by simp; omega) ?_)
          intro v2 w2 hown2 hg2 hn2
          obtain ⟨a2, c2, rfl, hst2⟩ := S1.app hown2 hg2
          clear hown2 hg2 hn2 S1 y0 y1 e0 e1 hst
          go_wp2
          exact ⟨⟨k + 1, m' + 1, a2, c2, gs ++ [f], by omega, by go_num, rfl, by omega, HG, hst2⟩, by simp [intOf]; omega⟩
        | false =>
          rw [hL] at HLc
          have HG : Hid (gs = (es.take (k + 1)).filter (fun d => lt d e)) := by
            show _ = _
            rw [take_snocF es k f hf, List.filter_append, hgs.out]
            simp [hL]
          clear hc hf c0 c1 hL
          go_wp2
          go_region_held3 (fun u => PutSt w e a' m' c' gs u ∧ (u.cell? ⟨b, off + k * 2, none⟩ = some (.int .i64 f.1) ∧ u.cell? ⟨b, off + k * 2 + 1, none⟩ = some (.int .i64 f.2)) ∧ u.cell? ⟨w.heap.size, 0, none⟩ = some (.int .i64 e.1) ∧ u.cell? ⟨w.heap.size, 1, none⟩ = some (.int .i64 e.2))
            (first | exact ⟨S1, HK.out _ S1⟩ | exact ⟨S0, HK.out _ S0⟩)
            ((go_at_call 73; refine HLc.out.mono ?_; rintro x w1 ⟨rfl, S1⟩))
          go_wp2
          exact ⟨⟨k + 1, m', a', c', gs, by omega, by go_num, rfl, by omega, HG, S1⟩, by simp [intOf]; omega⟩
    · obtain rfl : k = n := by omega
      have HG : Hid (gs ++ [e] = es.filter (fun d => lt d e) ++ [e]) := by show _ = _; rw [hgs.out, List.take_of_length_le (by omega)]
      obtain ⟨x0, x1⟩ := hst.box
      have z1 := hst.size
      clear hgs
      go_wp2_with (at_builtin; refine wpList_append_own _ rfl _ _ 24 rfl (w.heap.size + 1) 28 i0 _ 2 16 Try.underlying24 hi hz0 hz1 hz2 rfl (by decide) _ _ _ rfl (hst.own.alloc _) ⟨wr.heap.size, 0, none⟩ 1 1 [.int .i64 e.1, .int .i64 e.2] rfl rfl (news1 _ _) (by intro u hu; simp at hu; rcases hu with rfl | rfl <;> rfl) (by unfold maxLen; omega) (by omega) (by simp; omega) ?_)
      intro v2 w2 hown2 hg2 hn2
      obtain ⟨a2, c2, rfl, hst2⟩ := hst.app hown2 hg2
      have hmk : m' + 1 ≤ k + 1 := by omega
      generalize m' + 1 = m3 at hst2 hmk
      generalize gs ++ [e] = g0 at HG hst2
      clear hown2 hg2 hn2 x0 x1 hst
      go_wp2
      go_loopw [5, 7] (fun v i wr => ∃ (q m' : Nat) (a' : Option Addr) (c' : Nat) (gs : List EdgeV), q ≤ k ∧ i = .int .i64 (q : Int) ∧ v = .slice a' m' c' ∧ m' ≤ k + 1 + q ∧ Hid (gs = g0 ++ (es.take q).filter (fun d => lt e d)) ∧ PutSt w e a' m' c' gs wr) (fun _ i _ => k - (intOf i).toNat)
      case atStart => exact ⟨0, m3, a2, c2, g0, by omega, rfl, rfl, by omega, by show _ = _; simp, hst2⟩
      case round =>
        obtain ⟨q, m', a', c', gs, hq, rfl, rfl, hm, hgs, hst⟩ := hrel
        by_cases hlt : q < k
        · rcases HR.out with hz | ⟨b, off, rfl, hbl, hc⟩
          · omega
          · obtain ⟨f, hf⟩ : ∃ f, es[q]? = some f := ⟨es[q]'(by omega), List.getElem?_eq_getElem (by omega)⟩
            obtain ⟨c0, c1⟩ := hc q f hf
            have b1 : (0 : Int) ≤ (q : Int) := by omega
            have b2 : (q : Int) < (k : Int) := by omega
            have HK : Hid (∀ W : World, PutSt w e a' m' c' gs W → (W.cell? ⟨b, off + q * 2, none⟩ = some (.int .i64 f.1) ∧ W.cell? ⟨b, off + q * 2 + 1, none⟩ = some (.int .i64 f.2)) ∧ W.cell? ⟨w.heap.size, 0, none⟩ = some (.int .i64 e.1) ∧ W.cell? ⟨w.heap.size, 1, none⟩ = some (.int .i64 e.2)) := fun W hW =>
              ⟨⟨by rw [hW.below.cell hbl]; exact c0, by rw [hW.below.cell hbl]; exact c1⟩, hW.box⟩
            have S0 := hst.up (Below.refl _ _).drew
            have HLc := hideIt (HLs.out a' m' c' gs e f _ S0)
            have e0 := (HK.out _ hst).1.1
            have e1 := (HK.out _ hst).1.2
            cases hL : lt e f with
            | true =>
              rw [hL] at HLc
              have HG : Hid (gs ++ [f] = g0 ++ (es.take (q + 1)).filter (fun d => lt e d)) := by
                show _ = _
                rw [take_snocF es q f hf, List.filter_append, hgs.out]
                simp [hL]
              clear hc hf c0 c1 hL
              go_wp2
              go_region_held3 (fun u => PutSt w e a' m' c' gs u ∧ (u.cell? ⟨b, off + q * 2, none⟩ = some (.int .i64 f.1) ∧ u.cell? ⟨b, off + q * 2 + 1, none⟩ = some (.int .i64 f.2)) ∧ u.cell? ⟨w.heap.size, 0, none⟩ = some (.int .i64 e.1) ∧ u.cell? ⟨w.heap.size, 1, none⟩ = some (.int .i64 e.2))
                (first | exact ⟨S1, HK.out _ S1⟩ | exact ⟨S0, HK.out _ S0⟩)
                ((go_at_call 73; refine HLc.out.mono ?_; rintro x w1 ⟨rfl, S1⟩))
              obtain ⟨⟨y0, y1⟩, _, _⟩ := HK.out _ S1
              have z1 := S1.size
              clear HLc S0
              go_wp2_with (at_builtin; refine wpList_append_own _ rfl _ _ 24 rfl (w.heap.size + 1) 28 i0 _ 2 16 Try.underlying24 hi hz0 hz1 hz2 rfl (by decide) _ _ _ rfl (S1.own.alloc _) ⟨w1.heap.size, 0, none⟩ 1 1 [.int .i64 f.1, .int .i64 f.2] rfl rfl (news1 _ _) (by intro u hu; simp at hu; rcases hu with rfl | rfl <;> rfl) (by unfold maxLen; omega) (by omega) (by simp; omega) ?_)
              intro v2 w2 hown2 hg2 hn2
              obtain ⟨a2, c2, rfl, hst2⟩ := S1.app hown2 hg2
              clear hown2 hg2 hn2 S1 y0 y1 e0 e1 hst
              go_wp2
              exact ⟨⟨q + 1, m' + 1, a2, c2, gs ++ [f], by omega, by go_num, rfl, by omega, HG, hst2⟩, by simp [intOf]; omega⟩
            | false =>
              rw [hL] at HLc
              have HG : Hid (gs = g0 ++ (es.take (q + 1)).filter (fun d => lt e d)) := by
                show _ = _
                rw [take_snocF es q f hf, List.filter_append, hgs.out]
                simp [hL]
              clear hc hf c0 c1 hL
              go_wp2
              go_region_held3 (fun u => PutSt w e a' m' c' gs u ∧ (u.cell? ⟨b, off + q * 2, none⟩ = some (.int .i64 f.1) ∧ u.cell? ⟨b, off + q * 2 + 1, none⟩ = some (.int .i64 f.2)) ∧ u.cell? ⟨w.heap.size, 0, none⟩ = some (.int .i64 e.1) ∧ u.cell? ⟨w.heap.size, 1, none⟩ = some (.int .i64 e.2))
                (first | exact ⟨S1, HK.out _ S1⟩ | exact ⟨S0, HK.out _ S0⟩)
                ((go_at_call 73; refine HLc.out.mono ?_; rintro x w1 ⟨rfl, S1⟩))
              go_wp2
              exact ⟨⟨q + 1, m', a', c', gs, by omega, by go_num, rfl, by omega, HG, S1⟩, by simp [intOf]; omega⟩
        · obtain rfl : q = k := by omega
          have HF : Hid (gs = putE es e) := by show _ = _; rw [hgs.out, HG.out, List.take_of_length_le (by omega)]; unfold putE; rfl
          have HO := hideIt (own_mono hst.own (show w.heap.size ≤ w.heap.size + 1 by omega))
          have hb := hst.below
          clear hgs hst
          go_wp2
          go_ret
          exact ⟨a', m', c', rfl, by rw [← HF.out]; exact HO.out, hb⟩
end Go.Proofs.Ytcmjfnaenkdidaa
namespace Go.Proofs.Ytcmjfnaenkdidaa
open Go.RowKit

/- what is right stays right -/
theorem chk_of {n : Int} {es : List EdgeV} (h1 : ∀ e ∈ es, eB n e = true) (h2 : Asc es) : chk n es = true := chk_yes fun j hj => by
  have he : es[j]? = some es[j] := List.getElem?_eq_getElem hj
  have hb := h1 _ (List.getElem_mem hj)
  cases j with
  | zero => rw [chkAt_zero he]; exact hb
  | succ i =>
    have hd : es[i]? = some (es[i]'(by omega)) := List.getElem?_eq_getElem (by omega)
    rw [chkAt_succ he hd, hb, h2 i (i + 1) _ _ (by omega) hd he]
    rfl
theorem asc_of_pairwise {es : List EdgeV} (h : es.Pairwise fun d e => lt d e = true) : Asc es := by
  intro i j d e hij hd he
  obtain ⟨h1, rfl⟩ := List.getElem?_eq_some_iff.1 hd
  obtain ⟨h2, rfl⟩ := List.getElem?_eq_some_iff.1 he
  exact List.pairwise_iff_getElem.1 h i j h1 h2 hij
theorem pairwise_asc' {es : List EdgeV} (h : Asc es) : es.Pairwise fun d e => lt d e = true := by
  rw [List.pairwise_iff_getElem]
  exact fun i j hi hj hij => h i j _ _ hij (List.getElem?_eq_getElem hi) (List.getElem?_eq_getElem hj)
theorem asc_put {es : List EdgeV} {e : EdgeV} (h : Asc es) : Asc (putE es e) := by
  have hp := pairwise_asc' h
  refine asc_of_pairwise ?_
  unfold putE
  rw [List.pairwise_append, List.pairwise_append]
  refine ⟨⟨hp.filter _, List.pairwise_singleton _ _, ?_⟩, hp.filter _, ?_⟩
  · intro d hd x hx
    simp at hx
    subst hx
    exact (List.mem_filter.1 hd).2
  · intro d hd x hx
    have h2 := (List.mem_filter.1 hx).2
    rcases List.mem_append.1 hd with h1 | h1
    · exact lt_trans' (List.mem_filter.1 h1).2 h2
    · simp at h1; subst h1; exact h2
theorem len_two {p q : EdgeV → Bool} (hpq : ∀ d, p d = true → q d = false) (es : List EdgeV) : (es.filter p).length + (es.filter q).length ≤ es.length := by
  induction es with
  | nil => simp
  | cons d es ih =>
    simp only [List.filter_cons]
    cases hp : p d with
    | true => rw [hpq d hp]; simp; omega
    | false => cases hq : q d <;> simp <;> omega
theorem put_len (es : List EdgeV) (e : EdgeV) : (putE es e).length ≤ es.length + 1 := by
  have h := len_two (p := fun d => lt d e) (q := fun d => lt e d) (fun d hd => lt_asymm' hd) es
  unfold putE
  simp only [List.length_append, List.length_cons, List.length_nil]
  omega
/-- a right graph, drawn so far -/
structure GR (nn : Nat) (es : List EdgeV) (k : Nat) : Prop where
  n2 : 2 ≤ nn
  n12 : nn ≤ 12
  ok : chk (nn : Int) es = true
  len : es.length ≤ k
theorem GR.put {nn : Nat} {es : List EdgeV} {k : Nat} (h : GR nn es k) {e : EdgeV} (he : eB (nn : Int) e = true) : GR nn (putE es e) (k + 1) := by
  refine ⟨h.n2, h.n12, chk_of ?_ (asc_put (asc_of_chk h.ok)), by have := put_len es e; have := h.len; omega⟩
  intro d hd
  unfold putE at hd
  rcases List.mem_append.1 hd with h1 | h1
  · rcases List.mem_append.1 h1 with h2 | h2
    · exact chk_eB h.ok (List.mem_filter.1 h2).1
    · simp at h2; subst h2; exact he
  · exact chk_eB h.ok (List.mem_filter.1 h1).1
theorem GR.more {nn : Nat} {es : List EdgeV} {k j : Nat} (h : GR nn es k) (hkj : k ≤ j) : GR nn es j := ⟨h.n2, h.n12, h.ok, Nat.le_trans h.len hkj⟩
theorem GR.gB {nn : Nat} {es : List EdgeV} {k : Nat} (h : GR nn es k) (hk : k ≤ 66) : gB (nn : Int) es = true := by
  have h1 := h.n2
  have h2 := h.n12
  have h3 := h.len
  unfold Go.Proofs.Ytcmjfnaenkdidaa.gB
  rw [h.ok, decide_eq_true (by omega), decide_eq_true (by omega)]
  rfl

theorem eB_iff' (n : Int) (e : EdgeV) : eB n e = true ↔ (1 ≤ n ∧ n ≤ 12 ∧ 0 ≤ e.1 ∧ e.1 < e.2 ∧ e.2 < n) := by unfold eB; rw [decide_eq_true_iff]
theorem Cur.grownX {u v : World} {G X : Nat} {a : Option Addr} {len cap : Nat} (h : Cur u G a len cap) (hg : u.grownBy v (some X)) (hX : G ≠ X) : Cur v G a len cap := by
  obtain ⟨i, hh, hi, hG⟩ := h
  have hlt : G < u.heap.size := (Array.getElem?_eq_some_iff.1 hG).1
  exact ⟨i, hh, hi, by rw [hg.block G hlt (by simpa using hX)]; exact hG⟩
theorem Cur.lt {u : World} {G : Nat} {a : Option Addr} {len cap : Nat} (h : Cur u G a len cap) : G < u.heap.size := by
  obtain ⟨i, hh, hi, hG⟩ := h
  exact (Array.getElem?_eq_some_iff.1 hG).1
theorem Cur.up {u v : World} {G : Nat} {a : Option Addr} {len cap : Nat} (h : Cur u G a len cap) (hb : Below u.heap.size u v) : Cur v G a len cap := by
  have hlt := h.lt
  obtain ⟨i, hh, hi, hG⟩ := h
  exact ⟨i, hh, hi, by rw [hb.block G hlt]; exact hG⟩
theorem Code.up {u v : World} {G : Nat} {a : Option Addr} {len : Nat} (h : Code u G a len) (hb : Below u.heap.size u v) : Code v G a len :=
  h.kept ⟨hb.os, hb.tape, hb.output, hb.size, fun k hk _ => hb.block k hk⟩
/-- below w nothing but the cursor has turned -/
theorem grown_up {w u v : World} {G : Nat} (h : w.grownBy u (some G)) (hb : Below w.heap.size u v) : w.grownBy v (some G) :=
  ⟨hb.os.trans h.os, hb.tape.trans h.tape, hb.output.trans h.output, Nat.le_trans h.size hb.size, fun k hk hne => (hb.block k hk).trans (h.block k hk hne)⟩

theorem own_grown {u v : World} {B e s m c X : Nat} {a : Option Addr} {xs : List Value} (h : u.ownsRow B e s (.slice a m c) m xs) (hg : u.grownBy v (some X)) (hX : X < B) : v.ownsRow B e s (.slice a m c) m xs :=
  World.ownsRow.kept h hg (.inr fun e => by have := (h.lt X e).1; omega)

set_option maxRecDepth 100000 in
set_option maxHeartbeats 4000000 in
theorem l05Edge_any (nn : Nat) (h2 : 2 ≤ nn) (h12 : nn ≤ 12) (w : World) (G : Nat) (a : Option Addr) (len cap : Nat) (hl : len ≤ 1048576) (hcur : Cur w G a len cap) (hcode : Code w G a len) :
    Calls Try.prog 40 #[.pointer (some ⟨G, 0, none⟩), .int .i64 (nn : Int)] w fun x w' => ∃ e : EdgeV, Hid (eB (nn : Int) e = true) ∧ x = .returned (.agg #[.int .i64 e.1, .int .i64 e.2]) ∧ Drawn w w' G a len cap := by
  have hb0 : Below w.heap.size w (w.alloc (.cells #[.int .i64 0, .int .i64 0] 28)) := (Below.refl _ _).alloc (Nat.le_refl _) _
  have HB := hideIt (fun (W : World) (hc : Cur W G a len cap) (hd : Code W G a len) => l01Below_any (nn : Int) (by omega) (by omega) W G a len cap hl hc hd)
  have HC0 := hideIt (hcur.up hb0)
  have HD0 := hideIt (hcode.up hb0)
  have hG := hcur.lt
  have HCode := hideIt hcode
  have HGr : Hid (w.grownBy (w.alloc (.cells #[.int .i64 0, .int .i64 0] 28)) (some G)) := grown_of_below hb0 _
  have B0 := Box2.new w 28 (.int .i64 0) (.int .i64 0) w.heap.size rfl
  clear hcur hcode hb0
  go_enter Try.func40, Try.ntmps40
  go_wp2_with (go_at_call 42; refine (HB.out _ HC0.out HD0.out).mono ?_; rintro e w1 ⟨x, hx, rfl, d1⟩; refine Hid.out ?_)
  refine (show ∀ {p : Prop}, p → Hid p from fun h => h) ?_
  have B1 := B0.grown d1.grown (by simp; omega)
  go_wp2_with (go_at_call 42; refine (HB.out _ d1.cur d1.code).mono ?_; rintro e w2 ⟨y, hy, rfl, d2⟩; refine Hid.out ?_)
  refine (show ∀ {p : Prop}, p → Hid p from fun h => h) ?_
  have B2 := B1.grown d2.grown (by simp; omega)
  have D2 := hideIt (d1.trans d2)
  clear B0 B1 d1 d2 HC0 HD0 HB
  have c0 := B2.cell0
  have c1 := B2.cell1
  have f0 := B2.frozen 0
  have f1 := B2.frozen 1
  have HFin : Hid (∀ p q : Int, 0 ≤ p → p < q → q < (nn : Int) → ∃ e : EdgeV, Hid (eB (nn : Int) e = true) ∧ Ending.returned (.agg #[.int .i64 p, .int .i64 q]) = .returned (.agg #[.int .i64 e.1, .int .i64 e.2]) ∧ Drawn w ((w2.setCell ⟨w.heap.size, 0, none⟩ (.int .i64 p)).setCell ⟨w.heap.size, 1, none⟩ (.int .i64 q)) G a len cap) := fun p q hp hpq hq => by
    have hg2 := grown_trans (grown_set w2 w.heap.size 0 (.int .i64 p)) (grown_set _ w.heap.size 1 (.int .i64 q))
    have hbw : Below w.heap.size w2 ((w2.setCell ⟨w.heap.size, 0, none⟩ (.int .i64 p)).setCell ⟨w.heap.size, 1, none⟩ (.int .i64 q)) := ((Below.refl w.heap.size w2).setCell (p := ⟨w.heap.size, 0, none⟩) (Nat.le_refl _) _).setCell (p := ⟨w.heap.size, 1, none⟩) (Nat.le_refl _) _
    have hgw := grown_up (grown_trans HGr.out D2.out.grown) hbw
    refine ⟨(p, q), (eB_iff' _ _).2 ⟨by omega, by omega, hp, hpq, hq⟩, rfl, D2.out.cur.grownX hg2 (by omega), HCode.out.kept hgw, hgw⟩
  have hx' : x < nn := by omega
  have hy' : y < nn := by omega
  by_cases hxy : x = y
  · subst hxy
    by_cases hx1 : x + 1 < nn
    · have m1 : ((x : Int) + 1) % (nn : Int) = (x : Int) + 1 := Int.emod_eq_of_lt (by omega) (by omega)
      have m2 : ((x : Int) + 1).tmod (nn : Int) = (x : Int) + 1 := by rw [Int.tmod_eq_emod_of_nonneg (by omega)]; exact m1
      have d1 : decide ((x : Int) + 1 < (x : Int)) = false := decide_eq_false (by omega)
      have HF := hideIt (HFin.out (x : Int) ((x : Int) + 1) (by omega) (by omega) (by omega))
      clear HFin
      go_wp2
      obtain ⟨e, he, h3, h4⟩ := HF.out
      exact bodyPost_ret (v := .agg #[.int .i64 (x : Int), .int .i64 ((x : Int) + 1)]) (by simp [results, Try.results40, go_sem, c0, c1]) rfl ⟨e, he, h3, h4⟩
    · have hxn : x + 1 = nn := by omega
      have m1 : ((x : Int) + 1) % (nn : Int) = 0 := by rw [show (x : Int) + 1 = (nn : Int) by omega]; exact Int.emod_self
      have m2 : ((x : Int) + 1).tmod (nn : Int) = 0 := by rw [Int.tmod_eq_emod_of_nonneg (by omega)]; exact m1
      have d1 : decide ((0 : Int) < (x : Int)) = true := decide_eq_true (by omega)
      have HF := hideIt (HFin.out 0 (x : Int) (by omega) (by omega) (by omega))
      clear HFin hxn
      go_wp2
      obtain ⟨e, he, h3, h4⟩ := HF.out
      exact bodyPost_ret (v := .agg #[.int .i64 0, .int .i64 (x : Int)]) (by simp [results, Try.results40, go_sem, c0, c1]) rfl ⟨e, he, h3, h4⟩
  · have d0 : ((x : Int) == (y : Int)) = false := by simp; omega
    by_cases hlt : x < y
    · have d1 : decide ((y : Int) < (x : Int)) = false := decide_eq_false (by omega)
      have HF := hideIt (HFin.out (x : Int) (y : Int) (by omega) (by omega) (by omega))
      clear HFin
      go_wp2
      obtain ⟨e, he, h3, h4⟩ := HF.out
      exact bodyPost_ret (v := .agg #[.int .i64 (x : Int), .int .i64 (y : Int)]) (by simp [results, Try.results40, go_sem, c0, c1]) rfl ⟨e, he, h3, h4⟩
    · have d1 : decide ((y : Int) < (x : Int)) = true := decide_eq_true (by omega)
      have HF := hideIt (HFin.out (y : Int) (x : Int) (by omega) (by omega) (by omega))
      clear HFin
      go_wp2
      obtain ⟨e, he, h3, h4⟩ := HF.out
      exact bodyPost_ret (v := .agg #[.int .i64 (y : Int), .int .i64 (x : Int)]) (by simp [results, Try.results40, go_sem, c0, c1]) rfl ⟨e, he, h3, h4⟩

/-- where the draw of a graph stands -/
structure GAt (w : World) (G X : Nat) (a : Option Addr) (len cap nn : Nat) (es : List EdgeV) (a' : Option Addr) (m c' : Nat) (u : World) : Prop where
  cur : Cur u G a len cap
  res : Box2 u w.heap.size 26 (.int .i64 0) (.slice none 0 0)
  box : Box2 u X 26 (.int .i64 (nn : Int)) (.slice a' m c')
  own : u.ownsRow (X + 1) 28 2 (.slice a' m c') m (ecells es)
  grown : w.grownBy u (some G)
  low : G < w.heap.size
  high : w.heap.size < X
theorem GAt.code {w : World} {G X : Nat} {a : Option Addr} {len cap nn : Nat} {es : List EdgeV} {a' : Option Addr} {m c' : Nat} {u : World} (h : GAt w G X a len cap nn es a' m c' u) (hc : Code w G a len) : Code u G a len := hc.kept h.grown
theorem GAt.drawn {w : World} {G X : Nat} {a : Option Addr} {len cap nn : Nat} {es : List EdgeV} {a' : Option Addr} {m c' : Nat} {u v : World} (h : GAt w G X a len cap nn es a' m c' u) (d : Drawn u v G a len cap) : GAt w G X a len cap nn es a' m c' v :=
  ⟨d.cur, h.res.grown d.grown (by have := h.low; simp; omega), h.box.grown d.grown (by have := h.low; have := h.high; simp; omega), own_grown h.own d.grown (by have := h.low; have := h.high; omega), grown_trans h.grown d.grown, h.low, h.high⟩
theorem GAt.up {w : World} {G X : Nat} {a : Option Addr} {len cap nn : Nat} {es : List EdgeV} {a' : Option Addr} {m c' : Nat} {u v : World} (h : GAt w G X a len cap nn es a' m c' u) (hb : Below u.heap.size u v) : GAt w G X a len cap nn es a' m c' v :=
  ⟨h.cur.up hb, h.res.below hb h.res.lt, h.box.below hb h.box.lt, own_up h.own hb, grown_up h.grown (hb.mono h.grown.size), h.low, h.high⟩
theorem GAt.es {w : World} {G X : Nat} {a : Option Addr} {len cap nn : Nat} {es : List EdgeV} {a' : Option Addr} {m c' : Nat} {u : World} (h : GAt w G X a len cap nn es a' m c' u) : Es u u.heap.size a' m es := Es_of_own h.own
theorem GAt.len' {w : World} {G X : Nat} {a : Option Addr} {len cap nn : Nat} {es : List EdgeV} {a' : Option Addr} {m c' : Nat} {u : World} (h : GAt w G X a len cap nn es a' m c' u) : es.length = m := by have := h.own.1; rw [ecells_length] at this; omega
/-- a new list is laid into the box -/
theorem GAt.turn {w : World} {G X : Nat} {a : Option Addr} {len cap nn : Nat} {es : List EdgeV} {a' : Option Addr} {m c' : Nat} {u : World} (h : GAt w G X a len cap nn es a' m c' u) {fs : List EdgeV} {a2 : Option Addr} {m2 c2 : Nat}
    (ho : u.ownsRow (X + 1) 28 2 (.slice a2 m2 c2) m2 (ecells fs)) : GAt w G X a len cap nn fs a2 m2 c2 (u.setCell ⟨X, 1, none⟩ (.slice a2 m2 c2)) := by
  have hlo := h.low
  have hhi := h.high
  have hg := grown_set u X 1 (.slice a2 m2 c2)
  refine ⟨h.cur.grownX hg (by omega), h.res.grown hg (by simp; omega), ?_, own_grown ho hg (by omega), grown_up h.grown ((Below.refl w.heap.size u).setCell (p := ⟨X, 1, none⟩) (by show w.heap.size ≤ X; omega) _), hlo, hhi⟩
  unfold Box2
  have hb : u.heap[X]? = some (.cells #[.int .i64 (nn : Int), .slice a' m c'] 26 (0, 0)) := h.box
  rw [heap_setCell_same u X 1 _ 26 (.slice a2 m2 c2) hb]; rfl

set_option maxRecDepth 100000 in
set_option maxHeartbeats 8000000 in
theorem l05Graph_any (w : World) (G : Nat) (a : Option Addr) (len cap : Nat) (hl : len ≤ 1048576) (hcur : Cur w G a len cap) (hcode : Code w G a len) :
    Calls Try.prog 39 #[.pointer (some ⟨G, 0, none⟩)] w fun x w' => ∃ (nn : Nat) (es : List EdgeV) (a' : Option Addr) (m c' : Nat), Hid (GR nn es 16) ∧ x = .returned (.agg #[.int .i64 (nn : Int), .slice a' m c']) ∧ w'.ownsRow w.heap.size 28 2 (.slice a' m c') m (ecells es) ∧ Drawn w w' G a len cap := by
  have hb0 : Below w.heap.size w (w.alloc (.cells #[.int .i64 0, .slice none 0 0] 26)) := (Below.refl _ _).alloc (Nat.le_refl _) _
  have HB := hideIt (fun (n : Int) (h0 : 0 < n) (h1 : n ≤ 4294967296) (W : World) (hc : Cur W G a len cap) (hd : Code W G a len) => l01Below_any n h0 h1 W G a len cap hl hc hd)
  have HE := hideIt (fun (nn : Nat) (h2 : 2 ≤ nn) (h12 : nn ≤ 12) (W : World) (hc : Cur W G a len cap) (hd : Code W G a len) => l05Edge_any nn h2 h12 W G a len cap hl hc hd)
  have HCode := hideIt hcode
  have hG := hcur.lt
  have HGr : Hid (w.grownBy (w.alloc (.cells #[.int .i64 0, .slice none 0 0] 26)) (some G)) := grown_of_below hb0 _
  have HX := hideIt (HB.out 11 (by omega) (by omega) _ (hcur.up hb0) (hcode.up hb0))
  have R0 := Box2.new w 26 (.int .i64 0) (.slice none 0 0) w.heap.size rfl
  clear hcur hcode hb0
  go_enter Try.func39, Try.ntmps39
  go_wp2_with (go_at_call 42; refine HX.out.mono ?_; rintro e w1 ⟨x, hx, rfl, d1⟩; refine Hid.out ?_)
  refine (show ∀ {p : Prop}, p → Hid p from fun h => h) ?_
  have hz1 : w.heap.size < w1.heap.size := by have := d1.grown.size; simp at this; omega
  have HD0 : Hid (GAt w G w1.heap.size a len cap (x + 2) [] none 0 0 (w1.alloc (.cells #[.int .i64 (((x + 2 : Nat)) : Int), .slice none 0 0] 26))) := by
    have hu : Below w1.heap.size w1 (w1.alloc (.cells #[.int .i64 (((x + 2 : Nat)) : Int), .slice none 0 0] 26)) := (Below.refl _ _).alloc (Nat.le_refl _) _
    have hr := R0.grown d1.grown (by simp; omega)
    exact ⟨d1.cur.up hu, hr.below hu hr.lt, Box2.new _ _ _ _ _ rfl, World.ownsRow_nil _ _ _ _, grown_up (grown_trans HGr.out d1.grown) (hu.mono (by omega)), hG, hz1⟩
  have HR0 : Hid (GR (x + 2) [] 0) := ⟨by omega, by omega, rfl, by simp⟩
  have en : (2 : Int) + (x : Int) = ((x + 2 : Nat) : Int) := by omega
  obtain ⟨nn, hnn⟩ : ∃ nn, nn = x + 2 := ⟨_, rfl⟩
  rw [← hnn] at HD0 HR0 en
  have hn2 : 2 ≤ nn := by omega
  have hn12 : nn ≤ 12 := by omega
  clear HX d1 R0 HGr hnn
  go_wp2
  go_loopw [4] (fun i wr => ∃ (k : Nat) (es : List EdgeV) (a' : Option Addr) (m c' : Nat), k ≤ 16 ∧ i = .int .i64 (k : Int) ∧ Hid (GR nn es k) ∧ Hid (GAt w G w1.heap.size a len cap nn es a' m c' wr)) (fun i _ => 17 - (intOf i).toNat)
  case atStart => exact ⟨0, [], none, 0, 0, by omega, rfl, HR0, HD0⟩
  case round =>
    obtain ⟨k, es, a', m, c', hk, rfl, hR, hD⟩ := hrel
    clear HD0 HR0
    have HX := hideIt (HB.out 16 (by omega) (by omega) wr hD.out.cur (hD.out.code HCode.out))
    go_wp2_with (go_at_call 42; refine HX.out.mono ?_; rintro e w2 ⟨y, hy, rfl, dr2⟩; refine Hid.out ?_)
    refine (show ∀ {p : Prop}, p → Hid p from fun h => h) ?_
    have D2 := hideIt (hD.out.drawn dr2)
    clear HX dr2 hD
    by_cases hkx : k < y
    · have d1 : decide ((k : Int) < (y : Int)) = true := decide_eq_true (by omega)
      have q0 := D2.out.box.cell0
      have HX := hideIt (HE.out nn hn2 hn12 w2 D2.out.cur (D2.out.code HCode.out))
      go_wp2_with (go_at_call 40; refine HX.out.mono ?_; rintro x w3 ⟨e, he, rfl, dr3⟩; refine Hid.out ?_)
      refine (show ∀ {p : Prop}, p → Hid p from fun h => h) ?_
      have D3 := hideIt ((D2.out.drawn dr3).up ((Below.refl w3.heap.size w3).alloc (Nat.le_refl _) (.cells #[.int .i64 e.1, .int .i64 e.2] 28)))
      have hm16 : m ≤ 1048576 := by have := D3.out.len'; have := hR.out.len; omega
      have q1 := D3.out.box.cell0
      have q2 := D3.out.box.cell1
      have HH := hideIt (sHasEdge_any (nn : Int) es e m a' c' hm16 _ D3.out.es)
      have hz3 : w1.heap.size < w3.heap.size := (D2.out.drawn dr3).box.lt
      clear HX dr3 D2 q0
      cases hh : hasB es e with
      | true =>
        rw [hh] at HH
        go_wp2_with (go_at_call 64; refine HH.out.mono ?_; rintro x w4 ⟨rfl, hb4⟩; refine Hid.out ?_)
        refine (show ∀ {p : Prop}, p → Hid p from fun h => h) ?_
        have D4 := hideIt (D3.out.up hb4)
        have HR2 : Hid (GR nn es (k + 1)) := hR.out.more (by omega)
        clear HH D3 q1 q2 hh hb4
        go_wp2
        exact ⟨⟨k + 1, es, a', m, c', by omega, by go_num, HR2, D4⟩, by simp [intOf]; omega⟩
      | false =>
        rw [hh] at HH
        go_wp2_with (go_at_call 64; refine HH.out.mono ?_; rintro x w4 ⟨rfl, hb4⟩; refine Hid.out ?_)
        refine (show ∀ {p : Prop}, p → Hid p from fun h => h) ?_
        have D4 := hideIt (D3.out.up hb4)
        have bE : Box2 w4 w3.heap.size 28 (.int .i64 e.1) (.int .i64 e.2) := (Box2.new w3 28 (.int .i64 e.1) (.int .i64 e.2) _ rfl).below hb4 (by simp)
        have r0 := bE.cell0
        have r1 := bE.cell1
        have r2 := D4.out.box.cell1
        have HP := hideIt (l05Put_any es e m a' c' hm16 w4 D4.out.es)
        have hz4 : w1.heap.size < w4.heap.size := D4.out.box.lt
        clear HH D3 q1 q2 hh hb4 bE
        go_wp2_with (go_at_call 63; refine HP.out.mono ?_; rintro x w5 ⟨a5, m5, c5, rfl, ho5, hb5⟩; refine Hid.out ?_)
        refine (show ∀ {p : Prop}, p → Hid p from fun h => h) ?_
        have D5 := hideIt (D4.out.up hb5)
        have D6 := hideIt (D5.out.turn (own_mono ho5 (show w1.heap.size + 1 ≤ w4.heap.size by omega)))
        have HR2 := hideIt (hR.out.put he.out)
        have s0 := D5.out.box.cell1
        have s1 := D5.out.box.frozen 1
        clear HP ho5 hb5 D4 D5 r0 r1 r2
        go_wp2
        exact ⟨⟨k + 1, _, a5, m5, c5, by omega, by go_num, HR2, D6⟩, by simp [intOf]; omega⟩
    · have d1 : decide ((k : Int) < (y : Int)) = false := decide_eq_false (by omega)
      have r0 := D2.out.box.cell0
      have r1 := D2.out.box.cell1
      have s0 := D2.out.res.cell0
      have s1 := D2.out.res.cell1
      have t0 := D2.out.res.frozen 0
      have t1 := D2.out.res.frozen 1
      have hbw : Below w.heap.size w2 ((w2.setCell ⟨w.heap.size, 0, none⟩ (.int .i64 (nn : Int))).setCell ⟨w.heap.size, 1, none⟩ (.slice a' m c')) := ((Below.refl w.heap.size w2).setCell (p := ⟨w.heap.size, 0, none⟩) (Nat.le_refl _) _).setCell (p := ⟨w.heap.size, 1, none⟩) (Nat.le_refl _) _
      have hgs := grown_trans (grown_set w2 w.heap.size 0 (.int .i64 (nn : Int))) (grown_set _ w.heap.size 1 (.slice a' m c'))
      have hgw := grown_up D2.out.grown hbw
      have HF : Hid (((w2.setCell ⟨w.heap.size, 0, none⟩ (.int .i64 (nn : Int))).setCell ⟨w.heap.size, 1, none⟩ (.slice a' m c')).ownsRow w.heap.size 28 2 (.slice a' m c') m (ecells es) ∧ Drawn w ((w2.setCell ⟨w.heap.size, 0, none⟩ (.int .i64 (nn : Int))).setCell ⟨w.heap.size, 1, none⟩ (.slice a' m c')) G a len cap) :=
        ⟨own_mono (own_grown D2.out.own hgs (by omega)) (show w.heap.size ≤ w1.heap.size + 1 by omega), D2.out.cur.grownX hgs (by omega), HCode.out.kept hgw, hgw⟩
      have HR2 : Hid (GR nn es 16) := hR.out.more hk
      clear D2 hbw hgs hgw
      go_wp2
      exact bodyPost_ret (v := .agg #[.int .i64 (nn : Int), .slice a' m c']) (by simp [results, Try.results39, go_sem, s0, s1]) rfl ⟨nn, es, a', m, c', HR2, rfl, HF.out.1, HF.out.2⟩
end Go.Proofs.Ytcmjfnaenkdidaa
namespace Go.Proofs.Ytcmjfnaenkdidaa
open Go.RowKit

theorem mem_put {es : List EdgeV} {e x : EdgeV} : x ∈ putE es e ↔ x = e ∨ x ∈ es := by
  unfold putE
  simp only [List.mem_append, List.mem_filter, List.mem_singleton]
  constructor
  · rintro ((⟨h, _⟩ | h) | ⟨h, _⟩)
    · exact .inr h
    · exact .inl h
    · exact .inr h
  · rintro (h | h)
    · exact .inl (.inr h)
    · cases h1 : lt x e with
      | true => exact .inl (.inl ⟨h, rfl⟩)
      | false =>
        by_cases h2 : x = e
        · exact .inl (.inr h2)
        · exact .inr ⟨h, lt_total' h1 h2⟩
theorem put_len' {es : List EdgeV} {e : EdgeV} : (putE es e).length ≤ es.length + 1 := by
  unfold putE
  rw [List.length_append, List.length_append, ← List.countP_eq_length_filter, ← List.countP_eq_length_filter]
  have : es.countP (fun d => lt d e) + es.countP (fun d => lt e d) ≤ es.length := by
    induction es with
    | nil => simp
    | cons d r ih =>
      simp only [List.countP_cons, List.length_cons]
      cases h1 : lt d e with
      | true => rw [lt_asymm' h1]; simp; omega
      | false => cases h2 : lt e d <;> simp <;> omega
  simp
  omega
/-- the edges put together so far -/
structure PutT (all : List EdgeV) (k : Nat) (G : List EdgeV) : Prop where
  asc : Asc G
  mem : ∀ x, x ∈ G ↔ x ∈ all.take k
  nod : (all.take k).Nodup
  len : G.length ≤ k
theorem PutT.start (all : List EdgeV) : PutT all 0 [] := ⟨fun i j d e _ h => by simp at h, by simp, by simp, by simp⟩
theorem PutT.put {all : List EdgeV} {k : Nat} {G : List EdgeV} (h : PutT all k G) {e : EdgeV} (he : all[k]? = some e) (hn : hasB G e = false) : PutT all (k + 1) (putE G e) := by
  have hne : e ∉ G := by unfold hasB at hn; exact of_decide_eq_false hn
  have e1 := take_snocF all k e he
  refine ⟨asc_put h.asc, fun x => ?_, ?_, ?_⟩
  · rw [mem_put, h.mem, e1, List.mem_append, List.mem_singleton]
    exact ⟨fun h => h.symm, fun h => h.symm⟩
  · rw [e1]
    refine List.nodup_append.2 ⟨h.nod, by simp, fun a ha b hb => ?_⟩
    simp at hb
    subst hb
    exact fun e2 => hne (by rw [h.mem]; rw [← e2]; exact ha)
  · have := put_len' (es := G) (e := e)
    have := h.len
    omega
theorem PutT.no {all : List EdgeV} {k : Nat} {G : List EdgeV} (h : PutT all k G) {e : EdgeV} (he : all[k]? = some e) (hn : hasB G e = true) : weO all = none := by
  unfold weO
  rw [if_neg]
  intro hnd
  have hm : e ∈ all.take k := by rw [← h.mem]; unfold hasB at hn; exact of_decide_eq_true hn
  have h1 : (all.take (k + 1)).Nodup := hnd.sublist (List.take_sublist _ _)
  rw [take_snocF all k e he] at h1
  exact (List.nodup_append.1 h1).2.2 e hm e (by simp) rfl
theorem asc_ext1 : ∀ {l1 l2 : List EdgeV}, (l1.Pairwise fun d e => lt d e = true) → (l2.Pairwise fun d e => lt d e = true) → (∀ x, x ∈ l1 ↔ x ∈ l2) → l1 = l2 := by
  intro l1
  induction l1 with
  | nil =>
    intro l2 _ _ h
    cases l2 with
    | nil => rfl
    | cons b l => exact absurd ((h b).2 (by simp)) (by simp)
  | cons a l1 ih =>
    intro l2 h1 h2 h
    cases l2 with
    | nil => exact absurd ((h a).1 (by simp)) (by simp)
    | cons b l2 =>
      rw [List.pairwise_cons] at h1 h2
      have hab : a = b := by
        rcases List.mem_cons.1 ((h a).1 (by simp)) with e | e
        · exact e
        · rcases List.mem_cons.1 ((h b).2 (by simp)) with e2 | e2
          · exact e2.symm
          · have q1 := h2.1 a e
            have q2 := h1.1 b e2
            rw [lt_asymm' q1] at q2
            cases q2
      subst hab
      congr 1
      refine ih h1.2 h2.2 fun x => ?_
      constructor
      · intro hx
        rcases List.mem_cons.1 ((h x).1 (List.mem_cons_of_mem _ hx)) with e | e
        · subst e
          have := h1.1 x hx
          rw [lt_irrefl'] at this
          cases this
        · exact e
      · intro hx
        rcases List.mem_cons.1 ((h x).2 (List.mem_cons_of_mem _ hx)) with e | e
        · subst e
          have := h2.1 x hx
          rw [lt_irrefl'] at this
          cases this
        · exact e
theorem PutT.yes {all : List EdgeV} {G : List EdgeV} (h : PutT all all.length G) : weO all = some G := by
  have hn := h.nod
  have hm := h.mem
  rw [List.take_of_length_le (Nat.le_refl _)] at hn hm
  unfold weO
  rw [if_pos hn]
  congr 1
  exact asc_ext1 (pairwise_asc' (srtE_asc hn)) (pairwise_asc' h.asc) fun x => by rw [srtE_mem, hm]
theorem weO_perm {l1 l2 : List EdgeV} (h : l1.Perm l2) : weO l1 = weO l2 := by
  unfold weO
  by_cases hn : l1.Nodup
  · rw [if_pos hn, if_pos (h.nodup_iff.1 hn)]
    congr 1
    exact asc_ext1 (pairwise_asc' (srtE_asc hn)) (pairwise_asc' (srtE_asc (h.nodup_iff.1 hn))) fun x => by rw [srtE_mem, srtE_mem]; exact h.mem_iff
  · rw [if_neg hn, if_neg (fun h2 => hn (h.nodup_iff.2 h2))]

theorem bupE {w u v : World} (h : Below w.heap.size w u) (hb : Below u.heap.size u v) : Below w.heap.size w v := h.trans (hb.mono h.size)
set_option maxRecDepth 100000 in
set_option maxHeartbeats 8000000 in
theorem sWholeEdges_any (ps : List Part) (n : Nat) (a : Option Addr) (c : Nat) (cuts : List EdgeV) (m : Nat) (bc : Nat) (cc : Nat) (hsm : ∀ p ∈ ps, ∃ g, p.a = some ⟨g, 0, none⟩) (hm : m + n + pLen ps ≤ 1048576) (w : World) (h : PEs w w.heap.size a n ps) (hE : Es w w.heap.size (some ⟨bc, 0, none⟩) m cuts) :
    Calls Try.prog 32 #[.slice a n c, .slice (some ⟨bc, 0, none⟩) m cc] w fun e w' => WAns2 w (weO (pAll ps ++ cuts)) e w' := by
  obtain ⟨i0, hi, hz0, hz1, hz2⟩ := info_parts infoIE
  have hpm : weO (pAll ps ++ cuts) = weO (cuts ++ pAll ps) := weO_perm List.perm_append_comm
  rw [hpm]
  have hpl := h.1
  have HP := hideIt h
  have HE := hideIt hE
  have hcl := hE.1
  have HL : Hid (∀ j, (pAll (ps.take j)).length = pLen (ps.take j)) := fun j => by
    induction j with
    | zero => simp [pAll, pLen]
    | succ j ih =>
      by_cases hj : j < ps.length
      · obtain ⟨p, hp⟩ : ∃ p, ps[j]? = some p := ⟨ps[j], List.getElem?_eq_getElem hj⟩
        rw [take_snocF ps j p hp, pAll_snoc, pLen_snoc, List.length_append, ih, (h.2.2 p (List.mem_of_getElem? hp)).1.1]
      · rw [List.take_of_length_le (by omega), ← List.take_of_length_le (by omega : ps.length ≤ j)]; exact ih
  clear h hE hpm
  -- the two empty rows
  obtain ⟨W1, hW1⟩ : ∃ W1, W1 = (w.alloc (.cells #[] 28)).alloc (.cells #[] 28) := ⟨_, rfl⟩
  have bW : Below w.heap.size w W1 := by rw [hW1]; exact ((Below.refl _ _).alloc (Nat.le_refl _) _).alloc (by simp) _
  have zW : W1.heap.size = w.heap.size + 2 := by rw [hW1]; simp
  have O1 : W1.ownsRow w.heap.size 28 2 (.slice (some ⟨w.heap.size, 0, none⟩) 0 0) 0 (ecells []) := by
    have h0 := (World.ownsRow_lit (base := w.heap.size) (e := 28) (size := 2) w #[] 0 (Nat.le_refl _) (by unfold maxLen; omega) (by simp)).alloc (.cells #[] 28)
    rw [hW1]
    simpa [ecells] using h0
  have O2 : W1.ownsRow (w.heap.size + 1) 28 2 (.slice (some ⟨w.heap.size + 1, 0, none⟩) 0 0) 0 (ecells []) := by
    have h0 := World.ownsRow_lit (base := w.heap.size + 1) (e := 28) (size := 2) (w.alloc (.cells #[] 28)) #[] 0 (by simp) (by unfold maxLen; omega) (by simp)
    rw [hW1]
    simpa [ecells] using h0
  have hl2 : (ecells cuts).length = m * 2 := by rw [ecells_length, hcl]
  have hnews := (HE.out.up bW).news
  subst hW1
  clear HE
  go_enter Try.func32, Try.ntmps32
  go_wp2_with (at_builtin; refine wpList_append_own _ rfl _ _ 24 rfl (w.heap.size + 1) 28 i0 _ 2 16 Try.underlying24 hi hz0 hz1 hz2 rfl (by decide) _ _ _ rfl O2 ⟨bc, 0, none⟩ m cc (ecells cuts) rfl hl2 hnews ecells_one (by unfold maxLen; omega) (by omega) (by simp) ?_)
  intro v2 w2 ho2 hg2 hn2
  have O1b : w2.ownsRow w.heap.size 28 2 (.slice (some ⟨w.heap.size, 0, none⟩) 0 0) 0 (ecells []) := World.ownsRow.kept O1 hg2 (.inr (by simp [Value.ownBlock]))
  have B2 : Below w.heap.size w w2 := bW.grown hg2 bW.size (fun j hj => by simp [Value.ownBlock] at hj; omega)
  obtain ⟨a2, c2, rfl⟩ := own_form ho2
  rw [show ecells [] ++ ecells cuts = ecells cuts by simp [ecells]] at ho2
  have HO2 := hideIt ho2
  have HO1 := hideIt O1b
  clear ho2 hg2 hn2 O1 O2 O1b bW zW hnews
  go_wp2
  go_loopw [7, 8] (fun v i wr => ∃ (k m7 : Nat) (a7 : Option Addr) (c7 : Nat), k ≤ n ∧ i = .int .i64 (k : Int) ∧ v = .slice a7 m7 c7 ∧ Hid (m7 = m + pLen (ps.take k)) ∧ wr.ownsRow (w.heap.size + 1) 28 2 (.slice a7 m7 c7) m7 (ecells (cuts ++ pAll (ps.take k))) ∧ wr.ownsRow w.heap.size 28 2 (.slice (some ⟨w.heap.size, 0, none⟩) 0 0) 0 (ecells []) ∧ Below w.heap.size w wr) (fun _ i _ => n - (intOf i).toNat)
  case atStart => exact ⟨0, m, a2, c2, by omega, rfl, by simp, by show _ = _; simp [pLen], by simpa [pAll] using HO2.out, HO1.out, B2⟩
  case round =>
    obtain ⟨k, m7, a7, c7, hk, rfl, rfl, hm7, hown, hout, hb⟩ := hrel
    clear HO2 HO1
    by_cases hlt : k < n
    · obtain ⟨p, hp⟩ : ∃ p, ps[k]? = some p := ⟨ps[k]'(by omega), List.getElem?_eq_getElem (by omega)⟩
      have hpm := List.mem_of_getElem? hp
      obtain ⟨g, hpa⟩ := hsm p hpm
      rcases HP.out.2.1 with hz | ⟨b, off, rfl, hbl, hc⟩
      · omega
      · have c0 := hc k p hp
        have c1 : wr.cell? ⟨b, off + k, none⟩ = some (.slice p.a p.m p.c) := by rw [hb.cell hbl]; exact c0
        have hes := ((HP.out.2.2 p hpm).1).up hb
        have HM : Hid (m7 + p.m = m + pLen (ps.take (k + 1))) := by show _ = _; rw [take_snocF ps k p hp, pLen_snoc, hm7.out]; omega
        have HA : Hid (ecells (cuts ++ pAll (ps.take (k + 1))) = ecells (cuts ++ pAll (ps.take k)) ++ ecells p.es) := by show _ = _; rw [take_snocF ps k p hp, pAll_snoc, ← List.append_assoc, ecells_append]
        have hmp : m7 + p.m ≤ 1048576 := by have := HM.out; have := pLen_take ps (k + 1); omega
        have b1 : (0 : Int) ≤ (k : Int) := by omega
        have b2 : (k : Int) < (n : Int) := by omega
        have hl3 : (ecells p.es).length = p.m * 2 := by rw [ecells_length, hes.1]
        rw [hpa] at c1 hes
        have hnw := hes.news
        have hzb := hb.size
        have hz1b : w.heap.size + 1 ≤ wr.heap.size := by have := (hout.lt w.heap.size rfl).2; omega
        clear hc hp c0 hm7 hpa hes
        go_wp2_with (at_builtin; refine wpList_append_own _ rfl _ _ 24 rfl (w.heap.size + 1) 28 i0 _ 2 16 Try.underlying24 hi hz0 hz1 hz2 rfl (by decide) _ _ _ rfl hown ⟨g, 0, none⟩ p.m p.c (ecells p.es) rfl hl3 hnw ecells_one (by unfold maxLen; omega) (by omega) hz1b ?_)
        intro v3 w3 ho3 hg3 hn3
        have hne : (Value.slice a7 m7 c7).ownBlock ≠ some w.heap.size := fun e => by have := (hown.lt _ e).1; omega
        have hout3 := World.ownsRow.kept hout hg3 (.inr (by simp only [Value.ownBlock]; exact fun e => hne e.symm))
        have hb3 : Below w.heap.size w w3 := hb.grown hg3 hb.size (fun q hq => by have := (hown.lt q hq).1; omega)
        rw [← HA.out] at ho3
        obtain ⟨a3, c3, rfl⟩ := own_form ho3
        have HO3 := hideIt ho3
        have HU3 := hideIt hout3
        clear ho3 hout3 hown hout hg3 hn3 hnw
        go_wp2
        exact ⟨⟨k + 1, m7 + p.m, a3, c3, by omega, by go_num, rfl, HM, HO3.out, HU3.out, hb3⟩, by simp [intOf]; omega⟩
    · obtain rfl : k = n := by omega
      rw [List.take_of_length_le (by omega)] at hown hm7
      have hlA : (cuts ++ pAll ps).length = m7 := by
        have := hown.1
        rw [ecells_length] at this
        omega
      have hEs := Es_of_own hown
      have HS1 := hideIt hEs
      have HU := hideIt hout
      have hm7' : m7 ≤ 1048576 := by have := hm7.out; omega
      obtain ⟨o, hoo⟩ : ∃ o, weO (cuts ++ pAll ps) = o := ⟨_, rfl⟩
      have HNo : Hid (∀ p G e, PutT (cuts ++ pAll ps) p G → (cuts ++ pAll ps)[p]? = some e → hasB G e = true → o = none) := fun p G e h he hn => by rw [← hoo]; exact h.no (e := e) he hn
      have HYs : Hid (∀ G, PutT (cuts ++ pAll ps) m7 G → o = some G) := fun G h => by rw [← hoo]; exact PutT.yes (by rw [hlA]; exact h)
      have Hoo := hideIt hoo
      clear hoo
      generalize cuts ++ pAll ps = all at HNo HYs HS1 hlA hEs hown
      generalize wr = wx at *
      clear hown hout hm7
      go_wp2
      go_loopw [6, 9] (fun v i wr => ∃ (p m6 : Nat) (a6 : Option Addr) (c6 : Nat) (G : List EdgeV), p ≤ m7 ∧ i = .int .i64 (p : Int) ∧ v = .slice a6 m6 c6 ∧ Hid (PutT all p G) ∧ wr.ownsRow w.heap.size 28 2 (.slice a6 m6 c6) m6 (ecells G) ∧ Below wx.heap.size wx wr) (fun _ i _ => m7 - (intOf i).toNat)
      case atStart => exact ⟨0, 0, _, _, [], by omega, rfl, rfl, PutT.start all, HU.out, Below.refl _ _⟩
      case round =>
        obtain ⟨p, m6, a6, c6, G, hp, rfl, rfl, hT, hown, hbx⟩ := hrel
        have hm6 : m6 ≤ p := by have h1 := hown.1; rw [ecells_length] at h1; have := hT.out.len; omega
        by_cases hlp : p < m7
        · obtain ⟨f, hf⟩ : ∃ f, all[p]? = some f := ⟨all[p]'(by omega), List.getElem?_eq_getElem (by omega)⟩
          rcases HS1.out.2 with hz | ⟨b, off, rfl, hbl, hc⟩
          · omega
          · obtain ⟨c0, c1⟩ := hc p f hf
            have b1 : (0 : Int) ≤ (p : Int) := by omega
            have b2 : (p : Int) < (m7 : Int) := by omega
            have e0 : wr.cell? ⟨b, off + p * 2, none⟩ = some (.int .i64 f.1) := by rw [hbx.cell hbl]; exact c0
            have e1 : wr.cell? ⟨b, off + p * 2 + 1, none⟩ = some (.int .i64 f.2) := by rw [hbx.cell hbl]; exact c1
            have HH := hideIt (l05Has_any G f m6 a6 c6 (by omega) wr (Es_of_own hown))
            have HO := hideIt hown
            cases hh : hasB G f with
            | true =>
              rw [hh] at HH
              have HN := hideIt (HNo.out p G f hT.out hf hh)
              clear hc c0 c1 hf hh hown HYs HNo
              go_wp2_with (go_at_call 62; refine HH.out.mono ?_; rintro e w4 ⟨rfl, b4⟩; refine Hid.out ?_)
              refine (show ∀ {p : Prop}, p → Hid p from fun h => h) ?_
              have HF := hideIt (bupE hb (bupE hbx b4))
              have HOw := hideIt (own_mono (ESt.start w4).own (show w.heap.size ≤ w4.heap.size from HF.out.size))
              clear e0 e1 HH b4
              go_wp2
              exact bodyPost_ret (v := .tuple #[.slice (some ⟨w4.heap.size, 0, none⟩) 0 0, .bool false]) (by simp [results, Try.results32, go_sem]) rfl ⟨_, 0, 0, by rw [Hoo.out, HN.out]; rfl, by rw [Hoo.out, HN.out]; exact HOw.out, HF.out.alloc HF.out.size _⟩
            | false =>
              rw [hh] at HH
              have HT2 := hideIt (hT.out.put hf hh)
              clear hc hf hh hown hT
              go_wp2_with (go_at_call 62; refine HH.out.mono ?_; rintro e w4 ⟨rfl, b4⟩; refine Hid.out ?_)
              refine (show ∀ {p : Prop}, p → Hid p from fun h => h) ?_
              have B4 := bupE hbx b4
              have e2 : w4.cell? ⟨b, off + p * 2, none⟩ = some (.int .i64 f.1) := by rw [B4.cell hbl]; exact c0
              have e3 : w4.cell? ⟨b, off + p * 2 + 1, none⟩ = some (.int .i64 f.2) := by rw [B4.cell hbl]; exact c1
              have HPt := hideIt (l05Put_any G f m6 a6 c6 (by omega) w4 (Es_of_own (own_up HO.out b4)))
              clear e0 e1 HH b4 c0 c1 HO
              go_wp2_with (go_at_call 63; refine HPt.out.mono ?_; rintro e w5 ⟨a5, m5, c5, rfl, ho5, b5⟩; refine Hid.out ?_)
              refine (show ∀ {p : Prop}, p → Hid p from fun h => h) ?_
              have HO5 := hideIt (own_mono ho5 (show w.heap.size ≤ w4.heap.size from (bupE hb B4).size))
              have B5 := bupE B4 b5
              clear HPt ho5 b5 e2 e3 B4 hbx
              go_wp2
              exact ⟨⟨p + 1, m5, a5, c5, _, by omega, by go_num, rfl, HT2, HO5.out, B5⟩, by simp [intOf]; omega⟩
        · obtain rfl : p = m7 := by omega
          have HY := hideIt (HYs.out G hT.out)
          have HO := hideIt hown
          clear hown hT HYs HNo
          go_wp2
          exact bodyPost_ret (v := .tuple #[.slice a6 m6 c6, .bool true]) (by simp [results, Try.results32, go_sem]) rfl ⟨a6, m6, c6, by rw [Hoo.out, HY.out]; rfl, by rw [Hoo.out, HY.out]; exact HO.out, bupE hb hbx⟩
end Go.Proofs.Ytcmjfnaenkdidaa
namespace Go.Proofs.Ytcmjfnaenkdidaa
open Go.RowKit

/-- a list of lists of edges stands at a -/
def TeS (w : World) (B : Nat) (a : Option Addr) (n : Nat) (ts : List (List EdgeV)) : Prop :=
  ts.length = n ∧ (n = 0 ∨ ∃ b off, a = some ⟨b, off, none⟩ ∧ b < B ∧ ∀ (j : Nat) (t : List EdgeV), ts[j]? = some t →
    ∃ (a' : Option Addr) (c' : Nat), w.cell? ⟨b, off + j, none⟩ = some (.slice a' t.length c') ∧ Es w B a' t.length t)
theorem TeS.up {w w' : World} {a : Option Addr} {n : Nat} {ts : List (List EdgeV)} (h : TeS w w.heap.size a n ts) (hb : Below w.heap.size w w') : TeS w' w'.heap.size a n ts := by
  refine ⟨h.1, h.2.imp id ?_⟩
  rintro ⟨b, off, ha, hbl, hc⟩
  have := hb.size
  refine ⟨b, off, ha, by omega, fun j t ht => ?_⟩
  obtain ⟨a', c', h1, h2⟩ := hc j t ht
  exact ⟨a', c', by rw [hb.cell (p := ⟨b, _, none⟩) hbl]; exact h1, h2.up hb⟩
def lnE (ts : List (List EdgeV)) : Nat := (ts.map List.length).sum
theorem lnE_take {ts : List (List EdgeV)} {k : Nat} {t : List EdgeV} (h : ts[k]? = some t) : lnE (ts.take (k + 1)) = lnE (ts.take k) + t.length := by
  unfold lnE
  rw [take_snocF ts k t h]
  simp
theorem lnE_le (ts : List (List EdgeV)) (k : Nat) : lnE (ts.take k) ≤ lnE ts := by
  have h := congrArg lnE (List.take_append_drop k ts)
  have e : ∀ a b : List (List EdgeV), lnE (a ++ b) = lnE a + lnE b := fun a b => by simp [lnE]
  rw [e] at h
  omega
theorem lnE_at {ts : List (List EdgeV)} {k : Nat} {t : List EdgeV} (h : ts[k]? = some t) : lnE (ts.take k) + t.length ≤ lnE ts := by
  rw [← lnE_take h]
  exact lnE_le ts (k + 1)
def sze (n : Nat) (ts : List (List EdgeV)) : Int := if n + lnE ts ≤ 1048576 then 1048576 - (n : Int) - (lnE ts : Int) else -1

set_option maxHeartbeats 1000000 in
theorem szEdgeSS_any (ts : List (List EdgeV)) (n : Nat) (a : Option Addr) (c : Nat) (hn : n ≤ maxLen) (hm : ∀ t ∈ ts, t.length ≤ maxLen) (w : World) (h : TeS w w.heap.size a n ts) :
    Calls Try.prog 31 #[.slice a n c, .int .i64 1048576] w fun e w' => e = .returned (.int .i64 (sze n ts)) ∧ w' = w := by
  unfold maxLen at hn
  obtain ⟨hlen, hrow⟩ := h
  have HR := hideIt hrow
  clear hrow
  by_cases g : n ≤ 1048576
  · have d1 : decide (1048576 - (n : Int) < 0) = false := decide_eq_false (by omega)
    go_enter Try.func31, Try.ntmps31
    go_wp2
    go_loopw [1, 5] (fun q i wr => ∃ (k : Nat) (x : Int), k ≤ n ∧ i = .int .i64 (k : Int) ∧ q = .int .i64 x ∧ 0 ≤ x ∧ x ≤ 1048576 ∧ Hid (x = 1048576 - (n : Int) - (lnE (ts.take k) : Int)) ∧ wr = w) (fun _ i _ => n - (intOf i).toNat)
    case atStart => exact ⟨0, _, by omega, rfl, rfl, by omega, by omega, by show _ = _; simp [lnE], rfl⟩
    case round =>
      obtain ⟨k, x, hk, rfl, rfl, hx0, hx1, HX, hw⟩ := hrel
      have hw' := hw.symm
      subst hw'
      clear hw
      by_cases hlt : k < n
      · rcases HR.out with hz | ⟨b, off, rfl, hbl, hc⟩
        · omega
        · obtain ⟨t, ht⟩ : ∃ t, ts[k]? = some t := ⟨ts[k]'(by omega), List.getElem?_eq_getElem (by omega)⟩
          obtain ⟨a', c', e0, _⟩ := hc k t ht
          have hml := hm t (List.mem_of_getElem? ht)
          have b1 : (0 : Int) ≤ (k : Int) := by omega
          have b2 : (k : Int) < (n : Int) := by omega
          by_cases hfit : (t.length : Int) ≤ x
          · have HY := hideIt (szEdgeS_yes t.length a' c' x hfit hx1 w)
            have HX2 : Hid (x - (t.length : Int) = 1048576 - (n : Int) - (lnE (ts.take (k + 1)) : Int)) := by
              show _ = _
              have := HX.out
              rw [lnE_take ht]
              omega
            have d2 : decide (x - (t.length : Int) < 0) = false := decide_eq_false (by omega)
            clear hc ht HX
            go_wp2_with (go_at_call 20; refine HY.out.mono ?_; rintro e w1 ⟨rfl, hw⟩; have hw' := hw.symm; subst hw'; clear hw)
            exact ⟨⟨k + 1, _, by omega, by go_num, rfl, by omega, by omega, HX2, by first | trivial | rfl⟩, by simp [intOf]; omega⟩
          · have HY := hideIt (szEdgeS_no t.length a' c' x hx0 (by omega) hml w)
            have HV : Hid (sze n ts = -1) := by
              show _ = _
              have h1 := HX.out
              have h2 := lnE_at ht
              unfold sze
              rw [if_neg (by omega)]
            clear hc ht HX hml
            go_wp2_with (go_at_call 20; refine HY.out.mono ?_; rintro e w1 ⟨rfl, hw⟩; have hw' := hw.symm; subst hw'; clear hw)
            go_ret
            exact ⟨by rw [HV.out]; rfl, rfl⟩
      · obtain rfl : k = n := by omega
        have HV : Hid (sze k ts = x) := by
          show _ = _
          have h1 := HX.out
          rw [List.take_of_length_le (by omega)] at h1
          unfold sze
          rw [if_pos (by omega)]
          exact h1.symm
        clear HX
        go_wp2
        go_ret
        exact ⟨by rw [HV.out]; rfl, rfl⟩
  · have d1 : decide (1048576 - (n : Int) < 0) = true := decide_eq_true (by omega)
    have HV : Hid (sze n ts = -1) := by
      show _ = _
      unfold sze
      rw [if_neg (by omega)]
    go_enter Try.func31, Try.ntmps31
    go_wp2
    go_ret
    exact ⟨by rw [HV.out]; rfl, rfl⟩

/-- lists of edges that are ours, in blocks lo .. hi, each in a block of its own -/
structure FE (u : World) (lo hi : Nat) (a : Option Addr) (n c : Nat) (ps : List Part) : Prop where
  len : ps.length = n
  own : u.ownsRow lo 24 1 (.slice a n c) n (ps.map hdr)
  row : ∀ g, (Value.slice a n c).ownBlock = some g → g < hi
  there : hi ≤ u.heap.size
  ins : ∀ p ∈ ps, ∃ g, p.a = some ⟨g, 0, none⟩ ∧ u.ownsRow lo 28 2 (hdr p) p.m (ecells p.es) ∧ g < hi
  nod : ps.Pairwise fun p q => p.a ≠ q.a
theorem FE.sm {u : World} {lo hi : Nat} {a : Option Addr} {n c : Nat} {ps : List Part} (h : FE u lo hi a n c ps) : ∀ p ∈ ps, ∃ g, p.a = some ⟨g, 0, none⟩ := fun p hp => by
  obtain ⟨g, h1, _⟩ := h.ins p hp
  exact ⟨g, h1⟩
theorem FE.es {u : World} {lo hi : Nat} {a : Option Addr} {n c : Nat} {ps : List Part} (h : FE u lo hi a n c ps) {p : Part} (hp : p ∈ ps) : Es u u.heap.size p.a p.m p.es := by
  obtain ⟨g, h1, h2, _⟩ := h.ins p hp
  exact Es_of_own h2
theorem FE.hd {u : World} {lo hi : Nat} {a : Option Addr} {n c : Nat} {ps : List Part} (h : FE u lo hi a n c ps) : n = 0 ∨ ∃ b, a = some ⟨b, 0, none⟩ ∧ b < u.heap.size ∧ ∀ (j : Nat) (p : Part), ps[j]? = some p → u.cell? ⟨b, j, none⟩ = some (.slice p.a p.m p.c) := by
  rcases h.own.2 with ⟨_, h0⟩ | ⟨g, cap, cur, hv, _⟩
  · exact .inl h0
  · simp at hv
    obtain ⟨rfl, rfl⟩ := hv
    refine .inr ⟨g, rfl, (h.own.lt g rfl).2, fun j p hp => ?_⟩
    have hj := (List.getElem?_eq_some_iff.1 hp).1
    have := h.len
    rw [h.own.cellAt j (by omega), List.getElem?_map, hp]
    rfl
theorem FE.pes {u : World} {lo hi : Nat} {a : Option Addr} {n c : Nat} {ps : List Part} (h : FE u lo hi a n c ps) : PEs u u.heap.size a n ps := by
  refine ⟨h.len, h.hd.imp id ?_, fun p hp => ⟨h.es hp, fun e => ?_⟩⟩
  · rintro ⟨b, h1, h2, h3⟩
    exact ⟨b, 0, h1, h2, fun j p hp => by rw [Nat.zero_add]; exact h3 j p hp⟩
  · obtain ⟨g, h1⟩ := h.sm p hp
    rw [h1] at e
    cases e
theorem FE.te {u : World} {lo hi : Nat} {a : Option Addr} {n c : Nat} {ps : List Part} (h : FE u lo hi a n c ps) : TeS u u.heap.size a n (ps.map Part.es) := by
  refine ⟨by rw [List.length_map]; exact h.len, h.hd.imp id ?_⟩
  rintro ⟨b, h1, h2, h3⟩
  refine ⟨b, 0, h1, h2, fun j t ht => ?_⟩
  rw [List.getElem?_map, Option.map_eq_some_iff] at ht
  obtain ⟨p, hp, rfl⟩ := ht
  have he := h.es (List.mem_of_getElem? hp)
  refine ⟨p.a, p.c, by rw [Nat.zero_add, he.1]; exact h3 j p hp, by rw [he.1]; exact he⟩
theorem FE.rng {u v : World} {lo hi l2 h2 : Nat} {a : Option Addr} {n c : Nat} {ps : List Part} (h : FE u lo hi a n c ps) (hr : Rng l2 h2 u v) (ho : hi ≤ l2 ∨ h2 ≤ lo) : FE v lo hi a n c ps := by
  have hth := h.there
  have keep : ∀ {e s m : Nat} {x : Value} {xs : List Value}, u.ownsRow lo e s x m xs → (∀ g, x.ownBlock = some g → g < hi) → v.ownsRow lo e s x m xs := fun hw hx => by
    refine ⟨hw.1, ?_⟩
    rcases hw.2 with h3 | ⟨g, cap, cur, hv, hg, hcur, hrest⟩
    · exact .inl h3
    · have hgh := hx g (by rw [hv]; rfl)
      refine .inr ⟨g, cap, cur, hv, hg, ?_, hrest⟩
      rw [hr.block g (by omega) (by omega)]
      exact hcur
  refine ⟨h.len, keep h.own h.row, h.row, Nat.le_trans hth hr.size, fun p hp => ?_, h.nod⟩
  obtain ⟨g, h1, h3, h4⟩ := h.ins p hp
  exact ⟨g, h1, keep h3 (fun q hq => by simp [hdr, h1, Value.ownBlock] at hq; omega), h4⟩
theorem FE.up {u v : World} {lo hi : Nat} {a : Option Addr} {n c : Nat} {ps : List Part} (h : FE u lo hi a n c ps) (hb : Below u.heap.size u v) : FE v lo hi a n c ps :=
  h.rng (l2 := hi) (h2 := hi) (Rng.of_below hb) (.inl (Nat.le_refl _))

/-- toEdgeSS in the making -/
structure FK (w : World) (n : Nat) (ps : List Part) (u : World) : Prop where
  xs : ∃ xs, u.ownsRow w.heap.size 24 1 (.slice (some ⟨w.heap.size, 0, none⟩) n n) n xs ∧ xs.take ps.length = ps.map hdr
  ins : ∀ p ∈ ps, ∃ g, p.a = some ⟨g, 0, none⟩ ∧ u.ownsRow (w.heap.size + 1) 28 2 (hdr p) p.m (ecells p.es)
  nod : ps.Pairwise fun p q => p.a ≠ q.a
  bel : Below w.heap.size w u
theorem FK.add {w : World} {n : Nat} {ps : List Part} {u v : World} (h : FK w n ps u) (hk : ps.length < n) (hb : Below u.heap.size u v) {g m : Nat} {t : List EdgeV} (ho : v.ownsRow u.heap.size 28 2 (.slice (some ⟨g, 0, none⟩) m m) m (ecells t)) :
    FK w n (ps ++ [⟨some ⟨g, 0, none⟩, m, m, t⟩]) (v.setCell ⟨w.heap.size, ps.length, none⟩ (.slice (some ⟨g, 0, none⟩) m m)) := by
  obtain ⟨xs, h1, h2⟩ := h.xs
  have hzu : w.heap.size + 1 ≤ u.heap.size := by have := (h1.lt w.heap.size rfl).2; omega
  have hgl := (ho.lt g rfl).1
  have hl := h1.1
  refine ⟨⟨xs.set ps.length (.slice (some ⟨g, 0, none⟩) m m), ((own_up h1 hb).stored ps.length _).1, ?_⟩, fun p hp => ?_, ?_, ?_⟩
  · rw [List.length_append, List.map_append, ← h2]
    show (xs.set ps.length _).take (ps.length + 1) = _
    rw [List.take_add_one, List.take_set_of_le (Nat.le_refl _)]
    simp [hdr, show ps.length < xs.length by omega]
  · rcases List.mem_append.1 hp with h3 | h3
    · obtain ⟨q, h4, h5⟩ := h.ins p h3
      refine ⟨q, h4, World.ownsRow.kept (own_up h5 hb) (grownSet v _ _ _) (.inr fun e => ?_)⟩
      have := (h5.lt _ e).1
      omega
    · simp at h3
      subst h3
      exact ⟨g, rfl, World.ownsRow.kept (own_mono ho hzu) (grownSet v _ _ _) (.inr (by simp [hdr, Value.ownBlock]; omega))⟩
  · rw [List.pairwise_append]
    refine ⟨h.nod, by simp, fun x hx y hy => ?_⟩
    simp at hy
    subst hy
    obtain ⟨q, h4, h5⟩ := h.ins x hx
    have : q < u.heap.size := (h5.lt q (by simp [hdr, h4, Value.ownBlock])).2
    rw [h4]
    intro e
    have e2 : q = g := by injection e with e; injection e
    omega
  · exact (h.bel.trans (hb.mono (by omega))).setCell (p := ⟨w.heap.size, ps.length, none⟩) (Nat.le_refl _) _
theorem FK.fe {w : World} {n : Nat} {ps : List Part} {u : World} (h : FK w n ps u) (hn : ps.length = n) : FE u w.heap.size u.heap.size (some ⟨w.heap.size, 0, none⟩) n n ps := by
  obtain ⟨xs, h1, h2⟩ := h.xs
  have hl := h1.1
  rw [hn, List.take_of_length_le (by omega)] at h2
  subst h2
  refine ⟨hn, h1, fun g hg => (h1.lt g hg).2, Nat.le_refl _, fun p hp => ?_, h.nod⟩
  obtain ⟨q, h4, h5⟩ := h.ins p hp
  exact ⟨q, h4, own_mono h5 (by omega), (h5.lt q (by simp [hdr, h4, Value.ownBlock])).2⟩

set_option maxHeartbeats 2000000 in
theorem toEdgeSS_any (ts : List (List EdgeV)) (n : Nat) (a : Option Addr) (cap : Nat) (hn : n + lnE ts ≤ 1048576) (w : World) (h : TeS w w.heap.size a n ts) :
    Calls Try.prog 33 #[.slice a n cap] w fun e w' => ∃ g ps, e = .returned (.slice (some ⟨g, 0, none⟩) n n) ∧ FE w' w.heap.size w'.heap.size (some ⟨g, 0, none⟩) n n ps ∧ ps.map Part.es = ts ∧ Below w.heap.size w w' := by
  obtain ⟨i0, hi, hz0, hz1, hz2⟩ := info_parts infoSE
  have hlen := h.1
  have HTs := hideIt h
  have hmk : ∀ u : World, (Instr.makeSlice 39 (.int .i64 (n : Int)) (.int .i64 (n : Int))).run Try.prog u =
      .ok (.slice (some ⟨u.heap.size, 0, none⟩) n n) (u.alloc (.cells (madeCells #[.slice none 0 0] n) 24)) := fun u => by
    have h := run_make (P := Try.prog) u 39 24 i0 _ Try.underlying39 hi hz0 .i64 .i64 (n : Int) (n : Int) (by omega) (by omega) (by rw [hz2]; omega) (by omega)
    rw [Int.toNat_natCast] at h
    simpa [hz1, Value.cells] using h
  have F0 : FK w n [] (w.alloc (.cells (madeCells #[.slice none 0 0] n) 24)) :=
    ⟨⟨_, World.ownsRow_lit (base := w.heap.size) (e := 24) (size := 1) w (madeCells #[.slice none 0 0] n) n (Nat.le_refl _) (by unfold maxLen; omega) (by simp [madeCells]), by simp⟩, by simp, List.Pairwise.nil, (Below.refl _ _).alloc (Nat.le_refl _) _⟩
  clear h
  go_enter Try.func33, Try.ntmps33
  go_wp2
  go_loopw [4] (fun i wr => ∃ (k : Nat) (ps : List Part), k ≤ n ∧ i = .int .i64 (k : Int) ∧ Hid (ps.length = k) ∧ Hid (ps.map Part.es = ts.take k) ∧ FK w n ps wr) (fun i _ => n - (intOf i).toNat)
  case atStart => exact ⟨0, [], by omega, rfl, by show _ = _; rfl, by show _ = _; simp, F0⟩
  case round =>
    obtain ⟨k, ps, hk, rfl, HK, HTk, hF⟩ := hrel
    clear F0 hmk
    have HF := hideIt hF
    have hbw := hF.bel
    by_cases hlt : k < n
    · obtain ⟨t, ht⟩ : ∃ t, ts[k]? = some t := ⟨ts[k]'(by omega), List.getElem?_eq_getElem (by omega)⟩
      rcases (HTs.out.up hbw).2 with hz | ⟨b, off, rfl, hbl, hc⟩
      · omega
      · obtain ⟨a', c', e0, hI⟩ := hc k t ht
        have b1 : (0 : Int) ≤ (k : Int) := by omega
        have b2 : (k : Int) < (n : Int) := by omega
        have hfit : t.length ≤ 1048576 := by have := lnE_at ht; omega
        have HY := hideIt (toEdgeS_any t t.length a' c' hfit wr hI)
        have HT2 : Hid (∀ r : Part, r.es = t → (ps ++ [r]).map Part.es = ts.take (k + 1)) := fun r hr => by rw [List.map_append, HTk.out, take_snocF ts k t ht]; simp [hr]
        obtain ⟨xs, hown, hxs⟩ := hF.xs
        have HO := hideIt hown
        have hl3 : xs.length = n * 1 := hown.1
        have hwz := (hown.lt w.heap.size rfl).2
        clear hc ht hF HTk hI hown hxs hbw
        go_wp2_with (go_at_call 23; refine HY.out.mono ?_; rintro e w1 ⟨g, rfl, ho, hb⟩; refine Hid.out ?_)
        refine (show ∀ {p : Prop}, p → Hid p from fun h => h) ?_
        have ho2 := own_up HO.out hb
        have f0 := ho2.frozenAt k
        have x0 : w1.cell? ⟨w.heap.size, k, none⟩ = some (xs[k]'(by omega)) := by rw [ho2.cellAt k (by omega)]; exact List.getElem?_eq_getElem (by omega)
        have hA := HF.out.add (by have := HK.out; omega) hb ho
        rw [HK.out] at hA
        have HA := hideIt hA
        clear ho2 hA ho HY HF
        go_wp2
        exact ⟨⟨k + 1, _, by omega, by go_num, by show _ = _; rw [List.length_append, HK.out]; rfl, HT2.out _ rfl, HA.out⟩, by simp [intOf]; omega⟩
    · obtain rfl : k = n := by omega
      have HT2 : Hid (ps.map Part.es = ts) := by show _ = _; rw [HTk.out, List.take_of_length_le (by omega)]
      clear hF hbw
      go_wp2
      go_ret
      exact ⟨w.heap.size, ps, rfl, HF.out.fe HK.out, HT2.out, HF.out.bel⟩

set_option maxHeartbeats 2000000 in
theorem eqEdgeSS_same (ts : List (List EdgeV)) (n : Nat) (a a' : Option Addr) (c c' : Nat) (hn : n + lnE ts ≤ 1048576) (w : World) (h : TeS w w.heap.size a n ts) (h' : TeS w w.heap.size a' n ts) :
    Calls Try.prog 34 #[.slice a n c, .slice a' n c'] w fun e w' => e = .returned (.bool true) ∧ Below w.heap.size w w' := by
  have hlen := h.1
  have HA := hideIt h
  have HA' := hideIt h'
  have dn : ((n : Int) != (n : Int)) = false := by simp
  clear h h'
  go_enter Try.func34, Try.ntmps34
  go_wp2
  go_loopw [5] (fun i wr => ∃ (k : Nat), k ≤ n ∧ i = .int .i64 (k : Int) ∧ Good w wr) (fun i _ => n - (intOf i).toNat)
  case atStart => exact ⟨0, by omega, rfl, Good.refl _⟩
  case round =>
    obtain ⟨k, hk, rfl, hg⟩ := hrel
    by_cases hlt : k < n
    · rcases (HA.out.up hg).2 with hz | ⟨b, off, rfl, hbl, hc⟩
      · omega
      · rcases (HA'.out.up hg).2 with hz | ⟨b', off', rfl, hbl', hc'⟩
        · omega
        · obtain ⟨t, ht⟩ : ∃ t, ts[k]? = some t := ⟨ts[k]'(by omega), List.getElem?_eq_getElem (by omega)⟩
          obtain ⟨x, cx, e0, i0⟩ := hc k t ht
          obtain ⟨y, cy, e1, i1⟩ := hc' k t ht
          have hfit : t.length ≤ 1048576 := by have := lnE_at ht; omega
          have b1 : (0 : Int) ≤ (k : Int) := by omega
          have b2 : (k : Int) < (n : Int) := by omega
          have HE := hideIt (fun u (hu : Good wr u) => (eqEdgeS_same t t.length x y cx cy hfit u (i0.up hu) (i1.up hu)).mono fun e v ⟨he, hb⟩ => (⟨he, Good.up hu hb⟩ : e = Ending.returned (.bool true) ∧ Good wr v))
          have HG := hideIt (fun u (hu : Good wr u) => hg.up hu)
          have g0 := (Good.refl wr).drew
          have HC : Hid (∀ u, Good wr u → u.cell? ⟨b, off + k, none⟩ = some (.slice x t.length cx) ∧ u.cell? ⟨b', off' + k, none⟩ = some (.slice y t.length cy)) := fun u hu => ⟨by rw [hu.cell hbl]; exact e0, by rw [hu.cell hbl']; exact e1⟩
          have hS0 := HC.out _ g0
          clear hc hc' ht i0 i1
          go_wp2
          go_region_held3 (fun u => u.cell? ⟨b, off + k, none⟩ = some (.slice x t.length cx) ∧ u.cell? ⟨b', off' + k, none⟩ = some (.slice y t.length cy)) (first | assumption)
            (first | (go_at_call 26; refine (HE.out _ g0).mono ?_; rintro e w1 ⟨rfl, hg1⟩; have hS1 := HC.out _ hg1))
          have hg2 := HG.out _ hg1
          go_wp2
          exact ⟨⟨k + 1, by omega, by go_num, hg2⟩, by simp [intOf]; omega⟩
    · go_wp2
      go_ret
      exact ⟨rfl, hg⟩

theorem Rng.trans' {u v x : World} {lo b : Nat} (h : Rng lo b u v) (k : Rng lo b v x) : Rng lo b u x :=
  ⟨k.os.trans h.os, k.tape.trans h.tape, k.output.trans h.output, Nat.le_trans h.size k.size, fun i hi ho => (k.block i (Nat.lt_of_lt_of_le hi h.size) ho).trans (h.block i hi ho)⟩
theorem Rng.wide {u v : World} {lo hi lo' hi' : Nat} (h : Rng lo hi u v) (h1 : lo' ≤ lo) (h2 : hi ≤ hi') : Rng lo' hi' u v :=
  ⟨h.os, h.tape, h.output, h.size, fun k hk ho => h.block k hk (by omega)⟩
/-- one of the lists is turned -/
theorem FE.turn {u v : World} {lo hi : Nat} {a : Option Addr} {n c : Nat} {qs rs : List Part} {p : Part} {g : Nat} {es' : List EdgeV} (h : FE u lo hi a n c (qs ++ p :: rs)) (hp : p.a = some ⟨g, 0, none⟩) (ho : v.ownsRow lo 28 2 (hdr p) p.m (ecells es')) (hg : u.grownBy v (some g)) :
    FE v lo hi a n c (qs ++ ⟨p.a, p.m, p.c, es'⟩ :: rs) ∧ Rng lo hi u v := by
  obtain ⟨g', hp', hop, hlt⟩ := h.ins p (by simp)
  have e : g' = g := by rw [hp] at hp'; simp at hp'; exact hp'.symm
  subst e
  have hlo : lo ≤ g' := (hop.lt g' (by simp [hdr, hp, Value.ownBlock])).1
  have hnd := h.nod
  rw [List.pairwise_append, List.pairwise_cons] at hnd
  have hne : ∀ x ∈ qs ++ rs, x.a ≠ p.a := fun x hx => by
    rcases List.mem_append.1 hx with h1 | h1
    · exact hnd.2.2 x h1 p (by simp)
    · exact fun e => hnd.2.1.1 x h1 e.symm
  have hkind : (Value.slice a n c).ownBlock ≠ some g' := fun e => by
    rcases h.own.2 with ⟨hv, _⟩ | ⟨g2, cap, cur, hv, hb, hcur, _⟩
    · simp at hv
      obtain ⟨rfl, _⟩ := hv
      cases e
    · simp at hv
      obtain ⟨rfl, rfl⟩ := hv
      have e2 : g2 = g' := by simpa [Value.ownBlock] using e
      subst e2
      rcases hop.2 with ⟨hv2, _⟩ | ⟨g3, cap3, cur3, hv3, hb3, hcur3, _⟩
      · simp [hdr, hp] at hv2
      · simp [hdr, hp] at hv3
        obtain ⟨rfl, _⟩ := hv3
        rw [hcur] at hcur3
        simp at hcur3
  refine ⟨⟨by have := h.len; simpa using this, ?_, h.row, Nat.le_trans h.there hg.size, fun x hx => ?_, ?_⟩, Rng.of_grown hg hlo hlt⟩
  · have h1 := World.ownsRow.kept h.own hg (.inr hkind)
    have e : (qs ++ (⟨p.a, p.m, p.c, es'⟩ : Part) :: rs).map hdr = (qs ++ p :: rs).map hdr := by simp [hdr]
    rw [e]
    exact h1
  · rcases List.mem_append.1 hx with h1 | h1
    · obtain ⟨q, h2, h3, h4⟩ := h.ins x (by simp [h1])
      refine ⟨q, h2, World.ownsRow.kept h3 hg (.inr fun e => ?_), h4⟩
      simp [hdr, h2, Value.ownBlock] at e
      exact hne x (by simp [h1]) (by rw [h2, hp, e])
    · rcases List.mem_cons.1 h1 with rfl | h1
      · exact ⟨g', hp, ho, hlt⟩
      · obtain ⟨q, h2, h3, h4⟩ := h.ins x (by simp [h1])
        refine ⟨q, h2, World.ownsRow.kept h3 hg (.inr fun e => ?_), h4⟩
        simp [hdr, h2, Value.ownBlock] at e
        exact hne x (by simp [h1]) (by rw [h2, hp, e])
  · rw [List.pairwise_append, List.pairwise_cons]
    exact ⟨hnd.1, ⟨hnd.2.1.1, hnd.2.1.2⟩, fun x hx y hy => by
      rcases List.mem_cons.1 hy with rfl | hy
      · exact hnd.2.2 x hx p (by simp)
      · exact hnd.2.2 x hx y (by simp [hy])⟩
theorem split_at1 {ps : List Part} {k : Nat} {p : Part} (h : ps[k]? = some p) : ps = ps.take k ++ p :: ps.drop (k + 1) := by
  obtain ⟨hk, rfl⟩ := List.getElem?_eq_some_iff.1 h
  rw [← List.drop_eq_getElem_cons hk, List.take_append_drop]

set_option maxRecDepth 100000 in
set_option maxHeartbeats 2000000 in
theorem markEdgeSS_any (lo hi n k0 : Nat) (a : Option Addr) (c : Nat) (ps : List Part) (hn : n + pLen ps ≤ 1048576) (hk1 : k0 ≤ 1000000) (w : World) (h : FE w lo hi a n c ps) :
    Calls Try.prog 35 #[.slice a n c, .int .i64 (k0 : Int)] w fun e w' => e = .returned (.int .i64 ((k0 : Int) + (pLen ps : Int) * 2)) ∧ Rng lo hi w w' := by
  have hlen := h.len
  have H0 := hideIt h
  clear h
  go_enter Try.func35, Try.ntmps35
  go_wp2
  go_loopw [1, 5] (fun q i wr => ∃ (k s : Nat) (qs : List Part), k ≤ n ∧ i = .int .i64 (k : Int) ∧ q = .int .i64 ((k0 : Int) + (s : Int)) ∧ Hid (s = pLen (ps.take k) * 2) ∧ Hid (qs.map Part.m = ps.map Part.m) ∧ FE wr lo hi a n c qs ∧ Rng lo hi w wr) (fun _ i _ => n - (intOf i).toNat)
  case atStart => exact ⟨0, 0, ps, by omega, rfl, by simp, by show _ = _; simp [pLen], rfl, H0.out, Rng.of_below (Below.refl _ _)⟩
  case round =>
    obtain ⟨k, s, qs, hk, rfl, rfl, HS, HQ, hF, hr⟩ := hrel
    clear H0
    by_cases hlt : k < n
    · obtain ⟨p, hp⟩ : ∃ p, qs[k]? = some p := ⟨qs[k]'(by have := hF.len; omega), List.getElem?_eq_getElem _⟩
      obtain ⟨p0, hp0⟩ : ∃ p, ps[k]? = some p := ⟨ps[k]'(by omega), List.getElem?_eq_getElem _⟩
      have hpm : p.m = p0.m := by
        have h1 := congrArg (fun l => l[k]?) HQ.out
        simp only [List.getElem?_map, hp, hp0, Option.map_some, Option.some.injEq] at h1
        exact h1
      obtain ⟨g, hpa, hop, hgh⟩ := hF.ins p (List.mem_of_getElem? hp)
      rcases hF.hd with h0 | ⟨b, rfl, hbl, hc⟩
      · omega
      · have e0 := hc k p hp
        have hs := HS.out
        have HS2 : Hid (s + p.m * 2 = pLen (ps.take (k + 1)) * 2) := by show _ = _; rw [take_snocF ps k p0 hp0, pLen_snoc, hs, hpm]; omega
        have hfit : s + p.m * 2 ≤ 2097152 := by have := HS2.out; have := pLen_take ps (k + 1); omega
        rw [hpa] at e0
        have hop' : wr.ownsRow lo 28 2 (.slice (some ⟨g, 0, none⟩) p.m p.c) p.m (ecells p.es) := by have := hop; unfold hdr at this; rw [hpa] at this; exact this
        have HM := hideIt (markEdgeS_any lo g p.c p.m (k0 + s) p.es (by omega) (by omega) wr hop')
        rw [show ((k0 + s : Nat) : Int) = (k0 : Int) + (s : Int) by omega] at HM
        have hsp := split_at1 hp
        have HF2 : Hid (∀ (v : World) (es' : List EdgeV), v.ownsRow lo 28 2 (.slice (some ⟨g, 0, none⟩) p.m p.c) p.m (ecells es') → wr.grownBy v (some g) → ∃ qs', qs'.map Part.m = ps.map Part.m ∧ FE v lo hi (some ⟨b, 0, none⟩) n c qs' ∧ Rng lo hi w v) := fun v es' ho hg => by
          have hF' := hF
          rw [hsp] at hF'
          obtain ⟨h1, h2⟩ := hF'.turn hpa (es' := es') (by unfold hdr; rw [hpa]; exact ho) hg
          refine ⟨_, ?_, h1, hr.trans' h2⟩
          rw [← HQ.out]
          conv => rhs; rw [hsp]
          simp
        have b1 : (0 : Int) ≤ (k : Int) := by omega
        have b2 : (k : Int) < (n : Int) := by omega
        clear hF hr hc hp hp0 hop hop' hsp HQ hs hpm hpa
        go_wp2_with (go_at_call 28; refine HM.out.mono ?_; rintro e w1 ⟨rfl, ho1, hg1⟩; refine Hid.out ?_)
        refine (show ∀ {p : Prop}, p → Hid p from fun h => h) ?_
        obtain ⟨qs', q1, q2, q3⟩ := HF2.out w1 _ ho1 hg1
        have Hq1 := hideIt q1
        have Hq2 := hideIt q2
        clear HF2 HM ho1 hg1 q1 q2
        go_wp2
        exact ⟨⟨k + 1, s + p.m * 2, qs', by omega, by go_num, by go_num, HS2, Hq1, Hq2.out, q3⟩, by simp [intOf]; omega⟩
    · obtain rfl : k = n := by omega
      have HS2 : Hid (s = pLen ps * 2) := by show _ = _; rw [HS.out, List.take_of_length_le (by omega)]
      clear hF HS HQ
      go_wp2
      go_ret
      refine ⟨?_, hr⟩
      have := HS2.out
      subst this
      simp
end Go.Proofs.Ytcmjfnaenkdidaa
namespace Go.Proofs.Ytcmjfnaenkdidaa
open Go.RowKit

theorem FE.plen {u : World} {lo hi : Nat} {a : Option Addr} {n c : Nat} {ps : List Part} (h : FE u lo hi a n c ps) : pLen ps = lnE (ps.map Part.es) := by
  have hm : ∀ p ∈ ps, p.m = p.es.length := fun p hp => (h.es hp).1.symm
  clear h
  unfold pLen lnE
  rw [List.map_map]
  congr 1
  exact List.map_congr_left fun p hp => hm p hp
theorem pAll_eq (ps : List Part) : pAll ps = (ps.map Part.es).flatten := by
  unfold pAll
  rw [List.flatMap_def]
theorem weO_len (all : List EdgeV) : ((weO all).getD []).length ≤ all.length := by
  unfold weO
  split
  · show (srtE all).length ≤ _
    rw [srtE_len]
    exact Nat.le_refl _
  · simp
theorem toEdgeS_E {fs : List EdgeV} {n : Nat} {a : Option Addr} (c : Nat) {w u : World} (hn : n ≤ 1048576) (h : Es w w.heap.size a n fs) (hu : Below w.heap.size w u) :
    Calls Try.prog 23 #[.slice a n c] u fun e v => ∃ g, e = .returned (.slice (some ⟨g, 0, none⟩) n n) ∧ EBox v u.heap.size v.heap.size (some ⟨g, 0, none⟩) n n fs ∧ Below u.heap.size u v :=
  (toEdgeS_any fs n a c hn u (h.up hu)).mono fun _ _ ⟨g, he, ho, hb⟩ => ⟨g, he, EBox.laid ho, hb⟩
theorem wans_R {F : Nat} {args : Array Value} {o : Option (List EdgeV)} {u : World} (H : Calls Try.prog F args u (WAns2 u o)) :
    Calls Try.prog F args u fun e v => ∃ aw mw cw, e = .returned (.tuple #[.slice aw mw cw, .bool o.isSome]) ∧ EBox v u.heap.size v.heap.size aw mw cw (o.getD []) ∧ Below u.heap.size u v :=
  H.mono fun _ _ ⟨aw, mw, cw, he, ho, hb⟩ => ⟨aw, mw, cw, he, EBox.laid ho, hb⟩

set_option maxRecDepth 100000 in
set_option maxHeartbeats 8000000 in
theorem fnExactWholeEdges.walk (ts : List (List EdgeV)) (hmx : ∀ t ∈ ts, t.length ≤ maxLen) (n : Nat) (a : Option Addr) (c : Nat) (hn : n ≤ maxLen) (fs : List EdgeV) (_hfe : ∀ f ∈ fs, FitE f) (m : Nat) (ac : Option Addr) (cc : Nat) (hm : m ≤ maxLen)
    (w : World) (ho : TeS w w.heap.size a n ts) (h : Es w w.heap.size ac m fs) :
    Calls Try.prog 6 #[.slice a n c, .slice ac m cc] w fun e w' => e = .returned (.bool true) ∧ Below w.heap.size w w' := by
  have HZ := hideIt (szEdgeSS_any ts n a c hn hmx w ho)
  by_cases g1 : n + lnE ts ≤ 1048576
  case neg =>
    have hs : sze n ts = -1 := by unfold sze; rw [if_neg g1]
    rw [hs] at HZ
    clear ho h hs
    go_enter Try.func6, Try.ntmps6
    go_wp2_with (go_at_call 31; refine HZ.out.mono ?_; rintro e w1 ⟨rfl, rfl⟩)
    go_ret
    exact ⟨rfl, Below.refl _ _⟩
  case pos =>
    have hs : sze n ts = 1048576 - (n : Int) - (lnE ts : Int) := by unfold sze; rw [if_pos g1]
    rw [hs] at HZ
    clear hs
    obtain ⟨lx, hlx⟩ : ∃ lx : Int, lx = 1048576 - (n : Int) - (lnE ts : Int) := ⟨_, rfl⟩
    rw [← hlx] at HZ
    have hlx0 : 0 ≤ lx := by omega
    have d1 : decide (lx < 0) = false := decide_eq_false (by omega)
    by_cases g2 : (m : Int) ≤ lx
    case neg =>
      have HZ2 := hideIt (szEdgeS_no m ac cc lx hlx0 (by omega) hm w)
      clear ho h hlx
      go_enter Try.func6, Try.ntmps6
      go_wp2_with (first | (go_at_call 31; refine HZ.out.mono ?_; rintro e w1 ⟨rfl, hw⟩; have hw' := hw.symm; subst hw'; clear hw) | (go_at_call 20; refine HZ2.out.mono ?_; rintro e w1 ⟨rfl, hw⟩; have hw' := hw.symm; subst hw'; clear hw))
      go_ret
      exact ⟨rfl, Below.refl _ _⟩
    case pos =>
      have HZ2 := hideIt (szEdgeS_yes m ac cc lx g2 (by omega) w)
      have d2 : decide (lx - (m : Int) < 0) = false := decide_eq_false (by omega)
      have hm1 : m ≤ 1048576 := by omega
      have hnm : m + n + lnE ts ≤ 1048576 := by omega
      have HTI := hideIt (fun u (hu : Below w.heap.size w u) => toEdgeSS_any ts n a c g1 u (ho.up hu))
      have HTE := hideIt (fun u (hu : Below w.heap.size w u) => toEdgeS_E cc hm1 h hu)
      have HIs := hideIt (fun (u : World) g g' lo hi lo' hi' ps (hps : ps.map Part.es = ts) (h1 : FE u lo hi (some ⟨g, 0, none⟩) n n ps) (h2 : EBox u lo' hi' (some ⟨g', 0, none⟩) m m fs) => (show Calls Try.prog 32 #[.slice (some ⟨g, 0, none⟩) n n, .slice (some ⟨g', 0, none⟩) m m] u (fun e v => ∃ aw mw cw, e = .returned (.tuple #[.slice aw mw cw, .bool (weO (ts.flatten ++ fs)).isSome]) ∧ EBox v u.heap.size v.heap.size aw mw cw ((weO (ts.flatten ++ fs)).getD []) ∧ Below u.heap.size u v) from by
        have := wans_R (sWholeEdges_any ps n _ n fs m g' m h1.sm (by rw [h1.plen, hps]; omega) u h1.pes h2.es)
        rw [pAll_eq, hps] at this
        exact this))
      have HIi := hideIt (fun (u : World) g g' lo hi lo' hi' ps (hps : ps.map Part.es = ts) (h1 : FE u lo hi (some ⟨g, 0, none⟩) n n ps) (h2 : EBox u lo' hi' (some ⟨g', 0, none⟩) m m fs) => (show Calls Try.prog 13 #[.slice (some ⟨g, 0, none⟩) n n, .slice (some ⟨g', 0, none⟩) m m] u (fun e v => ∃ aw mw cw, e = .returned (.tuple #[.slice aw mw cw, .bool (weO (ts.flatten ++ fs)).isSome]) ∧ EBox v u.heap.size v.heap.size aw mw cw ((weO (ts.flatten ++ fs)).getD []) ∧ Below u.heap.size u v) from by
        have := wans_R (iWholeEdges_any ps n (some ⟨g, 0, none⟩) n (by intro e; cases e) fs m (some ⟨g', 0, none⟩) m (by intro e; cases e) (by omega) (by rw [h1.plen, hps]; omega) u h1.pes h2.es)
        rw [pAll_eq, hps] at this
        exact this))
      have hgl : ((weO (ts.flatten ++ fs)).getD []).length ≤ 1048576 := by
        refine Nat.le_trans (weO_len _) ?_
        rw [List.length_append, List.length_flatten, h.1]
        show lnE ts + m ≤ _
        omega
      generalize ((weO (ts.flatten ++ fs)).getD []) = es at *
      generalize (weO (ts.flatten ++ fs)).isSome = fl at *
      have hff : (fl != fl) = false := by simp
      clear ho h hlx
      go_enter Try.func6, Try.ntmps6
      go_wp2_with (go_at_call 31; refine HZ.out.mono ?_; rintro e w0 ⟨rfl, hw⟩; have hw' := hw.symm; subst hw'; clear hw; refine Hid.out ?_)
      refine (show ∀ {p : Prop}, p → Hid p from fun h => h) ?_
      go_wp2_with (go_at_call 20; refine HZ2.out.mono ?_; rintro e w0 ⟨rfl, hw⟩; have hw' := hw.symm; subst hw'; clear hw; refine Hid.out ?_)
      refine (show ∀ {p : Prop}, p → Hid p from fun h => h) ?_
      have H1 := hideIt (HTI.out w (Below.refl _ _))
      clear HZ HZ2
      go_wp2_with (go_at_call 33; refine H1.out.mono ?_; rintro e w1 ⟨g1, p1, rfl, R1, hp1, b1⟩; refine Hid.out ?_)
      refine (show ∀ {p : Prop}, p → Hid p from fun h => h) ?_
      have G1 := b1
      have H2 := hideIt (HTE.out w1 G1)
      clear H1 b1
      go_wp2_with (go_at_call 23; refine H2.out.mono ?_; rintro e w2 ⟨g2, rfl, E2, b2⟩; refine Hid.out ?_)
      refine (show ∀ {p : Prop}, p → Hid p from fun h => h) ?_
      have G2 := bupE G1 b2
      have H3 := hideIt (HIs.out w2 g1 g2 _ _ _ _ p1 hp1 (R1.up b2) E2)
      clear H2 b2 R1 E2 G1 HIs hp1
      go_wp2_with (go_at_call 32; refine H3.out.mono ?_; rintro e w3 ⟨aw, mw, cw, rfl, W3, b3⟩; refine Hid.out ?_)
      refine (show ∀ {p : Prop}, p → Hid p from fun h => h) ?_
      have G3 := bupE G2 b3
      have hmw : mw ≤ 1048576 := by rw [← W3.len]; exact hgl
      have H4 := hideIt (HTI.out w3 G3)
      have z3 := G2.size
      clear H3 b3 G2
      go_wp2_with (go_at_call 33; refine H4.out.mono ?_; rintro e w4 ⟨g4, p4, rfl, R4, hp4, b4⟩; refine Hid.out ?_)
      refine (show ∀ {p : Prop}, p → Hid p from fun h => h) ?_
      have G4 := bupE G3 b4
      have W4 := W3.up b4
      have z4 := b4.size
      have H5 := hideIt (HTE.out w4 G4)
      clear H4 b4 W3
      go_wp2_with (go_at_call 23; refine H5.out.mono ?_; rintro e w5 ⟨g5, rfl, E5, b5⟩; refine Hid.out ?_)
      refine (show ∀ {p : Prop}, p → Hid p from fun h => h) ?_
      have G5 := bupE G4 b5
      have W5 := W4.up b5
      have R5 := R4.up b5
      have z5 := b5.size
      have H6 := hideIt (HIi.out w5 g4 g5 _ _ _ _ p4 hp4 R5 E5)
      have hpl4 : pLen p4 = lnE ts := by rw [R5.plen, hp4]
      have Hte : Hid (∀ u, FE u w3.heap.size w4.heap.size (some ⟨g4, 0, none⟩) n n p4 → TeS u u.heap.size (some ⟨g4, 0, none⟩) n ts) := fun u hu => by have := hu.te; rw [hp4] at this; exact this
      clear H5 b5 W4 R4 hp4
      go_wp2_with (go_at_call 13; refine H6.out.mono ?_; rintro e w6 ⟨ag, mg, cg, rfl, A6, b6⟩; refine Hid.out ?_)
      refine (show ∀ {p : Prop}, p → Hid p from fun h => h) ?_
      have G6 := bupE G5 b6
      have W6 := W5.up b6
      have R6 := R5.up b6
      have E6 := E5.up b6
      have z6 := b6.size
      have hmg : mg ≤ 1048576 := by rw [← A6.len]; exact hgl
      have z23 := G3.size
      have H7 := hideIt (eqEB A6 W6 (by omega))
      clear H6 b6 W5 R5 E5
      go_wp2_with (go_at_call 26; refine H7.out.mono ?_; rintro e w7 ⟨rfl, b7⟩; refine Hid.out ?_)
      refine (show ∀ {p : Prop}, p → Hid p from fun h => h) ?_
      have G7 := bupE G6 b7
      have W7 := W6.up b7
      have R7 := R6.up b7
      have E7 := E6.up b7
      have A7 := A6.up b7
      have H8 := hideIt (HTI.out w7 G7)
      clear H7 b7 W6 R6 E6 A6 G6
      go_wp2_with (go_at_call 33; refine H8.out.mono ?_; rintro e w8 ⟨g8, p8, rfl, R8, hp8, b8⟩; refine Hid.out ?_)
      refine (show ∀ {p : Prop}, p → Hid p from fun h => h) ?_
      have G8 := bupE G7 b8
      have W8 := W7.up b8
      have Q8 := R7.up b8
      have E8 := E7.up b8
      have A8 := A7.up b8
      have H9 := hideIt (eqEdgeSS_same ts n (some ⟨g4, 0, none⟩) (some ⟨g8, 0, none⟩) n n (by omega) w8 (Hte.out _ Q8) (by have := R8.te; rw [hp8] at this; exact this))
      clear H8 b8 W7 R7 E7 A7 G7 hp8
      go_wp2_with (go_at_call 34; refine H9.out.mono ?_; rintro e w9 ⟨rfl, b9⟩; refine Hid.out ?_)
      refine (show ∀ {p : Prop}, p → Hid p from fun h => h) ?_
      have G9 := bupE G8 b9
      have W9 := W8.up b9
      have R9 := Q8.up b9
      have E9 := E8.up b9
      have A9 := A8.up b9
      have H10 := hideIt (HTE.out w9 G9)
      clear H9 b9 W8 R8 Q8 E8 A8 G8
      go_wp2_with (go_at_call 23; refine H10.out.mono ?_; rintro e w10 ⟨g10, rfl, X10, b10⟩; refine Hid.out ?_)
      refine (show ∀ {p : Prop}, p → Hid p from fun h => h) ?_
      have G10 := bupE G9 b10
      have W10 := W9.up b10
      have R10 := R9.up b10
      have E10 := E9.up b10
      have A10 := A9.up b10
      have H11 := hideIt (eqEB E10 X10 hm1)
      clear H10 b10 W9 R9 E9 A9 G9
      go_wp2_with (go_at_call 26; refine H11.out.mono ?_; rintro e w11 ⟨rfl, b11⟩; refine Hid.out ?_)
      refine (show ∀ {p : Prop}, p → Hid p from fun h => h) ?_
      have G11 := bupE G10 b11
      have W11 := W10.up b11
      have R11 := R10.up b11
      have E11 := E10.up b11
      have A11 := A10.up b11
      have H12 := hideIt (markEdgeSS_any w3.heap.size w4.heap.size n 1 (some ⟨g4, 0, none⟩) n p4 (by omega) (by omega) w11 R11)
      rw [hpl4] at H12
      clear H11 b11 W10 R10 E10 A10 G10 X10 hpl4
      go_wp2_with (go_at_call 35; refine H12.out.mono ?_; rintro e w12 ⟨rfl, r12⟩; refine Hid.out ?_)
      refine (show ∀ {p : Prop}, p → Hid p from fun h => h) ?_
      have G12 := G11.trans (r12.below (by omega) G11.size)
      have W12 := W11.rng r12 (.inl (by omega))
      have E12 := E11.rng r12 (.inr (by omega))
      have A12 := A11.rng r12 (.inr (by omega))
      have H13 := hideIt (markEB E12 (1 + lnE ts * 2) hm1 (by omega))
      rw [show ((1 + lnE ts * 2 : Nat) : Int) = (1 : Int) + (lnE ts : Int) * 2 by omega] at H13
      clear H12 r12 W11 R11 E11 A11 G11
      go_wp2_with (go_at_call 28; refine H13.out.mono ?_; rintro e w13 ⟨rfl, _, r13⟩; refine Hid.out ?_)
      refine (show ∀ {p : Prop}, p → Hid p from fun h => h) ?_
      have G13 := G12.trans (r13.below (by omega) G12.size)
      have W13 := W12.rng r13 (.inl (by omega))
      have A13 := A12.rng r13 (.inr (by omega))
      have d3 : decide ((1 : Int) + (lnE ts : Int) * 2 + (m : Int) * 2 < 0) = false := decide_eq_false (by omega)
      have H14 := hideIt (eqEB A13 W13 (by omega))
      clear H13 r13 W12 E12 A12 G12
      go_wp2_with (go_at_call 26; refine H14.out.mono ?_; rintro e w14 ⟨rfl, b14⟩; refine Hid.out ?_)
      refine (show ∀ {p : Prop}, p → Hid p from fun h => h) ?_
      have G14 := bupE G13 b14
      have W14 := W13.up b14
      have A14 := A13.up b14
      have H15 := hideIt (markEB A14 1 (by omega) (by omega))
      clear H14 b14 W13 A13 G13
      go_wp2_with (go_at_call 28; refine H15.out.mono ?_; rintro e w15 ⟨rfl, A15, r15⟩; refine Hid.out ?_)
      refine (show ∀ {p : Prop}, p → Hid p from fun h => h) ?_
      have G15 := G14.trans (r15.below (by omega) G14.size)
      have W15 := W14.rng r15 (.inl (by omega))
      have d4 : decide ((1 : Int) + (mg : Int) * 2 < 0) = false := decide_eq_false (by omega)
      have d5 : ((1 : Int) + (mg : Int) * 2 != (1 : Int) + (mg : Int) * 2) = false := by simp
      have H16 := hideIt (heldEB 1 A15 (by omega) (by omega))
      clear H15 r15 W14 A14 G14
      go_wp2_with (go_at_call 36; refine H16.out.mono ?_; rintro e w16 ⟨rfl, hw⟩; have hw' := hw.symm; subst hw'; clear hw; refine Hid.out ?_)
      refine (show ∀ {p : Prop}, p → Hid p from fun h => h) ?_
      have H17 := hideIt (HTI.out w15 G15)
      clear H16
      go_wp2_with (go_at_call 33; refine H17.out.mono ?_; rintro e w17 ⟨g17, p17, rfl, R17, hp17, b17⟩; refine Hid.out ?_)
      refine (show ∀ {p : Prop}, p → Hid p from fun h => h) ?_
      have G17 := bupE G15 b17
      have W17 := W15.up b17
      have A17 := A15.up b17
      have H18 := hideIt (HTE.out w17 G17)
      clear H17 b17 W15 A15 G15
      go_wp2_with (go_at_call 23; refine H18.out.mono ?_; rintro e w18 ⟨g18, rfl, E18, b18⟩; refine Hid.out ?_)
      refine (show ∀ {p : Prop}, p → Hid p from fun h => h) ?_
      have G18 := bupE G17 b18
      have W18 := W17.up b18
      have A18 := A17.up b18
      have H19 := hideIt (HIi.out w18 g17 g18 _ _ _ _ p17 hp17 (R17.up b18) E18)
      clear H18 b18 W17 A17 G17 R17 E18 hp17
      go_wp2_with (go_at_call 13; refine H19.out.mono ?_; rintro e w19 ⟨ah, mh, ch, rfl, B19, b19⟩; refine Hid.out ?_)
      refine (show ∀ {p : Prop}, p → Hid p from fun h => h) ?_
      have G19 := bupE G18 b19
      have W19 := W18.up b19
      have A19 := A18.up b19
      have hmh : mh ≤ 1048576 := by rw [← B19.len]; exact hgl
      have H20 := hideIt (eqEB B19 W19 (by omega))
      clear H19 b19 W18 A18 G18
      go_wp2_with (go_at_call 26; refine H20.out.mono ?_; rintro e w20 ⟨rfl, b20⟩; refine Hid.out ?_)
      refine (show ∀ {p : Prop}, p → Hid p from fun h => h) ?_
      have G20 := bupE G19 b20
      have A20 := A19.up b20
      have H21 := hideIt (heldEB 1 A20 (by omega) (by omega))
      clear H20 b20 W19 A19 G19 B19
      go_wp2_with (go_at_call 36; refine H21.out.mono ?_; rintro e w21 ⟨rfl, rfl⟩)
      go_ret
      exact ⟨rfl, G20⟩
end Go.Proofs.Ytcmjfnaenkdidaa
namespace Go.Proofs.Ytcmjfnaenkdidaa
open Go.RowKit Go.ChangeShapes Go.WideShapes

set_option maxRecDepth 100000 in
theorem open_intS {H : Type} {enc : TypeId × Value → H} {W : World} {r : Reach} {base : Nat} {v : Value} {d : DataW H} {p : List MemPlace}
    (hv : Value.okWide Try.prog W r base 31 v) (h : DataW.Trod enc Try.prog W 0 (fun _ => true) true 31 v d p) :
    ∃ (a : Option Addr) (n c : Nat) (ls : List Int), v = .slice a n c ∧ n ≤ maxLen ∧ Is W W.heap.size a n ls ∧ ∀ x ∈ ls, (Lit.int .i64 x).wf = true := by
  obtain ⟨a, len, cap, rfl⟩ := okWide_slice Try.underlying31 hv
  obtain ⟨fuel, hf⟩ := h
  have hf' : DataW.trod enc Try.prog W 0 (fun _ => true) true fuel 31 [.slice a len cap] = some (d, p) := by simpa [Value.cells] using hf
  rcases open_ints Try.underlying31 Try.underlying3 (by kernel_rfl) hf' with ⟨hcs, _⟩ | ⟨x, l, c, zs, hcs, _, hl, hm, hz, _, hcell, hwz⟩
  · simp at hcs
    obtain ⟨rfl, rfl, rfl⟩ := hcs
    exact ⟨none, 0, 0, [], rfl, by unfold maxLen; omega, ⟨rfl, .inl rfl⟩, by simp⟩
  · simp at hcs
    obtain ⟨rfl, rfl, rfl⟩ := hcs
    have hzl : zs.length = cap := by simpa using hz
    by_cases h0 : len = 0
    · subst h0
      exact ⟨_, 0, cap, [], rfl, by unfold maxLen; omega, ⟨rfl, .inl rfl⟩, by simp⟩
    · obtain ⟨b, off, rfl, hc⟩ := ints_at hcell (by omega)
      have hb : b < W.heap.size := World.block_lt_of_cell? W _ (hc 0 (by omega))
      refine ⟨_, len, cap, zs.take len, rfl, by omega, ⟨by rw [List.length_take]; omega, .inr ⟨b, off, rfl, hb, fun j x hx => ?_⟩⟩, fun x hx => hwz x (List.mem_of_mem_take hx)⟩
      have hj : j < len := by have := (List.getElem?_eq_some_iff.1 hx).1; rw [List.length_take] at this; omega
      rw [List.getElem?_take_of_lt hj] at hx
      rw [hc j (by omega), List.getD_eq_getElem?_getD, hx]
      rfl
set_option maxRecDepth 100000 in
theorem open_edgeL {H : Type} {enc : TypeId × Value → H} {W : World} {r : Reach} {base : Nat} {v : Value} {d : DataW H} {p : List MemPlace}
    (hv : Value.okWide Try.prog W r base 45 v) (h : DataW.Trod enc Try.prog W 0 (fun _ => true) true 45 v d p) :
    ∃ (a : Option Addr) (n c : Nat) (fs : List EdgeV), v = .slice a n c ∧ n ≤ maxLen ∧ Es W W.heap.size a n fs ∧ ∀ f ∈ fs, FitE f := by
  obtain ⟨a, len, cap, rfl⟩ := okWide_slice Try.underlying45 hv
  obtain ⟨fuel, hf⟩ := h
  have hf' : DataW.trod enc Try.prog W 0 (fun _ => true) true fuel 45 [.slice a len cap] = some (d, p) := by simpa [Value.cells] using hf
  obtain ⟨hl, fs, h1, h2⟩ := open_edgeS hf'
  exact ⟨a, len, cap, fs, rfl, hl, h1, h2⟩
end Go.Proofs.Ytcmjfnaenkdidaa
