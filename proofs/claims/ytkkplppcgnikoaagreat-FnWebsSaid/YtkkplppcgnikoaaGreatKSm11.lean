/- What a right web's labels tell is what its graph's labels tell; pure. The specification's l05Put and AddEdge. The specification's l05Without and TakeEdge. WebAdd. Lists of ints and of edges as the laws of chapter 11 look at them; the edges inside of a shard (pure). sameInts, sameEdges: two lists of one content. -/
import Derived.Test.YtkkplppcgnikoaaGreatKMarkE
import Derived.Test.YtkkplppcgnikoaaGreatKHas6
import Derived.Test.YtkkplppcgnikoaaGreatKTogeth
import Derived.Test.YtkkplppcgnikoaaGreatKISt
import Derived.Deep.AppendLies
import Derived.Test.YtkkplppcgnikoaaGreatKSAdd9
import Derived.Test.YtkkplppcgnikoaaGreatKSWa9
namespace Go.Proofs.YtkkplppcgnikoaaGreat
open Go.RowKit

theorem lb_at {nn : Nat} {L : List Ld} (h : WOk (nn : Int) L) {v : Nat} (hv : v < nn) : ∃ m : Int, (lbO (nn : Int) L)[v]? = some m ∧ 0 ≤ m ∧ m < (nn : Int) ∧ Conn (gE L) (v : Int) m ∧ ∀ u : Int, Conn (gE L) (v : Int) u → m ≤ u := by
  obtain ⟨ts, hts, hall⟩ := h.trees 0 (by omega)
  have e0 : ((0 : Nat) : Int) = 0 := rfl
  rw [e0] at hts hall
  rw [lbO_yes h hts]
  obtain ⟨t, ht, hvt⟩ := hall.cov (v : Int) (by omega) (by omega)
  have hq := hall.fp.q.1 t ht
  obtain ⟨j, hj, ej⟩ := mn_range hq.1 hq.2
  refine ⟨mnV t, labW_at hall hv ht hvt, by omega, by omega, (conn_gE h).2 ((hall.conn t ht _ hvt _).1 (mn_mem hq.1)), fun u hu => mn_leF hq.1 ((hall.conn t ht _ hvt _).2 ((conn_gE h).1 hu))⟩
theorem lb_len {nn : Nat} {L : List Ld} (h : WOk (nn : Int) L) : (lbO (nn : Int) L).length = nn := (labC_lb h).1
/-- the labels of a right web are its graph's -/
theorem lb_labE {nn : Nat} {L : List Ld} (h : WOk (nn : Int) L) : O.labE (nn : Int) (gE L) = lbO (nn : Int) L := by
  have hg : O.gB (nn : Int) (gE L) = true := h.1
  have hE : O.EsIn (gE L) nn := by have := O.esIn_of hg; rw [Int.toNat_natCast] at this; exact this
  unfold O.labE
  rw [if_pos hg, Int.toNat_natCast]
  refine List.ext_getElem? fun i => ?_
  by_cases hi : i < nn
  · obtain ⟨m, h1, h2, h3, h4, h5⟩ := lb_at h hi
    rw [h1, O.atI_some (ls := O.labs (gE L) nn nn) (by rw [O.labs_len]; exact hi)]
    congr 1
    have hs := O.sound_labs hE nn (i : Int) (by omega) (by omega)
    have hf : O.atI (O.labs (gE L) nn nn) (i : Int) ≤ m := O.labs_full hE (u := m) (v := (i : Int)) h2 h3 h4.symm
    have := h5 _ hs.2
    omega
  · rw [List.getElem?_eq_none (by rw [O.labs_len]; omega), List.getElem?_eq_none (by rw [lb_len h]; omega)]
/-- what a right web tells together is what its graph tells -/
theorem tg_tog {nn : Nat} {L : List Ld} (h : WOk (nn : Int) L) {x y : Int} (hx : 0 ≤ x ∧ x < (nn : Int)) (hy : 0 ≤ y ∧ y < (nn : Int)) : O.togB (O.labE (nn : Int) (gE L)) x y = tgB (nn : Int) L x y := by
  have hg : O.gB (nn : Int) (gE L) = true := h.1
  have hE : O.EsIn (gE L) nn := by have := O.esIn_of hg; rw [Int.toNat_natCast] at this; exact this
  have hL : O.labE (nn : Int) (gE L) = O.labs (gE L) nn nn := by unfold O.labE; rw [if_pos hg, Int.toNat_natCast]
  rw [Bool.eq_iff_iff, tg_conn h hx hy, hL]
  unfold O.togB
  rw [decide_eq_true_eq, O.labs_len]
  have sx := O.sound_labs hE nn x hx.1 hx.2
  have sy := O.sound_labs hE nn y hy.1 hy.2
  constructor
  · rintro ⟨_, e⟩
    have c1 : Conn (gE L) x (O.atI (O.labs (gE L) nn nn) x) := sx.2
    have c2 : Conn (gE L) y (O.atI (O.labs (gE L) nn nn) y) := sy.2
    rw [e] at c1
    exact c1.trans c2.symm
  · intro hc
    refine ⟨⟨hx, hy⟩, Int.le_antisymm ?_ ?_⟩
    · have c2 : Conn (gE L) y (O.atI (O.labs (gE L) nn nn) y) := sy.2
      exact O.labs_full hE sy.1.1 sy.1.2 (hc.trans c2).symm
    · have c1 : Conn (gE L) x (O.atI (O.labs (gE L) nn nn) x) := sx.2
      exact O.labs_full hE sx.1.1 sx.1.2 (hc.symm.trans c1).symm
end Go.Proofs.YtkkplppcgnikoaaGreat
namespace Go.Proofs.YtkkplppcgnikoaaGreat.O
open Go.RowKit

/-- the world behind the edge's box -/
def wE (w : World) (e : EdgeV) : World := w.alloc (.cells #[.int .i64 e.1, .int .i64 e.2] 28)
theorem wE_size (w : World) (e : EdgeV) : (wE w e).heap.size = w.heap.size + 1 := by simp [wE]
/-- nothing of it has turned, and the row is ours -/
structure PutSt (w : World) (e : EdgeV) (a : Option Addr) (m c : Nat) (gs : List EdgeV) (u : World) : Prop where
  own : u.ownsRow (w.heap.size + 1) 28 2 (.slice a m c) m (ecells gs)
  bel : Below (w.heap.size + 1) (wE w e) u
theorem PutSt.size {w : World} {e : EdgeV} {a : Option Addr} {m c : Nat} {gs : List EdgeV} {u : World} (h : PutSt w e a m c gs u) : w.heap.size + 1 ≤ u.heap.size := by have := h.bel.size; rw [wE_size] at this; exact this
theorem PutSt.below {w : World} {e : EdgeV} {a : Option Addr} {m c : Nat} {gs : List EdgeV} {u : World} (h : PutSt w e a m c gs u) : Below w.heap.size w u :=
  ((Below.refl w.heap.size w).alloc (Nat.le_refl _) _).trans (h.bel.mono (by omega))
theorem PutSt.up {w : World} {e : EdgeV} {a : Option Addr} {m c : Nat} {gs : List EdgeV} {u v : World} (h : PutSt w e a m c gs u) (hb : Below u.heap.size u v) : PutSt w e a m c gs v :=
  ⟨World.ownsRow.kept h.own (show u.grownBy v none from ⟨hb.os, hb.tape, hb.output, hb.size, fun k hk _ => hb.block k hk⟩) (by cases hv : (Value.slice a m c).ownBlock <;> simp), h.bel.trans (hb.mono h.size)⟩
theorem PutSt.box {w : World} {e : EdgeV} {a : Option Addr} {m c : Nat} {gs : List EdgeV} {u : World} (h : PutSt w e a m c gs u) : u.cell? ⟨w.heap.size, 0, none⟩ = some (.int .i64 e.1) ∧ u.cell? ⟨w.heap.size, 1, none⟩ = some (.int .i64 e.2) := by
  refine ⟨?_, ?_⟩
  · rw [h.bel.cell (by show w.heap.size < _; omega)]; simp [wE]
  · rw [h.bel.cell (by show w.heap.size < _; omega)]; simp [wE]
/-- behind an append of one edge -/
theorem PutSt.app {w : World} {e : EdgeV} {a : Option Addr} {m c : Nat} {gs : List EdgeV} {u : World} (h : PutSt w e a m c gs u) {g : EdgeV} {o : Obj} {v : Value} {u' : World}
    (ho : u'.ownsRow (w.heap.size + 1) 28 2 v (m + 1) (ecells gs ++ [.int .i64 g.1, .int .i64 g.2])) (hg : (u.alloc o).grownBy u' (Value.slice a m c).ownBlock) :
    ∃ a' c', v = .slice a' (m + 1) c' ∧ PutSt w e a' (m + 1) c' (gs ++ [g]) u' := by
  obtain ⟨a', c', rfl⟩ := own_form ho
  rw [← ecells_snoc] at ho
  refine ⟨a', c', rfl, ho, ?_⟩
  exact (h.bel.alloc h.size _).grown hg (by have := h.size; simp; omega) (fun j hj => (h.own.lt j hj).1)
theorem news1 (w : World) (g : EdgeV) : ∀ j u, ([Value.int .i64 g.1, Value.int .i64 g.2] : List Value)[j]? = some u → (w.alloc (.cells #[.int .i64 g.1, .int .i64 g.2] 28)).cell? ((⟨w.heap.size, 0, none⟩ : Addr).add j) = some u := by
  intro j u hj
  rcases j with _ | _ | j
  · simp at hj; subst hj; simp [Addr.add]
  · simp at hj; subst hj; simp [Addr.add]
  · simp at hj

end Go.Proofs.YtkkplppcgnikoaaGreat.O
namespace Go.Proofs.YtkkplppcgnikoaaGreat.O
open Go.RowKit

theorem PutSt.drewN {w : World} {e : EdgeV} {a : Option Addr} {m c : Nat} {gs : List EdgeV} {u : World} (h : PutSt w e a m c gs u) (k : Nat) : PutSt w e a m c gs (u.drewN k) := h.up (below_drewN (Below.refl _ _) k)

set_option maxRecDepth 100000 in
set_option maxHeartbeats 4000000 in
theorem l05Without_any (es : List EdgeV) (e : EdgeV) (n : Nat) (a : Option Addr) (c : Nat) (hn : n ≤ 1048576) (w : World) (h : Es w w.heap.size a n es) :
    Calls Tryz.prog 73 #[.slice a n c, .agg #[.int .i64 e.1, .int .i64 e.2]] w fun x w' => ∃ a' m' c', x = .returned (.slice a' m' c') ∧ w'.ownsRow w.heap.size 28 2 (.slice a' m' c') m' (ecells (outE es e)) ∧ Below w.heap.size w w' := by
  obtain ⟨i0, hi, hz0, hz1, hz2⟩ := info_parts infoIE
  obtain ⟨hlen, hrow⟩ := h
  have HR := hideIt hrow
  clear hrow
  go_enter Tryz.func73, Tryz.ntmps73
  go_wp2
  go_loopw [5, 6] (fun v i wr => ∃ (k m' : Nat) (a' : Option Addr) (c' : Nat) (gs : List EdgeV), k ≤ n ∧ i = .int .i64 (k : Int) ∧ v = .slice a' m' c' ∧ m' ≤ k ∧ Hid (gs = outE (es.take k) e) ∧ PutSt w e a' m' c' gs wr) (fun _ i _ => n - (intOf i).toNat)
  case atStart =>
    refine ⟨0, 0, _, _, [], by omega, rfl, rfl, by omega, by show _ = _; simp [outE], ?_, ?_⟩
    · have h0 := World.ownsRow_lit (base := w.heap.size + 1) (e := 28) (size := 2) (wE w e) #[] 0 (by rw [wE_size]; omega) (by unfold maxLen; omega) (by simp)
      rw [wE_size] at h0
      simpa [ecells, wE] using h0
    · have h1 := (Below.refl (w.heap.size + 1) (wE w e)).alloc (by rw [wE_size]; omega) (.cells #[] 28)
      simpa [wE] using h1
  case round =>
    obtain ⟨k, m', a', c', gs, hk, rfl, rfl, hm, hgs, hst⟩ := hrel
    by_cases hlt : k < n
    · rcases HR.out with hz | ⟨b, off, rfl, hbl, hc⟩
      · omega
      · obtain ⟨f, hf⟩ : ∃ f, es[k]? = some f := ⟨es[k]'(by omega), List.getElem?_eq_getElem (by omega)⟩
        obtain ⟨c0, c1⟩ := hc k f hf
        have b1 : (0 : Int) ≤ (k : Int) := by omega
        have b2 : (k : Int) < (n : Int) := by omega
        have e0 : wr.cell? ⟨b, off + k * 2, none⟩ = some (.int .i64 f.1) := by rw [hst.below.cell hbl]; exact c0
        have e1 : wr.cell? ⟨b, off + k * 2 + 1, none⟩ = some (.int .i64 f.2) := by rw [hst.below.cell hbl]; exact c1
        obtain ⟨x0, x1⟩ := hst.box
        by_cases hfe : f = e
        · subst hfe
          have HG : Hid (gs = outE (es.take (k + 1)) f) := by
            show _ = _
            rw [take_snocF es k f hf, hgs.out]
            simp [outE]
          clear hc hf c0 c1 hgs
          go_wp2
          go_quiet (fail)
          go_wp2
          exact ⟨⟨k + 1, m', a', c', gs, by omega, by go_num, rfl, by omega, HG, hst.drewN _⟩, by simp [intOf]; omega⟩
        · have HG : Hid (gs ++ [f] = outE (es.take (k + 1)) e) := by
            show _ = _
            rw [take_snocF es k f hf, hgs.out]
            simp [outE, hfe]
          have z1 := hst.size
          clear hc hf c0 c1 hgs
          have hk4 : (wr.drew.cell? ⟨b, off + k * 2, none⟩ = some (.int .i64 f.1) ∧ wr.drew.cell? ⟨b, off + k * 2 + 1, none⟩ = some (.int .i64 f.2)) ∧ wr.drew.cell? ⟨w.heap.size, 0, none⟩ = some (.int .i64 e.1) ∧ wr.drew.cell? ⟨w.heap.size, 1, none⟩ = some (.int .i64 e.2) := ⟨⟨e0, e1⟩, x0, x1⟩
          by_cases h1 : f.1 = e.1
          · obtain ⟨fa, fb⟩ := f
            dsimp only at *
            subst h1
            have h2 : ¬ fb = e.2 := fun h2 => hfe (Prod.ext rfl h2)
            have d2 : (fb == e.2) = false := by simpa using h2
            clear hfe
            go_wp2
            go_region_held3 (fun u => (u.cell? ⟨b, off + k * 2, none⟩ = some (.int .i64 e.1) ∧ u.cell? ⟨b, off + k * 2 + 1, none⟩ = some (.int .i64 fb)) ∧ u.cell? ⟨w.heap.size, 0, none⟩ = some (.int .i64 e.1) ∧ u.cell? ⟨w.heap.size, 1, none⟩ = some (.int .i64 e.2)) (exact hk4) (fail)
            go_wp2_with (at_builtin; refine wpList_append_own _ rfl _ _ 31 rfl (w.heap.size + 1) 28 i0 _ 2 16 Tryz.underlying31 hi hz0 hz1 hz2 rfl (by decide) _ _ _ rfl ((hst.own.alloc _).drew) ⟨wr.heap.size, 0, none⟩ 1 1 [.int .i64 e.1, .int .i64 fb] rfl rfl (news1 _ (e.1, fb)) (by intro u hu; simp at hu; rcases hu with rfl | rfl <;> rfl) (by unfold maxLen; omega) (by omega) (by simp; omega) ?_)
            intro v2 w2 hown2 hg2 hn2
            obtain ⟨a2, c2, rfl, hst2⟩ := (hst.up (Below.refl _ _).drew).app (g := (e.1, fb)) (o := .cells #[.int .i64 e.1, .int .i64 fb] 28) hown2 hg2
            clear hown2 hg2 hn2 e0 e1 x0 x1 hst hk4
            go_wp2
            exact ⟨⟨k + 1, m' + 1, a2, c2, gs ++ [(e.1, fb)], by omega, by go_num, rfl, by omega, HG, hst2⟩, by simp [intOf]; omega⟩
          · have d1 : (f.1 == e.1) = false := by simpa using h1
            clear hfe
            go_wp2
            go_region_held3 (fun u => (u.cell? ⟨b, off + k * 2, none⟩ = some (.int .i64 f.1) ∧ u.cell? ⟨b, off + k * 2 + 1, none⟩ = some (.int .i64 f.2)) ∧ u.cell? ⟨w.heap.size, 0, none⟩ = some (.int .i64 e.1) ∧ u.cell? ⟨w.heap.size, 1, none⟩ = some (.int .i64 e.2)) (exact hk4) (fail)
            go_wp2_with (at_builtin; refine wpList_append_own _ rfl _ _ 31 rfl (w.heap.size + 1) 28 i0 _ 2 16 Tryz.underlying31 hi hz0 hz1 hz2 rfl (by decide) _ _ _ rfl ((hst.own.alloc _).drew) ⟨wr.heap.size, 0, none⟩ 1 1 [.int .i64 f.1, .int .i64 f.2] rfl rfl (news1 _ f) (by intro u hu; simp at hu; rcases hu with rfl | rfl <;> rfl) (by unfold maxLen; omega) (by omega) (by simp; omega) ?_)
            intro v2 w2 hown2 hg2 hn2
            obtain ⟨a2, c2, rfl, hst2⟩ := (hst.up (Below.refl _ _).drew).app (o := .cells #[.int .i64 f.1, .int .i64 f.2] 28) hown2 hg2
            clear hown2 hg2 hn2 e0 e1 x0 x1 hst hk4
            go_wp2
            exact ⟨⟨k + 1, m' + 1, a2, c2, gs ++ [f], by omega, by go_num, rfl, by omega, HG, hst2⟩, by simp [intOf]; omega⟩
    · obtain rfl : k = n := by omega
      have HF : Hid (gs = outE es e) := by show _ = _; rw [hgs.out, List.take_of_length_le (by omega)]
      have HO := hideIt (own_mono hst.own (show w.heap.size ≤ w.heap.size + 1 by omega))
      have hb := hst.below
      clear hgs hst
      go_wp2
      go_ret
      exact ⟨a', m', c', rfl, by rw [← HF.out]; exact HO.out, hb⟩

set_option maxRecDepth 100000 in
set_option maxHeartbeats 4000000 in
theorem sTakeEdge_any (N : Int) (es : List EdgeV) (f : EdgeV) (n : Nat) (a : Option Addr) (c : Nat) (hn : n ≤ 1048576) (w : World) (h : Es w w.heap.size a n es) :
    Calls Tryz.prog 15 #[.agg #[.int .i64 N, .slice a n c], .agg #[.int .i64 f.1, .int .i64 f.2]] w fun e w' => GAns w N (takE N es f) e w' := by
  have hA : Hid (∀ u, In3 w N a n c f u → Es u u.heap.size a n es) := fun u hu => h.up hu.below
  have HGO : Hid (∀ u, In3 w N a n c f u → Calls Tryz.prog 72 #[.agg #[.int .i64 N, .slice a n c]] u fun e v => e = .returned (.bool (gB N es)) ∧ In3 w N a n c f v) := fun u hu =>
    (sGraphOk_any N es n a c hn u (hA.out u hu)).mono fun _ _ ⟨he, hb⟩ => ⟨he, hu.up hb⟩
  have HHE : Hid (∀ u, In3 w N a n c f u → Calls Tryz.prog 13 #[.agg #[.int .i64 N, .slice a n c], .agg #[.int .i64 f.1, .int .i64 f.2]] u fun e v => e = .returned (.bool (hasB es f)) ∧ In3 w N a n c f v) := fun u hu =>
    (sHasEdge_any N es f n a c hn u (hA.out u hu)).mono fun _ _ ⟨he, hb⟩ => ⟨he, hu.up hb⟩
  have S1 := In3.start w N a n c f
  have HK : Hid (∀ u, In3 w N a n c f u → (u.cell? ⟨w.heap.size, 0, none⟩ = some (.int .i64 N) ∧ u.cell? ⟨w.heap.size, 1, none⟩ = some (.slice a n c)) ∧ (u.cell? ⟨w.heap.size + 1, 0, none⟩ = some (.int .i64 f.1) ∧ u.cell? ⟨w.heap.size + 1, 1, none⟩ = some (.int .i64 f.2))) := fun u hu => hu.cells
  cases hG : gB N es with
  | false =>
    rw [hG] at HGO
    have HO := hideIt (show takE N es f = none by unfold takE; rw [hG, if_neg (by simp)])
    clear hG HHE h hA
    go_enter Tryz.func15, Tryz.ntmps15
    go_wp2_with (go_at_call 72; refine (HGO.out _ S1).mono ?_; rintro e w4 ⟨rfl, S4⟩; refine Hid.out ?_)
    refine (show ∀ {p : Prop}, p → Hid p from fun h => h) ?_
    obtain ⟨⟨r0, r1⟩, r2, r3⟩ := S4.out
    have s4 := S4.size
    go_wp2
    exact bodyPost_ret (v := .tuple #[.agg #[.int .i64 0, .slice none 0 0], .bool false]) (by simp [results, Tryz.results15, go_sem, r0, r1]) rfl (gans_no S4 HO.out)
  | true =>
    rw [hG] at HGO
    cases hH : hasB es f with
    | false =>
      rw [hH] at HHE
      have HO := hideIt (show takE N es f = none by unfold takE; rw [hH, if_neg (by simp)])
      clear hG hH h hA
      go_enter Tryz.func15, Tryz.ntmps15
      go_wp2_with (go_at_call 72; refine (HGO.out _ S1).mono ?_; rintro e w4 ⟨rfl, S4⟩; refine Hid.out ?_)
      refine (show ∀ {p : Prop}, p → Hid p from fun h => h) ?_
      obtain ⟨⟨k0, k1⟩, k2, k3⟩ := HK.out _ S4
      go_wp2_with (go_at_call 13; refine (HHE.out _ S4).mono ?_; rintro e w6 ⟨rfl, S6⟩; refine Hid.out ?_)
      refine (show ∀ {p : Prop}, p → Hid p from fun h => h) ?_
      obtain ⟨⟨r0, r1⟩, r2, r3⟩ := S6.out
      have s6 := S6.size
      clear k0 k1 k2 k3
      go_wp2
      exact bodyPost_ret (v := .tuple #[.agg #[.int .i64 0, .slice none 0 0], .bool false]) (by simp [results, Tryz.results15, go_sem, r0, r1]) rfl (gans_no S6 HO.out)
    | true =>
      rw [hH] at HHE
      have HO := hideIt (show takE N es f = some (outE es f) by unfold takE; rw [hG, hH, if_pos (by simp)])
      have HPt : Hid (∀ u, In3 w N a n c f u → Calls Tryz.prog 73 #[.slice a n c, .agg #[.int .i64 f.1, .int .i64 f.2]] u fun x v => ∃ a' m' c', x = .returned (.slice a' m' c') ∧ Hid (v.ownsRow u.heap.size 28 2 (.slice a' m' c') m' (ecells (outE es f))) ∧ In3 w N a n c f v) := fun u hu =>
        (l05Without_any es f n a c hn u (hA.out u hu)).mono fun _ _ ⟨a', m', c', he, ho, hb⟩ => ⟨a', m', c', he, ho, hu.up hb⟩
      clear hG hH h
      go_enter Tryz.func15, Tryz.ntmps15
      go_wp2_with (go_at_call 72; refine (HGO.out _ S1).mono ?_; rintro e w4 ⟨rfl, S4⟩; refine Hid.out ?_)
      refine (show ∀ {p : Prop}, p → Hid p from fun h => h) ?_
      obtain ⟨⟨k0, k1⟩, k2, k3⟩ := HK.out _ S4
      go_wp2_with (go_at_call 13; refine (HHE.out _ S4).mono ?_; rintro e w7 ⟨rfl, S7⟩; refine Hid.out ?_)
      refine (show ∀ {p : Prop}, p → Hid p from fun h => h) ?_
      clear k0 k1 k2 k3 S4 S1 HGO HHE
      have S7d := S7.drew
      have z7 := S7.size
      have HPc := hideIt (HPt.out _ S7d)
      clear HPt hA
      go_wp2
      go_region_held3 (fun u => (u.cell? ⟨w.heap.size, 0, none⟩ = some (.int .i64 N) ∧ u.cell? ⟨w.heap.size, 1, none⟩ = some (.slice a n c)) ∧ (u.cell? ⟨w.heap.size + 1, 0, none⟩ = some (.int .i64 f.1) ∧ u.cell? ⟨w.heap.size + 1, 1, none⟩ = some (.int .i64 f.2)))
        (first | exact S8.cellsSet _ _ | exact HK.out _ S8 | exact HK.out _ S7d)
        ((go_at_call 73; refine HPc.out.mono ?_; rintro e w8 ⟨a', m', c', rfl, hown8, S8⟩; obtain ⟨⟨r0, r1⟩, r2, r3⟩ := S8.out))
      all_goals
        go_wp2
        exact bodyPost_ret (v := .tuple #[.agg #[.int .i64 N, .slice a' m' c'], .bool true]) (by simp [results, Tryz.results15, go_sem, r0, r1]) rfl (gans_yes S8 HO.out (by show _ ≤ w7.heap.size; omega) hown8.out)
end Go.Proofs.YtkkplppcgnikoaaGreat.O
namespace Go.Proofs.YtkkplppcgnikoaaGreat
open Go.RowKit

set_option maxRecDepth 100000 in
set_option maxHeartbeats 8000000 in
theorem iWebAdd_any (N : Int) (ls : List Ld) (f : EdgeV) (n : Nat) (a : Option Addr) (c : Nat) (hsl : Sl a n c) (hn : n ≤ 1048576) (w : World) (h : Ls w w.heap.size a n ls) :
    Calls Tryz.prog 16 #[.agg #[.int .i64 N, .slice a n c], .agg #[.int .i64 f.1, .int .i64 f.2]] w fun e w' => WAns w N (waO N ls f) e w' := by
  have hA : Hid (∀ u, In3w w N a n c f u → Ls u u.heap.size a n ls) := fun u hu => h.up hu.below
  have HGr : Hid (∀ u, In3w w N a n c f u → Calls Tryz.prog 12 #[.agg #[.int .i64 N, .slice a n c]] u fun e v => ∃ g, e = .returned (.agg #[.int .i64 N, .slice (some ⟨g, 0, none⟩) n n]) ∧ Hid (Es v v.heap.size (some ⟨g, 0, none⟩) n (gE ls)) ∧ In3w w N a n c f v ∧ Below u.heap.size u v) := fun u hu =>
    (iGraphOf_any N ls n a c hn u (hA.out u hu)).mono fun _ _ ⟨g, he, ho, hb⟩ => ⟨g, he, Es_of_own ho, hu.up hb, hb⟩
  have HAd : Hid (∀ g u, In3w w N a n c f u → Hid (Es u u.heap.size (some ⟨g, 0, none⟩) n (gE ls)) → Calls Tryz.prog 74 #[.agg #[.int .i64 N, .slice (some ⟨g, 0, none⟩) n n], .agg #[.int .i64 f.1, .int .i64 f.2]] u fun e v => ∃ a1 m1 c1, e = .returned (.tuple #[.agg #[.int .i64 (if (addE N (gE ls) f).isSome then N else 0), .slice a1 m1 c1], .bool (addE N (gE ls) f).isSome]) ∧ Hid (v.ownsRow u.heap.size 28 2 (.slice a1 m1 c1) m1 (ecells ((addE N (gE ls) f).getD []))) ∧ In3w w N a n c f v ∧ Below u.heap.size u v) := fun g u hu he =>
    (iAddEdge_any N (gE ls) f n (some ⟨g, 0, none⟩) n ⟨Nat.le_refl _, by unfold maxLen; omega, .inr ⟨g, 0, rfl⟩⟩ hn u he.out).mono fun _ _ ⟨a1, m1, c1, h1, h2, h3⟩ => ⟨a1, m1, c1, h1, h2, hu.up h3, h3⟩
  have S1 := In3w.start w N a n c f
  have HK : Hid (∀ u, In3w w N a n c f u → ((u.cell? ⟨w.heap.size, 0, none⟩ = some (.int .i64 N) ∧ u.cell? ⟨w.heap.size, 1, none⟩ = some (.slice a n c)) ∧ (u.cell? ⟨w.heap.size + 1, 0, none⟩ = some (.int .i64 f.1) ∧ u.cell? ⟨w.heap.size + 1, 1, none⟩ = some (.int .i64 f.2))) ∧ In3w w N a n c f u) := fun u hu => ⟨hu.cells, hu⟩
  obtain ⟨O, hO⟩ : ∃ O, addE N (gE ls) f = O := ⟨_, rfl⟩
  rw [hO] at HAd
  have HO := hideIt hO
  have Hls := hideIt h
  clear h hO
  generalize hfl : O.isSome = fl at *
  generalize hM : (if fl = true then N else 0) = M at *
  generalize hgs : O.getD [] = gs at *
  go_enter Tryz.func16, Tryz.ntmps16
  go_upto_region 1 with fail
  obtain ⟨W, hW⟩ : ∃ W, W = w3w w N a n c f := ⟨_, rfl⟩
  have hW' : (((w.alloc (.cells #[.int .i64 N, .slice a n c] 26)).alloc (.cells #[.int .i64 f.1, .int .i64 f.2] 28)).alloc (.cells #[.int .i64 0, .slice none 0 0] 26)) = W := hW.symm
  rw [hW']
  rw [← hW] at S1
  clear hW hW'
  have zW := S1.size
  go_cut [6, 7] (fun p ok wx => ∃ b a1 m1 c1, p = .pointer (some ⟨b, 0, none⟩) ∧ ok = .bool fl ∧ In3w w N a n c f wx ∧ Hid (EB wx (w.heap.size + 3) b M a1 m1 c1 gs))
  case first =>
    have hS1 := HK.out _ S1.drew
    clear hA Hls HO hsl
    go_region_held3 (fun u => ((u.cell? ⟨w.heap.size, 0, none⟩ = some (.int .i64 N) ∧ u.cell? ⟨w.heap.size, 1, none⟩ = some (.slice a n c)) ∧ (u.cell? ⟨w.heap.size + 1, 0, none⟩ = some (.int .i64 f.1) ∧ u.cell? ⟨w.heap.size + 1, 1, none⟩ = some (.int .i64 f.2))) ∧ In3w w N a n c f u)
      (first | assumption | exact HK.out _ (InW.alloc (And.right (by assumption)) _) | exact HK.out _ (InW.set (InW.set (And.right (by assumption)) _ _ _ (by omega)) _ _ _ (by omega)))
      (first
        | (go_at_call 12; refine (HGr.out _ (And.right (by assumption))).mono ?_; rintro e w3 ⟨g3, rfl, ho3, hg3, hb3⟩; have hS3 := HK.out _ hg3; have z3 := hg3.size; (first | have bx := Box7.up (Box7.new W.drew 33 (.int .i64 0) (.slice none 0 0) W.heap.size rfl) hb3 | skip))
        | (go_at_call 74; refine (HAd.out _ _ (And.right (by assumption)) (by first | exact ho3 | exact hideIt (Es.up (Hid.out ho3) ((Below.refl _ _).alloc (Nat.le_refl _) _)))).mono ?_; rintro e w4 ⟨a1, m1, c1, rfl, ho4, hg4, hb4⟩; have hS4 := HK.out _ hg4; have z4 := hg4.size; (first | have bx := Box7.up bx hb4 | have bx := Box7.up (Box7.new w3 33 (.int .i64 0) (.slice none 0 0) w3.heap.size rfl) hb4 | skip); (try (have bc0 := bx.cell0; have bc1 := bx.cell1; have bz0 := bx.frozen 0; have bz1 := bx.frozen 1))))
    all_goals
      go_wp2_with fail
      go_meet
      first
        | exact ⟨_, a1, m1, c1, rfl, rfl, InW.set (InW.set hg4 _ _ _ (by omega)) _ _ _ (by omega), EB.stored bx (by omega) ho4.out⟩
        | exact ⟨_, a1, m1, c1, rfl, rfl, InW.alloc hg4 _, EB.laid (by omega) ho4.out⟩
  case rest =>
    obtain ⟨b, a1, m1, c1, rfl, rfl, S2, hE2⟩ := hcut
    obtain ⟨⟨⟨k0, k1⟩, k2, k3⟩, _⟩ := HK.out _ S2
    have s2 := S2.size
    by_cases hW : WOk N ls
    · obtain ⟨nn, rfl, hn1, hn12⟩ := gB_n hW.1
      obtain ⟨ts, hts, hall⟩ := hW.trees 0 (by omega)
      have hts : ftK (fE ls 0) nn nn = some ts := hts
      have HG := hideIt (groundOf_yes nn ls n a c hn hW ts hts _ (hA.out _ S2))
      by_cases hy : eB (nn : Int) f = true ∧ hasB (gE ls) f = false
      · have hO2 : O = some (putE (gE ls) f) := by rw [← HO.out]; exact addE_yes hW hy.1 hy.2
        subst hO2
        simp only [Option.isSome_some] at hfl
        subst hfl
        simp only [if_true] at hM
        subst hM
        simp only [Option.getD_some] at hgs
        subst hgs
        have HW := hideIt (waO_yes hW hy.1 hy.2)
        obtain ⟨k, hk, hix, hput⟩ := put_at (x := cmL (nn : Int) ls f) hW.1 hy.2
        have hix : idxE (putE (gE ls) f) f = (k : Int) := hix
        have hl66 := (gB_chk hW.1).2.2
        have hpl := putE_length (gE ls) f
        rw [gE_len] at hl66 hpl
        have hlen : ls.length = n := Hls.out.1
        have HR : Hid (∀ (v : Int) (a' : Option Addr) (m c' : Nat) (u : World), Ts u u.heap.size a' m ts → Calls Tryz.prog 76 #[.agg #[.int .i64 (nn : Int), .slice a' m c'], .int .i64 v] u fun e w' => e = .returned (.int .i64 (trI ts v)) ∧ Below u.heap.size u w') := fun v a' m c' u hu => by
          have := iTreeOf_any (nn : Int) ts v m a' c' (by have := hu.1; have := ft_lnS hall; omega) u hu
          rw [treeO_yes hall.fp] at this
          exact this
        have hcm : cmL (nn : Int) ls f = ⟨f.1, f.2, 0, trI ts f.1 != trI ts f.2⟩ := by
          unfold cmL
          rw [gndT_is hts]
          by_cases e : trI ts f.1 = trI ts f.2 <;> simp [e]
        rw [hcm] at HW hput
        have HIx : Hid (∀ u a' m c', Es u u.heap.size a' m (putE (gE ls) f) → Calls Tryz.prog 69 #[.slice a' m c', .agg #[.int .i64 f.1, .int .i64 f.2]] u fun e v => e = .returned (.int .i64 (k : Int)) ∧ Below u.heap.size u v) := fun u a' m c' hu => by
          have := Index_any (putE (gE ls) f) f m a' c' (by have := hu.1; omega) u hu
          rw [hix] at this
          exact this
        have HP := hideIt hput
        have hnz : ((nn : Int) == 0) = false := by simp; omega
        obtain ⟨Tf, hTf⟩ : ∃ Tf, trI ts = Tf := ⟨_, rfl⟩
        rw [hTf] at HW HP HR
        clear hput hix hcm hy hall hts hTf HGr HAd HO hW hpl
        go_wp2_with (go_at_call 75; refine HG.out.mono ?_; rintro e w3 ⟨a3, m3, c3, rfl, hT3, hb3⟩; refine Hid.out ?_)
        refine (show ∀ {p : Prop}, p → Hid p from fun h => h) ?_
        have S3 := S2.up hb3
        have hba : Below w3.heap.size w3 (w3.alloc (.cells #[.int .i64 (nn : Int), .slice a3 m3 c3] 127)) := (Below.refl _ _).alloc (Nat.le_refl _) _
        have S4 := S3.up hba
        have s3 := S3.size
        have HE4 := hideIt ((hE2.out.up hb3).up hba)
        have HT4 := hideIt (hT3.up hba)
        have bx4 := Box7.new w3 127 (.int .i64 (nn : Int)) (.slice a3 m3 c3) w3.heap.size rfl
        have HX := hideIt (HIx.out _ _ _ c1 HE4.out.row)
        have g0 := HE4.out.box.cell0
        have g1 := HE4.out.box.cell1
        have f0 := bx4.cell0
        obtain ⟨⟨⟨x0, x1⟩, x2, x3⟩, _⟩ := HK.out _ S4
        have HB4 := hideIt bx4
        clear k0 k1 k2 k3 hb3 hT3 HG HIx hE2 bx4 hba S3
        go_wp2_with (go_at_call 69; refine HX.out.mono ?_; rintro e w5 ⟨rfl, hb5⟩; refine Hid.out ?_)
        refine (show ∀ {p : Prop}, p → Hid p from fun h => h) ?_
        have S5 := S4.up hb5
        have HT5 := hideIt (HT4.out.up hb5)
        have bx5 := HB4.out.up hb5
        have HC5 : Hid (∀ u, Good w5 u → ((u.cell? ⟨w3.heap.size, 0, none⟩ = some (.int .i64 (nn : Int)) ∧ u.cell? ⟨w3.heap.size, 1, none⟩ = some (.slice a3 m3 c3)) ∧ (u.cell? ⟨w.heap.size + 1, 0, none⟩ = some (.int .i64 f.1) ∧ u.cell? ⟨w.heap.size + 1, 1, none⟩ = some (.int .i64 f.2))) ∧ Good w5 u) := fun u hu => ⟨⟨⟨(bx5.up hu).cell0, (bx5.up hu).cell1⟩, (S5.up hu).cells.2⟩, hu⟩
        have HP5 : Hid (∀ v u, Good w5 u → Calls Tryz.prog 76 #[.agg #[.int .i64 (nn : Int), .slice a3 m3 c3], .int .i64 v] u fun e v' => e = .returned (.int .i64 (Tf v)) ∧ Good w5 v' ∧ Below u.heap.size u v') := fun v u hu => (HR.out v a3 m3 c3 u (HT5.out.up hu)).mono fun _ _ ⟨he, hb⟩ => ⟨he, hu.up hb, hb⟩
        have s5 := S5.size
        clear x0 x1 x2 x3 g0 g1 f0 HX HE4 HB4 S4 hb5 HT4 HR HT5 bx5
        go_upto_region 6 with fail
        go_cut [10] (fun p wx => ∃ b3, p = .pointer (some ⟨b3, 0, none⟩) ∧ w.heap.size + 3 ≤ b3 ∧ In3w w (nn : Int) a n c f wx ∧ Hid (Box4 wx b3 ⟨f.1, f.2, 0, Tf f.1 != Tf f.2⟩))
        case first =>
          have hS5 := HC5.out _ (Good.refl w5).drew
          clear hA Hls HW HP hsl
          go_region_held3 (fun u => ((u.cell? ⟨w3.heap.size, 0, none⟩ = some (.int .i64 (nn : Int)) ∧ u.cell? ⟨w3.heap.size, 1, none⟩ = some (.slice a3 m3 c3)) ∧ (u.cell? ⟨w.heap.size + 1, 0, none⟩ = some (.int .i64 f.1) ∧ u.cell? ⟨w.heap.size + 1, 1, none⟩ = some (.int .i64 f.2))) ∧ Good w5 u)
            (first | with_reducible assumption | with_reducible exact HC5.out _ (Good.alloc (And.right (by assumption)) _) | with_reducible exact HC5.out _ (Good.set4 (And.right (by assumption)) _ _ _ _ _ (by omega)))
            ((go_at_call 76; refine (HP5.out _ _ (And.right (by assumption))).mono ?_; rintro e w6 ⟨rfl, hg6, hb6⟩; have hS6 := HC5.out _ hg6; have z6 := hg6.size; (first | with_reducible have bx := Box4.up bx hb6 | with_reducible have bx := Box4.up (Box4.new0 _) hb6 | with_reducible have bx := Box4.up (Box4.new0d _) hb6 | skip); (try (obtain ⟨bc0, bc1, bc2, bc3⟩ := bx.cells; have bz0 := bx.frozen 0; have bz1 := bx.frozen 1; have bz2 := bx.frozen 2; have bz3 := bx.frozen 3))))
          all_goals
            go_wp2_with fail
            go_meet
            first
              | (have hbx := bx; exact ⟨_, rfl, by omega, S5.up (Good.set4 hg6 _ _ _ _ _ (by omega)), bx.set4 ⟨f.1, f.2, 0, Tf f.1 != Tf f.2⟩⟩)
              | exact ⟨_, rfl, by omega, S5.up (Good.alloc hg6 _), Box4.new w6 ⟨f.1, f.2, 0, Tf f.1 != Tf f.2⟩ _ rfl⟩
        case rest =>
          obtain ⟨b3, rfl, hb3, S7, hx7⟩ := hcut
          have S7d := S7.drew
          have X7d : Box4 wc.drew b3 ⟨f.1, f.2, 0, Tf f.1 != Tf f.2⟩ := hx7.out
          generalize (Tf f.1 != Tf f.2) = tb at *
          have s7 := S7.size
          have HES := hideIt (hA.out wc S7)
          obtain ⟨hnc, hcm, hform⟩ := hsl
          unfold maxLen at hcm
          clear HP5 HC5 s5 S5 S2 s2 S1 zW HK Hls
          rcases hform with ⟨rfl, rfl, rfl⟩ | ⟨ba, off, rfl⟩
          · obtain rfl : k = 0 := by omega
            have e0 : ls = [] := List.length_eq_zero_iff.1 (by omega)
            have T1 : In3w w (nn : Int) none 0 0 f (wc.alloc (.cells #[.int .i64 f.1, .int .i64 f.2, .int .i64 0, .bool tb] 52)).drew := (S7.up ((Below.refl _ _).alloc (Nat.le_refl _) _)).drew
            have X1 : Box4 (wc.alloc (.cells #[.int .i64 f.1, .int .i64 f.2, .int .i64 0, .bool tb] 52)).drew b3 ⟨f.1, f.2, 0, tb⟩ := hx7.out.up (((Below.refl _ _).alloc (Nat.le_refl _) _).drew)
            have T2b : Below wc.heap.size wc ((wc.alloc (.cells #[.int .i64 f.1, .int .i64 f.2, .int .i64 0, .bool tb] 52)).alloc (.cells #[.slice none 0 0, .slice (some ⟨wc.heap.size, 0, none⟩) 1 1, .slice none 0 0] 24)).drew := (((Below.refl _ _).alloc (Nat.le_refl _) _).alloc (by simp) _).drew
            have T2 := S7.up T2b
            have X2 := hx7.out.up T2b
            have HCc : Hid (Calls Tryz.prog 70 #[.slice (some ⟨wc.heap.size + 1, 0, none⟩) 3 3] ((wc.alloc (.cells #[.int .i64 f.1, .int .i64 f.2, .int .i64 0, .bool tb] 52)).alloc (.cells #[.slice none 0 0, .slice (some ⟨wc.heap.size, 0, none⟩) 1 1, .slice none 0 0] 24)).drew
                fun e v => ∃ a' m' c', e = .returned (.slice a' m' c') ∧ Hid (v.ownsRow (wc.heap.size + 2) 52 4 (.slice a' m' c') m' (lcells (putL ls ⟨f.1, f.2, 0, tb⟩))) ∧ In3w w (nn : Int) none 0 0 f v ∧ Box4 v b3 ⟨f.1, f.2, 0, tb⟩) := by
              have hE2 := HES.out.up T2b
              refine (ConcatL_any [⟨none, 0, 0, []⟩, ⟨some ⟨wc.heap.size, 0, none⟩, 1, 1, [⟨f.1, f.2, 0, tb⟩]⟩, ⟨none, 0, 0, []⟩] (wc.heap.size + 1) 3 rfl (by omega) _ ⟨by simp, fun j q hq => ?_⟩ (by simp [pLenL])).mono fun e v ⟨a', m', c', he, ho, hb⟩ => ⟨a', m', c', he, ?_, T2.up hb, X2.up hb⟩
              · rcases j with _ | _ | _ | j
                · simp at hq; subst hq
                  exact ⟨by simp [go_sem], ⟨rfl, .inl rfl⟩, fun _ => ⟨rfl, rfl⟩⟩
                · simp at hq; subst hq
                  refine ⟨by simp [go_sem], ?_, fun h => by cases h⟩
                  exact (Ls.single (w := wc) (x := ⟨f.1, f.2, 0, tb⟩) rfl).up (((Below.refl _ _).alloc (Nat.le_refl _) _).drew)
                · simp at hq; subst hq
                  exact ⟨by simp [go_sem], ⟨rfl, .inl rfl⟩, fun _ => ⟨rfl, rfl⟩⟩
                · simp at hq
              · have hp : pAllL [⟨none, 0, 0, []⟩, ⟨some ⟨wc.heap.size, 0, none⟩, 1, 1, [⟨f.1, f.2, 0, tb⟩]⟩, ⟨none, 0, 0, []⟩] = putL ls ⟨f.1, f.2, 0, tb⟩ := by rw [HP.out, e0]; simp [pAllL]
                rw [hp] at ho
                exact own_mono ho (by simp)
            clear hA HP
            go_upto_region 7 with fail
            go_region_held3 (fun u => (u.cell? ⟨w.heap.size, 0, none⟩ = some (.int .i64 (nn : Int)) ∧ u.cell? ⟨w.heap.size, 1, none⟩ = some (.slice none 0 0)) ∧ u.cell? ⟨b3, 0, none⟩ = some (.int .i64 f.1) ∧ u.cell? ⟨b3, 1, none⟩ = some (.int .i64 f.2) ∧ u.cell? ⟨b3, 2, none⟩ = some (.int .i64 0) ∧ u.cell? ⟨b3, 3, none⟩ = some (.bool tb))
              (first | with_reducible assumption | exact heldWset S8 X8 hb3 _ _ | exact heldW S8 X8 | exact heldW T2 X2 | exact heldW T1 X1 | exact heldW S7d X7d)
              ((go_at_call 70; refine HCc.out.mono ?_; rintro e w8 ⟨a', m', c', rfl, hown8, S8, X8⟩; obtain ⟨⟨r0, r1⟩, r2, r3⟩ := S8.out))
            all_goals
              go_wp2
              exact bodyPost_ret (v := .tuple #[.agg #[.int .i64 (nn : Int), .slice a' m' c'], .bool true]) (by simp [results, Tryz.results16, go_sem, r0, r1]) rfl (wans_yes S8 HW.out (by omega) hown8.out)
          · by_cases hck : c = k
            · obtain rfl : n = k := by omega
              subst hck
              have b1 : (0 : Int) ≤ (c : Int) := by omega
              have T1 : In3w w (nn : Int) (some ⟨ba, off, none⟩) c c f (wc.alloc (.cells #[.int .i64 f.1, .int .i64 f.2, .int .i64 0, .bool tb] 52)).drew := (S7.up ((Below.refl _ _).alloc (Nat.le_refl _) _)).drew
              have X1 : Box4 (wc.alloc (.cells #[.int .i64 f.1, .int .i64 f.2, .int .i64 0, .bool tb] 52)).drew b3 ⟨f.1, f.2, 0, tb⟩ := hx7.out.up (((Below.refl _ _).alloc (Nat.le_refl _) _).drew)
              have T2b : Below wc.heap.size wc ((wc.alloc (.cells #[.int .i64 f.1, .int .i64 f.2, .int .i64 0, .bool tb] 52)).alloc (.cells #[.slice (some ⟨ba, off, none⟩) c c, .slice (some ⟨wc.heap.size, 0, none⟩) 1 1, .slice (some ⟨ba, off, none⟩) 0 0] 24)).drew := (((Below.refl _ _).alloc (Nat.le_refl _) _).alloc (by simp) _).drew
              have T2 := S7.up T2b
              have X2 := hx7.out.up T2b
              have HCc : Hid (Calls Tryz.prog 70 #[.slice (some ⟨wc.heap.size + 1, 0, none⟩) 3 3] ((wc.alloc (.cells #[.int .i64 f.1, .int .i64 f.2, .int .i64 0, .bool tb] 52)).alloc (.cells #[.slice (some ⟨ba, off, none⟩) c c, .slice (some ⟨wc.heap.size, 0, none⟩) 1 1, .slice (some ⟨ba, off, none⟩) 0 0] 24)).drew
                  fun e v => ∃ a' m' c', e = .returned (.slice a' m' c') ∧ Hid (v.ownsRow (wc.heap.size + 2) 52 4 (.slice a' m' c') m' (lcells (putL ls ⟨f.1, f.2, 0, tb⟩))) ∧ In3w w (nn : Int) (some ⟨ba, off, none⟩) c c f v ∧ Box4 v b3 ⟨f.1, f.2, 0, tb⟩) := by
                have hE2 := HES.out.up T2b
                refine (ConcatL_any [⟨some ⟨ba, off, none⟩, c, c, ls.take c⟩, ⟨some ⟨wc.heap.size, 0, none⟩, 1, 1, [⟨f.1, f.2, 0, tb⟩]⟩, ⟨some ⟨ba, off, none⟩, 0, 0, ls.drop c⟩] (wc.heap.size + 1) 3 rfl (by omega) _ ⟨by simp, fun j q hq => ?_⟩ (by simp [pLenL]; omega)).mono fun e v ⟨a', m', c', he, ho, hb⟩ => ⟨a', m', c', he, ?_, T2.up hb, X2.up hb⟩
                · rcases j with _ | _ | _ | j
                  · simp at hq; subst hq
                    exact ⟨by simp [go_sem], hE2.take (Nat.le_refl _), fun h => by cases h⟩
                  · simp at hq; subst hq
                    refine ⟨by simp [go_sem], ?_, fun h => by cases h⟩
                    exact (Ls.single (w := wc) (x := ⟨f.1, f.2, 0, tb⟩) rfl).up (((Below.refl _ _).alloc (Nat.le_refl _) _).drew)
                  · simp at hq; subst hq
                    exact ⟨by simp [go_sem], ⟨by show (ls.drop c).length = 0; rw [List.length_drop]; omega, .inl rfl⟩, fun h => by cases h⟩
                  · simp at hq
                · have hp : pAllL [⟨some ⟨ba, off, none⟩, c, c, ls.take c⟩, ⟨some ⟨wc.heap.size, 0, none⟩, 1, 1, [⟨f.1, f.2, 0, tb⟩]⟩, ⟨some ⟨ba, off, none⟩, 0, 0, ls.drop c⟩] = putL ls ⟨f.1, f.2, 0, tb⟩ := by rw [HP.out]; simp [pAllL]
                  rw [hp] at ho
                  exact own_mono ho (by simp)
              clear hA HP
              go_upto_region 7 with fail
              go_region_held3 (fun u => (u.cell? ⟨w.heap.size, 0, none⟩ = some (.int .i64 (nn : Int)) ∧ u.cell? ⟨w.heap.size, 1, none⟩ = some (.slice (some ⟨ba, off, none⟩) c c)) ∧ u.cell? ⟨b3, 0, none⟩ = some (.int .i64 f.1) ∧ u.cell? ⟨b3, 1, none⟩ = some (.int .i64 f.2) ∧ u.cell? ⟨b3, 2, none⟩ = some (.int .i64 0) ∧ u.cell? ⟨b3, 3, none⟩ = some (.bool tb))
                (first | with_reducible assumption | exact heldWset S8 X8 hb3 _ _ | exact heldW S8 X8 | exact heldW T2 X2 | exact heldW T1 X1 | exact heldW S7d X7d)
                ((go_at_call 70; refine HCc.out.mono ?_; rintro e w8 ⟨a', m', c', rfl, hown8, S8, X8⟩; obtain ⟨⟨r0, r1⟩, r2, r3⟩ := S8.out))
              all_goals
                go_wp2
                exact bodyPost_ret (v := .tuple #[.agg #[.int .i64 (nn : Int), .slice a' m' c'], .bool true]) (by simp [results, Tryz.results16, go_sem, r0, r1]) rfl (wans_yes S8 HW.out (by omega) hown8.out)
            · have b1 : (0 : Int) ≤ (k : Int) := by omega
              have b2 : (k : Int) ≤ (n : Int) := by omega
              have b3' : (n : Int) ≤ (c : Int) := by omega
              have b4 : (k : Int) ≤ (c : Int) := by omega
              have hkn : k ≤ n := by omega
              have T1 : In3w w (nn : Int) (some ⟨ba, off, none⟩) n c f (wc.alloc (.cells #[.int .i64 f.1, .int .i64 f.2, .int .i64 0, .bool tb] 52)).drew := (S7.up ((Below.refl _ _).alloc (Nat.le_refl _) _)).drew
              have X1 : Box4 (wc.alloc (.cells #[.int .i64 f.1, .int .i64 f.2, .int .i64 0, .bool tb] 52)).drew b3 ⟨f.1, f.2, 0, tb⟩ := hx7.out.up (((Below.refl _ _).alloc (Nat.le_refl _) _).drew)
              have T2b : Below wc.heap.size wc ((wc.alloc (.cells #[.int .i64 f.1, .int .i64 f.2, .int .i64 0, .bool tb] 52)).alloc (.cells #[.slice (some ⟨ba, off, none⟩) k c, .slice (some ⟨wc.heap.size, 0, none⟩) 1 1, .slice (some ⟨ba, off + k * 4, none⟩) (n - k) (c - k)] 24)).drew := (((Below.refl _ _).alloc (Nat.le_refl _) _).alloc (by simp) _).drew
              have T2 := S7.up T2b
              have X2 := hx7.out.up T2b
              have HCc : Hid (Calls Tryz.prog 70 #[.slice (some ⟨wc.heap.size + 1, 0, none⟩) 3 3] ((wc.alloc (.cells #[.int .i64 f.1, .int .i64 f.2, .int .i64 0, .bool tb] 52)).alloc (.cells #[.slice (some ⟨ba, off, none⟩) k c, .slice (some ⟨wc.heap.size, 0, none⟩) 1 1, .slice (some ⟨ba, off + k * 4, none⟩) (n - k) (c - k)] 24)).drew
                  fun e v => ∃ a' m' c', e = .returned (.slice a' m' c') ∧ Hid (v.ownsRow (wc.heap.size + 2) 52 4 (.slice a' m' c') m' (lcells (putL ls ⟨f.1, f.2, 0, tb⟩))) ∧ In3w w (nn : Int) (some ⟨ba, off, none⟩) n c f v ∧ Box4 v b3 ⟨f.1, f.2, 0, tb⟩) := by
                have hE2 := HES.out.up T2b
                refine (ConcatL_any [⟨some ⟨ba, off, none⟩, k, c, ls.take k⟩, ⟨some ⟨wc.heap.size, 0, none⟩, 1, 1, [⟨f.1, f.2, 0, tb⟩]⟩, ⟨some ⟨ba, off + k * 4, none⟩, n - k, c - k, ls.drop k⟩] (wc.heap.size + 1) 3 rfl (by omega) _ ⟨by simp, fun j q hq => ?_⟩ (by simp [pLenL]; omega)).mono fun e v ⟨a', m', c', he, ho, hb⟩ => ⟨a', m', c', he, ?_, T2.up hb, X2.up hb⟩
                · rcases j with _ | _ | _ | j
                  · simp at hq; subst hq
                    exact ⟨by simp [go_sem], hE2.take hkn, fun h => by cases h⟩
                  · simp at hq; subst hq
                    refine ⟨by simp [go_sem], ?_, fun h => by cases h⟩
                    exact (Ls.single (w := wc) (x := ⟨f.1, f.2, 0, tb⟩) rfl).up (((Below.refl _ _).alloc (Nat.le_refl _) _).drew)
                  · simp at hq; subst hq
                    exact ⟨by simp [go_sem], hE2.drop k hkn, fun h => by cases h⟩
                  · simp at hq
                · have hp : pAllL [⟨some ⟨ba, off, none⟩, k, c, ls.take k⟩, ⟨some ⟨wc.heap.size, 0, none⟩, 1, 1, [⟨f.1, f.2, 0, tb⟩]⟩, ⟨some ⟨ba, off + k * 4, none⟩, n - k, c - k, ls.drop k⟩] = putL ls ⟨f.1, f.2, 0, tb⟩ := by rw [HP.out]; simp [pAllL]
                  rw [hp] at ho
                  exact own_mono ho (by simp)
              clear hA HP
              go_upto_region 7 with fail
              go_region_held3 (fun u => (u.cell? ⟨w.heap.size, 0, none⟩ = some (.int .i64 (nn : Int)) ∧ u.cell? ⟨w.heap.size, 1, none⟩ = some (.slice (some ⟨ba, off, none⟩) n c)) ∧ u.cell? ⟨b3, 0, none⟩ = some (.int .i64 f.1) ∧ u.cell? ⟨b3, 1, none⟩ = some (.int .i64 f.2) ∧ u.cell? ⟨b3, 2, none⟩ = some (.int .i64 0) ∧ u.cell? ⟨b3, 3, none⟩ = some (.bool tb))
                (first | with_reducible assumption | exact heldWset S8 X8 hb3 _ _ | exact heldW S8 X8 | exact heldW T2 X2 | exact heldW T1 X1 | exact heldW S7d X7d)
                ((go_at_call 70; refine HCc.out.mono ?_; rintro e w8 ⟨a', m', c', rfl, hown8, S8, X8⟩; obtain ⟨⟨r0, r1⟩, r2, r3⟩ := S8.out))
              all_goals
                go_wp2
                exact bodyPost_ret (v := .tuple #[.agg #[.int .i64 (nn : Int), .slice a' m' c'], .bool true]) (by simp [results, Tryz.results16, go_sem, r0, r1]) rfl (wans_yes S8 HW.out (by omega) hown8.out)
      · have HW := hideIt (waO_no (N := (nn : Int)) (ls := ls) (f := f) (fun h => hy h.2))
        have hO2 : O = none := by rw [← HO.out]; exact addE_no hW HW.out
        subst hO2
        simp only [Option.isSome_none] at hfl
        subst hfl
        clear hW hts hall hy HGr HAd hA HO Hls hsl hE2
        go_wp2_with (go_at_call 75; refine HG.out.mono ?_; rintro e w3 ⟨a3, m3, c3, rfl, hT3, hb3⟩; refine Hid.out ?_)
        refine (show ∀ {p : Prop}, p → Hid p from fun h => h) ?_
        have S3 := S2.up hb3
        have S3a := InW.alloc S3 (.cells #[.int .i64 (nn : Int), .slice a3 m3 c3] 127)
        obtain ⟨⟨r0, r1⟩, r2, r3⟩ := S3.out
        obtain ⟨⟨p0, p1⟩, p2, p3⟩ := S3a.out
        have s3 := S3.size
        have HA3 := hideIt (wans_no S3a HW.out)
        clear k0 k1 k2 k3 hT3 hb3 HG
        go_wp2
        exact bodyPost_ret (v := .tuple #[.agg #[.int .i64 0, .slice none 0 0], .bool false]) (by simp [results, Tryz.results16, go_sem, p0, p1]) rfl HA3.out
    · have HG := hideIt (groundOf_no N ls n a c hn hW _ (hA.out _ S2))
      have HW := hideIt (waO_no (N := N) (ls := ls) (f := f) (fun h => hW h.1))
      clear hW HGr HAd hA HO Hls hsl hE2
      cases fl with
      | false =>
        go_wp2_with (go_at_call 75; refine HG.out.mono ?_; rintro e w3 ⟨rfl, hb3⟩; refine Hid.out ?_)
        refine (show ∀ {p : Prop}, p → Hid p from fun h => h) ?_
        have S3 := S2.up hb3
        have S3a := InW.alloc S3 (.cells #[.int .i64 0, .slice none 0 0] 127)
        obtain ⟨⟨r0, r1⟩, r2, r3⟩ := S3.out
        obtain ⟨⟨p0, p1⟩, p2, p3⟩ := S3a.out
        have s3 := S3.size
        have HA3 := hideIt (wans_no S3a HW.out)
        clear k0 k1 k2 k3 hb3 HG
        go_wp2
        exact bodyPost_ret (v := .tuple #[.agg #[.int .i64 0, .slice none 0 0], .bool false]) (by simp [results, Tryz.results16, go_sem, p0, p1]) rfl HA3.out
      | true =>
        go_wp2_with (go_at_call 75; refine HG.out.mono ?_; rintro e w3 ⟨rfl, hb3⟩; refine Hid.out ?_)
        refine (show ∀ {p : Prop}, p → Hid p from fun h => h) ?_
        have S3 := S2.up hb3
        have S3a := InW.alloc S3 (.cells #[.int .i64 0, .slice none 0 0] 127)
        obtain ⟨⟨r0, r1⟩, r2, r3⟩ := S3.out
        obtain ⟨⟨p0, p1⟩, p2, p3⟩ := S3a.out
        have s3 := S3.size
        have HA3 := hideIt (wans_no S3a HW.out)
        clear k0 k1 k2 k3 hb3 HG
        go_wp2
        exact bodyPost_ret (v := .tuple #[.agg #[.int .i64 0, .slice none 0 0], .bool false]) (by simp [results, Tryz.results16, go_sem, p0, p1]) rfl HA3.out
end Go.Proofs.YtkkplppcgnikoaaGreat
namespace Go.Proofs.YtkkplppcgnikoaaGreat.O
open Go.RowKit

end Go.Proofs.YtkkplppcgnikoaaGreat.O
namespace Go.Proofs.YtkkplppcgnikoaaGreat.O
open Go.RowKit

set_option maxHeartbeats 1000000 in
theorem sameEdges_same (fs : List EdgeV) (n : Nat) (a a' : Option Addr) (c c' : Nat) (hn : n ≤ 1048576) (w : World) (h : Es w w.heap.size a n fs) (h' : Es w w.heap.size a' n fs) :
    Calls Tryz.prog 20 #[.slice a n c, .slice a' n c'] w fun e w' => e = .returned (.bool true) ∧ Below w.heap.size w w' := by
  obtain ⟨hlen, hrow⟩ := h
  obtain ⟨_, hrow'⟩ := h'
  have HR := hideIt hrow
  have HR' := hideIt hrow'
  clear hrow hrow'
  have dn : ((n : Int) != (n : Int)) = false := by simp
  go_enter Tryz.func20, Tryz.ntmps20
  go_wp2
  go_loopw [5] (fun i wr => ∃ k : Nat, k ≤ n ∧ i = .int .i64 (k : Int) ∧ Below w.heap.size w wr) (fun i _ => n - (intOf i).toNat)
  case atStart => exact ⟨0, by omega, rfl, Below.refl _ _⟩
  case round =>
    obtain ⟨k, hk, rfl, hb⟩ := hrel
    by_cases hlt : k < n
    · rcases HR.out with hz | ⟨b, off, rfl, hbl, hc⟩
      · omega
      · rcases HR'.out with hz | ⟨b', off', rfl, hbl', hc'⟩
        · omega
        · obtain ⟨f, hf⟩ : ∃ f, fs[k]? = some f := ⟨fs[k]'(by omega), List.getElem?_eq_getElem (by omega)⟩
          obtain ⟨c0, c1⟩ := hc k f hf
          obtain ⟨d0, d1⟩ := hc' k f hf
          have e0 : wr.cell? ⟨b, off + k * 2, none⟩ = some (.int .i64 f.1) := by rw [hb.cell hbl]; exact c0
          have e1 : wr.cell? ⟨b, off + k * 2 + 1, none⟩ = some (.int .i64 f.2) := by rw [hb.cell hbl]; exact c1
          have e3 : wr.cell? ⟨b', off' + k * 2, none⟩ = some (.int .i64 f.1) := by rw [hb.cell hbl']; exact d0
          have e4 : wr.cell? ⟨b', off' + k * 2 + 1, none⟩ = some (.int .i64 f.2) := by rw [hb.cell hbl']; exact d1
          have b1 : (0 : Int) ≤ (k : Int) := by omega
          have b2 : (k : Int) < (n : Int) := by omega
          clear c0 c1 d0 d1 hc hc' hf
          go_wp2
          go_quiet (fail)
          go_wp2
          exact ⟨⟨k + 1, by omega, by go_num, below_drewN hb _⟩, by simp [intOf]; omega⟩
    · go_wp2
      go_ret
      exact ⟨rfl, hb⟩
end Go.Proofs.YtkkplppcgnikoaaGreat.O
