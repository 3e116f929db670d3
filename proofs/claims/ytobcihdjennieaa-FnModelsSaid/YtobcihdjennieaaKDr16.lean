/- A right graph to which an edge comes, or from which one goes, is right, and has one edge more, or less. The specification's l05Without and TakeEdge. The specification's Model. What Model makes of a graph: as FnModels asks it. A graph and a question drawn; the walk of FnModels. The walk of FnModels. -/
import Derived.Test.YtobcihdjennieaaKGraphTell
import Derived.Test.YtobcihdjennieaaKLawSt5
namespace Go.Proofs.Ytobcihdjennieaa
open Go.RowKit

def tN (a : Nat) : Nat := a * (23 - a) / 2
theorem tN_step : ∀ a c : Fin 12, a.1 < c.1 → tN a.1 + (11 - a.1) ≤ tN c.1 := by decide
def rkN (e : EdgeV) : Nat := tN e.1.toNat + (e.2.toNat - e.1.toNat - 1)
theorem rk_lt {n : Int} {d e : EdgeV} (hd : eB n d = true) (he : eB n e = true) (h : lt d e = true) : rkN d < rkN e := by
  rw [eB_iff'] at hd he
  unfold lt at h
  rw [decide_eq_true_iff] at h
  unfold rkN
  rcases h with h | ⟨h1, h2⟩
  · have hs := tN_step ⟨d.1.toNat, by omega⟩ ⟨e.1.toNat, by omega⟩ (by show d.1.toNat < e.1.toNat; omega)
    dsimp only at hs
    omega
  · rw [h1]
    omega
theorem rk_le {n : Int} {e : EdgeV} (he : eB n e = true) : rkN e ≤ 65 := by
  rw [eB_iff'] at he
  have hs := tN_step ⟨e.1.toNat, by omega⟩ ⟨11, by omega⟩ (by show e.1.toNat < 11; omega)
  have h11 : tN 11 = 66 := by decide
  dsimp only at hs
  rw [h11] at hs
  unfold rkN
  omega
theorem rk_at {n : Int} {es : List EdgeV} (h1 : ∀ e ∈ es, eB n e = true) (h2 : Asc es) : ∀ (j : Nat) (hj : j < es.length), j ≤ rkN es[j] := by
  intro j
  induction j with
  | zero => intro _; omega
  | succ j ih =>
    intro hj
    have h3 := ih (by omega)
    have h4 := rk_lt (h1 _ (List.getElem_mem (show j < es.length by omega))) (h1 _ (List.getElem_mem hj)) (h2 j (j + 1) _ _ (by omega) (List.getElem?_eq_getElem (by omega)) (List.getElem?_eq_getElem hj))
    omega
/-- no right graph has more edges than there are pairs -/
theorem asc_len {n : Int} {es : List EdgeV} (h1 : ∀ e ∈ es, eB n e = true) (h2 : Asc es) : es.length ≤ 66 := by
  by_cases h0 : es.length = 0
  · omega
  · have hj : es.length - 1 < es.length := by omega
    have h3 := rk_at h1 h2 _ hj
    have h4 := rk_le (h1 _ (List.getElem_mem hj))
    omega
theorem lt_or {d e : EdgeV} (h : d ≠ e) : lt d e = !(lt e d) := by
  obtain ⟨d1, d2⟩ := d
  obtain ⟨e1, e2⟩ := e
  have h' : ¬ (d1 = e1 ∧ d2 = e2) := fun ⟨a, b⟩ => h (by rw [a, b])
  unfold lt
  rw [← decide_not, decide_eq_decide]
  dsimp only
  omega
theorem len_split {p q : EdgeV → Bool} (es : List EdgeV) (h : ∀ d ∈ es, p d = !(q d)) : (es.filter p).length + (es.filter q).length = es.length := by
  induction es with
  | nil => simp
  | cons d es ih =>
    have h1 := ih (fun x hx => h x (List.mem_cons_of_mem _ hx))
    have h2 := h d (List.mem_cons_self ..)
    simp only [List.filter_cons]
    cases hq : q d with
    | true => rw [hq] at h2; simp [h2]; omega
    | false => rw [hq] at h2; simp [h2]; omega
theorem len_put {es : List EdgeV} {e : EdgeV} (he : e ∉ es) : (putE es e).length = es.length + 1 := by
  have h := len_split (p := fun d => lt d e) (q := fun d => lt e d) es (fun d hd => lt_or (fun x => he (x ▸ hd)))
  unfold putE
  simp only [List.length_append, List.length_cons, List.length_nil]
  omega
theorem len_out {es : List EdgeV} {e : EdgeV} (ha : Asc es) (he : e ∈ es) : (outE es e).length + 1 = es.length := by
  have h1 := len_put (es := outE es e) (e := e) (fun h => ((mem_out es e e).1 h).2 rfl)
  rw [put_out ha he] at h1
  omega
theorem gB_of {N : Int} {es : List EdgeV} (h1 : 1 ≤ N ∧ N ≤ 12) (h2 : ∀ e ∈ es, eB N e = true) (h3 : Asc es) : gB N es = true := by
  have h4 := asc_len h2 h3
  unfold gB
  rw [chk_of h2 h3, decide_eq_true h1, decide_eq_true h4]
  rfl
theorem gB_put {N : Int} {es : List EdgeV} {e : EdgeV} (h : gB N es = true) (he : eB N e = true) : gB N (putE es e) = true := by
  obtain ⟨h1, h2, _⟩ := gB_chk h
  refine gB_of h1 (fun d hd => ?_) (asc_put (asc_of_chk h2))
  rcases (mem_put es e d).1 hd with rfl | ⟨hd, _⟩
  · exact he
  · exact chk_eB h2 hd
theorem gB_out {N : Int} {es : List EdgeV} {e : EdgeV} (h : gB N es = true) : gB N (outE es e) = true := by
  obtain ⟨h1, h2, _⟩ := gB_chk h
  exact gB_of h1 (fun d hd => chk_eB h2 ((mem_out es e d).1 hd).1) (asc_out (asc_of_chk h2))
end Go.Proofs.Ytobcihdjennieaa
namespace Go.Proofs.Ytobcihdjennieaa
open Go.RowKit

theorem PutSt.drewN {w : World} {e : EdgeV} {a : Option Addr} {m c : Nat} {gs : List EdgeV} {u : World} (h : PutSt w e a m c gs u) (k : Nat) : PutSt w e a m c gs (u.drewN k) := h.up (below_drewN (Below.refl _ _) k)

set_option maxRecDepth 100000 in
set_option maxHeartbeats 4000000 in
theorem l05Without_any (es : List EdgeV) (e : EdgeV) (n : Nat) (a : Option Addr) (c : Nat) (hn : n ≤ 1048576) (w : World) (h : Es w w.heap.size a n es) :
    Calls Try.prog 67 #[.slice a n c, .agg #[.int .i64 e.1, .int .i64 e.2]] w fun x w' => ∃ a' m' c', x = .returned (.slice a' m' c') ∧ w'.ownsRow w.heap.size 59 2 (.slice a' m' c') m' (ecells (outE es e)) ∧ Below w.heap.size w w' := by
  obtain ⟨i0, hi, hz0, hz1, hz2⟩ := info_parts infoIE
  obtain ⟨hlen, hrow⟩ := h
  have HR := hideIt hrow
  clear hrow
  go_enter Try.func67, Try.ntmps67
  go_wp2
  go_loopw [5, 6] (fun v i wr => ∃ (k m' : Nat) (a' : Option Addr) (c' : Nat) (gs : List EdgeV), k ≤ n ∧ i = .int .i64 (k : Int) ∧ v = .slice a' m' c' ∧ m' ≤ k ∧ Hid (gs = outE (es.take k) e) ∧ PutSt w e a' m' c' gs wr) (fun _ i _ => n - (intOf i).toNat)
  case atStart =>
    refine ⟨0, 0, _, _, [], by omega, rfl, rfl, by omega, by show _ = _; simp [outE], ?_, ?_⟩
    · have h0 := World.ownsRow_lit (base := w.heap.size + 1) (e := 59) (size := 2) (wE w e) #[] 0 (by rw [wE_size]; omega) (by unfold maxLen; omega) (by simp)
      rw [wE_size] at h0
      simpa [ecells, wE] using h0
    · have h1 := (Below.refl (w.heap.size + 1) (wE w e)).alloc (by rw [wE_size]; omega) (.cells #[] 59)
      simpa [wE] using h1
  case round =>
    obtain ⟨k, m', a', c', gs, hk, rfl, rfl, hm, hgs, hst⟩ := hrel
    by_cases hlt : k < n
    · rcases HR.out with hz | ⟨b, off, rfl, hbl, hc⟩
      · omega
      · obtain ⟨f, hf⟩ : ∃ f, es[k]? = some f := ⟨es[k]'(by omega), List.getElem?_eq_getElem (by omega)⟩
        obtain ⟨c0, c1⟩ := hc k f hf
        have b1 : (0 : Int) ≤ (k : Int) := by omega
        have b2 : (k : Int) < (n : Int) := by omega
        have e0 : wr.cell? ⟨b, off + k * 2, none⟩ = some (.int .i64 f.1) := by rw [hst.below.cell hbl]; exact c0
        have e1 : wr.cell? ⟨b, off + k * 2 + 1, none⟩ = some (.int .i64 f.2) := by rw [hst.below.cell hbl]; exact c1
        obtain ⟨x0, x1⟩ := hst.box
        by_cases hfe : f = e
        · subst hfe
          have HG : Hid (gs = outE (es.take (k + 1)) f) := by
            show _ = _
            rw [take_snocF es k f hf, hgs.out]
            simp [outE]
          clear hc hf c0 c1 hgs
          go_wp2
          go_quiet (fail)
          go_wp2
          exact ⟨⟨k + 1, m', a', c', gs, by omega, by go_num, rfl, by omega, HG, hst.drewN _⟩, by simp [intOf]; omega⟩
        · have HG : Hid (gs ++ [f] = outE (es.take (k + 1)) e) := by
            show _ = _
            rw [take_snocF es k f hf, hgs.out]
            simp [outE, hfe]
          have z1 := hst.size
          clear hc hf c0 c1 hgs
          have hk4 : (wr.drew.cell? ⟨b, off + k * 2, none⟩ = some (.int .i64 f.1) ∧ wr.drew.cell? ⟨b, off + k * 2 + 1, none⟩ = some (.int .i64 f.2)) ∧ wr.drew.cell? ⟨w.heap.size, 0, none⟩ = some (.int .i64 e.1) ∧ wr.drew.cell? ⟨w.heap.size, 1, none⟩ = some (.int .i64 e.2) := ⟨⟨e0, e1⟩, x0, x1⟩
          by_cases h1 : f.1 = e.1
          · obtain ⟨fa, fb⟩ := f
            dsimp only at *
            subst h1
            have h2 : ¬ fb = e.2 := fun h2 => hfe (Prod.ext rfl h2)
            have d2 : (fb == e.2) = false := by simpa using h2
            clear hfe
            go_wp2
            go_region_held3 (fun u => (u.cell? ⟨b, off + k * 2, none⟩ = some (.int .i64 e.1) ∧ u.cell? ⟨b, off + k * 2 + 1, none⟩ = some (.int .i64 fb)) ∧ u.cell? ⟨w.heap.size, 0, none⟩ = some (.int .i64 e.1) ∧ u.cell? ⟨w.heap.size, 1, none⟩ = some (.int .i64 e.2)) (exact hk4) (fail)
            go_wp2_with (at_builtin; refine wpList_append_own _ rfl _ _ 24 rfl (w.heap.size + 1) 59 i0 _ 2 16 Try.underlying24 hi hz0 hz1 hz2 rfl (by decide) _ _ _ rfl ((hst.own.alloc _).drew) ⟨wr.heap.size, 0, none⟩ 1 1 [.int .i64 e.1, .int .i64 fb] rfl rfl (news1 _ (e.1, fb)) (by intro u hu; simp at hu; rcases hu with rfl | rfl <;> rfl) (by unfold maxLen; omega) (by omega) (by simp; omega) ?_)
            intro v2 w2 hown2 hg2 hn2
            obtain ⟨a2, c2, rfl, hst2⟩ := (hst.up (Below.refl _ _).drew).app (g := (e.1, fb)) (o := .cells #[.int .i64 e.1, .int .i64 fb] 59) hown2 hg2
            clear hown2 hg2 hn2 e0 e1 x0 x1 hst hk4
            go_wp2
            exact ⟨⟨k + 1, m' + 1, a2, c2, gs ++ [(e.1, fb)], by omega, by go_num, rfl, by omega, HG, hst2⟩, by simp [intOf]; omega⟩
          · have d1 : (f.1 == e.1) = false := by simpa using h1
            clear hfe
            go_wp2
            go_region_held3 (fun u => (u.cell? ⟨b, off + k * 2, none⟩ = some (.int .i64 f.1) ∧ u.cell? ⟨b, off + k * 2 + 1, none⟩ = some (.int .i64 f.2)) ∧ u.cell? ⟨w.heap.size, 0, none⟩ = some (.int .i64 e.1) ∧ u.cell? ⟨w.heap.size, 1, none⟩ = some (.int .i64 e.2)) (exact hk4) (fail)
            go_wp2_with (at_builtin; refine wpList_append_own _ rfl _ _ 24 rfl (w.heap.size + 1) 59 i0 _ 2 16 Try.underlying24 hi hz0 hz1 hz2 rfl (by decide) _ _ _ rfl ((hst.own.alloc _).drew) ⟨wr.heap.size, 0, none⟩ 1 1 [.int .i64 f.1, .int .i64 f.2] rfl rfl (news1 _ f) (by intro u hu; simp at hu; rcases hu with rfl | rfl <;> rfl) (by unfold maxLen; omega) (by omega) (by simp; omega) ?_)
            intro v2 w2 hown2 hg2 hn2
            obtain ⟨a2, c2, rfl, hst2⟩ := (hst.up (Below.refl _ _).drew).app (o := .cells #[.int .i64 f.1, .int .i64 f.2] 59) hown2 hg2
            clear hown2 hg2 hn2 e0 e1 x0 x1 hst hk4
            go_wp2
            exact ⟨⟨k + 1, m' + 1, a2, c2, gs ++ [f], by omega, by go_num, rfl, by omega, HG, hst2⟩, by simp [intOf]; omega⟩
    · obtain rfl : k = n := by omega
      have HF : Hid (gs = outE es e) := by show _ = _; rw [hgs.out, List.take_of_length_le (by omega)]
      have HO := hideIt (own_mono hst.own (show w.heap.size ≤ w.heap.size + 1 by omega))
      have hb := hst.below
      clear hgs hst
      go_wp2
      go_ret
      exact ⟨a', m', c', rfl, by rw [← HF.out]; exact HO.out, hb⟩

set_option maxRecDepth 100000 in
set_option maxHeartbeats 4000000 in
theorem sTakeEdge_any (N : Int) (es : List EdgeV) (f : EdgeV) (n : Nat) (a : Option Addr) (c : Nat) (hn : n ≤ 1048576) (w : World) (h : Es w w.heap.size a n es) :
    Calls Try.prog 38 #[.agg #[.int .i64 N, .slice a n c], .agg #[.int .i64 f.1, .int .i64 f.2]] w fun e w' => GAns w N (takE N es f) e w' := by
  have hA : Hid (∀ u, In3 w N a n c f u → Es u u.heap.size a n es) := fun u hu => h.up hu.below
  have HGO : Hid (∀ u, In3 w N a n c f u → Calls Try.prog 11 #[.agg #[.int .i64 N, .slice a n c]] u fun e v => e = .returned (.bool (gB N es)) ∧ In3 w N a n c f v) := fun u hu =>
    (sGraphOk_any N es n a c hn u (hA.out u hu)).mono fun _ _ ⟨he, hb⟩ => ⟨he, hu.up hb⟩
  have HHE : Hid (∀ u, In3 w N a n c f u → Calls Try.prog 65 #[.agg #[.int .i64 N, .slice a n c], .agg #[.int .i64 f.1, .int .i64 f.2]] u fun e v => e = .returned (.bool (hasB es f)) ∧ In3 w N a n c f v) := fun u hu =>
    (sHasEdge_any N es f n a c hn u (hA.out u hu)).mono fun _ _ ⟨he, hb⟩ => ⟨he, hu.up hb⟩
  have S1 := In3.start w N a n c f
  have HK : Hid (∀ u, In3 w N a n c f u → (u.cell? ⟨w.heap.size, 0, none⟩ = some (.int .i64 N) ∧ u.cell? ⟨w.heap.size, 1, none⟩ = some (.slice a n c)) ∧ (u.cell? ⟨w.heap.size + 1, 0, none⟩ = some (.int .i64 f.1) ∧ u.cell? ⟨w.heap.size + 1, 1, none⟩ = some (.int .i64 f.2))) := fun u hu => hu.cells
  cases hG : gB N es with
  | false =>
    rw [hG] at HGO
    have HO := hideIt (show takE N es f = none by unfold takE; rw [hG, if_neg (by simp)])
    clear hG HHE h hA
    go_enter Try.func38, Try.ntmps38
    go_wp2_with (go_at_call 11; refine (HGO.out _ S1).mono ?_; rintro e w4 ⟨rfl, S4⟩; refine Hid.out ?_)
    refine (show ∀ {p : Prop}, p → Hid p from fun h => h) ?_
    obtain ⟨⟨r0, r1⟩, r2, r3⟩ := S4.out
    have s4 := S4.size
    go_wp2
    exact bodyPost_ret (v := .tuple #[.agg #[.int .i64 0, .slice none 0 0], .bool false]) (by simp [results, Try.results38, go_sem, r0, r1]) rfl (gans_no S4 HO.out)
  | true =>
    rw [hG] at HGO
    cases hH : hasB es f with
    | false =>
      rw [hH] at HHE
      have HO := hideIt (show takE N es f = none by unfold takE; rw [hH, if_neg (by simp)])
      clear hG hH h hA
      go_enter Try.func38, Try.ntmps38
      go_wp2_with (go_at_call 11; refine (HGO.out _ S1).mono ?_; rintro e w4 ⟨rfl, S4⟩; refine Hid.out ?_)
      refine (show ∀ {p : Prop}, p → Hid p from fun h => h) ?_
      obtain ⟨⟨k0, k1⟩, k2, k3⟩ := HK.out _ S4
      go_wp2_with (go_at_call 65; refine (HHE.out _ S4).mono ?_; rintro e w6 ⟨rfl, S6⟩; refine Hid.out ?_)
      refine (show ∀ {p : Prop}, p → Hid p from fun h => h) ?_
      obtain ⟨⟨r0, r1⟩, r2, r3⟩ := S6.out
      have s6 := S6.size
      clear k0 k1 k2 k3
      go_wp2
      exact bodyPost_ret (v := .tuple #[.agg #[.int .i64 0, .slice none 0 0], .bool false]) (by simp [results, Try.results38, go_sem, r0, r1]) rfl (gans_no S6 HO.out)
    | true =>
      rw [hH] at HHE
      have HO := hideIt (show takE N es f = some (outE es f) by unfold takE; rw [hG, hH, if_pos (by simp)])
      have HPt : Hid (∀ u, In3 w N a n c f u → Calls Try.prog 67 #[.slice a n c, .agg #[.int .i64 f.1, .int .i64 f.2]] u fun x v => ∃ a' m' c', x = .returned (.slice a' m' c') ∧ Hid (v.ownsRow u.heap.size 59 2 (.slice a' m' c') m' (ecells (outE es f))) ∧ In3 w N a n c f v) := fun u hu =>
        (l05Without_any es f n a c hn u (hA.out u hu)).mono fun _ _ ⟨a', m', c', he, ho, hb⟩ => ⟨a', m', c', he, ho, hu.up hb⟩
      clear hG hH h
      go_enter Try.func38, Try.ntmps38
      go_wp2_with (go_at_call 11; refine (HGO.out _ S1).mono ?_; rintro e w4 ⟨rfl, S4⟩; refine Hid.out ?_)
      refine (show ∀ {p : Prop}, p → Hid p from fun h => h) ?_
      obtain ⟨⟨k0, k1⟩, k2, k3⟩ := HK.out _ S4
      go_wp2_with (go_at_call 65; refine (HHE.out _ S4).mono ?_; rintro e w7 ⟨rfl, S7⟩; refine Hid.out ?_)
      refine (show ∀ {p : Prop}, p → Hid p from fun h => h) ?_
      clear k0 k1 k2 k3 S4 S1 HGO HHE
      have S7d := S7.drew
      have z7 := S7.size
      have HPc := hideIt (HPt.out _ S7d)
      clear HPt hA
      go_wp2
      go_region_held3 (fun u => (u.cell? ⟨w.heap.size, 0, none⟩ = some (.int .i64 N) ∧ u.cell? ⟨w.heap.size, 1, none⟩ = some (.slice a n c)) ∧ (u.cell? ⟨w.heap.size + 1, 0, none⟩ = some (.int .i64 f.1) ∧ u.cell? ⟨w.heap.size + 1, 1, none⟩ = some (.int .i64 f.2)))
        (first | exact S8.cellsSet _ _ | exact HK.out _ S8 | exact HK.out _ S7d)
        ((go_at_call 67; refine HPc.out.mono ?_; rintro e w8 ⟨a', m', c', rfl, hown8, S8⟩; obtain ⟨⟨r0, r1⟩, r2, r3⟩ := S8.out))
      all_goals
        go_wp2
        exact bodyPost_ret (v := .tuple #[.agg #[.int .i64 N, .slice a' m' c'], .bool true]) (by simp [results, Try.results38, go_sem, r0, r1]) rfl (gans_yes S8 HO.out (by show _ ≤ w7.heap.size; omega) hown8.out)
end Go.Proofs.Ytobcihdjennieaa
namespace Go.Proofs.Ytobcihdjennieaa
open Go.RowKit

theorem step_append_copy {P : Program} {w : World} {ops : Array Oper} {o : Oper} {a : Go.Act} {K : Go.Act → World → Prop} {Q : Exit → Go.Act → World → Prop} {E : Prop} (hgd : o.guard = none) (s x : Operand) (t : TypeId)
    (ho : o.op = .call { callee := .builtin .append, args := #[s, x], argTypes := #[t, t] })
    (base : Nat) (e : TypeId) (i : TypeInfo) (z : Value) (size bytes : Nat) (ht : P.underlying t = some (.slice e)) (hi : P.info? e = some i) (hz : i.zero = some z)
    (hsize : i.size = size) (hby : i.bytes = bytes) (hzs : z.cells.size = size) (hsz : 0 < size)
    (v : Value) (hs : a.eval s = v) (hown : w.ownsRow base e size v 0 [])
    (ad : Option Addr) (m c : Nat) (news : List Value) (hx : a.eval x = .slice ad m c) (hl : news.length = m * size) (hnil : ad = none → m = 0 ∧ c = 0) (hnews : ∀ ad', ad = some ad' → ∀ j u, news[j]? = some u → w.cell? (ad'.add j) = some u) (h1 : ∀ u ∈ news, u.oneCell' = true)
    (h63 : m ≤ maxLen) (hbytes : m * bytes ≤ 140737488355328) (hbase : base ≤ w.heap.size)
    (h : ∀ a' cap w', w'.ownsRow base e size (.slice a' m cap) m news → w.grownBy w' v.ownBlock → K (a.put o.dst (.slice a' m cap)) w') :
    if Region.wanted o (yielded ops a.tmps) = true then Oper.wp P o a w K Q else E := by
  have hw : Region.wanted o (yielded ops a.tmps) = true := by simp [Region.wanted, hgd]
  rw [if_pos hw]
  cases ad with
  | none =>
    obtain ⟨rfl, rfl⟩ := hnil rfl
    have e0 : news = [] := List.length_eq_zero_iff.1 (by omega)
    subst e0
    have hrun := run_append_owned_none (P := P) (w := w) base t o.type e i size ht hi v 0 [] hown
    unfold Oper.wp
    simp [execOp, ho, resolve, invoke, builtin, hs, hx, hrun, Result.andThen]
    obtain ⟨a2, c2, rfl⟩ := own_form hown
    exact h a2 c2 w hown ⟨rfl, rfl, rfl, Nat.le_refl _, fun _ _ _ => rfl⟩
  | some ad =>
    refine wp_append_own w s x t ho base e i z size bytes ht hi hz hsize hby hzs hsz v 0 [] hs hown ad m c news hx hl (hnews ad rfl) h1 (by omega) (by simpa using hbytes) hbase fun v' w' h2 h3 _ => ?_
    rw [Nat.zero_add, List.nil_append] at h2
    obtain ⟨a2, c2, rfl⟩ := own_form h2
    exact h a2 c2 w' h2 h3
theorem Es.newsO {w : World} {B n : Nat} {a : Option Addr} {es : List EdgeV} (h : Es w B a n es) : ∀ ad, a = some ad → ∀ j u, (ecells es)[j]? = some u → w.cell? (ad.add j) = some u := by
  intro ad e
  rcases h.2 with h0 | ⟨b, off, hb, _⟩
  · have e0 : es = [] := List.length_eq_zero_iff.1 (by have := h.1; omega)
    intro j u hu
    rw [e0] at hu
    simp [ecells] at hu
  · rw [e] at hb
    simp at hb
    subst hb
    subst e
    exact h.news
theorem gr_bel {y z : World} {B g : Nat} (h : y.grownBy z (some g)) (h1 : B ≤ g) (h2 : B ≤ y.heap.size) : Below B y z := (Rng.of_grown (hi := g + 1) h h1 (Nat.lt_succ_self _)).below (Nat.le_refl _) h2
section
variable {w u v : World} {N : Int} {a : Option Addr} {n c : Nat} {xi xo xa xb : Int}
theorem InM.set (h : InM w N a n c xi xo xa xb u) (b j : Nat) (x : Value) (hb : w.heap.size + 3 ≤ b) : InM w N a n c xi xo xa xb (u.setCell ⟨b, j, none⟩ x) := ⟨Good.set h.good b j x (by rw [m3_size]; exact hb)⟩
theorem InM.gr (h : InM w N a n c xi xo xa xb u) {g : Nat} (hg : u.grownBy v (some g)) (hb : w.heap.size + 3 ≤ g) : InM w N a n c xi xo xa xb v :=
  ⟨Below.trans h.good (gr_bel hg (by rw [m3_size]; exact hb) (by rw [m3_size]; exact h.size))⟩
theorem InM.alloc (h : InM w N a n c xi xo xa xb u) (o : Obj) : InM w N a n c xi xo xa xb (u.alloc o) := h.up ((Below.refl _ _).alloc (Nat.le_refl _) o)
end
theorem l12Edge_any (xi xo xa xb : Int) (w : World) : Calls Try.prog 37 #[.agg #[.int .i64 xi, .int .i64 xo, .int .i64 xa, .int .i64 xb]] w fun e w' => e = .returned (.agg #[.int .i64 (edA xa xb).1, .int .i64 (edA xa xb).2]) ∧ Below w.heap.size w w' := by
  by_cases h : xa < xb
  · have d1 : decide (xa < xb) = true := decide_eq_true h
    have e1 : edA xa xb = (xa, xb) := by unfold edA; rw [Int.min_eq_left (by omega), Int.max_eq_right (by omega)]
    rw [e1]
    clear h e1
    go_enter Try.func37, Try.ntmps37
    go_wp2
    exact bodyPost_ret (v := .agg #[.int .i64 xa, .int .i64 xb]) (by simp [results, Try.results37, go_sem]) rfl ⟨rfl, ((Below.refl _ _).alloc (Nat.le_refl _) _).alloc (by simp) _⟩
  · have d1 : decide (xa < xb) = false := decide_eq_false h
    have e1 : edA xa xb = (xb, xa) := by unfold edA; rw [Int.min_eq_right (by omega), Int.max_eq_left (by omega)]
    rw [e1]
    clear h e1
    go_enter Try.func37, Try.ntmps37
    go_wp2
    exact bodyPost_ret (v := .agg #[.int .i64 xb, .int .i64 xa]) (by simp [results, Try.results37, go_sem]) rfl ⟨rfl, ((Below.refl _ _).alloc (Nat.le_refl _) _).alloc (by simp) _⟩


/-- the boxes, and the copy that was laid first -/
structure SM (w : World) (N : Int) (a : Option Addr) (n c : Nat) (xi xo xa xb : Int) (es : List EdgeV) (hi b : Nat) (a' : Option Addr) (c' : Nat) (u : World) : Prop where
  i : InM w N a n c xi xo xa xb u
  g : GBox u (w.heap.size + 3) hi b N a' n c' es
theorem SM.up {w u v : World} {N : Int} {a : Option Addr} {n c : Nat} {xi xo xa xb : Int} {es : List EdgeV} {hi b : Nat} {a' : Option Addr} {c' : Nat} (h : SM w N a n c xi xo xa xb es hi b a' c' u) (hb : Below u.heap.size u v) : SM w N a n c xi xo xa xb es hi b a' c' v := ⟨h.i.up hb, h.g.up hb⟩
theorem SM.set {w u : World} {N : Int} {a : Option Addr} {n c : Nat} {xi xo xa xb : Int} {es : List EdgeV} {hi b : Nat} {a' : Option Addr} {c' : Nat} (h : SM w N a n c xi xo xa xb es hi b a' c' u) (q j : Nat) (x : Value) (hq : hi ≤ q) (hq3 : w.heap.size + 3 ≤ q) : SM w N a n c xi xo xa xb es hi b a' c' (u.setCell ⟨q, j, none⟩ x) :=
  ⟨h.i.set q j x hq3, h.g.rng (Rng.of_grown (lo := q) (hi := q + 1) (grownSet u q j x) (Nat.le_refl _) (Nat.lt_succ_self _)) (.inl hq)⟩
theorem keepBox {u : World} {lo hi b : Nat} {M : Int} {a : Option Addr} {m c : Nat} {gs : List EdgeV} (h : GBox u lo hi b M a m c gs) : ∀ v, Keep u v → Box2 v b 26 (.int .i64 M) (.slice a m c) := fun _ hu => hu _ _ _ _ h.box
/-- the copy is what is answered -/
theorem SM.ans {w u : World} {N : Int} {a : Option Addr} {n c : Nat} {xi xo xa xb : Int} {es : List EdgeV} {hi b : Nat} {a' : Option Addr} {c' : Nat} (h : SM w N a n c xi xo xa xb es hi b a' c' u) {r : List EdgeV × Int} {s : Int} (ho : r = (es, s)) :
    MAns w N r (.returned (.tuple #[.agg #[.int .i64 N, .slice a' n c'], .int .i64 s])) ((u.setCell ⟨w.heap.size + 1 + 1, 0, none⟩ (.int .i64 N)).setCell ⟨w.heap.size + 1 + 1, 1, none⟩ (.slice a' n c')) := mans_yes h.i ho (Nat.le_refl _) h.g.own
set_option maxRecDepth 100000 in
set_option maxHeartbeats 4000000 in
theorem sModel_any (N : Int) (es : List EdgeV) (xi xo xa xb : Int) (n : Nat) (a : Option Addr) (c : Nat) (hsl : Sl a n c) (hn : n ≤ 1048576) (w : World) (h : Es w w.heap.size a n es) :
    Calls Try.prog 9 #[.agg #[.int .i64 N, .slice a n c], .agg #[.int .i64 xi, .int .i64 xo, .int .i64 xa, .int .i64 xb]] w fun e w' => MAns w N (mdR N es xo xa xb) e w' := by
  obtain ⟨i0, hi, hz0, hz1, hz2⟩ := info_parts infoIE
  have HE : Hid (∀ u, InM w N a n c xi xo xa xb u → Es u u.heap.size a n es) := fun u hu => h.up hu.below
  have HK : Hid (∀ u, InM w N a n c xi xo xa xb u → _) := fun u (hu : InM w N a n c xi xo xa xb u) => hu.cells
  have HI := hideIt l01In_any
  have S1 := InM.start w N a n c xi xo xa xb
  obtain ⟨W, hW⟩ : ∃ W, W = m3 w N a n c xi xo xa xb := ⟨_, rfl⟩
  have zW : W.heap.size = w.heap.size + 3 := by rw [hW, m3_size]
  rw [← hW] at S1
  have hnl := hsl.nil
  have hln : (ecells es).length = n * 2 := by rw [ecells_length, h.1]
  have T0 := S1.drew
  have T1 : InM w N a n c xi xo xa xb (W.alloc (.cells #[] 59)).drew := (S1.alloc _).drew
  have T2 : InM w N a n c xi xo xa xb ((W.alloc (.cells #[] 59)).alloc (.cells #[.int .i64 0, .slice none 0 0] 26)).drew := ((S1.alloc _).alloc _).drew
  have T3 : InM w N a n c xi xo xa xb ((W.alloc (.cells #[.int .i64 0, .slice none 0 0] 26)).alloc (.cells #[] 59)).drew := ((S1.alloc _).alloc _).drew
  have T4 : InM w N a n c xi xo xa xb (W.alloc (.cells #[.int .i64 0, .slice none 0 0] 26)).drew := (S1.alloc _).drew
  have O1 : (W.alloc (.cells #[] 59)).drew.ownsRow (w.heap.size + 3) 59 2 (.slice (some ⟨W.heap.size, 0, none⟩) 0 0) 0 [] := (World.ownsRow_lit W #[] 0 (by omega) (by unfold maxLen; omega) (by simp)).drew
  have O2 : ((W.alloc (.cells #[] 59)).alloc (.cells #[.int .i64 0, .slice none 0 0] 26)).drew.ownsRow (w.heap.size + 3) 59 2 (.slice (some ⟨W.heap.size, 0, none⟩) 0 0) 0 [] := ((World.ownsRow_lit W #[] 0 (by omega) (by unfold maxLen; omega) (by simp)).alloc _).drew
  have O3 : ((W.alloc (.cells #[.int .i64 0, .slice none 0 0] 26)).alloc (.cells #[] 59)).drew.ownsRow (w.heap.size + 3) 59 2 (.slice (some ⟨W.heap.size + 1, 0, none⟩) 0 0) 0 [] := by
    have h := (World.ownsRow_lit (W.alloc (.cells #[.int .i64 0, .slice none 0 0] 26)) #[] 0 (base := w.heap.size + 3) (e := 59) (size := 2) (by simp; omega) (by unfold maxLen; omega) (by simp)).drew
    simpa using h
  have B2 : Box2 ((W.alloc (.cells #[] 59)).alloc (.cells #[.int .i64 0, .slice none 0 0] 26)).drew (W.heap.size + 1) 26 (.int .i64 0) (.slice none 0 0) := by
    have h := Box2.new (W.alloc (.cells #[] 59)) 26 (.int .i64 0) (.slice none 0 0) _ rfl
    rw [show (W.alloc (.cells #[] 59)).heap.size = W.heap.size + 1 by simp] at h
    exact h
  have B3 : Box2 ((W.alloc (.cells #[.int .i64 0, .slice none 0 0] 26)).alloc (.cells #[] 59)).drew W.heap.size 26 (.int .i64 0) (.slice none 0 0) := by
    exact (Box2.new W 26 (.int .i64 0) (.slice none 0 0) _ rfl).alloc _
  have hne1 : some (W.heap.size + 1) ≠ some W.heap.size := by simp
  have hne2 : some W.heap.size ≠ some (W.heap.size + 1) := by simp
  have HLo : Hid (w.heap.size + 3 ≤ W.heap.size) := by show _ ≤ _; omega
  have hsz : w.heap.size + 3 ≤ W.heap.size := by omega
  have HSl := hideIt hsl
  clear h zW hsl
  go_enter Try.func9, Try.ntmps9
  go_upto_region 1 with fail
  rw [show ((w.alloc (.cells #[.int .i64 N, .slice a n c] 26)).alloc (.cells #[.int .i64 xi, .int .i64 xo, .int .i64 xa, .int .i64 xb] 28)).alloc (.cells #[.int .i64 0, .slice none 0 0] 26) = W from hW.symm]
  clear hW
  go_cut [6] (fun q wx => ∃ b a' c', q = .pointer (some ⟨b, 0, none⟩) ∧ SM w N a n c xi xo xa xb es wx.heap.size b a' c' wx)
  case first =>
    go_region_held3 (fun u => u.cell? ⟨w.heap.size, 0, none⟩ = some (.int .i64 N) ∧ u.cell? ⟨w.heap.size, 1, none⟩ = some (.slice a n c))
      (first
        | exact ⟨(HK.out _ T0).1, (HK.out _ T0).2.1⟩ | exact ⟨(HK.out _ T1).1, (HK.out _ T1).2.1⟩ | exact ⟨(HK.out _ T2).1, (HK.out _ T2).2.1⟩ | exact ⟨(HK.out _ T3).1, (HK.out _ T3).2.1⟩ | exact ⟨(HK.out _ T4).1, (HK.out _ T4).2.1⟩
        | exact ⟨(HK.out _ S5).1, (HK.out _ S5).2.1⟩ | exact ⟨(HK.out _ (S5.alloc _)).1, (HK.out _ (S5.alloc _)).2.1⟩
        | exact ⟨(HK.out _ ((S5.set _ 0 _ (by omega)).set _ 1 _ (by omega))).1, (HK.out _ ((S5.set _ 0 _ (by omega)).set _ 1 _ (by omega))).2.1⟩)
      (first
        | (refine step_append_copy (by rfl) _ _ _ (by rfl) (w.heap.size + 3) 59 i0 _ 2 16 Try.underlying24 hi hz0 hz1 hz2 rfl (by omega) _ (by rfl) O1 a n c (ecells es) (by rfl) hln hnl ((HE.out _ T1).newsO) ecells_one (by unfold maxLen; omega) (by omega) T1.size ?_; intro a' c' w5 ho5 hg5; have S5 := T1.gr hg5 (by first | omega | (show w.heap.size + 3 ≤ W.heap.size + 1; omega)); have s5 := S5.size)
        | (refine step_append_copy (by rfl) _ _ _ (by rfl) (w.heap.size + 3) 59 i0 _ 2 16 Try.underlying24 hi hz0 hz1 hz2 rfl (by omega) _ (by rfl) O2 a n c (ecells es) (by rfl) hln hnl ((HE.out _ T2).newsO) ecells_one (by unfold maxLen; omega) (by omega) T2.size ?_; intro a' c' w5 ho5 hg5; have S5 := T2.gr hg5 (by first | omega | (show w.heap.size + 3 ≤ W.heap.size + 1; omega)); have bx := B2.grown hg5 hne1; have bc0 := bx.cell0; have bc1 := bx.cell1; have bz0 := bx.frozen 0; have bz1 := bx.frozen 1)
        | (refine step_append_copy (by rfl) _ _ _ (by rfl) (w.heap.size + 3) 59 i0 _ 2 16 Try.underlying24 hi hz0 hz1 hz2 rfl (by omega) _ (by rfl) O3 a n c (ecells es) (by rfl) hln hnl ((HE.out _ T3).newsO) ecells_one (by unfold maxLen; omega) (by omega) T3.size ?_; intro a' c' w5 ho5 hg5; have S5 := T3.gr hg5 (by first | omega | (show w.heap.size + 3 ≤ W.heap.size + 1; omega)); have bx := B3.grown hg5 hne2; have bc0 := bx.cell0; have bc1 := bx.cell1; have bz0 := bx.frozen 0; have bz1 := bx.frozen 1))
    all_goals
      go_wp2_with fail
      go_meet
      first
        | exact ⟨_, a', c', rfl, (S5.set _ 0 _ (by omega)).set _ 1 _ (by omega), GBox.stored bx (by omega) ho5⟩
        | exact ⟨_, a', c', rfl, S5.alloc _, GBox.laid (by omega) ho5⟩
  case rest =>
    obtain ⟨b, a', c', rfl, SW⟩ := hcut
    clear T0 T1 T2 T3 T4 O1 O2 O3 B2 B3 hne1 hne2 HLo hsz S1 hln hnl hi hz0 hz1 hz2
    have HCW : Hid (w.heap.size + 3 ≤ wc.heap.size) := SW.i.size
    generalize hhi : wc.heap.size = hi' at SW HCW
    clear hhi
    obtain ⟨k0, k1, k2, k3, k4, k5⟩ := HK.out _ SW.i
    have q0 := SW.g.cells.1
    have q1 := SW.g.cells.2
    obtain ⟨⟨r0, r1⟩, r2, r3⟩ := SW.i.out
    have sz := SW.i.size
    have hbl := SW.g.least
    by_cases ho : 1 ≤ xo ∧ xo ≤ 4
    · have e0 : decide (1 ≤ xo ∧ xo ≤ 4) = true := decide_eq_true ho
      by_cases hA : 0 ≤ xa
      · have a0 : decide (0 ≤ xa) = true := decide_eq_true hA
        by_cases hB : xa < N
        · have a1 : decide (xa < N) = true := decide_eq_true hB
          have hv : hvB N xa = true := by simp [hvB, hA, hB]
          by_cases h4 : xo = 4
          · have e4 : (xo == 4) = true := by simpa using h4
            by_cases hs : 1 ≤ xb ∧ xb ≤ 3
            · have e5 : decide (1 ≤ xb ∧ xb ≤ 3) = true := decide_eq_true hs
              have HO := hideIt (show mdR N es xo xa xb = (es, 1) by unfold mdR; rw [show telB N xo xa xb = true by unfold telB; simp [h4, hv, sdB, hs]]; simp [h4])
              clear ho hA hB h4 hs hv
              go_wp2_with (go_at_call 25; refine (HI.out _ _ _ _).mono ?_; rintro e w1 ⟨rfl, rfl⟩)
              exact bodyPost_ret (v := .tuple #[.agg #[.int .i64 N, .slice a' n c'], .int .i64 1]) (by simp [results, Try.results9, go_sem, r0, r1]) rfl (SW.ans HO.out)
            · have e5 : decide (1 ≤ xb ∧ xb ≤ 3) = false := decide_eq_false hs
              have HO := hideIt (show mdR N es xo xa xb = (es, 3) by unfold mdR; rw [show telB N xo xa xb = false by unfold telB; simp [h4, hv, sdB]; omega]; simp)
              clear ho hA hB h4 hs hv
              go_wp2_with (go_at_call 25; refine (HI.out _ _ _ _).mono ?_; rintro e w1 ⟨rfl, rfl⟩)
              exact bodyPost_ret (v := .tuple #[.agg #[.int .i64 N, .slice a' n c'], .int .i64 3]) (by simp [results, Try.results9, go_sem, r0, r1]) rfl (SW.ans HO.out)
          · have e4 : (xo == 4) = false := by simpa using h4
            by_cases hC : 0 ≤ xb
            · have b0 : decide (0 ≤ xb) = true := decide_eq_true hC
              by_cases hD : xb < N
              · have b1 : decide (xb < N) = true := decide_eq_true hD
                have hu : hvB N xb = true := by simp [hvB, hC, hD]
                by_cases h3 : xo = 3
                · have e3 : (xo == 3) = true := by simpa using h3
                  have e3n : (xo != 3) = false := by simpa using h3
                  have HTg := hideIt (sTogether_any N es xa xb n a c hn wc (HE.out _ SW.i))
                  cases hg : togB (labE N es) xa xb with
                  | false =>
                    rw [hg] at HTg
                    have HO := hideIt (show mdR N es xo xa xb = (es, 2) by unfold mdR; rw [show telB N xo xa xb = true by unfold telB; simp [h3, hv, hu]]; simp [hg, h3])
                    clear ho hA hB hC hD h3 h4 hv hu hg
                    cases hab : (xa == xb) with
                    | false =>
                      go_wp2_with (first | (go_at_call 25; refine (HI.out _ _ _ _).mono ?_; rintro e w1 ⟨rfl, rfl⟩) | (go_at_call 35; refine HTg.out.mono ?_; rintro e w2 ⟨rfl, hb2⟩; refine Hid.out ?_))
                      refine (show ∀ {p : Prop}, p → Hid p from fun h => h) ?_
                      have SX := SW.up hb2
                      clear q0 q1 r0 r1 r2 r3 k0 k1 k2 k3 k4 k5 sz hbl
                      obtain ⟨k0, k1, k2, k3, k4, k5⟩ := HK.out _ SX.i
                      have q0 := SX.g.cells.1
                      have q1 := SX.g.cells.2
                      obtain ⟨⟨r0, r1⟩, r2, r3⟩ := SX.i.out
                      have sz := SX.i.size
                      have hbl := SX.g.least
                      go_wp2
                      exact bodyPost_ret (v := .tuple #[.agg #[.int .i64 N, .slice a' n c'], .int .i64 2]) (by simp [results, Try.results9, go_sem, r0, r1]) rfl (SX.ans HO.out)
                    | true =>
                      go_wp2_with (first | (go_at_call 25; refine (HI.out _ _ _ _).mono ?_; rintro e w1 ⟨rfl, rfl⟩) | (go_at_call 35; refine HTg.out.mono ?_; rintro e w2 ⟨rfl, hb2⟩; refine Hid.out ?_))
                      refine (show ∀ {p : Prop}, p → Hid p from fun h => h) ?_
                      have SX := SW.up hb2
                      clear q0 q1 r0 r1 r2 r3 k0 k1 k2 k3 k4 k5 sz hbl
                      obtain ⟨k0, k1, k2, k3, k4, k5⟩ := HK.out _ SX.i
                      have q0 := SX.g.cells.1
                      have q1 := SX.g.cells.2
                      obtain ⟨⟨r0, r1⟩, r2, r3⟩ := SX.i.out
                      have sz := SX.i.size
                      have hbl := SX.g.least
                      go_wp2
                      exact bodyPost_ret (v := .tuple #[.agg #[.int .i64 N, .slice a' n c'], .int .i64 2]) (by simp [results, Try.results9, go_sem, r0, r1]) rfl (SX.ans HO.out)
                  | true =>
                    rw [hg] at HTg
                    have HO := hideIt (show mdR N es xo xa xb = (es, 1) by unfold mdR; rw [show telB N xo xa xb = true by unfold telB; simp [h3, hv, hu]]; simp [hg, h3])
                    clear ho hA hB hC hD h3 h4 hv hu hg
                    cases hab : (xa == xb) with
                    | false =>
                      go_wp2_with (first | (go_at_call 25; refine (HI.out _ _ _ _).mono ?_; rintro e w1 ⟨rfl, rfl⟩) | (go_at_call 35; refine HTg.out.mono ?_; rintro e w2 ⟨rfl, hb2⟩; refine Hid.out ?_))
                      refine (show ∀ {p : Prop}, p → Hid p from fun h => h) ?_
                      have SX := SW.up hb2
                      clear q0 q1 r0 r1 r2 r3 k0 k1 k2 k3 k4 k5 sz hbl
                      obtain ⟨k0, k1, k2, k3, k4, k5⟩ := HK.out _ SX.i
                      have q0 := SX.g.cells.1
                      have q1 := SX.g.cells.2
                      obtain ⟨⟨r0, r1⟩, r2, r3⟩ := SX.i.out
                      have sz := SX.i.size
                      have hbl := SX.g.least
                      go_wp2
                      exact bodyPost_ret (v := .tuple #[.agg #[.int .i64 N, .slice a' n c'], .int .i64 1]) (by simp [results, Try.results9, go_sem, r0, r1]) rfl (SX.ans HO.out)
                    | true =>
                      go_wp2_with (first | (go_at_call 25; refine (HI.out _ _ _ _).mono ?_; rintro e w1 ⟨rfl, rfl⟩) | (go_at_call 35; refine HTg.out.mono ?_; rintro e w2 ⟨rfl, hb2⟩; refine Hid.out ?_))
                      refine (show ∀ {p : Prop}, p → Hid p from fun h => h) ?_
                      have SX := SW.up hb2
                      clear q0 q1 r0 r1 r2 r3 k0 k1 k2 k3 k4 k5 sz hbl
                      obtain ⟨k0, k1, k2, k3, k4, k5⟩ := HK.out _ SX.i
                      have q0 := SX.g.cells.1
                      have q1 := SX.g.cells.2
                      obtain ⟨⟨r0, r1⟩, r2, r3⟩ := SX.i.out
                      have sz := SX.i.size
                      have hbl := SX.g.least
                      go_wp2
                      exact bodyPost_ret (v := .tuple #[.agg #[.int .i64 N, .slice a' n c'], .int .i64 1]) (by simp [results, Try.results9, go_sem, r0, r1]) rfl (SX.ans HO.out)
                · have e3 : (xo == 3) = false := by simpa using h3
                  have e3n : (xo != 3) = true := by simpa using h3
                  have h12 : xo = 1 ∨ xo = 2 := by omega
                  by_cases hab : xa = xb
                  · have d5 : (xa == xb) = true := by simpa using hab
                    have HO := hideIt (show mdR N es xo xa xb = (es, 3) by unfold mdR; rw [show telB N xo xa xb = false by unfold telB; rw [if_pos h12]; simp [hab]]; simp)
                    clear ho hA hB hC hD h3 h4 hv hu hab h12
                    go_wp2_with (go_at_call 25; refine (HI.out _ _ _ _).mono ?_; rintro e w1 ⟨rfl, rfl⟩)
                    exact bodyPost_ret (v := .tuple #[.agg #[.int .i64 N, .slice a' n c'], .int .i64 3]) (by simp [results, Try.results9, go_sem, r0, r1]) rfl (SW.ans HO.out)
                  · have d5 : (xa == xb) = false := by simpa using hab
                    have hT : telB N xo xa xb = true := by unfold telB; rw [if_pos h12]; simp [hv, hu, hab]
                    clear hA hB hC hD hv hu hab h3 h4 ho
                    have HSE : Hid (∀ u, SM w N a n c xi xo xa xb es hi' b a' c' u → Calls Try.prog 37 #[.agg #[.int .i64 xi, .int .i64 xo, .int .i64 xa, .int .i64 xb]] u fun e v => e = .returned (.agg #[.int .i64 (edA xa xb).1, .int .i64 (edA xa xb).2]) ∧ SM w N a n c xi xo xa xb es hi' b a' c' v ∧ Keep u v) := fun u hu => (l12Edge_any xi xo xa xb u).mono fun _ _ ⟨he, hb⟩ => ⟨he, hu.up hb, Keep.of hb⟩
                    have HOa : Hid (xo = 1 → mdR N es xo xa xb = chR es (addE N es (edA xa xb))) := fun h1 => by unfold mdR; rw [hT]; simp [h1]
                    have HOt : Hid (xo = 2 → mdR N es xo xa xb = chR es (takE N es (edA xa xb))) := fun h1 => by unfold mdR; rw [hT]; simp [h1]
                    have HSa : Hid (∀ u, SM w N a n c xi xo xa xb es hi' b a' c' u → Calls Try.prog 36 #[.agg #[.int .i64 N, .slice a n c], .agg #[.int .i64 (edA xa xb).1, .int .i64 (edA xa xb).2]] u fun e v => ∃ ag mg cg, e = .returned (.tuple #[.agg #[.int .i64 (if (addE N es (edA xa xb)).isSome then N else 0), .slice ag mg cg], .bool (addE N es (edA xa xb)).isSome]) ∧ Hid (v.ownsRow hi' 59 2 (.slice ag mg cg) mg (ecells ((addE N es (edA xa xb)).getD []))) ∧ SM w N a n c xi xo xa xb es hi' b a' c' v ∧ Keep u v) := fun u hu =>
                      (sAddEdge_any N es (edA xa xb) n a c hn u (HE.out u hu.i)).mono fun _ _ ⟨ag, mg, cg, he, ho, hb⟩ => ⟨ag, mg, cg, he, own_mono ho hu.g.there, hu.up hb, Keep.of hb⟩
                    have HSt : Hid (∀ u, SM w N a n c xi xo xa xb es hi' b a' c' u → Calls Try.prog 38 #[.agg #[.int .i64 N, .slice a n c], .agg #[.int .i64 (edA xa xb).1, .int .i64 (edA xa xb).2]] u fun e v => ∃ ag mg cg, e = .returned (.tuple #[.agg #[.int .i64 (if (takE N es (edA xa xb)).isSome then N else 0), .slice ag mg cg], .bool (takE N es (edA xa xb)).isSome]) ∧ Hid (v.ownsRow hi' 59 2 (.slice ag mg cg) mg (ecells ((takE N es (edA xa xb)).getD []))) ∧ SM w N a n c xi xo xa xb es hi' b a' c' v ∧ Keep u v) := fun u hu =>
                      (sTakeEdge_any N es (edA xa xb) n a c hn u (HE.out u hu.i)).mono fun _ _ ⟨ag, mg, cg, he, ho, hb⟩ => ⟨ag, mg, cg, he, own_mono ho hu.g.there, hu.up hb, Keep.of hb⟩
                    generalize addE N es (edA xa xb) = oA at *
                    generalize takE N es (edA xa xb) = oT at *
                    generalize edA xa xb = f at *
                    clear hT
                    go_upto_region 14 with (go_at_call 25; refine (HI.out _ _ _ _).mono ?_; rintro e w1 ⟨rfl, rfl⟩)
                    clear k0 k1 k2 k3 k4 k5 q0 q1 r0 r1 r2 r3
                    have HC := hideIt (fun u (hu : SM w N a n c xi xo xa xb es hi' b a' c' u) => And.intro hu.i.cells hu)
                    have SWd := SW.up (Below.refl _ _).drew
                    have hS2 := HC.out _ SWd
                    have hth := SW.g.there
                    have hcw := HCW.out
                    generalize hMA : (if oA.isSome then N else 0) = MA at *
                    generalize hfl : oA.isSome = fl at *
                    generalize hgs : oA.getD [] = gs at *
                    have HMA := hideIt (And.intro hMA (And.intro hfl hgs))
                    clear hMA hfl hgs
                    go_cut [7, 8] (fun q ok wx => ∃ b2 ag mg cg, q = .pointer (some ⟨b2, 0, none⟩) ∧ ok = .bool fl ∧ SM w N a n c xi xo xa xb es hi' b a' c' wx ∧ GBox wx hi' wx.heap.size b2 MA ag mg cg gs)
                    case first =>
                      go_region_held3 (fun u => (u.cell? ⟨w.heap.size, 0, none⟩ = some (.int .i64 N) ∧ u.cell? ⟨w.heap.size, 1, none⟩ = some (.slice a n c) ∧ u.cell? ⟨w.heap.size + 1, 0, none⟩ = some (.int .i64 xi) ∧ u.cell? ⟨w.heap.size + 1, 1, none⟩ = some (.int .i64 xo) ∧ u.cell? ⟨w.heap.size + 1, 2, none⟩ = some (.int .i64 xa) ∧ u.cell? ⟨w.heap.size + 1, 3, none⟩ = some (.int .i64 xb)) ∧ SM w N a n c xi xo xa xb es hi' b a' c' u)
                        (first | assumption | exact HC.out _ (SM.up (And.right (by assumption)) ((Below.refl _ _).alloc (Nat.le_refl _) _)) | exact HC.out _ (SM.set (SM.set (And.right (by assumption)) _ _ _ (by omega) (by omega)) _ _ _ (by omega) (by omega)))
                        (first
                          | (go_at_call 37; refine (HSE.out _ (And.right (by assumption))).mono ?_; rintro e u7 ⟨rfl, S7, hk7⟩; have hS7 := HC.out _ S7; have z7 := S7.g.there; (first | have bx := hk7.nil (Box2.new _ _ _ _ _ rfl) | skip))
                          | (go_at_call 36; refine (HSa.out _ (And.right (by assumption))).mono ?_; rintro e u8 ⟨ag, mg, cg, rfl, ho8, S8, hk8⟩; have hS8 := HC.out _ S8; have z8 := S8.g.there; (first | have bx := hk8.nil bx | have bx := hk8.nil (Box2.new _ _ _ _ _ rfl) | skip); try (have bc0 := bx.cell0; have bc1 := bx.cell1; have bz0 := bx.frozen 0; have bz1 := bx.frozen 1)))
                      all_goals
                        go_wp2_with fail
                        go_meet
                        first
                          | exact ⟨_, ag, mg, cg, rfl, rfl, SM.set (SM.set S8 _ _ _ (by omega) (by omega)) _ _ _ (by omega) (by omega), GBox.stored bx (by omega) ho8.out⟩
                          | exact ⟨_, ag, mg, cg, rfl, rfl, S8.up ((Below.refl _ _).alloc (Nat.le_refl _) _), GBox.laid (by omega) ho8.out⟩
                    case rest =>
                      obtain ⟨b2, ag, mg, cg, rfl, rfl, S3, DG⟩ := hcut
                      clear HC SWd hS2 SW
                      have hb2 := DG.least
                      obtain ⟨k0, k1, k2, k3, k4, k5⟩ := HK.out _ S3.i
                      by_cases h2 : xo = 2
                      · have e2 : (xo == 2) = true := by simpa using h2
                        clear HSa HMA HOa
                        have HO := hideIt (HOt.out h2)
                        clear h2 h12 HOt
                        generalize hMT : (if oT.isSome then N else 0) = MT at *
                        generalize hft : oT.isSome = ft at *
                        generalize hgt : oT.getD [] = gt at *
                        have HMT := hideIt (And.intro hMT (And.intro hft hgt))
                        clear hMT hft hgt
                        go_upto_region 16 with fail
                        clear k0 k1 k2 k3 k4 k5
                        have HC := hideIt (fun u (hu : SM w N a n c xi xo xa xb es hi' b a' c' u) => And.intro hu.i.cells hu)
                        have S3d := S3.up (Below.refl _ _).drew
                        have hS2 := HC.out _ S3d
                        have hth := S3.g.there
                        have HDk := hideIt (keepBox DG)
                        have hb2w := DG.most
                        clear DG
                        go_cut [7, 8] (fun q ok wx => ∃ ah mh ch, q = .pointer (some ⟨b2, 0, none⟩) ∧ ok = .bool ft ∧ SM w N a n c xi xo xa xb es hi' b a' c' wx ∧ GBox wx hi' wx.heap.size b2 MT ah mh ch gt)
                        case first =>
                          go_region_held3 (fun u => (u.cell? ⟨w.heap.size, 0, none⟩ = some (.int .i64 N) ∧ u.cell? ⟨w.heap.size, 1, none⟩ = some (.slice a n c) ∧ u.cell? ⟨w.heap.size + 1, 0, none⟩ = some (.int .i64 xi) ∧ u.cell? ⟨w.heap.size + 1, 1, none⟩ = some (.int .i64 xo) ∧ u.cell? ⟨w.heap.size + 1, 2, none⟩ = some (.int .i64 xa) ∧ u.cell? ⟨w.heap.size + 1, 3, none⟩ = some (.int .i64 xb)) ∧ SM w N a n c xi xo xa xb es hi' b a' c' u)
                            (first | assumption | exact HC.out _ (SM.set (SM.set (And.right (by assumption)) _ _ _ (by omega) (by omega)) _ _ _ (by omega) (by omega)))
                            (first
                              | (go_at_call 37; refine (HSE.out _ S3d).mono ?_; rintro e u7 ⟨rfl, S7, hk7⟩; have hS7 := HC.out _ S7; have bx7 := hk7 _ _ _ _ (HDk.out _ (fun _ _ _ _ h => h)))
                              | (go_at_call 38; refine (HSt.out _ S7).mono ?_; rintro e u8 ⟨ah, mh, ch, rfl, ho8, S8, hk8⟩; have hS8 := HC.out _ S8; have bx := hk8 _ _ _ _ bx7; have bc0 := bx.cell0; have bc1 := bx.cell1; have bz0 := bx.frozen 0; have bz1 := bx.frozen 1))
                          all_goals
                            go_wp2_with fail
                            go_meet
                            exact ⟨ah, mh, ch, rfl, rfl, SM.set (SM.set S8 _ _ _ (by omega) (by omega)) _ _ _ (by omega) (by omega), GBox.stored bx (by omega) ho8.out⟩
                        case rest =>
                          obtain ⟨ah, mh, ch, rfl, rfl, S4, DH⟩ := hcut
                          obtain ⟨j1, j2, j3⟩ := HMT.out
                          clear hS2 S3d HC HDk S3 HMT
                          have q0 := S4.g.cells.1
                          have q1 := S4.g.cells.2
                          have p0 := DH.cells.1
                          have p1 := DH.cells.2
                          obtain ⟨⟨r0, r1⟩, r2, r3⟩ := S4.i.out
                          have sz := S4.i.size
                          have hbl := S4.g.least
                          cases oT with
                          | none =>
                            simp only [Option.isSome_none] at j2
                            subst j2
                            have HO2 := hideIt (show mdR N es xo xa xb = (es, 2) by rw [HO.out]; rfl)
                            clear HO j1 j3
                            go_wp2
                            exact bodyPost_ret (v := .tuple #[.agg #[.int .i64 N, .slice a' n c'], .int .i64 2]) (by simp [results, Try.results9, go_sem, r0, r1]) rfl (S4.ans HO2.out)
                          | some z =>
                            simp only [Option.isSome_some] at j2
                            subst j2
                            simp only [if_true] at j1
                            subst j1
                            simp only [Option.getD_some] at j3
                            subst j3
                            have HO2 := hideIt (show mdR N es xo xa xb = (z, 1) by rw [HO.out]; rfl)
                            clear HO
                            have hDo := hideIt DH.own
                            have hlo := hideIt (show w.heap.size + 3 ≤ hi' from HCW.out)
                            go_wp2
                            exact bodyPost_ret (v := .tuple #[.agg #[.int .i64 N, .slice ah mh ch], .int .i64 1]) (by simp [results, Try.results9, go_sem, r0, r1]) rfl (mans_yes S4.i HO2.out hlo.out hDo.out)
                      · have e2 : (xo == 2) = false := by simpa using h2
                        have HO := hideIt (HOa.out (by omega))
                        clear HSt HOt HOa h2 h12 HSE
                        obtain ⟨j1, j2, j3⟩ := HMA.out
                        clear HMA
                        have q0 := S3.g.cells.1
                        have q1 := S3.g.cells.2
                        have p0 := DG.cells.1
                        have p1 := DG.cells.2
                        obtain ⟨⟨r0, r1⟩, r2, r3⟩ := S3.i.out
                        have sz := S3.i.size
                        have hbl := S3.g.least
                        cases oA with
                        | none =>
                          simp only [Option.isSome_none] at j2
                          subst j2
                          have HO2 := hideIt (show mdR N es xo xa xb = (es, 2) by rw [HO.out]; rfl)
                          clear HO j1 j3
                          go_wp2
                          exact bodyPost_ret (v := .tuple #[.agg #[.int .i64 N, .slice a' n c'], .int .i64 2]) (by simp [results, Try.results9, go_sem, r0, r1]) rfl (S3.ans HO2.out)
                        | some z =>
                          simp only [Option.isSome_some] at j2
                          subst j2
                          simp only [if_true] at j1
                          subst j1
                          simp only [Option.getD_some] at j3
                          subst j3
                          have HO2 := hideIt (show mdR N es xo xa xb = (z, 1) by rw [HO.out]; rfl)
                          clear HO
                          have hDo := hideIt DG.own
                          have hlo := hideIt (show w.heap.size + 3 ≤ hi' from HCW.out)
                          go_wp2
                          exact bodyPost_ret (v := .tuple #[.agg #[.int .i64 N, .slice ag mg cg], .int .i64 1]) (by simp [results, Try.results9, go_sem, r0, r1]) rfl (mans_yes S3.i HO2.out hlo.out hDo.out)
              · have b1 : decide (xb < N) = false := decide_eq_false hD
                have hu : hvB N xb = false := by simp [hvB]; omega
                have HO := hideIt (show mdR N es xo xa xb = (es, 3) by unfold mdR; rw [show telB N xo xa xb = false by unfold telB; simp [hu, h4]]; simp)
                clear ho hA hB hC hD h4 hv hu
                go_wp2_with (go_at_call 25; refine (HI.out _ _ _ _).mono ?_; rintro e w1 ⟨rfl, rfl⟩)
                exact bodyPost_ret (v := .tuple #[.agg #[.int .i64 N, .slice a' n c'], .int .i64 3]) (by simp [results, Try.results9, go_sem, r0, r1]) rfl (SW.ans HO.out)
            · have b0 : decide (0 ≤ xb) = false := decide_eq_false hC
              have hu : hvB N xb = false := by simp [hvB]; omega
              have HO := hideIt (show mdR N es xo xa xb = (es, 3) by unfold mdR; rw [show telB N xo xa xb = false by unfold telB; simp [hu, h4]]; simp)
              clear ho hA hB hC h4 hv hu
              go_wp2_with (go_at_call 25; refine (HI.out _ _ _ _).mono ?_; rintro e w1 ⟨rfl, rfl⟩)
              exact bodyPost_ret (v := .tuple #[.agg #[.int .i64 N, .slice a' n c'], .int .i64 3]) (by simp [results, Try.results9, go_sem, r0, r1]) rfl (SW.ans HO.out)
        · have a1 : decide (xa < N) = false := decide_eq_false hB
          have hv : hvB N xa = false := by simp [hvB]; omega
          have HO := hideIt (show mdR N es xo xa xb = (es, 3) by unfold mdR; rw [show telB N xo xa xb = false by unfold telB; simp [hv]]; simp)
          clear ho hA hB hv
          go_wp2_with (go_at_call 25; refine (HI.out _ _ _ _).mono ?_; rintro e w1 ⟨rfl, rfl⟩)
          exact bodyPost_ret (v := .tuple #[.agg #[.int .i64 N, .slice a' n c'], .int .i64 3]) (by simp [results, Try.results9, go_sem, r0, r1]) rfl (SW.ans HO.out)
      · have a0 : decide (0 ≤ xa) = false := decide_eq_false hA
        have hv : hvB N xa = false := by simp [hvB]; omega
        have HO := hideIt (show mdR N es xo xa xb = (es, 3) by unfold mdR; rw [show telB N xo xa xb = false by unfold telB; simp [hv]]; simp)
        clear ho hA hv
        go_wp2_with (go_at_call 25; refine (HI.out _ _ _ _).mono ?_; rintro e w1 ⟨rfl, rfl⟩)
        exact bodyPost_ret (v := .tuple #[.agg #[.int .i64 N, .slice a' n c'], .int .i64 3]) (by simp [results, Try.results9, go_sem, r0, r1]) rfl (SW.ans HO.out)
    · have e0 : decide (1 ≤ xo ∧ xo ≤ 4) = false := decide_eq_false ho
      have HO := hideIt (show mdR N es xo xa xb = (es, 3) by unfold mdR; rw [show telB N xo xa xb = false by unfold telB; rw [if_neg (by omega), if_neg (by omega), if_neg (by omega)]]; simp)
      clear ho
      go_wp2_with (go_at_call 25; refine (HI.out _ _ _ _).mono ?_; rintro e w1 ⟨rfl, rfl⟩)
      exact bodyPost_ret (v := .tuple #[.agg #[.int .i64 N, .slice a' n c'], .int .i64 3]) (by simp [results, Try.results9, go_sem, r0, r1]) rfl (SW.ans HO.out)
end Go.Proofs.Ytobcihdjennieaa
namespace Go.Proofs.Ytobcihdjennieaa
open Go.RowKit

/-- where nothing came or went the edges are as they were; else the graph is right, and has one more, or one less -/
theorem md_tells (N : Int) (es : List EdgeV) (xo xa xb : Int) : ((mdR N es xo xa xb).2 ≠ 1 ∨ xo = 3 ∨ xo = 4 → (mdR N es xo xa xb).1 = es) ∧
    ((mdR N es xo xa xb).2 = 1 → xo ≠ 3 → xo ≠ 4 → gB N (mdR N es xo xa xb).1 = true ∧ ((mdR N es xo xa xb).1.length = es.length + 1 ∨ (mdR N es xo xa xb).1.length + 1 = es.length)) := by
  cases hT : telB N xo xa xb with
  | false =>
    have e : mdR N es xo xa xb = (es, 3) := by unfold mdR; simp [hT]
    rw [e]
    exact ⟨fun _ => rfl, fun h => by simp at h⟩
  | true =>
    by_cases h1 : xo = 1
    · have e : mdR N es xo xa xb = chR es (addE N es (edA xa xb)) := by unfold mdR; rw [hT]; simp [h1]
      rw [e]
      unfold addE
      split
      · rename_i h
        refine ⟨fun h' => ?_, fun _ _ _ => ⟨gB_put h.1 h.2.1, .inl (len_put (fun hm => ?_))⟩⟩
        · rcases h' with h' | h' | h'
          · exact absurd rfl h'
          · omega
          · omega
        · have := h.2.2
          unfold hasB at this
          simp [hm] at this
      · exact ⟨fun _ => rfl, fun h => by simp [chR] at h⟩
    · by_cases h2 : xo = 2
      · have e : mdR N es xo xa xb = chR es (takE N es (edA xa xb)) := by unfold mdR; rw [hT]; simp [h2]
        rw [e]
        unfold takE
        split
        · rename_i h
          refine ⟨fun h' => ?_, fun _ _ _ => ⟨gB_out h.1, .inr (len_out (asc_of_chk (gB_chk h.1).2.1) ?_)⟩⟩
          · rcases h' with h' | h' | h'
            · exact absurd rfl h'
            · omega
            · omega
          · have := h.2
            unfold hasB at this
            simpa using this
        · exact ⟨fun _ => rfl, fun h => by simp [chR] at h⟩
      · have e : (mdR N es xo xa xb).1 = es := by unfold mdR; rw [hT, if_neg (by simp), if_neg h1, if_neg h2]; split <;> rfl
        refine ⟨fun _ => e, fun h h3 h4 => ?_⟩
        exfalso
        unfold telB at hT
        rw [if_neg (by omega), if_neg h3, if_neg h4] at hT
        simp at hT
end Go.Proofs.Ytobcihdjennieaa
namespace Go.Proofs.Ytobcihdjennieaa
open Go.RowKit

theorem Box2.dr {u : World} {b : Nat} {t : TypeId} {v0 v1 : Value} (h : Box2 u b t v0 v1) : Box2 u.drew b t v0 v1 := h
theorem Box4.dr {u : World} {b : Nat} {t : TypeId} {x0 x1 x2 x3 : Int} (h : Box4 u b t x0 x1 x2 x3) : Box4 u.drew b t x0 x1 x2 x3 := h
theorem tIK_ne : 28 ≠ 59 := by decide
/-- where the draw stands: the answer's two boxes, the graph's, its edges -/
structure DMS (w : World) (a : Option Addr) (len cap X : Nat) (N : Int) (es : List EdgeV) (a1 : Option Addr) (m c1 : Nat) (u : World) : Prop where
  cur : Cur u (w.heap.size + 2) a len cap
  r : Box2 u w.heap.size 26 (.int .i64 0) (.slice none 0 0)
  s : Box4 u (w.heap.size + 1) 28 0 0 0 0
  g : Box2 u X 26 (.int .i64 N) (.slice a1 m c1)
  own : u.ownsRow (w.heap.size + 3) 59 2 (.slice a1 m c1) m (ecells es)
  bel : Below w.heap.size w u
  hX : w.heap.size + 3 ≤ X
section
variable {w u v : World} {a : Option Addr} {len cap X : Nat} {N : Int} {es : List EdgeV} {a1 : Option Addr} {m c1 : Nat}
theorem DMS.drawn (h : DMS w a len cap X N es a1 m c1 u) (d : Drawn u v (w.heap.size + 2) a len cap) : DMS w a len cap X N es a1 m c1 v :=
  ⟨d.cur, blk_drawn h.r d (by omega), blk_drawn h.s d (by omega), blk_drawn h.g d (by have := h.hX; omega), own_drawn h.own d (by omega), h.bel.grown d.grown h.bel.size (fun j hj => by simp at hj; omega), h.hX⟩
theorem DMS.up (h : DMS w a len cap X N es a1 m c1 u) (hb : Below u.heap.size u v) : DMS w a len cap X N es a1 m c1 v :=
  ⟨h.cur.up hb, blk_up h.r hb, blk_up h.s hb, blk_up h.g hb, own_up h.own hb, h.bel.trans (hb.mono (by have := h.bel.size; omega)), h.hX⟩
theorem DMS.alloc (h : DMS w a len cap X N es a1 m c1 u) (o : Obj) : DMS w a len cap X N es a1 m c1 (u.alloc o) := h.up (bel1 _ _)
theorem DMS.setY (h : DMS w a len cap X N es a1 m c1 u) {Y : Nat} {x0 x1 x2 x3 : Int} (hy : Box4 u Y 28 x0 x1 x2 x3) (hY : X < Y) (j : Nat) (z : Value) : DMS w a len cap X N es a1 m c1 (u.setCell ⟨Y, j, none⟩ z) := by
  have h3 := h.hX
  exact ⟨h.cur.grownX (gr_set u Y j z) (by omega), h.r.setO _ _ _ (by omega), h.s.setO _ _ _ (by omega), h.g.setO _ _ _ (by omega), own_kindG h.own hy tIK_ne, h.bel.setCell (p := ⟨Y, j, none⟩) (by show w.heap.size ≤ Y; omega) z, h.hX⟩
end


set_option maxRecDepth 100000 in
set_option maxHeartbeats 8000000 in
theorem drawModel_any (w : World) (a : Option Addr) (len cap : Nat) (hl : len ≤ 1048576) (hcode : Code w w.heap.size a len) :
    Calls Try.prog 7 #[.slice a len cap] w fun x w' => ∃ (N : Int) (es : List EdgeV) (xi xo xa xb : Int) (a1 : Option Addr) (m c1 : Nat), m ≤ 200 ∧ x = .returned (.tuple #[.agg #[.int .i64 N, .slice a1 m c1], .agg #[.int .i64 xi, .int .i64 xo, .int .i64 xa, .int .i64 xb]]) ∧ w'.ownsRow w.heap.size 59 2 (.slice a1 m c1) m (ecells es) ∧ Below w.heap.size w w' := by
  have hb0 : Below w.heap.size w ((w.alloc (.cells #[.int .i64 0, .slice none 0 0] 26)).alloc (.cells #[.int .i64 0, .int .i64 0, .int .i64 0, .int .i64 0] 28)) := ((Below.refl _ _).alloc (Nat.le_refl _) _).alloc (by simp) _
  have HN := hideIt (l01New_any _ a len cap hl (code_up hcode hb0))
  have hs0 : ((w.alloc (.cells #[.int .i64 0, .slice none 0 0] 26)).alloc (.cells #[.int .i64 0, .int .i64 0, .int .i64 0, .int .i64 0] 28)).heap.size = w.heap.size + 2 := by simp
  rw [hs0] at HN
  have R0 : Box2 ((w.alloc (.cells #[.int .i64 0, .slice none 0 0] 26)).alloc (.cells #[.int .i64 0, .int .i64 0, .int .i64 0, .int .i64 0] 28)) w.heap.size 26 (.int .i64 0) (.slice none 0 0) := (Box2.new w _ _ _ _ rfl).alloc _
  have R1 : Box4 ((w.alloc (.cells #[.int .i64 0, .slice none 0 0] 26)).alloc (.cells #[.int .i64 0, .int .i64 0, .int .i64 0, .int .i64 0] 28)) (w.heap.size + 1) 28 0 0 0 0 := by
    have := heap_alloc_new (w.alloc (.cells #[.int .i64 0, .slice none 0 0] 26)) (.cells #[.int .i64 0, .int .i64 0, .int .i64 0, .int .i64 0] 28)
    simpa [Box4] using this
  have HCw : Hid (∀ u, Below w.heap.size w u → w.heap.size + 2 < u.heap.size → Code u (w.heap.size + 2) a len) := fun u hu hz => by
    rcases code_up hcode hu with h | ⟨b, off, ha, hbl, hn, hc⟩
    · exact .inl h
    · rcases hcode with h | ⟨b', off', ha', hbl', hn', hc'⟩
      · exact .inl h
      · rw [ha] at ha'
        simp at ha'
        obtain ⟨rfl, rfl⟩ := ha'
        exact .inr ⟨b, off, ha, hbl, by omega, hc⟩
  go_enter Try.func7, Try.ntmps7
  go_wp2_with (go_at_call 23; refine HN.out.mono ?_; rintro x w1 ⟨rfl, hc, hd, hb, hsz⟩; refine Hid.out ?_)
  refine (show ∀ {p : Prop}, p → Hid p from fun h => h) ?_
  have B1 : Below w.heap.size w w1 := hb0.trans (hb.mono (by omega))
  have q0 : Box2 w1 w.heap.size 26 (.int .i64 0) (.slice none 0 0) := R0.below hb (by omega)
  have q1 : Box4 w1 (w.heap.size + 1) 28 0 0 0 0 := by unfold Box4; rw [hb.block _ (by omega)]; exact R1
  have HG1 := hideIt (l05AnyGraph_any w1 (w.heap.size + 2) a len cap hl hc hd)
  clear HN hc hd hb hb0 R0 R1 hs0 hcode
  go_wp2_with (go_at_call 24; refine HG1.out.mono ?_; rintro x w2 ⟨N, es, a1, m, c1, hm, rfl, ho2, d2⟩; refine Hid.out ?_)
  refine (show ∀ {p : Prop}, p → Hid p from fun h => h) ?_
  have hz2 := d2.grown.size
  have S3 : DMS w a len cap w2.heap.size N es a1 m c1 (w2.alloc (.cells #[.int .i64 N, .slice a1 m c1] 26)) :=
    ⟨d2.cur.up (bel1 _ _), (Box2.grown q0 d2.grown (by simp)).alloc _, (Box4.drawn q1 d2 (by omega)).alloc _, Box2.new _ _ _ _ _ rfl, own_mono (ho2.alloc _) (by omega), (B1.grown d2.grown B1.size (fun j hj => by simp at hj; omega)).trans ((bel1 _ _).mono (by have := B1.size; omega)), by omega⟩
  obtain ⟨W3, hW3⟩ : ∃ W3, W3 = w2.alloc (.cells #[.int .i64 N, .slice a1 m c1] 26) := ⟨_, rfl⟩
  have zX : w2.heap.size < W3.heap.size := by rw [hW3]; simp
  rw [← hW3] at S3
  go_upto_region 3 with fail
  rw [← hW3]
  clear hW3 q0 q1 HG1 ho2 d2 B1
  generalize w2.heap.size = X at *
  have g0 := S3.g.cell0
  have HI := hideIt l01In_any
  have HA : Hid (∀ (n : Int), 0 < n → n ≤ 1000 → Calls Try.prog 26 #[.pointer (some ⟨w.heap.size + 2, 0, none⟩), .int .i64 n, .int .i64 3, .int .i64 1] W3 fun e w' => ∃ xi xo xa xb : Int, e = .returned (.agg #[.int .i64 xi, .int .i64 xo, .int .i64 xa, .int .i64 xb]) ∧ Drawn W3 w' (w.heap.size + 2) a len cap) := fun n h0 h1 => l12Ask_any n 3 1 h0 h1 (by omega) (by omega) W3 (w.heap.size + 2) a len cap hl S3.cur (HCw.out _ S3.bel (by have := S3.hX; omega))
  have HS3 := hideIt S3
  clear S3
  by_cases hN : 1 ≤ N ∧ N ≤ 12
  · have n1 : decide (1 ≤ N ∧ N ≤ 12) = true := decide_eq_true hN
    have HA1 := hideIt (HA.out N (by omega) (by omega))
    go_wp2_with (first | (go_at_call 25; refine (HI.out _ _ _ _).mono ?_; rintro e w4 ⟨rfl, hw4⟩; have hw4' := hw4.symm; subst hw4') | (go_at_call 26; refine HA1.out.mono ?_; rintro e w5 ⟨xi, xo, xa, xb, rfl, d5⟩; refine Hid.out ?_))
    refine (show ∀ {p : Prop}, p → Hid p from fun h => h) ?_
    have S5 := (HS3.out.drawn d5).alloc (.cells #[.int .i64 xi, .int .i64 xo, .int .i64 xa, .int .i64 xb] 28)
    have Y5 : Box4 (w5.alloc (.cells #[.int .i64 xi, .int .i64 xo, .int .i64 xa, .int .i64 xb] 28)) w5.heap.size 28 xi xo xa xb := heap_alloc_new w5 _
    have zY : X < w5.heap.size := (HS3.out.drawn d5).g.lt
    obtain ⟨W6, hW6⟩ : ∃ W6, W6 = w5.alloc (.cells #[.int .i64 xi, .int .i64 xo, .int .i64 xa, .int .i64 xb] 28) := ⟨_, rfl⟩
    rw [← hW6] at S5 Y5
    go_upto_region 7 with fail
    rw [← hW6]
    clear hW6 HS3 d5 HA HA1 g0
    generalize w5.heap.size = Y at *
    have e1 := S5.g.cell1
    have hx3 := S5.hX
    have hxl := S5.g.lt
    by_cases hm0 : 0 < m
    · have d0 : decide ((0 : Int) < (m : Int)) = true := decide_eq_true (by omega)
      have HO1 := hideIt (l01Once_any 3 (by omega) (by omega) W6 (w.heap.size + 2) a len cap hl S5.cur (HCw.out _ S5.bel (by omega)))
      go_wp2_with (go_at_call 27; refine HO1.out.mono ?_; rintro e w7 ⟨b, rfl, d7⟩; refine Hid.out ?_)
      refine (show ∀ {p : Prop}, p → Hid p from fun h => h) ?_
      have S7 := S5.drawn d7
      have Y7 := Y5.drawn d7 (show Y ≠ w.heap.size + 2 by omega)
      clear S5 Y5 e1 HO1 d7 hxl
      cases b with
      | true =>
        have hlen : es.length = m := by have := S7.own.1; rw [ecells_length] at this; omega
        obtain ⟨e0, he0⟩ : ∃ e0, es[0]? = some e0 := ⟨es[0]'(by omega), List.getElem?_eq_getElem (by omega)⟩
        obtain ⟨bb, off, hab, hbb, hcc⟩ := (Es_of_own S7.own).2.resolve_left (by omega)
        obtain ⟨v0, v1⟩ := hcc 0 e0 he0
        simp only [Nat.zero_mul, Nat.add_zero] at v0 v1
        have hne : some Y ≠ (Value.slice a1 m c1).ownBlock := own_blk S7.own Y7 tIK_ne
        have hbY : bb ≠ Y := by
          rcases S7.own.2 with ⟨hv, h0⟩ | ⟨g9, cap9, cur9, hv, _⟩
          · omega
          · simp at hv
            obtain ⟨hv1, _⟩ := hv
            rw [hv1] at hab
            simp at hab
            intro e9
            apply hne
            rw [hv1]
            simp [Value.ownBlock]
            omega
        subst hab
        have m1 : (0 : Int) < (m : Int) := by omega
        have e1 := S7.g.cell1
        have hxl := S7.g.lt
        have yl := Y7.lt
        obtain ⟨y0, y1, y2, y3⟩ := Y7.cells
        have yf2 := Y7.frozen 2
        have yf3 := Y7.frozen 3
        have S8 := S7.setY Y7 zY 2 (.int .i64 e0.2)
        have Y8 := Y7.set2 e0.2
        have e1' : (w7.setCell ⟨Y, 2, none⟩ (.int .i64 e0.2)).cell? ⟨X, 1, none⟩ = some (.slice (some ⟨bb, off, none⟩) m c1) := S8.g.cell1
        have v0' : (w7.setCell ⟨Y, 2, none⟩ (.int .i64 e0.2)).cell? ⟨bb, off, none⟩ = some (.int .i64 e0.1) := by rw [set_other hbY]; exact v0
        obtain ⟨yy0, yy1, yy2, yy3⟩ := Y8.cells
        have yyf3 := Y8.frozen 3
        have S9 := S8.setY Y8 zY 3 (.int .i64 e0.1)
        have Y9' := Y8.set3 e0.1
        clear hcc hne
        obtain ⟨U, hU⟩ : ∃ U, U = (w7.setCell ⟨Y, 2, none⟩ (.int .i64 e0.2)).setCell ⟨Y, 3, none⟩ (.int .i64 e0.1) := ⟨_, rfl⟩
        have T9 : DMS w a len cap X N es (some ⟨bb, off, none⟩) m c1 U := by rw [hU]; exact S9
        have Y9 : Box4 U Y 28 xi xo e0.2 e0.1 := by rw [hU]; exact Y9'
        go_upto_region 10 with fail
        rw [← hU]
        clear hU S7 S8 S9 Y7 Y8 Y9' y0 y1 y2 y3 yf2 yf3 yy0 yy1 yy2 yy3 yyf3 e1 e1' v0 v0' v1
        obtain ⟨y0, y1, y2, y3⟩ := Y9.cells
        have k0 := T9.g.cell0
        have k1 := T9.g.cell1
        have r0 := T9.r.cell0
        have r1 := T9.r.cell1
        have rf0 := T9.r.frozen 0
        have rf1 := T9.r.frozen 1
        obtain ⟨s0, s1, s2, s3⟩ := T9.s.cells
        have sf0 := T9.s.frozen 0
        have sf1 := T9.s.frozen 1
        have sf2 := T9.s.frozen 2
        have sf3 := T9.s.frozen 3
        have zz1 := T9.g.lt
        have zz2 := Y9.lt
        have B0 := ((((((T9.s.setO w.heap.size 0 (.int .i64 N) (by omega)).setO w.heap.size 1 (.slice (some ⟨bb, off, none⟩) m c1) (by omega)).set0 xi).set1 xo).set2 e0.2).set3 e0.1)
        have A0 := (((((T9.r.set (.int .i64 N) (.slice (some ⟨bb, off, none⟩) m c1)).setO (w.heap.size + 1) 0 (.int .i64 xi) (by omega)).setO (w.heap.size + 1) 1 (.int .i64 xo) (by omega)).setO (w.heap.size + 1) 2 (.int .i64 e0.2) (by omega)).setO (w.heap.size + 1) 3 (.int .i64 e0.1) (by omega))
        have HF : Hid (((((((U.setCell ⟨w.heap.size, 0, none⟩ (.int .i64 N)).setCell ⟨w.heap.size, 1, none⟩ (.slice (some ⟨bb, off, none⟩) m c1)).setCell ⟨w.heap.size + 1, 0, none⟩ (.int .i64 xi)).setCell ⟨w.heap.size + 1, 1, none⟩ (.int .i64 xo)).setCell ⟨w.heap.size + 1, 2, none⟩ (.int .i64 e0.2)).setCell ⟨w.heap.size + 1, 3, none⟩ (.int .i64 e0.1)).drew.ownsRow w.heap.size 59 2 (.slice (some ⟨bb, off, none⟩) m c1) m (ecells es) ∧ Below w.heap.size w ((((((U.setCell ⟨w.heap.size, 0, none⟩ (.int .i64 N)).setCell ⟨w.heap.size, 1, none⟩ (.slice (some ⟨bb, off, none⟩) m c1)).setCell ⟨w.heap.size + 1, 0, none⟩ (.int .i64 xi)).setCell ⟨w.heap.size + 1, 1, none⟩ (.int .i64 xo)).setCell ⟨w.heap.size + 1, 2, none⟩ (.int .i64 e0.2)).setCell ⟨w.heap.size + 1, 3, none⟩ (.int .i64 e0.1)).drew) :=
          ⟨(own_mono (own_setLow (own_setLow (own_setLow (own_setLow (own_setLow (own_setLow T9.own w.heap.size 0 _ (by omega)) w.heap.size 1 _ (by omega)) (w.heap.size + 1) 0 _ (by omega)) (w.heap.size + 1) 1 _ (by omega)) (w.heap.size + 1) 2 _ (by omega)) (w.heap.size + 1) 3 _ (by omega)) (by omega)).drew,
            ((((((T9.bel.setCell (p := ⟨w.heap.size, 0, none⟩) (Nat.le_refl _) _).setCell (p := ⟨w.heap.size, 1, none⟩) (Nat.le_refl _) _).setCell (p := ⟨w.heap.size + 1, 0, none⟩) (Nat.le_succ _) _).setCell (p := ⟨w.heap.size + 1, 1, none⟩) (Nat.le_succ _) _).setCell (p := ⟨w.heap.size + 1, 2, none⟩) (Nat.le_succ _) _).setCell (p := ⟨w.heap.size + 1, 3, none⟩) (Nat.le_succ _) _).drew⟩
        obtain ⟨Uf, hUf⟩ : ∃ Uf, Uf = ((((((U.setCell ⟨w.heap.size, 0, none⟩ (.int .i64 N)).setCell ⟨w.heap.size, 1, none⟩ (.slice (some ⟨bb, off, none⟩) m c1)).setCell ⟨w.heap.size + 1, 0, none⟩ (.int .i64 xi)).setCell ⟨w.heap.size + 1, 1, none⟩ (.int .i64 xo)).setCell ⟨w.heap.size + 1, 2, none⟩ (.int .i64 e0.2)).setCell ⟨w.heap.size + 1, 3, none⟩ (.int .i64 e0.1)).drew := ⟨_, rfl⟩
        have A1 : Box2 Uf w.heap.size 26 (.int .i64 N) (.slice (some ⟨bb, off, none⟩) m c1) := by rw [hUf]; exact A0.dr
        have B1 : Box4 Uf (w.heap.size + 1) 28 xi xo e0.2 e0.1 := by rw [hUf]; exact B0.dr
        rw [← hUf] at HF
        clear A0 B0
        clear T9 Y9
        go_region
        rw [← hUf]
        clear hUf r0 r1 rf0 rf1 s0 s1 s2 s3 sf0 sf1 sf2 sf3 k0 k1 y0 y1 y2 y3
        have g0 := A1.cell0
        have g1 := A1.cell1
        obtain ⟨t0, t1, t2, t3⟩ := B1.cells
        clear A1 B1
        go_wp2
        exact bodyPost_ret (v := .tuple #[.agg #[.int .i64 N, .slice (some ⟨bb, off, none⟩) m c1], .agg #[.int .i64 xi, .int .i64 xo, .int .i64 e0.2, .int .i64 e0.1]]) (by simp [results, Try.results7, go_sem, g0, g1, t0, t1, t2, t3]) rfl ⟨N, es, xi, xo, e0.2, e0.1, (some ⟨bb, off, none⟩), m, c1, hm, rfl, HF.out.1, HF.out.2⟩
      | false =>
        obtain ⟨U, hU⟩ : ∃ U, U = w7 := ⟨_, rfl⟩
        have T9 : DMS w a len cap X N es a1 m c1 U := by rw [hU]; exact S7
        have Y9 : Box4 U Y 28 xi xo xa xb := by rw [hU]; exact Y7
        go_upto_region 10 with fail
        rw [← hU]
        clear hU S7 Y7
        obtain ⟨y0, y1, y2, y3⟩ := Y9.cells
        have k0 := T9.g.cell0
        have k1 := T9.g.cell1
        have r0 := T9.r.cell0
        have r1 := T9.r.cell1
        have rf0 := T9.r.frozen 0
        have rf1 := T9.r.frozen 1
        obtain ⟨s0, s1, s2, s3⟩ := T9.s.cells
        have sf0 := T9.s.frozen 0
        have sf1 := T9.s.frozen 1
        have sf2 := T9.s.frozen 2
        have sf3 := T9.s.frozen 3
        have zz1 := T9.g.lt
        have zz2 := Y9.lt
        have B0 := ((((((T9.s.setO w.heap.size 0 (.int .i64 N) (by omega)).setO w.heap.size 1 (.slice a1 m c1) (by omega)).set0 xi).set1 xo).set2 xa).set3 xb)
        have A0 := (((((T9.r.set (.int .i64 N) (.slice a1 m c1)).setO (w.heap.size + 1) 0 (.int .i64 xi) (by omega)).setO (w.heap.size + 1) 1 (.int .i64 xo) (by omega)).setO (w.heap.size + 1) 2 (.int .i64 xa) (by omega)).setO (w.heap.size + 1) 3 (.int .i64 xb) (by omega))
        have HF : Hid (((((((U.setCell ⟨w.heap.size, 0, none⟩ (.int .i64 N)).setCell ⟨w.heap.size, 1, none⟩ (.slice a1 m c1)).setCell ⟨w.heap.size + 1, 0, none⟩ (.int .i64 xi)).setCell ⟨w.heap.size + 1, 1, none⟩ (.int .i64 xo)).setCell ⟨w.heap.size + 1, 2, none⟩ (.int .i64 xa)).setCell ⟨w.heap.size + 1, 3, none⟩ (.int .i64 xb)).drew.ownsRow w.heap.size 59 2 (.slice a1 m c1) m (ecells es) ∧ Below w.heap.size w ((((((U.setCell ⟨w.heap.size, 0, none⟩ (.int .i64 N)).setCell ⟨w.heap.size, 1, none⟩ (.slice a1 m c1)).setCell ⟨w.heap.size + 1, 0, none⟩ (.int .i64 xi)).setCell ⟨w.heap.size + 1, 1, none⟩ (.int .i64 xo)).setCell ⟨w.heap.size + 1, 2, none⟩ (.int .i64 xa)).setCell ⟨w.heap.size + 1, 3, none⟩ (.int .i64 xb)).drew) :=
          ⟨(own_mono (own_setLow (own_setLow (own_setLow (own_setLow (own_setLow (own_setLow T9.own w.heap.size 0 _ (by omega)) w.heap.size 1 _ (by omega)) (w.heap.size + 1) 0 _ (by omega)) (w.heap.size + 1) 1 _ (by omega)) (w.heap.size + 1) 2 _ (by omega)) (w.heap.size + 1) 3 _ (by omega)) (by omega)).drew,
            ((((((T9.bel.setCell (p := ⟨w.heap.size, 0, none⟩) (Nat.le_refl _) _).setCell (p := ⟨w.heap.size, 1, none⟩) (Nat.le_refl _) _).setCell (p := ⟨w.heap.size + 1, 0, none⟩) (Nat.le_succ _) _).setCell (p := ⟨w.heap.size + 1, 1, none⟩) (Nat.le_succ _) _).setCell (p := ⟨w.heap.size + 1, 2, none⟩) (Nat.le_succ _) _).setCell (p := ⟨w.heap.size + 1, 3, none⟩) (Nat.le_succ _) _).drew⟩
        obtain ⟨Uf, hUf⟩ : ∃ Uf, Uf = ((((((U.setCell ⟨w.heap.size, 0, none⟩ (.int .i64 N)).setCell ⟨w.heap.size, 1, none⟩ (.slice a1 m c1)).setCell ⟨w.heap.size + 1, 0, none⟩ (.int .i64 xi)).setCell ⟨w.heap.size + 1, 1, none⟩ (.int .i64 xo)).setCell ⟨w.heap.size + 1, 2, none⟩ (.int .i64 xa)).setCell ⟨w.heap.size + 1, 3, none⟩ (.int .i64 xb)).drew := ⟨_, rfl⟩
        have A1 : Box2 Uf w.heap.size 26 (.int .i64 N) (.slice a1 m c1) := by rw [hUf]; exact A0.dr
        have B1 : Box4 Uf (w.heap.size + 1) 28 xi xo xa xb := by rw [hUf]; exact B0.dr
        rw [← hUf] at HF
        clear A0 B0
        clear T9 Y9
        go_region
        rw [← hUf]
        clear hUf r0 r1 rf0 rf1 s0 s1 s2 s3 sf0 sf1 sf2 sf3 k0 k1 y0 y1 y2 y3
        have g0 := A1.cell0
        have g1 := A1.cell1
        obtain ⟨t0, t1, t2, t3⟩ := B1.cells
        clear A1 B1
        go_wp2
        exact bodyPost_ret (v := .tuple #[.agg #[.int .i64 N, .slice a1 m c1], .agg #[.int .i64 xi, .int .i64 xo, .int .i64 xa, .int .i64 xb]]) (by simp [results, Try.results7, go_sem, g0, g1, t0, t1, t2, t3]) rfl ⟨N, es, xi, xo, xa, xb, a1, m, c1, hm, rfl, HF.out.1, HF.out.2⟩
    · have d0 : decide ((0 : Int) < (m : Int)) = false := decide_eq_false (by omega)
      obtain ⟨U, hU⟩ : ∃ U, U = W6 := ⟨_, rfl⟩
      have T9 : DMS w a len cap X N es a1 m c1 U := by rw [hU]; exact S5
      have Y9 : Box4 U Y 28 xi xo xa xb := by rw [hU]; exact Y5
      go_upto_region 10 with fail
      rw [← hU]
      clear hU S5 Y5 e1
      obtain ⟨y0, y1, y2, y3⟩ := Y9.cells
      have k0 := T9.g.cell0
      have k1 := T9.g.cell1
      have r0 := T9.r.cell0
      have r1 := T9.r.cell1
      have rf0 := T9.r.frozen 0
      have rf1 := T9.r.frozen 1
      obtain ⟨s0, s1, s2, s3⟩ := T9.s.cells
      have sf0 := T9.s.frozen 0
      have sf1 := T9.s.frozen 1
      have sf2 := T9.s.frozen 2
      have sf3 := T9.s.frozen 3
      have zz1 := T9.g.lt
      have zz2 := Y9.lt
      have B0 := ((((((T9.s.setO w.heap.size 0 (.int .i64 N) (by omega)).setO w.heap.size 1 (.slice a1 m c1) (by omega)).set0 xi).set1 xo).set2 xa).set3 xb)
      have A0 := (((((T9.r.set (.int .i64 N) (.slice a1 m c1)).setO (w.heap.size + 1) 0 (.int .i64 xi) (by omega)).setO (w.heap.size + 1) 1 (.int .i64 xo) (by omega)).setO (w.heap.size + 1) 2 (.int .i64 xa) (by omega)).setO (w.heap.size + 1) 3 (.int .i64 xb) (by omega))
      have HF : Hid (((((((U.setCell ⟨w.heap.size, 0, none⟩ (.int .i64 N)).setCell ⟨w.heap.size, 1, none⟩ (.slice a1 m c1)).setCell ⟨w.heap.size + 1, 0, none⟩ (.int .i64 xi)).setCell ⟨w.heap.size + 1, 1, none⟩ (.int .i64 xo)).setCell ⟨w.heap.size + 1, 2, none⟩ (.int .i64 xa)).setCell ⟨w.heap.size + 1, 3, none⟩ (.int .i64 xb)).drew.ownsRow w.heap.size 59 2 (.slice a1 m c1) m (ecells es) ∧ Below w.heap.size w ((((((U.setCell ⟨w.heap.size, 0, none⟩ (.int .i64 N)).setCell ⟨w.heap.size, 1, none⟩ (.slice a1 m c1)).setCell ⟨w.heap.size + 1, 0, none⟩ (.int .i64 xi)).setCell ⟨w.heap.size + 1, 1, none⟩ (.int .i64 xo)).setCell ⟨w.heap.size + 1, 2, none⟩ (.int .i64 xa)).setCell ⟨w.heap.size + 1, 3, none⟩ (.int .i64 xb)).drew) :=
        ⟨(own_mono (own_setLow (own_setLow (own_setLow (own_setLow (own_setLow (own_setLow T9.own w.heap.size 0 _ (by omega)) w.heap.size 1 _ (by omega)) (w.heap.size + 1) 0 _ (by omega)) (w.heap.size + 1) 1 _ (by omega)) (w.heap.size + 1) 2 _ (by omega)) (w.heap.size + 1) 3 _ (by omega)) (by omega)).drew,
          ((((((T9.bel.setCell (p := ⟨w.heap.size, 0, none⟩) (Nat.le_refl _) _).setCell (p := ⟨w.heap.size, 1, none⟩) (Nat.le_refl _) _).setCell (p := ⟨w.heap.size + 1, 0, none⟩) (Nat.le_succ _) _).setCell (p := ⟨w.heap.size + 1, 1, none⟩) (Nat.le_succ _) _).setCell (p := ⟨w.heap.size + 1, 2, none⟩) (Nat.le_succ _) _).setCell (p := ⟨w.heap.size + 1, 3, none⟩) (Nat.le_succ _) _).drew⟩
      obtain ⟨Uf, hUf⟩ : ∃ Uf, Uf = ((((((U.setCell ⟨w.heap.size, 0, none⟩ (.int .i64 N)).setCell ⟨w.heap.size, 1, none⟩ (.slice a1 m c1)).setCell ⟨w.heap.size + 1, 0, none⟩ (.int .i64 xi)).setCell ⟨w.heap.size + 1, 1, none⟩ (.int .i64 xo)).setCell ⟨w.heap.size + 1, 2, none⟩ (.int .i64 xa)).setCell ⟨w.heap.size + 1, 3, none⟩ (.int .i64 xb)).drew := ⟨_, rfl⟩
      have A1 : Box2 Uf w.heap.size 26 (.int .i64 N) (.slice a1 m c1) := by rw [hUf]; exact A0.dr
      have B1 : Box4 Uf (w.heap.size + 1) 28 xi xo xa xb := by rw [hUf]; exact B0.dr
      rw [← hUf] at HF
      clear A0 B0
      clear T9 Y9
      go_region
      rw [← hUf]
      clear hUf r0 r1 rf0 rf1 s0 s1 s2 s3 sf0 sf1 sf2 sf3 k0 k1 y0 y1 y2 y3
      have g0 := A1.cell0
      have g1 := A1.cell1
      obtain ⟨t0, t1, t2, t3⟩ := B1.cells
      clear A1 B1
      go_wp2
      exact bodyPost_ret (v := .tuple #[.agg #[.int .i64 N, .slice a1 m c1], .agg #[.int .i64 xi, .int .i64 xo, .int .i64 xa, .int .i64 xb]]) (by simp [results, Try.results7, go_sem, g0, g1, t0, t1, t2, t3]) rfl ⟨N, es, xi, xo, xa, xb, a1, m, c1, hm, rfl, HF.out.1, HF.out.2⟩
  · have n1 : decide (1 ≤ N ∧ N ≤ 12) = false := decide_eq_false hN
    have HA1 := hideIt (HA.out 4 (by omega) (by omega))
    go_wp2_with (first | (go_at_call 25; refine (HI.out _ _ _ _).mono ?_; rintro e w4 ⟨rfl, hw4⟩; have hw4' := hw4.symm; subst hw4') | (go_at_call 26; refine HA1.out.mono ?_; rintro e w5 ⟨xi, xo, xa, xb, rfl, d5⟩; refine Hid.out ?_))
    refine (show ∀ {p : Prop}, p → Hid p from fun h => h) ?_
    have S5 := (HS3.out.drawn d5).alloc (.cells #[.int .i64 xi, .int .i64 xo, .int .i64 xa, .int .i64 xb] 28)
    have Y5 : Box4 (w5.alloc (.cells #[.int .i64 xi, .int .i64 xo, .int .i64 xa, .int .i64 xb] 28)) w5.heap.size 28 xi xo xa xb := heap_alloc_new w5 _
    have zY : X < w5.heap.size := (HS3.out.drawn d5).g.lt
    obtain ⟨W6, hW6⟩ : ∃ W6, W6 = w5.alloc (.cells #[.int .i64 xi, .int .i64 xo, .int .i64 xa, .int .i64 xb] 28) := ⟨_, rfl⟩
    rw [← hW6] at S5 Y5
    go_upto_region 7 with fail
    rw [← hW6]
    clear hW6 HS3 d5 HA HA1 g0
    generalize w5.heap.size = Y at *
    have e1 := S5.g.cell1
    have hx3 := S5.hX
    have hxl := S5.g.lt
    by_cases hm0 : 0 < m
    · have d0 : decide ((0 : Int) < (m : Int)) = true := decide_eq_true (by omega)
      have HO1 := hideIt (l01Once_any 3 (by omega) (by omega) W6 (w.heap.size + 2) a len cap hl S5.cur (HCw.out _ S5.bel (by omega)))
      go_wp2_with (go_at_call 27; refine HO1.out.mono ?_; rintro e w7 ⟨b, rfl, d7⟩; refine Hid.out ?_)
      refine (show ∀ {p : Prop}, p → Hid p from fun h => h) ?_
      have S7 := S5.drawn d7
      have Y7 := Y5.drawn d7 (show Y ≠ w.heap.size + 2 by omega)
      clear S5 Y5 e1 HO1 d7 hxl
      cases b with
      | true =>
        have hlen : es.length = m := by have := S7.own.1; rw [ecells_length] at this; omega
        obtain ⟨e0, he0⟩ : ∃ e0, es[0]? = some e0 := ⟨es[0]'(by omega), List.getElem?_eq_getElem (by omega)⟩
        obtain ⟨bb, off, hab, hbb, hcc⟩ := (Es_of_own S7.own).2.resolve_left (by omega)
        obtain ⟨v0, v1⟩ := hcc 0 e0 he0
        simp only [Nat.zero_mul, Nat.add_zero] at v0 v1
        have hne : some Y ≠ (Value.slice a1 m c1).ownBlock := own_blk S7.own Y7 tIK_ne
        have hbY : bb ≠ Y := by
          rcases S7.own.2 with ⟨hv, h0⟩ | ⟨g9, cap9, cur9, hv, _⟩
          · omega
          · simp at hv
            obtain ⟨hv1, _⟩ := hv
            rw [hv1] at hab
            simp at hab
            intro e9
            apply hne
            rw [hv1]
            simp [Value.ownBlock]
            omega
        subst hab
        have m1 : (0 : Int) < (m : Int) := by omega
        have e1 := S7.g.cell1
        have hxl := S7.g.lt
        have yl := Y7.lt
        obtain ⟨y0, y1, y2, y3⟩ := Y7.cells
        have yf2 := Y7.frozen 2
        have yf3 := Y7.frozen 3
        have S8 := S7.setY Y7 zY 2 (.int .i64 e0.2)
        have Y8 := Y7.set2 e0.2
        have e1' : (w7.setCell ⟨Y, 2, none⟩ (.int .i64 e0.2)).cell? ⟨X, 1, none⟩ = some (.slice (some ⟨bb, off, none⟩) m c1) := S8.g.cell1
        have v0' : (w7.setCell ⟨Y, 2, none⟩ (.int .i64 e0.2)).cell? ⟨bb, off, none⟩ = some (.int .i64 e0.1) := by rw [set_other hbY]; exact v0
        obtain ⟨yy0, yy1, yy2, yy3⟩ := Y8.cells
        have yyf3 := Y8.frozen 3
        have S9 := S8.setY Y8 zY 3 (.int .i64 e0.1)
        have Y9' := Y8.set3 e0.1
        clear hcc hne
        obtain ⟨U, hU⟩ : ∃ U, U = (w7.setCell ⟨Y, 2, none⟩ (.int .i64 e0.2)).setCell ⟨Y, 3, none⟩ (.int .i64 e0.1) := ⟨_, rfl⟩
        have T9 : DMS w a len cap X N es (some ⟨bb, off, none⟩) m c1 U := by rw [hU]; exact S9
        have Y9 : Box4 U Y 28 xi xo e0.2 e0.1 := by rw [hU]; exact Y9'
        go_upto_region 10 with fail
        rw [← hU]
        clear hU S7 S8 S9 Y7 Y8 Y9' y0 y1 y2 y3 yf2 yf3 yy0 yy1 yy2 yy3 yyf3 e1 e1' v0 v0' v1
        obtain ⟨y0, y1, y2, y3⟩ := Y9.cells
        have k0 := T9.g.cell0
        have k1 := T9.g.cell1
        have r0 := T9.r.cell0
        have r1 := T9.r.cell1
        have rf0 := T9.r.frozen 0
        have rf1 := T9.r.frozen 1
        obtain ⟨s0, s1, s2, s3⟩ := T9.s.cells
        have sf0 := T9.s.frozen 0
        have sf1 := T9.s.frozen 1
        have sf2 := T9.s.frozen 2
        have sf3 := T9.s.frozen 3
        have zz1 := T9.g.lt
        have zz2 := Y9.lt
        have B0 := ((((((T9.s.setO w.heap.size 0 (.int .i64 N) (by omega)).setO w.heap.size 1 (.slice (some ⟨bb, off, none⟩) m c1) (by omega)).set0 xi).set1 xo).set2 e0.2).set3 e0.1)
        have A0 := (((((T9.r.set (.int .i64 N) (.slice (some ⟨bb, off, none⟩) m c1)).setO (w.heap.size + 1) 0 (.int .i64 xi) (by omega)).setO (w.heap.size + 1) 1 (.int .i64 xo) (by omega)).setO (w.heap.size + 1) 2 (.int .i64 e0.2) (by omega)).setO (w.heap.size + 1) 3 (.int .i64 e0.1) (by omega))
        have HF : Hid (((((((U.setCell ⟨w.heap.size, 0, none⟩ (.int .i64 N)).setCell ⟨w.heap.size, 1, none⟩ (.slice (some ⟨bb, off, none⟩) m c1)).setCell ⟨w.heap.size + 1, 0, none⟩ (.int .i64 xi)).setCell ⟨w.heap.size + 1, 1, none⟩ (.int .i64 xo)).setCell ⟨w.heap.size + 1, 2, none⟩ (.int .i64 e0.2)).setCell ⟨w.heap.size + 1, 3, none⟩ (.int .i64 e0.1)).drew.ownsRow w.heap.size 59 2 (.slice (some ⟨bb, off, none⟩) m c1) m (ecells es) ∧ Below w.heap.size w ((((((U.setCell ⟨w.heap.size, 0, none⟩ (.int .i64 N)).setCell ⟨w.heap.size, 1, none⟩ (.slice (some ⟨bb, off, none⟩) m c1)).setCell ⟨w.heap.size + 1, 0, none⟩ (.int .i64 xi)).setCell ⟨w.heap.size + 1, 1, none⟩ (.int .i64 xo)).setCell ⟨w.heap.size + 1, 2, none⟩ (.int .i64 e0.2)).setCell ⟨w.heap.size + 1, 3, none⟩ (.int .i64 e0.1)).drew) :=
          ⟨(own_mono (own_setLow (own_setLow (own_setLow (own_setLow (own_setLow (own_setLow T9.own w.heap.size 0 _ (by omega)) w.heap.size 1 _ (by omega)) (w.heap.size + 1) 0 _ (by omega)) (w.heap.size + 1) 1 _ (by omega)) (w.heap.size + 1) 2 _ (by omega)) (w.heap.size + 1) 3 _ (by omega)) (by omega)).drew,
            ((((((T9.bel.setCell (p := ⟨w.heap.size, 0, none⟩) (Nat.le_refl _) _).setCell (p := ⟨w.heap.size, 1, none⟩) (Nat.le_refl _) _).setCell (p := ⟨w.heap.size + 1, 0, none⟩) (Nat.le_succ _) _).setCell (p := ⟨w.heap.size + 1, 1, none⟩) (Nat.le_succ _) _).setCell (p := ⟨w.heap.size + 1, 2, none⟩) (Nat.le_succ _) _).setCell (p := ⟨w.heap.size + 1, 3, none⟩) (Nat.le_succ _) _).drew⟩
        obtain ⟨Uf, hUf⟩ : ∃ Uf, Uf = ((((((U.setCell ⟨w.heap.size, 0, none⟩ (.int .i64 N)).setCell ⟨w.heap.size, 1, none⟩ (.slice (some ⟨bb, off, none⟩) m c1)).setCell ⟨w.heap.size + 1, 0, none⟩ (.int .i64 xi)).setCell ⟨w.heap.size + 1, 1, none⟩ (.int .i64 xo)).setCell ⟨w.heap.size + 1, 2, none⟩ (.int .i64 e0.2)).setCell ⟨w.heap.size + 1, 3, none⟩ (.int .i64 e0.1)).drew := ⟨_, rfl⟩
        have A1 : Box2 Uf w.heap.size 26 (.int .i64 N) (.slice (some ⟨bb, off, none⟩) m c1) := by rw [hUf]; exact A0.dr
        have B1 : Box4 Uf (w.heap.size + 1) 28 xi xo e0.2 e0.1 := by rw [hUf]; exact B0.dr
        rw [← hUf] at HF
        clear A0 B0
        clear T9 Y9
        go_region
        rw [← hUf]
        clear hUf r0 r1 rf0 rf1 s0 s1 s2 s3 sf0 sf1 sf2 sf3 k0 k1 y0 y1 y2 y3
        have g0 := A1.cell0
        have g1 := A1.cell1
        obtain ⟨t0, t1, t2, t3⟩ := B1.cells
        clear A1 B1
        go_wp2
        exact bodyPost_ret (v := .tuple #[.agg #[.int .i64 N, .slice (some ⟨bb, off, none⟩) m c1], .agg #[.int .i64 xi, .int .i64 xo, .int .i64 e0.2, .int .i64 e0.1]]) (by simp [results, Try.results7, go_sem, g0, g1, t0, t1, t2, t3]) rfl ⟨N, es, xi, xo, e0.2, e0.1, (some ⟨bb, off, none⟩), m, c1, hm, rfl, HF.out.1, HF.out.2⟩
      | false =>
        obtain ⟨U, hU⟩ : ∃ U, U = w7 := ⟨_, rfl⟩
        have T9 : DMS w a len cap X N es a1 m c1 U := by rw [hU]; exact S7
        have Y9 : Box4 U Y 28 xi xo xa xb := by rw [hU]; exact Y7
        go_upto_region 10 with fail
        rw [← hU]
        clear hU S7 Y7
        obtain ⟨y0, y1, y2, y3⟩ := Y9.cells
        have k0 := T9.g.cell0
        have k1 := T9.g.cell1
        have r0 := T9.r.cell0
        have r1 := T9.r.cell1
        have rf0 := T9.r.frozen 0
        have rf1 := T9.r.frozen 1
        obtain ⟨s0, s1, s2, s3⟩ := T9.s.cells
        have sf0 := T9.s.frozen 0
        have sf1 := T9.s.frozen 1
        have sf2 := T9.s.frozen 2
        have sf3 := T9.s.frozen 3
        have zz1 := T9.g.lt
        have zz2 := Y9.lt
        have B0 := ((((((T9.s.setO w.heap.size 0 (.int .i64 N) (by omega)).setO w.heap.size 1 (.slice a1 m c1) (by omega)).set0 xi).set1 xo).set2 xa).set3 xb)
        have A0 := (((((T9.r.set (.int .i64 N) (.slice a1 m c1)).setO (w.heap.size + 1) 0 (.int .i64 xi) (by omega)).setO (w.heap.size + 1) 1 (.int .i64 xo) (by omega)).setO (w.heap.size + 1) 2 (.int .i64 xa) (by omega)).setO (w.heap.size + 1) 3 (.int .i64 xb) (by omega))
        have HF : Hid (((((((U.setCell ⟨w.heap.size, 0, none⟩ (.int .i64 N)).setCell ⟨w.heap.size, 1, none⟩ (.slice a1 m c1)).setCell ⟨w.heap.size + 1, 0, none⟩ (.int .i64 xi)).setCell ⟨w.heap.size + 1, 1, none⟩ (.int .i64 xo)).setCell ⟨w.heap.size + 1, 2, none⟩ (.int .i64 xa)).setCell ⟨w.heap.size + 1, 3, none⟩ (.int .i64 xb)).drew.ownsRow w.heap.size 59 2 (.slice a1 m c1) m (ecells es) ∧ Below w.heap.size w ((((((U.setCell ⟨w.heap.size, 0, none⟩ (.int .i64 N)).setCell ⟨w.heap.size, 1, none⟩ (.slice a1 m c1)).setCell ⟨w.heap.size + 1, 0, none⟩ (.int .i64 xi)).setCell ⟨w.heap.size + 1, 1, none⟩ (.int .i64 xo)).setCell ⟨w.heap.size + 1, 2, none⟩ (.int .i64 xa)).setCell ⟨w.heap.size + 1, 3, none⟩ (.int .i64 xb)).drew) :=
          ⟨(own_mono (own_setLow (own_setLow (own_setLow (own_setLow (own_setLow (own_setLow T9.own w.heap.size 0 _ (by omega)) w.heap.size 1 _ (by omega)) (w.heap.size + 1) 0 _ (by omega)) (w.heap.size + 1) 1 _ (by omega)) (w.heap.size + 1) 2 _ (by omega)) (w.heap.size + 1) 3 _ (by omega)) (by omega)).drew,
            ((((((T9.bel.setCell (p := ⟨w.heap.size, 0, none⟩) (Nat.le_refl _) _).setCell (p := ⟨w.heap.size, 1, none⟩) (Nat.le_refl _) _).setCell (p := ⟨w.heap.size + 1, 0, none⟩) (Nat.le_succ _) _).setCell (p := ⟨w.heap.size + 1, 1, none⟩) (Nat.le_succ _) _).setCell (p := ⟨w.heap.size + 1, 2, none⟩) (Nat.le_succ _) _).setCell (p := ⟨w.heap.size + 1, 3, none⟩) (Nat.le_succ _) _).drew⟩
        obtain ⟨Uf, hUf⟩ : ∃ Uf, Uf = ((((((U.setCell ⟨w.heap.size, 0, none⟩ (.int .i64 N)).setCell ⟨w.heap.size, 1, none⟩ (.slice a1 m c1)).setCell ⟨w.heap.size + 1, 0, none⟩ (.int .i64 xi)).setCell ⟨w.heap.size + 1, 1, none⟩ (.int .i64 xo)).setCell ⟨w.heap.size + 1, 2, none⟩ (.int .i64 xa)).setCell ⟨w.heap.size + 1, 3, none⟩ (.int .i64 xb)).drew := ⟨_, rfl⟩
        have A1 : Box2 Uf w.heap.size 26 (.int .i64 N) (.slice a1 m c1) := by rw [hUf]; exact A0.dr
        have B1 : Box4 Uf (w.heap.size + 1) 28 xi xo xa xb := by rw [hUf]; exact B0.dr
        rw [← hUf] at HF
        clear A0 B0
        clear T9 Y9
        go_region
        rw [← hUf]
        clear hUf r0 r1 rf0 rf1 s0 s1 s2 s3 sf0 sf1 sf2 sf3 k0 k1 y0 y1 y2 y3
        have g0 := A1.cell0
        have g1 := A1.cell1
        obtain ⟨t0, t1, t2, t3⟩ := B1.cells
        clear A1 B1
        go_wp2
        exact bodyPost_ret (v := .tuple #[.agg #[.int .i64 N, .slice a1 m c1], .agg #[.int .i64 xi, .int .i64 xo, .int .i64 xa, .int .i64 xb]]) (by simp [results, Try.results7, go_sem, g0, g1, t0, t1, t2, t3]) rfl ⟨N, es, xi, xo, xa, xb, a1, m, c1, hm, rfl, HF.out.1, HF.out.2⟩
    · have d0 : decide ((0 : Int) < (m : Int)) = false := decide_eq_false (by omega)
      obtain ⟨U, hU⟩ : ∃ U, U = W6 := ⟨_, rfl⟩
      have T9 : DMS w a len cap X N es a1 m c1 U := by rw [hU]; exact S5
      have Y9 : Box4 U Y 28 xi xo xa xb := by rw [hU]; exact Y5
      go_upto_region 10 with fail
      rw [← hU]
      clear hU S5 Y5 e1
      obtain ⟨y0, y1, y2, y3⟩ := Y9.cells
      have k0 := T9.g.cell0
      have k1 := T9.g.cell1
      have r0 := T9.r.cell0
      have r1 := T9.r.cell1
      have rf0 := T9.r.frozen 0
      have rf1 := T9.r.frozen 1
      obtain ⟨s0, s1, s2, s3⟩ := T9.s.cells
      have sf0 := T9.s.frozen 0
      have sf1 := T9.s.frozen 1
      have sf2 := T9.s.frozen 2
      have sf3 := T9.s.frozen 3
      have zz1 := T9.g.lt
      have zz2 := Y9.lt
      have B0 := ((((((T9.s.setO w.heap.size 0 (.int .i64 N) (by omega)).setO w.heap.size 1 (.slice a1 m c1) (by omega)).set0 xi).set1 xo).set2 xa).set3 xb)
      have A0 := (((((T9.r.set (.int .i64 N) (.slice a1 m c1)).setO (w.heap.size + 1) 0 (.int .i64 xi) (by omega)).setO (w.heap.size + 1) 1 (.int .i64 xo) (by omega)).setO (w.heap.size + 1) 2 (.int .i64 xa) (by omega)).setO (w.heap.size + 1) 3 (.int .i64 xb) (by omega))
      have HF : Hid (((((((U.setCell ⟨w.heap.size, 0, none⟩ (.int .i64 N)).setCell ⟨w.heap.size, 1, none⟩ (.slice a1 m c1)).setCell ⟨w.heap.size + 1, 0, none⟩ (.int .i64 xi)).setCell ⟨w.heap.size + 1, 1, none⟩ (.int .i64 xo)).setCell ⟨w.heap.size + 1, 2, none⟩ (.int .i64 xa)).setCell ⟨w.heap.size + 1, 3, none⟩ (.int .i64 xb)).drew.ownsRow w.heap.size 59 2 (.slice a1 m c1) m (ecells es) ∧ Below w.heap.size w ((((((U.setCell ⟨w.heap.size, 0, none⟩ (.int .i64 N)).setCell ⟨w.heap.size, 1, none⟩ (.slice a1 m c1)).setCell ⟨w.heap.size + 1, 0, none⟩ (.int .i64 xi)).setCell ⟨w.heap.size + 1, 1, none⟩ (.int .i64 xo)).setCell ⟨w.heap.size + 1, 2, none⟩ (.int .i64 xa)).setCell ⟨w.heap.size + 1, 3, none⟩ (.int .i64 xb)).drew) :=
        ⟨(own_mono (own_setLow (own_setLow (own_setLow (own_setLow (own_setLow (own_setLow T9.own w.heap.size 0 _ (by omega)) w.heap.size 1 _ (by omega)) (w.heap.size + 1) 0 _ (by omega)) (w.heap.size + 1) 1 _ (by omega)) (w.heap.size + 1) 2 _ (by omega)) (w.heap.size + 1) 3 _ (by omega)) (by omega)).drew,
          ((((((T9.bel.setCell (p := ⟨w.heap.size, 0, none⟩) (Nat.le_refl _) _).setCell (p := ⟨w.heap.size, 1, none⟩) (Nat.le_refl _) _).setCell (p := ⟨w.heap.size + 1, 0, none⟩) (Nat.le_succ _) _).setCell (p := ⟨w.heap.size + 1, 1, none⟩) (Nat.le_succ _) _).setCell (p := ⟨w.heap.size + 1, 2, none⟩) (Nat.le_succ _) _).setCell (p := ⟨w.heap.size + 1, 3, none⟩) (Nat.le_succ _) _).drew⟩
      obtain ⟨Uf, hUf⟩ : ∃ Uf, Uf = ((((((U.setCell ⟨w.heap.size, 0, none⟩ (.int .i64 N)).setCell ⟨w.heap.size, 1, none⟩ (.slice a1 m c1)).setCell ⟨w.heap.size + 1, 0, none⟩ (.int .i64 xi)).setCell ⟨w.heap.size + 1, 1, none⟩ (.int .i64 xo)).setCell ⟨w.heap.size + 1, 2, none⟩ (.int .i64 xa)).setCell ⟨w.heap.size + 1, 3, none⟩ (.int .i64 xb)).drew := ⟨_, rfl⟩
      have A1 : Box2 Uf w.heap.size 26 (.int .i64 N) (.slice a1 m c1) := by rw [hUf]; exact A0.dr
      have B1 : Box4 Uf (w.heap.size + 1) 28 xi xo xa xb := by rw [hUf]; exact B0.dr
      rw [← hUf] at HF
      clear A0 B0
      clear T9 Y9
      go_region
      rw [← hUf]
      clear hUf r0 r1 rf0 rf1 s0 s1 s2 s3 sf0 sf1 sf2 sf3 k0 k1 y0 y1 y2 y3
      have g0 := A1.cell0
      have g1 := A1.cell1
      obtain ⟨t0, t1, t2, t3⟩ := B1.cells
      clear A1 B1
      go_wp2
      exact bodyPost_ret (v := .tuple #[.agg #[.int .i64 N, .slice a1 m c1], .agg #[.int .i64 xi, .int .i64 xo, .int .i64 xa, .int .i64 xb]]) (by simp [results, Try.results7, go_sem, g0, g1, t0, t1, t2, t3]) rfl ⟨N, es, xi, xo, xa, xb, a1, m, c1, hm, rfl, HF.out.1, HF.out.2⟩
end Go.Proofs.Ytobcihdjennieaa
namespace Go.Proofs.Ytobcihdjennieaa
open Go.RowKit

theorem md_len (N : Int) (es : List EdgeV) (xo xa xb : Int) : (mdR N es xo xa xb).1.length ≤ es.length + 1 := by
  have h := md_tells N es xo xa xb
  by_cases h1 : (mdR N es xo xa xb).2 ≠ 1 ∨ xo = 3 ∨ xo = 4
  · rw [h.1 h1]; omega
  · have h2 := (h.2 (by omega) (by omega) (by omega)).2
    omega
theorem Box4.up {u v : World} {b : Nat} {t : TypeId} {x0 x1 x2 x3 : Int} (h : Box4 u b t x0 x1 x2 x3) (hb : Below u.heap.size u v) : Box4 v b t x0 x1 x2 x3 := blk_up h hb


set_option maxRecDepth 100000 in
set_option maxHeartbeats 16000000 in
theorem fnModels.walk (a : Option Addr) (len cap : Nat) (w : World) (hcode : Code w w.heap.size a len) :
    Calls Try.prog 3 #[.slice a len cap] w fun e w' => e = .returned (.bool true) ∧ Below w.heap.size w w' := by
  by_cases hbig : 1048576 < len
  · have H := hideIt (big_any w a len cap)
    have d0 : decide ((1048576 : Int) < (len : Int)) = true := decide_eq_true (by omega)
    rw [d0] at H
    go_enter Try.func3, Try.ntmps3
    go_wp2_with (go_at_call 6; refine H.out.mono ?_; rintro e w1 ⟨rfl, rfl⟩)
    go_ret
    exact ⟨rfl, Below.refl _ _⟩
  have hl : len ≤ 1048576 := by omega
  have H := hideIt (big_any w a len cap)
  have d0 : decide ((1048576 : Int) < (len : Int)) = false := decide_eq_false (by omega)
  rw [d0] at H
  have HD := hideIt (drawModel_any w a len cap hl hcode)
  clear hcode
  go_enter Try.func3, Try.ntmps3
  go_wp2_with (go_at_call 6; refine H.out.mono ?_; rintro e w1 ⟨rfl, hw1⟩; have hw1' := hw1.symm; subst hw1'; refine Hid.out ?_)
  refine (show ∀ {p : Prop}, p → Hid p from fun h => h) ?_
  go_wp2_with (go_at_call 7; refine HD.out.mono ?_; rintro x w2 ⟨N, es, xi, xo, xa, xb, a1, m, c1, hm, rfl, ho2, hb2⟩; refine Hid.out ?_)
  refine (show ∀ {p : Prop}, p → Hid p from fun h => h) ?_
  obtain ⟨W3, hW3⟩ : ∃ W3, W3 = (w2.alloc (.cells #[.int .i64 N, .slice a1 m c1] 26)).alloc (.cells #[.int .i64 xi, .int .i64 xo, .int .i64 xa, .int .i64 xb] 28) := ⟨_, rfl⟩
  have G3 : BG W3 w2.heap.size N a1 m c1 es := by rw [hW3]; exact (BG.laid ho2).up (bel1 _ _)
  have K3 : Box4 W3 (w2.heap.size + 1) 28 xi xo xa xb := by
    rw [hW3]
    have := heap_alloc_new (w2.alloc (.cells #[.int .i64 N, .slice a1 m c1] 26)) (.cells #[.int .i64 xi, .int .i64 xo, .int .i64 xa, .int .i64 xb] 28)
    simpa [Box4] using this
  have HB3 : Hid (Below w.heap.size w W3) := by
    show Below _ _ _
    rw [hW3]
    exact (hb2.alloc hb2.size _).alloc (by have := hb2.size; simp; omega) _
  have HMi : Hid (∀ u, BG u w2.heap.size N a1 m c1 es → Calls Try.prog 8 #[.agg #[.int .i64 N, .slice a1 m c1], .agg #[.int .i64 xi, .int .i64 xo, .int .i64 xa, .int .i64 xb]] u (MAns u N (mdR N es xo xa xb))) := fun u hu => iModel_any N es xi xo xa xb m a1 c1 hu.sl (by omega) u hu.row
  have HMs : Hid (∀ u, BG u w2.heap.size N a1 m c1 es → Calls Try.prog 9 #[.agg #[.int .i64 N, .slice a1 m c1], .agg #[.int .i64 xi, .int .i64 xo, .int .i64 xa, .int .i64 xb]] u (MAns u N (mdR N es xo xa xb))) := fun u hu => sModel_any N es xi xo xa xb m a1 c1 hu.sl (by omega) u hu.row
  have HT := hideIt (md_tells N es xo xa xb)
  have hln := md_len N es xo xa xb
  have hem : es.length = m := G3.row.1
  generalize mdR N es xo xa xb = r at *
  obtain ⟨gs, say⟩ := r
  dsimp only at HT hln
  go_upto_region 4 with fail
  rw [← hW3]
  clear hW3 ho2 hb2 HD H
  generalize w2.heap.size = X at *
  have x0 := G3.c0
  have x1 := G3.c1
  obtain ⟨k0, k1, k2, k3⟩ := K3.cells
  have xl := G3.lt
  have kl := K3.lt
  go_wp2_with (go_at_call 8; refine (HMi.out _ G3).mono ?_; rintro e u5 ⟨a5, m5, c5, rfl, ho5, hb5⟩; refine Hid.out ?_)
  refine (show ∀ {p : Prop}, p → Hid p from fun h => h) ?_
  have hm5 : gs.length = m5 := by have := ho5.1; rw [ecells_length] at this; omega
  obtain ⟨W5, hW5⟩ : ∃ W5, W5 = u5.alloc (.cells #[.int .i64 N, .slice a5 m5 c5] 26) := ⟨_, rfl⟩
  have hb5' : Below W3.heap.size W3 W5 := by rw [hW5]; exact hb5.alloc hb5.size _
  have G5 : BG W5 u5.heap.size N a5 m5 c5 gs := by rw [hW5]; exact BG.laid ho5
  have HB5 := hideIt (HB3.out.trans (hb5'.mono HB3.out.size))
  have G3' := G3.up hb5'
  have K3' := K3.up hb5'
  go_upto_region 5 with fail
  rw [← hW5]
  clear hW5 ho5 hb5 hb5' G3 K3 HB3 x0 x1 k0 k1 k2 k3 xl kl HMi
  generalize u5.heap.size = Y at *
  have x0 := G3'.c0
  have x1 := G3'.c1
  obtain ⟨k0, k1, k2, k3⟩ := K3'.cells
  go_wp2_with (go_at_call 9; refine (HMs.out _ G3').mono ?_; rintro e u7 ⟨a7, m7, c7, rfl, ho7, hb7⟩; refine Hid.out ?_)
  refine (show ∀ {p : Prop}, p → Hid p from fun h => h) ?_
  have hm7 : gs.length = m7 := by have := ho7.1; rw [ecells_length] at this; omega
  obtain rfl : m5 = m7 := by omega
  obtain ⟨W7, hW7⟩ : ∃ W7, W7 = u7.alloc (.cells #[.int .i64 N, .slice a7 m5 c7] 26) := ⟨_, rfl⟩
  have hb7' : Below W5.heap.size W5 W7 := by rw [hW7]; exact hb7.alloc hb7.size _
  have G7 : BG W7 u7.heap.size N a7 m5 c7 gs := by rw [hW7]; exact BG.laid ho7
  have HB7 := hideIt (HB5.out.trans (hb7'.mono HB5.out.size))
  have G5' := G5.up hb7'
  have G3x := G3'.up hb7'
  have K3x := K3'.up hb7'
  go_upto_region 6 with fail
  rw [← hW7]
  clear hW7 ho7 hb7 hb7' G5 G3' K3' HB5 x0 x1 k0 k1 k2 k3 HMs hm7
  generalize u7.heap.size = V at *
  have hs0 : (say != say) = false := by simp
  have hN0 : (N != N) = false := by simp
  have HE1 := hideIt (sameEdges_same gs m5 a5 a7 c5 c7 (by omega) W7 G5'.row G7.row)
  have y1 := G5'.c1
  have v1 := G7.c1
  go_wp2_with (go_at_call 10; refine HE1.out.mono ?_; rintro e w8 ⟨rfl, hb8⟩; refine Hid.out ?_)
  refine (show ∀ {p : Prop}, p → Hid p from fun h => h) ?_
  have G5y := G5'.up hb8
  have G3y := G3x.up hb8
  have K3y := K3x.up hb8
  have HB8 := hideIt (HB7.out.trans (hb8.mono HB7.out.size))
  clear G5' G7 G3x K3x HB7 hb8 HE1 y1 v1
  have y0 := G5y.c0
  have y1 := G5y.c1
  have x0 := G3y.c0
  have x1 := G3y.c1
  obtain ⟨k0, k1, k2, k3⟩ := K3y.cells
  by_cases hs1 : say = 1
  · have f1 : (say != 1) = false := by simpa using hs1
    by_cases h3 : xo = 3
    · have q3 : (xo == 3) = true := by simpa using h3
      have e9 : gs = es := HT.out.1 (by omega)
      subst e9
      obtain rfl : m5 = m := by omega
      have HE2 := hideIt (sameEdges_same gs m5 a5 a1 c5 c1 (by omega) w8 G5y.row G3y.row)
      clear HT
      go_wp2_with (go_at_call 10; refine HE2.out.mono ?_; rintro e w9 ⟨rfl, hb9⟩)
      go_ret
      exact ⟨rfl, HB8.out.trans (hb9.mono HB8.out.size)⟩
    · have q3 : (xo == 3) = false := by simpa using h3
      by_cases h4 : xo = 4
      · have q4 : (xo == 4) = true := by simpa using h4
        have e9 : gs = es := HT.out.1 (by omega)
        subst e9
        obtain rfl : m5 = m := by omega
        have HE2 := hideIt (sameEdges_same gs m5 a5 a1 c5 c1 (by omega) w8 G5y.row G3y.row)
        clear HT
        go_wp2_with (go_at_call 10; refine HE2.out.mono ?_; rintro e w9 ⟨rfl, hb9⟩)
        go_ret
        exact ⟨rfl, HB8.out.trans (hb9.mono HB8.out.size)⟩
      · have q4 : (xo == 4) = false := by simpa using h4
        obtain ⟨hgb, hlen⟩ := HT.out.2 hs1 h3 h4
        have HG := hideIt (sGraphOk_any N gs m5 a5 c5 (by omega) w8 G5y.row)
        rw [hgb] at HG
        have G5z := hideIt G5y
        have G3z := hideIt G3y
        clear HT hgb hs1 h3 h4 K3y G5y G3y
        go_wp2_with (go_at_call 11; refine HG.out.mono ?_; rintro e w9 ⟨rfl, hb9⟩; refine Hid.out ?_)
        refine (show ∀ {p : Prop}, p → Hid p from fun h => h) ?_
        have HB9 := hideIt (HB8.out.trans (hb9.mono HB8.out.size))
        have z1 := (G5z.out.up hb9).c1
        have z3 := (G3z.out.up hb9).c1
        clear HG hb9 HB8 G5z G3z y0 y1 x0 x1 k0 k1 k2 k3
        by_cases hc : m5 = m + 1
        · have t1 : ((m5 : Int) == (m : Int) + 1) = true := by simpa using (show (m5 : Int) = (m : Int) + 1 by omega)
          have t0 : IntKind.i64.wrap ((m : Int) + 1) = (m : Int) + 1 := by rw [IntKind.wrap_i64]; omega
          clear hc hlen hem hm5
          go_wp2
          go_ret
          exact ⟨rfl, HB9.out⟩
        · have t1 : ((m5 : Int) == (m : Int) + 1) = false := by simpa using (show ¬ (m5 : Int) = (m : Int) + 1 by omega)
          have t2 : ((m5 : Int) == (m : Int) - 1) = true := by simpa using (show (m5 : Int) = (m : Int) - 1 by omega)
          clear hc hlen hem hm5
          go_wp2
          go_ret
          exact ⟨rfl, HB9.out⟩
  · have f1 : (say != 1) = true := by simpa using hs1
    have e9 : gs = es := HT.out.1 (by omega)
    subst e9
    obtain rfl : m5 = m := by omega
    have HE2 := hideIt (sameEdges_same gs m5 a5 a1 c5 c1 (by omega) w8 G5y.row G3y.row)
    clear HT
    go_wp2_with (go_at_call 10; refine HE2.out.mono ?_; rintro e w9 ⟨rfl, hb9⟩)
    go_ret
    exact ⟨rfl, HB8.out.trans (hb9.mono HB8.out.size)⟩
end Go.Proofs.Ytobcihdjennieaa
