/- Draws of orders. Draws of any orders. Draws of texts. A row of bytes that the call made out of a text: what is appended to it, and the text of it again. Its mark of frozen cells lies behind its room. What the program's VarText answers at every number in its range. The program's texts of numbers, of edges and of what an order wants done. -/
import Derived.Test.YtkhhagjcmbbdpaaKDw10
import Derived.Test.YtkhhagjcmbbdpaaKSHas
import Derived.Lib.FrozenHead
import Derived.Test.YtkhhagjcmbbdpaaKRv
import Derived.Test.YtkhhagjcmbbdpaaKLawB10
namespace Go.Proofs.Ytkhhagjcmbbdpaa
open Go.RowKit Vt

/-- a row of one sort does not lie where a box of another sort lies -/
theorem own_box {w : World} {B S n : Nat} {e t : TypeId} {v : Value} {xs : List Value} {b : Nat} {cs : Array Value} {fz : Nat × Nat} (h : w.ownsRow B e S v n xs) (hb : w.heap[b]? = some (.cells cs t fz)) (hne : e ≠ t) : v.ownBlock ≠ some b := by
  intro hg
  rcases h.2 with ⟨rfl, _⟩ | ⟨q, cap, cur, rfl, _, hc, _⟩
  · simp [Value.ownBlock] at hg
  · simp [Value.ownBlock] at hg
    subst hg
    rw [hc] at hb
    simp at hb
    exact hne hb.2.1

/-- an order in the making: its box O, the answer's box R, its edges in a row of their own -/
structure OD (w u : World) (G : Nat) (a : Option Addr) (len cap : Nat) (O R : Nat) (num op : Int) (a' : Option Addr) (k c' : Nat) (v : Int) (es : List EdgeV) : Prop where
  ds : DS w u G a len cap
  ob : u.heap[O]? = some (.cells (oc num op a' k c' v) 26 (0, 0))
  rb : u.heap[R]? = some (.cells (oc 0 0 none 0 0 0) 26 (0, 0))
  own : u.ownsRow w.heap.size 78 2 (.slice a' k c') k (ecells es)
  ge : G < w.heap.size ∧ w.heap.size ≤ O ∧ w.heap.size ≤ R ∧ O ≠ R

section
variable {w u u' : World} {G : Nat} {a : Option Addr} {len cap : Nat} {O R : Nat} {num op : Int} {a' : Option Addr} {k c' : Nat} {v : Int} {es : List EdgeV}
theorem OD.drawn (h : OD w u G a len cap O R num op a' k c' v es) (d : Drawn u u' G a len cap) : OD w u' G a len cap O R num op a' k c' v es :=
  ⟨h.ds.drawn d, blk_drawn h.ob d (by have := h.ge; omega), blk_drawn h.rb d (by have := h.ge; omega), own_drawn h.own d h.ge.1, h.ge⟩
theorem OD.up (h : OD w u G a len cap O R num op a' k c' v es) (hb : Below u.heap.size u u') : OD w u' G a len cap O R num op a' k c' v es :=
  ⟨h.ds.up hb, blk_up h.ob hb, blk_up h.rb hb, own_up10 h.own hb, h.ge⟩
theorem OD.cells (h : OD w u G a len cap O R num op a' k c' v es) : u.cell? ⟨O, 0, none⟩ = some (.int .i64 num) ∧ u.cell? ⟨O, 1, none⟩ = some (.int .i64 op) ∧ u.cell? ⟨O, 2, none⟩ = some (.slice a' k c') ∧ u.cell? ⟨O, 3, none⟩ = some (.int .i64 v) :=
  ⟨by rw [cell_of_row u O 0 _ _ _ h.ob]; rfl, by rw [cell_of_row u O 1 _ _ _ h.ob]; rfl, by rw [cell_of_row u O 2 _ _ _ h.ob]; rfl, by rw [cell_of_row u O 3 _ _ _ h.ob]; rfl⟩
theorem OD.cellsR (h : OD w u G a len cap O R num op a' k c' v es) : u.cell? ⟨R, 0, none⟩ = some (.int .i64 0) ∧ u.cell? ⟨R, 1, none⟩ = some (.int .i64 0) ∧ u.cell? ⟨R, 2, none⟩ = some (.slice none 0 0) ∧ u.cell? ⟨R, 3, none⟩ = some (.int .i64 0) :=
  ⟨by rw [cell_of_row u R 0 _ _ _ h.rb]; rfl, by rw [cell_of_row u R 1 _ _ _ h.rb]; rfl, by rw [cell_of_row u R 2 _ _ _ h.rb]; rfl, by rw [cell_of_row u R 3 _ _ _ h.rb]; rfl⟩
theorem OD.frozen (h : OD w u G a len cap O R num op a' k c' v es) (j : Nat) : u.frozen? ⟨O, j, none⟩ = false := frozen_of_row u O j _ _ h.ob
theorem OD.frozenR (h : OD w u G a len cap O R num op a' k c' v es) (j : Nat) : u.frozen? ⟨R, j, none⟩ = false := frozen_of_row u R j _ _ h.rb
theorem OD.edges (h : OD w u G a len cap O R num op a' k c' v es) : Es u u.heap.size a' k es := Es_of_own h.own
/-- a field is turned; the edges may be others -/
theorem OD.set {num' op' : Int} {b : Option Addr} {m d : Nat} {v' : Int} {fs : List EdgeV} (h : OD w u G a len cap O R num op a' k c' v es) (j : Nat) (x : Value) (hc : (oc num op a' k c' v).setIfInBounds j x = oc num' op' b m d v')
    (ho : u.ownsRow w.heap.size 78 2 (.slice b m d) m (ecells fs)) : OD w (u.setCell ⟨O, j, none⟩ x) G a len cap O R num' op' b m d v' fs :=
  ⟨h.ds.set h.ge.1 _ _ _ h.ge.2.1, by rw [heap_setCell_same u O j _ _ x h.ob, hc], by rw [heap_setCell_other u ⟨O, j, none⟩ R x (by exact Ne.symm h.ge.2.2.2)]; exact h.rb, ho.kept (gr_set u O j x) (.inr (own_box ho h.ob (by decide))), h.ge⟩
end

/-- what a draw of an order answers -/
def DrO (w : World) (G : Nat) (a : Option Addr) (len cap : Nat) (most : Nat) (e : Ending) (w' : World) : Prop :=
  ∃ (num op : Int) (a' : Option Addr) (k c' : Nat) (v : Int) (es : List EdgeV), e = .returned (ordV num op a' k c' v) ∧ w'.ownsRow w.heap.size 78 2 (.slice a' k c') k (ecells es) ∧ k ≤ most ∧ Drawn w w' G a len cap

/-- the answer's box is filled -/
theorem OD.fin {w u : World} {G : Nat} {a : Option Addr} {len cap : Nat} {O R : Nat} {num op : Int} {a' : Option Addr} {k c' : Nat} {v : Int} {es : List EdgeV} {most : Nat} (h : OD w u G a len cap O R num op a' k c' v es) (hk : k ≤ most) (hcode : Code w G a len) :
    DrO w G a len cap most (.returned (ordV num op a' k c' v)) ((((u.setCell ⟨R, 0, none⟩ (.int .i64 num)).setCell ⟨R, 1, none⟩ (.int .i64 op)).setCell ⟨R, 2, none⟩ (.slice a' k c')).setCell ⟨R, 3, none⟩ (.int .i64 v)) := by
  have hne := own_box h.own h.rb (by decide : (78 : TypeId) ≠ 26)
  refine ⟨num, op, a', k, c', v, es, rfl, ?_, hk, DS.fin ?_ hcode⟩
  · exact (((h.own.kept (gr_set _ R 0 _) (.inr hne)).kept (gr_set _ R 1 _) (.inr hne)).kept (gr_set _ R 2 _) (.inr hne)).kept (gr_set _ R 3 _) (.inr hne)
  · exact (((h.ds.set h.ge.1 _ _ _ h.ge.2.2.1).set h.ge.1 _ _ _ h.ge.2.2.1).set h.ge.1 _ _ _ h.ge.2.2.1).set h.ge.1 _ _ _ h.ge.2.2.1

theorem pick_DS {w : World} {G : Nat} {a : Option Addr} {len cap : Nat} (hl : len ≤ 1048576) (hcode : Code w G a len) (hG : G < w.heap.size) (W : World) (zs : List Int) (h0 : 0 < zs.length) (h1 : zs.length ≤ 1000) (hW : DS w W G a len cap) :
    Calls Try.prog 68 #[.pointer (some ⟨G, 0, none⟩), .slice (some ⟨W.heap.size, 0, none⟩) zs.length zs.length] (W.alloc (.cells (zs.map (Value.int .i64)).toArray 3)) fun e w' => ∃ x : Int, e = .returned (.int .i64 x) ∧ Drawn (W.alloc (.cells (zs.map (Value.int .i64)).toArray 3)) w' G a len cap := by
  have hW2 := hW.alloc (.cells (zs.map (Value.int .i64)).toArray 3)
  have hz := hW.size
  exact l01PickInt_any W.heap.size zs.length zs.length h0 h1 _ G a len cap hl hW2.cur (hW2.code hcode) (by simp) (by omega) (ints_new W zs 3)

theorem len_two {p q : EdgeV → Bool} (hpq : ∀ d, p d = true → q d = false) (es : List EdgeV) : (es.filter p).length + (es.filter q).length ≤ es.length := by
  induction es with
  | nil => simp
  | cons d es ih =>
    simp only [List.filter_cons]
    cases hp : p d with
    | true => rw [hpq d hp]; simp; omega
    | false => cases hq : q d <;> simp <;> omega

theorem put_len (es : List EdgeV) (e : EdgeV) : (putE es e).length ≤ es.length + 1 := by
  have h := len_two (p := fun d => lt d e) (q := fun d => lt e d) (fun d hd => lt_asymm' hd) es
  unfold putE
  simp only [List.length_append, List.length_cons, List.length_nil]
  omega


set_option maxRecDepth 100000 in
set_option maxHeartbeats 4000000 in
theorem l09Order_any (nn : Nat) (h2 : 2 ≤ nn) (h12 : nn ≤ 12) (w : World) (G : Nat) (a : Option Addr) (len cap : Nat) (hl : len ≤ 1048576) (hcur : Cur w G a len cap) (hcode : Code w G a len) :
    Calls Try.prog 91 #[.pointer (some ⟨G, 0, none⟩), .int .i64 (nn : Int)] w (DrO w G a len cap 63) := by
  have hGl := hcur.lt
  have HB : Hid (∀ W (m : Int), 0 < m → m ≤ 100 → DS w W G a len cap → Calls Try.prog 90 #[.pointer (some ⟨G, 0, none⟩), .int .i64 m] W fun e w' => ∃ x : Nat, (x : Int) < m ∧ e = .returned (.int .i64 (x : Int)) ∧ Drawn W w' G a len cap) := fun W m h0 h1 hW => l01Below_any m h0 (by omega) W G a len cap hl hW.cur (hW.code hcode)
  have HE : Hid (∀ W, DS w W G a len cap → Calls Try.prog 102 #[.pointer (some ⟨G, 0, none⟩), .int .i64 (nn : Int)] W fun x w' => ∃ e : EdgeV, Hid (eB (nn : Int) e = true) ∧ x = .returned (.agg #[.int .i64 e.1, .int .i64 e.2]) ∧ Drawn W w' G a len cap) := fun W hW => l05Edge_any nn h2 h12 W G a len cap hl hW.cur (hW.code hcode)
  have HP : Hid (∀ (W : World) (zs : List Int), 0 < zs.length → zs.length ≤ 1000 → DS w W G a len cap → Calls Try.prog 68 #[.pointer (some ⟨G, 0, none⟩), .slice (some ⟨W.heap.size, 0, none⟩) zs.length zs.length] (W.alloc (.cells (zs.map (Value.int .i64)).toArray 3)) fun e w' => ∃ x : Int, e = .returned (.int .i64 x) ∧ Drawn (W.alloc (.cells (zs.map (Value.int .i64)).toArray 3)) w' G a len cap) := fun W zs h0 h1 hW => pick_DS hl hcode hGl W zs h0 h1 hW
  have HCode := hideIt hcode
  have HD0 : Hid (DS w (w.alloc (.cells (oc 0 0 none 0 0 0) 26)) G a len cap) := (DS.start hcur).alloc _
  have Hr0 : Hid ((w.alloc (.cells (oc 0 0 none 0 0 0) 26)).heap[w.heap.size]? = some (.cells (oc 0 0 none 0 0 0) 26 (0, 0))) := heap_alloc_new w _
  clear hcur hcode
  go_enter Try.func91, Try.ntmps91
  go_wp2_with (go_at_call 90; refine (HB.out _ 9 (by omega) (by omega) HD0.out).mono ?_; rintro e w1 ⟨x1, hx1, rfl, hd1⟩; refine Hid.out ?_)
  refine (show ∀ {p : Prop}, p → Hid p from fun h => h) ?_
  have D1 := HD0.out.drawn hd1
  have r1 := blk_drawn Hr0.out hd1 (show w.heap.size ≠ G by omega)
  clear HD0 Hr0 hd1
  have P1 := hideIt (HP.out w1 [1, 1, 1, 2, 2, 3, 4] (by simp) (by simp) D1)
  simp only [List.map_cons, List.map_nil, List.length_cons, List.length_nil, Nat.zero_add, Nat.reduceAdd] at P1
  go_wp2_with (go_at_call 68; refine P1.out.mono ?_; rintro e w2 ⟨op, rfl, hd2⟩; refine Hid.out ?_)
  refine (show ∀ {p : Prop}, p → Hid p from fun h => h) ?_
  have D2 := (D1.alloc _).drawn hd2
  have r2 := blk_drawn (blk_alloc r1 _) hd2 (show w.heap.size ≠ G by omega)
  have z2 := D2.size
  have hrl := (Array.getElem?_eq_some_iff.1 r2).1
  have X0 : OD w (w2.alloc (.cells (oc (1 + (x1 : Int)) op none 0 0 0) 26)) G a len cap w2.heap.size w.heap.size (1 + (x1 : Int)) op none 0 0 0 [] :=
    ⟨D2.alloc _, heap_alloc_new w2 _, blk_alloc r2 _, ⟨rfl, .inl ⟨rfl, rfl⟩⟩, by omega⟩
  clear D1 D2 r1 r2 hd2 P1 HP
  generalize (1 + (x1 : Int)) = num at X0
  obtain ⟨q0, q1, q2, q3⟩ := X0.cells
  have HX0 := hideIt X0
  by_cases o3 : op = 3
  · subst o3
    have D3 := X0.ds
    clear X0
    go_wp2_with (go_at_call 90; refine (HB.out _ (nn : Int) (by omega) (by omega) D3).mono ?_; rintro e w3 ⟨x3, hx3, rfl, hd3⟩; refine Hid.out ?_)
    refine (show ∀ {p : Prop}, p → Hid p from fun h => h) ?_
    have X3 := HX0.out.drawn hd3
    have f3 := X3.frozen 3
    have X4 := X3.set 3 (.int .i64 (x3 : Int)) rfl X3.own
    clear q0 q1 q2 q3 D3 hd3 HX0
    obtain ⟨q0, q1, q2, q3⟩ := X3.cells
    obtain ⟨r0, r1, r2, r3⟩ := X3.cellsR
    have g0 := X3.frozenR 0
    have g1 := X3.frozenR 1
    have g2 := X3.frozenR 2
    have g3 := X3.frozenR 3
    have hne : w2.heap.size ≠ w.heap.size := by omega
    have HX := hideIt X4
    clear X3 X4
    go_wp2
    exact bodyPost_ret (v := ordV num 3 none 0 0 (x3 : Int)) (by simp [results, Try.results91, go_sem, r0, r1, r2, r3]) rfl (HX.out.fin (by omega) HCode.out)
  · have e3 : (op == 3) = false := by simpa using o3
    by_cases o4 : op = 4
    · subst o4
      go_wp2
      go_loopw [6] (fun i wr => ∃ (j : Nat) (a' : Option Addr) (k c' : Nat) (es : List EdgeV), j ≤ 4 ∧ k ≤ j ∧ i = .int .i64 (j : Int) ∧ OD w wr G a len cap w2.heap.size w.heap.size num 4 a' k c' 0 es) (fun i _ => 5 - (intOf i).toNat)
      case atStart => exact ⟨0, none, 0, 0, [], by omega, by omega, rfl, HX0.out⟩
      case round =>
        obtain ⟨j, a', k, c', es, hj, hk, rfl, hX⟩ := hrel
        have D3 := hX.ds
        have HX1 := hideIt hX
        clear hX
        go_wp2_with (go_at_call 90; refine (HB.out _ 4 (by omega) (by omega) D3).mono ?_; rintro e w3 ⟨x3, hx3, rfl, hd3⟩; refine Hid.out ?_)
        refine (show ∀ {p : Prop}, p → Hid p from fun h => h) ?_
        have X3 := HX1.out.drawn hd3
        clear hd3 D3 HX1
        by_cases hlt : (j : Int) < 1 + (x3 : Int)
        · have d1 : decide ((j : Int) < 1 + (x3 : Int)) = true := by simpa using hlt
          have D4 := X3.ds
          have HX3 := hideIt X3
          clear X3
          go_wp2_with (go_at_call 102; refine (HE.out _ D4).mono ?_; rintro e w4 ⟨ed, _, rfl, hd4⟩; refine Hid.out ?_)
          refine (show ∀ {p : Prop}, p → Hid p from fun h => h) ?_
          have X4 := (HX3.out.drawn hd4).up (bel1 w4 (.cells #[.int .i64 ed.1, .int .i64 ed.2] 78))
          clear q0 q1 q2 q3
          obtain ⟨q0, q1, q2, q3⟩ := X4.cells
          have HH := hideIt (l05Has_any es ed k a' c' (by omega) _ X4.edges)
          have HX4 := hideIt X4
          clear D4 HX3 hd4 X4
          have bE : Hid ((w4.alloc (.cells #[.int .i64 ed.1, .int .i64 ed.2] 78)).heap[w4.heap.size]? = some (.cells #[.int .i64 ed.1, .int .i64 ed.2] 78 (0, 0))) := heap_alloc_new w4 _
          cases hb : hasB es ed with
          | true =>
            rw [hb] at HH
            go_wp2_with (go_at_call 103; refine HH.out.mono ?_; rintro e w5 ⟨rfl, hb5⟩)
            refine ⟨⟨j + 1, a', k, c', es, by omega, by omega, by go_num, HX4.out.up hb5⟩, by simp [intOf]; omega⟩
          | false =>
            rw [hb] at HH
            go_wp2_with (go_at_call 103; refine HH.out.mono ?_; rintro e w5 ⟨rfl, hb5⟩; refine Hid.out ?_)
            refine (show ∀ {p : Prop}, p → Hid p from fun h => h) ?_
            have X5 := HX4.out.up hb5
            have b5 := blk_up bE.out hb5
            have s0 : w5.cell? ⟨w4.heap.size, 0, none⟩ = some (.int .i64 ed.1) := by rw [cell_of_row w5 _ 0 _ _ _ b5]; rfl
            have s1 : w5.cell? ⟨w4.heap.size, 1, none⟩ = some (.int .i64 ed.2) := by rw [cell_of_row w5 _ 1 _ _ _ b5]; rfl
            clear q0 q1 q2 q3
            obtain ⟨q0, q1, q2, q3⟩ := X5.cells
            have HPu := hideIt (l05Put_any es ed k a' c' (by omega) w5 X5.edges)
            have z5 := X5.ds.size
            have hlenk : es.length = k := X5.edges.1
            have HX5 := hideIt X5
            clear X5 HX4 hb5 b5 bE HH
            go_wp2_with (go_at_call 104; refine HPu.out.mono ?_; rintro e w6 ⟨a6, m6, c6, rfl, hown6, hb6⟩; refine Hid.out ?_)
            refine (show ∀ {p : Prop}, p → Hid p from fun h => h) ?_
            have X6 := HX5.out.up hb6
            have y2 := X6.frozen 2
            have hm6 : m6 ≤ j + 1 := by
              have h1 := hown6.1
              rw [ecells_length] at h1
              have := put_len es ed
              omega
            have X7 := X6.set 2 (.slice a6 m6 c6) rfl (own_mono hown6 z5)
            clear q0 q1 q2 q3
            obtain ⟨q0, q1, q2, q3⟩ := X6.cells
            have HX7 := hideIt X7
            clear X6 X7 HX5 hown6 hb6 HPu s0 s1
            go_wp2
            refine ⟨⟨j + 1, a6, m6, c6, _, by omega, hm6, by go_num, HX7.out⟩, by simp [intOf]; omega⟩
        · have d1 : decide ((j : Int) < 1 + (x3 : Int)) = false := by simpa using hlt
          clear q0 q1 q2 q3
          obtain ⟨q0, q1, q2, q3⟩ := X3.cells
          obtain ⟨r0, r1, r2, r3⟩ := X3.cellsR
          have g0 := X3.frozenR 0
          have g1 := X3.frozenR 1
          have g2 := X3.frozenR 2
          have g3 := X3.frozenR 3
          have HX := hideIt X3
          clear X3
          go_wp2
          exact bodyPost_ret (v := ordV num 4 a' k c' 0) (by simp [results, Try.results91, go_sem, r0, r1, r2, r3]) rfl (HX.out.fin (by omega) HCode.out)
    · have e4 : (op == 4) = false := by simpa using o4
      have D3 := X0.ds
      clear X0
      go_wp2_with (go_at_call 102; refine (HE.out _ D3).mono ?_; rintro e w3 ⟨ed, _, rfl, hd3⟩; refine Hid.out ?_)
      refine (show ∀ {p : Prop}, p → Hid p from fun h => h) ?_
      have X3 := (HX0.out.drawn hd3).up (bel1 w3 (.cells #[.int .i64 ed.1, .int .i64 ed.2] 78))
      have z3 := (HX0.out.drawn hd3).ds.size
      have hown3 : (w3.alloc (.cells #[.int .i64 ed.1, .int .i64 ed.2] 78)).ownsRow w.heap.size 78 2 (.slice (some ⟨w3.heap.size, 0, none⟩) 1 1) 1 (ecells [ed]) :=
        own_mono (World.ownsRow_lit (base := w3.heap.size) (e := 78) (size := 2) w3 #[.int .i64 ed.1, .int .i64 ed.2] 1 (Nat.le_refl _) (by unfold maxLen; omega) rfl) z3
      have X4 := X3.set 2 (.slice (some ⟨w3.heap.size, 0, none⟩) 1 1) rfl hown3
      clear q0 q1 q2 q3
      have hl3 := (Array.getElem?_eq_some_iff.1 (HX0.out.drawn hd3).ob).1
      have hrl3 := (Array.getElem?_eq_some_iff.1 (HX0.out.drawn hd3).rb).1
      rw [World.setCell_alloc_past (w := w3) (.cells #[.int .i64 ed.1, .int .i64 ed.2] 78) w2.heap.size 2 (.slice (some ⟨w3.heap.size, 0, none⟩) 1 1) hl3] at X4
      obtain ⟨q0, q1, q2, q3⟩ := (HX0.out.drawn hd3).cells
      have f2 := (HX0.out.drawn hd3).frozen 2
      obtain ⟨r0, r1, r2, r3⟩ := X4.cellsR
      have g0 := X4.frozenR 0
      have g1 := X4.frozenR 1
      have g2 := X4.frozenR 2
      have g3 := X4.frozenR 3
      have HX := hideIt X4
      clear X3 X4 hown3 D3 hd3 HX0 z3 hrl hrl3
      go_wp2
      have h9 := HX.out.fin (most := 63) (by omega) HCode.out
      refine bodyPost_ret (v := ordV num op (some ⟨w3.heap.size, 0, none⟩) 1 1 0) (by simp [results, Try.results91, go_sem, r0, r1, r2, r3]) rfl ?_
      exact h9
end Go.Proofs.Ytkhhagjcmbbdpaa
namespace Go.Proofs.Ytkhhagjcmbbdpaa
open Go.RowKit Vt

theorem drew_drawn {u v : World} {G : Nat} {a : Option Addr} {len cap : Nat} (h : Drawn u.drew v G a len cap) : Drawn u v G a len cap := ⟨h.cur, h.code, gr_trans (gr_drew u _) h.grown⟩

theorem OD.app {w u u' : World} {G : Nat} {a : Option Addr} {len cap : Nat} {O R : Nat} {num op : Int} {a' : Option Addr} {k c' : Nat} {v : Int} {es : List EdgeV} {ed : EdgeV} {g cp : Nat} (h : OD w u G a len cap O R num op a' k c' v es)
    (hown : u'.ownsRow w.heap.size 78 2 (.slice (some ⟨g, 0, none⟩) (k + 1) cp) (k + 1) (ecells es ++ [.int .i64 ed.1, .int .i64 ed.2])) (hg : (u.alloc (.cells #[.int .i64 ed.1, .int .i64 ed.2] 78)).grownBy u' (Value.slice a' k c').ownBlock) :
    u'.frozen? ⟨O, 2, none⟩ = false ∧ u'.cell? ⟨O, 2, none⟩ = some (.slice a' k c') ∧ OD w (u'.setCell ⟨O, 2, none⟩ (.slice (some ⟨g, 0, none⟩) (k + 1) cp)) G a len cap O R num op (some ⟨g, 0, none⟩) (k + 1) cp v (es ++ [ed]) := by
  have hgg : u.grownBy u' (Value.slice a' k c').ownBlock := gr_trans (World.grownBy_alloc u _ _) hg
  have ho := blk_row h.ob hgg (own_box h.own h.ob (by decide))
  have hr := blk_row h.rb hgg (own_box h.own h.rb (by decide))
  have hd := h.ds.row h.ge.1 hgg (fun q hq => (h.own.lt q hq).1)
  rw [← ecells_snoc] at hown
  refine ⟨frozen_of_row u' O 2 _ _ ho, by rw [cell_of_row u' O 2 _ _ _ ho]; rfl, ?_⟩
  exact ⟨hd.set h.ge.1 _ _ _ h.ge.2.1, by rw [heap_setCell_same u' O 2 _ _ _ ho]; rfl, by rw [heap_setCell_other u' ⟨O, 2, none⟩ R _ (by exact Ne.symm h.ge.2.2.2)]; exact hr, hown.kept (gr_set u' O 2 _) (.inr (own_box hown ho (by decide))), h.ge⟩

theorem DrO.more {w : World} {G : Nat} {a : Option Addr} {len cap m m' : Nat} {e : Ending} {w' : World} (h : DrO w G a len cap m e w') (hm : m ≤ m') : DrO w G a len cap m' e w' := by
  obtain ⟨a1, a2, a3, a4, a5, a6, a7, h1, h2, h3, h4⟩ := h
  exact ⟨a1, a2, a3, a4, a5, a6, a7, h1, h2, by omega, h4⟩

set_option maxRecDepth 100000 in
set_option maxHeartbeats 8000000 in
theorem l09AnyOrder_any (nn : Nat) (h2 : 2 ≤ nn) (h12 : nn ≤ 12) (w : World) (G : Nat) (a : Option Addr) (len cap : Nat) (hl : len ≤ 1048576) (hcur : Cur w G a len cap) (hcode : Code w G a len) :
    Calls Try.prog 61 #[.pointer (some ⟨G, 0, none⟩), .int .i64 (nn : Int)] w (DrO w G a len cap 64) := by
  obtain ⟨i0, hi, hz0, hz1, hz2⟩ := info_parts infoIE
  have hGl := hcur.lt
  have HB : Hid (∀ W (m : Int), 0 < m → m ≤ 100 → DS w W G a len cap → Calls Try.prog 90 #[.pointer (some ⟨G, 0, none⟩), .int .i64 m] W fun e w' => ∃ x : Nat, (x : Int) < m ∧ e = .returned (.int .i64 (x : Int)) ∧ Drawn W w' G a len cap) := fun W m h0 h1 hW => l01Below_any m h0 (by omega) W G a len cap hl hW.cur (hW.code hcode)
  have HA : Hid (∀ W, DS w W G a len cap → Calls Try.prog 92 #[.pointer (some ⟨G, 0, none⟩), .agg #[.int .i64 0, .slice none 0 0]] W fun x w' => ∃ e : EdgeV, x = .returned (.agg #[.int .i64 e.1, .int .i64 e.2]) ∧ Drawn W w' G a len cap) := fun W hW => l05AnyEdge_any W G a len cap hl hW.cur (hW.code hcode)
  have HP : Hid (∀ (W : World) (zs : List Int), 0 < zs.length → zs.length ≤ 1000 → DS w W G a len cap → Calls Try.prog 68 #[.pointer (some ⟨G, 0, none⟩), .slice (some ⟨W.heap.size, 0, none⟩) zs.length zs.length] (W.alloc (.cells (zs.map (Value.int .i64)).toArray 3)) fun e w' => ∃ x : Int, e = .returned (.int .i64 x) ∧ Drawn (W.alloc (.cells (zs.map (Value.int .i64)).toArray 3)) w' G a len cap) := fun W zs h0 h1 hW => pick_DS hl hcode hGl W zs h0 h1 hW
  have HCode := hideIt hcode
  have D0 : DS w (w.alloc (.cells (oc 0 0 none 0 0 0) 26)) G a len cap := (DS.start hcur).alloc _
  have Hr0 : Hid ((w.alloc (.cells (oc 0 0 none 0 0 0) 26)).heap[w.heap.size]? = some (.cells (oc 0 0 none 0 0 0) 26 (0, 0))) := heap_alloc_new w _
  have HOr := hideIt (l09Order_any nn h2 h12 _ G a len cap hl D0.cur (D0.code hcode))
  have HD0 := hideIt D0
  clear hcur hcode D0
  go_enter Try.func61, Try.ntmps61
  go_wp2_with (go_at_call 91; refine HOr.out.mono ?_; rintro e w1 ⟨num, op, a', k, c', v, es, rfl, hown1, hk1, hd1⟩; refine Hid.out ?_)
  refine (show ∀ {p : Prop}, p → Hid p from fun h => h) ?_
  have D1 := HD0.out.drawn hd1
  have r1 := blk_drawn Hr0.out hd1 (show w.heap.size ≠ G by omega)
  have hrl := (Array.getElem?_eq_some_iff.1 r1).1
  have X1 : OD w (w1.alloc (.cells (oc num op a' k c' v) 26)) G a len cap w1.heap.size w.heap.size num op a' k c' v es :=
    ⟨D1.alloc _, heap_alloc_new w1 _, blk_alloc r1 _, (own_mono hown1 (by simp)).alloc _, by omega⟩
  have D2 := X1.ds
  have HX1 := hideIt X1
  clear X1 D1 r1 hd1 hown1 HD0 Hr0 HOr
  go_wp2_with (go_at_call 90; refine (HB.out _ 20 (by omega) (by omega) D2).mono ?_; rintro e w2 ⟨x2, hx2, rfl, hd2⟩; refine Hid.out ?_)
  refine (show ∀ {p : Prop}, p → Hid p from fun h => h) ?_
  have X2 := HX1.out.drawn hd2
  have HX2 := hideIt X2
  obtain ⟨q0, q1, q2, q3⟩ := X2.cells
  clear D2 hd2 HX1 HB
  by_cases hq0 : (x2 : Int) = 0
  · have e0 : ((x2 : Int) == 0) = true := by simpa using hq0
    have D2 := X2.ds
    have P1 := hideIt (HP.out w2 [0, -1, 100000, 100001] (by simp) (by simp) D2)
    simp only [List.map_cons, List.map_nil, List.length_cons, List.length_nil, Nat.zero_add, Nat.reduceAdd] at P1
    clear X2 D2
    go_wp2_with (go_at_call 68; refine P1.out.mono ?_; rintro e w3 ⟨y, rfl, hd3⟩; refine Hid.out ?_)
    refine (show ∀ {p : Prop}, p → Hid p from fun h => h) ?_
    have X3 := (HX2.out.up (bel1 _ _)).drawn hd3
    have f9 := X3.frozen 0
    clear q0 q1 q2 q3
    obtain ⟨q0, q1, q2, q3⟩ := X3.cells
    have X4 := X3.set 0 (.int .i64 y) rfl X3.own
    obtain ⟨r0, r1, r2, r3⟩ := X3.cellsR
    have g0 := X3.frozenR 0
    have g1 := X3.frozenR 1
    have g2 := X3.frozenR 2
    have g3 := X3.frozenR 3
    have hne : ¬ w1.heap.size = w.heap.size := by omega
    have HX := hideIt X4
    clear X3 X4 hd3 P1 HX2
    go_wp2
    exact bodyPost_ret (v := ordV y op a' k c' v) (by simp [results, Try.results61, go_sem, r0, r1, r2, r3]) rfl (HX.out.fin (by omega) HCode.out)
  · have e0 : ((x2 : Int) == 0) = false := by simpa using hq0
    by_cases hq1 : (x2 : Int) = 1
    · have e0 : ((x2 : Int) == 1) = true := by simpa using hq1
      have D2 := X2.ds
      have P1 := hideIt (HP.out w2 [0, 5, 1, 3, 4] (by simp) (by simp) D2)
      simp only [List.map_cons, List.map_nil, List.length_cons, List.length_nil, Nat.zero_add, Nat.reduceAdd] at P1
      clear X2 D2
      go_wp2_with (go_at_call 68; refine P1.out.mono ?_; rintro e w3 ⟨y, rfl, hd3⟩; refine Hid.out ?_)
      refine (show ∀ {p : Prop}, p → Hid p from fun h => h) ?_
      have X3 := (HX2.out.up (bel1 _ _)).drawn hd3
      have f9 := X3.frozen 1
      clear q0 q1 q2 q3
      obtain ⟨q0, q1, q2, q3⟩ := X3.cells
      have X4 := X3.set 1 (.int .i64 y) rfl X3.own
      obtain ⟨r0, r1, r2, r3⟩ := X3.cellsR
      have g0 := X3.frozenR 0
      have g1 := X3.frozenR 1
      have g2 := X3.frozenR 2
      have g3 := X3.frozenR 3
      have hne : ¬ w1.heap.size = w.heap.size := by omega
      have HX := hideIt X4
      clear X3 X4 hd3 P1 HX2
      go_wp2
      exact bodyPost_ret (v := ordV num y a' k c' v) (by simp [results, Try.results61, go_sem, r0, r1, r2, r3]) rfl (HX.out.fin (by omega) HCode.out)
    · have e1 : ((x2 : Int) == 1) = false := by simpa using hq1
      by_cases hq2 : (x2 : Int) = 2
      · have e0 : ((x2 : Int) == 2) = true := by simpa using hq2
        have D2 := X2.ds
        have P1 := hideIt (HP.out w2 [-1, 1, 11, 12] (by simp) (by simp) D2)
        simp only [List.map_cons, List.map_nil, List.length_cons, List.length_nil, Nat.zero_add, Nat.reduceAdd] at P1
        clear X2 D2
        go_wp2_with (go_at_call 68; refine P1.out.mono ?_; rintro e w3 ⟨y, rfl, hd3⟩; refine Hid.out ?_)
        refine (show ∀ {p : Prop}, p → Hid p from fun h => h) ?_
        have X3 := (HX2.out.up (bel1 _ _)).drawn hd3
        have f9 := X3.frozen 3
        clear q0 q1 q2 q3
        obtain ⟨q0, q1, q2, q3⟩ := X3.cells
        have X4 := X3.set 3 (.int .i64 y) rfl X3.own
        obtain ⟨r0, r1, r2, r3⟩ := X3.cellsR
        have g0 := X3.frozenR 0
        have g1 := X3.frozenR 1
        have g2 := X3.frozenR 2
        have g3 := X3.frozenR 3
        have hne : ¬ w1.heap.size = w.heap.size := by omega
        have HX := hideIt X4
        clear X3 X4 hd3 P1 HX2
        go_wp2
        exact bodyPost_ret (v := ordV num op a' k c' y) (by simp [results, Try.results61, go_sem, r0, r1, r2, r3]) rfl (HX.out.fin (by omega) HCode.out)
      · have e2 : ((x2 : Int) == 2) = false := by simpa using hq2
        by_cases hq3 : (x2 : Int) = 3
        · have e3 : ((x2 : Int) == 3) = true := by simpa using hq3
          clear X2 HP
          go_wp2
          refine wp_region_any (by kernel_rfl) ?_
          change wpAny _ _ _ _ _ _ _ (World.drew _)
          refine takeOp (i := 0) (v := ?_) rfl (by kernel_rfl) (by kernel_rfl) (by kernel_rfl) (fun _ _ _ h => h) (by kernel_rfl) ?_ ?_
          rotate_left
          · intro w; go_simp; try with_reducible rfl
          try simp only [Act.put, List.getElem_toArray, List.getElem_cons_zero, List.setIfInBounds_toArray, List.set_cons_zero, List.set_cons_succ]
          refine takeOp (i := 2) (v := ?_) rfl (by kernel_rfl) (by kernel_rfl) (by kernel_rfl) (fun _ _ _ h => h) (by kernel_rfl) ?_ ?_
          rotate_left
          · intro w; go_simp; try with_reducible rfl
          try simp only [Act.put, List.getElem_toArray, List.getElem_cons_succ, List.getElem_cons_zero, List.setIfInBounds_toArray, List.set_cons_zero, List.set_cons_succ]
          refine takeOp (i := 3) (v := ?_) rfl (by kernel_rfl) (by kernel_rfl) (by kernel_rfl) (fun _ _ _ h => h) (by kernel_rfl) ?_ ?_
          rotate_left
          · intro w; go_simp; try with_reducible rfl
          try simp only [Act.put, List.getElem_toArray, List.getElem_cons_succ, List.getElem_cons_zero, List.setIfInBounds_toArray, List.set_cons_zero, List.set_cons_succ]
          refine wpAny_ready (rs := [1, 4]) (by kernel_rfl) (by simp) ?_
          refine AllReady.cons rfl (fun K hK => ?_) (AllReady.cons rfl (fun K hK => ?_) AllReady.nil)
          · go_simp
            refine hK _ _ ?_
            clear hK K
            try simp only [Act.put, List.getElem_toArray, List.getElem_cons_succ, List.getElem_cons_zero, List.setIfInBounds_toArray, List.set_cons_zero, List.set_cons_succ]
            refine wpAny_ready (rs := [4]) (by kernel_rfl) (by simp) ?_
            refine AllReady.cons rfl (fun K hK => ?_) AllReady.nil
            rw [if_pos]
            rotate_left
            · kernel_rfl
            go_wp2_with (go_at_call 92; refine (HA.out w2.drew HX2.out.ds.drew).mono ?_; rintro e w3 ⟨ed, rfl, hd3⟩; refine Hid.out ?_)
            refine (show ∀ {p : Prop}, p → Hid p from fun h => h) ?_
            have X3 := HX2.out.drawn (drew_drawn hd3)
            have l3 := X3.cells.2.2.1
            have HX3 := hideIt X3
            clear X3 hd3
            refine hK _ _ ?_
            clear hK K
            try simp only [Act.put, List.getElem_toArray, List.getElem_cons_succ, List.getElem_cons_zero, List.setIfInBounds_toArray, List.set_cons_zero, List.set_cons_succ]
            refine wpAny_ready (rs := [5]) (by kernel_rfl) (by simp) ?_
            refine AllReady.cons rfl (fun K hK => ?_) AllReady.nil
            go_simp
            refine hK _ _ ?_
            clear hK K
            try simp only [Act.put, List.getElem_toArray, List.getElem_cons_succ, List.getElem_cons_zero, List.setIfInBounds_toArray, List.set_cons_zero, List.set_cons_succ]
            refine wpAny_ready (rs := [6]) (by kernel_rfl) (by simp) ?_
            refine AllReady.cons rfl (fun K hK => ?_) AllReady.nil
            refine step_append_lies _ rfl _ _ 24 rfl w.heap.size 78 i0 _ 2 16 Try.underlying24 hi hz0 hz1 hz2 rfl (by decide) _ _ _ rfl (HX3.out.own.alloc (.cells #[.int .i64 ed.1, .int .i64 ed.2] 78)) ⟨w3.heap.size, 0, none⟩ 1 1 [.int .i64 ed.1, .int .i64 ed.2] rfl rfl (news1 w3 ed) (by intro u hu; simp at hu; rcases hu with rfl | rfl <;> rfl) (by omega) (by unfold maxLen; omega) (by omega) (by have := HX3.out.ds.size; simp; omega) (w3.heap.size + 1) (by simp) ?_
            intro ga capa w4 hown4 hg4 hat4 hlt4
            obtain ⟨y4, l5, X4⟩ := HX3.out.app hown4 hg4
            have HX4 := hideIt X4
            clear X4 hown4 hg4 hat4
            refine hK _ _ ?_
            clear hK K
            try simp only [Act.put, List.getElem_toArray, List.getElem_cons_succ, List.getElem_cons_zero, List.setIfInBounds_toArray, List.set_cons_zero, List.set_cons_succ]
            refine wpAny_ready (rs := [7]) (by kernel_rfl) (by simp) ?_
            refine AllReady.cons rfl (fun K hK => ?_) AllReady.nil
            go_simp
            refine hK _ _ ?_
            clear hK K
            try simp only [Act.put, List.getElem_toArray, List.getElem_cons_succ, List.getElem_cons_zero, List.setIfInBounds_toArray, List.set_cons_zero, List.set_cons_succ]
            refine wpAny_ready (rs := [8]) (by kernel_rfl) (by simp) ?_
            refine AllReady.cons rfl (fun K hK => ?_) AllReady.nil
            go_simp
            refine hK _ _ ?_
            clear hK K
            try simp only [Act.put, List.getElem_toArray, List.getElem_cons_succ, List.getElem_cons_zero, List.setIfInBounds_toArray, List.set_cons_zero, List.set_cons_succ]
            refine wpAny_done (by kernel_rfl) ?_ _
            obtain ⟨r0, r1, r2, r3⟩ := HX4.out.cellsR
            obtain ⟨t0, t1, t2, t3⟩ := HX4.out.cells
            have g0 := HX4.out.frozenR 0
            have g1 := HX4.out.frozenR 1
            have g2 := HX4.out.frozenR 2
            have g3 := HX4.out.frozenR 3
            go_wp2
            exact bodyPost_ret (v := ordV num op (some ⟨ga, 0, none⟩) (k + 1) capa v) (by simp [results, Try.results61, go_sem, r0, r1, r2, r3]) rfl (HX4.out.fin (by omega) HCode.out)
          · rw [if_pos]
            rotate_left
            · kernel_rfl
            go_wp2_with (go_at_call 92; refine (HA.out w2.drew HX2.out.ds.drew).mono ?_; rintro e w3 ⟨ed, rfl, hd3⟩; refine Hid.out ?_)
            refine (show ∀ {p : Prop}, p → Hid p from fun h => h) ?_
            have X3 := HX2.out.drawn (drew_drawn hd3)
            have l3 := X3.cells.2.2.1
            have HX3 := hideIt X3
            clear X3 hd3
            refine hK _ _ ?_
            clear hK K
            try simp only [Act.put, List.getElem_toArray, List.getElem_cons_succ, List.getElem_cons_zero, List.setIfInBounds_toArray, List.set_cons_zero, List.set_cons_succ]
            refine wpAny_ready (rs := [1, 5]) (by kernel_rfl) (by simp) ?_
            refine AllReady.cons rfl (fun K hK => ?_) (AllReady.cons rfl (fun K hK => ?_) AllReady.nil)
            · go_simp
              refine hK _ _ ?_
              clear hK K
              try simp only [Act.put, List.getElem_toArray, List.getElem_cons_succ, List.getElem_cons_zero, List.setIfInBounds_toArray, List.set_cons_zero, List.set_cons_succ]
              refine wpAny_ready (rs := [5]) (by kernel_rfl) (by simp) ?_
              refine AllReady.cons rfl (fun K hK => ?_) AllReady.nil
              go_simp
              refine hK _ _ ?_
              clear hK K
              try simp only [Act.put, List.getElem_toArray, List.getElem_cons_succ, List.getElem_cons_zero, List.setIfInBounds_toArray, List.set_cons_zero, List.set_cons_succ]
              refine wpAny_ready (rs := [6]) (by kernel_rfl) (by simp) ?_
              refine AllReady.cons rfl (fun K hK => ?_) AllReady.nil
              refine step_append_lies _ rfl _ _ 24 rfl w.heap.size 78 i0 _ 2 16 Try.underlying24 hi hz0 hz1 hz2 rfl (by decide) _ _ _ rfl (HX3.out.own.alloc (.cells #[.int .i64 ed.1, .int .i64 ed.2] 78)) ⟨w3.heap.size, 0, none⟩ 1 1 [.int .i64 ed.1, .int .i64 ed.2] rfl rfl (news1 w3 ed) (by intro u hu; simp at hu; rcases hu with rfl | rfl <;> rfl) (by omega) (by unfold maxLen; omega) (by omega) (by have := HX3.out.ds.size; simp; omega) (w3.heap.size + 1) (by simp) ?_
              intro ga capa w4 hown4 hg4 hat4 hlt4
              obtain ⟨y4, l5, X4⟩ := HX3.out.app hown4 hg4
              have HX4 := hideIt X4
              clear X4 hown4 hg4 hat4
              refine hK _ _ ?_
              clear hK K
              try simp only [Act.put, List.getElem_toArray, List.getElem_cons_succ, List.getElem_cons_zero, List.setIfInBounds_toArray, List.set_cons_zero, List.set_cons_succ]
              refine wpAny_ready (rs := [7]) (by kernel_rfl) (by simp) ?_
              refine AllReady.cons rfl (fun K hK => ?_) AllReady.nil
              go_simp
              refine hK _ _ ?_
              clear hK K
              try simp only [Act.put, List.getElem_toArray, List.getElem_cons_succ, List.getElem_cons_zero, List.setIfInBounds_toArray, List.set_cons_zero, List.set_cons_succ]
              refine wpAny_ready (rs := [8]) (by kernel_rfl) (by simp) ?_
              refine AllReady.cons rfl (fun K hK => ?_) AllReady.nil
              go_simp
              refine hK _ _ ?_
              clear hK K
              try simp only [Act.put, List.getElem_toArray, List.getElem_cons_succ, List.getElem_cons_zero, List.setIfInBounds_toArray, List.set_cons_zero, List.set_cons_succ]
              refine wpAny_done (by kernel_rfl) ?_ _
              obtain ⟨r0, r1, r2, r3⟩ := HX4.out.cellsR
              obtain ⟨t0, t1, t2, t3⟩ := HX4.out.cells
              have g0 := HX4.out.frozenR 0
              have g1 := HX4.out.frozenR 1
              have g2 := HX4.out.frozenR 2
              have g3 := HX4.out.frozenR 3
              go_wp2
              exact bodyPost_ret (v := ordV num op (some ⟨ga, 0, none⟩) (k + 1) capa v) (by simp [results, Try.results61, go_sem, r0, r1, r2, r3]) rfl (HX4.out.fin (by omega) HCode.out)
            · go_simp
              refine hK _ _ ?_
              clear hK K
              try simp only [Act.put, List.getElem_toArray, List.getElem_cons_succ, List.getElem_cons_zero, List.setIfInBounds_toArray, List.set_cons_zero, List.set_cons_succ]
              have l4 : (w3.alloc (.cells #[.int .i64 ed.1, .int .i64 ed.2] 78)).cell? ⟨w1.heap.size, 2, none⟩ = some (.slice a' k c') := by rw [World.cell?_of_block (w := w3) (Below.heap_alloc w3 _ _ (Array.getElem?_eq_some_iff.1 HX3.out.ob).1)]; exact l3
              refine wpAny_ready (rs := [1]) (by kernel_rfl) (by simp) ?_
              refine AllReady.cons rfl (fun K hK => ?_) AllReady.nil
              go_simp
              refine hK _ _ ?_
              clear hK K
              try simp only [Act.put, List.getElem_toArray, List.getElem_cons_succ, List.getElem_cons_zero, List.setIfInBounds_toArray, List.set_cons_zero, List.set_cons_succ]
              refine wpAny_ready (rs := [6]) (by kernel_rfl) (by simp) ?_
              refine AllReady.cons rfl (fun K hK => ?_) AllReady.nil
              refine step_append_lies _ rfl _ _ 24 rfl w.heap.size 78 i0 _ 2 16 Try.underlying24 hi hz0 hz1 hz2 rfl (by decide) _ _ _ rfl (HX3.out.own.alloc (.cells #[.int .i64 ed.1, .int .i64 ed.2] 78)) ⟨w3.heap.size, 0, none⟩ 1 1 [.int .i64 ed.1, .int .i64 ed.2] rfl rfl (news1 w3 ed) (by intro u hu; simp at hu; rcases hu with rfl | rfl <;> rfl) (by omega) (by unfold maxLen; omega) (by omega) (by have := HX3.out.ds.size; simp; omega) (w3.heap.size + 1) (by simp) ?_
              intro ga capa w4 hown4 hg4 hat4 hlt4
              obtain ⟨y4, l5, X4⟩ := HX3.out.app hown4 hg4
              have HX4 := hideIt X4
              clear X4 hown4 hg4 hat4
              refine hK _ _ ?_
              clear hK K
              try simp only [Act.put, List.getElem_toArray, List.getElem_cons_succ, List.getElem_cons_zero, List.setIfInBounds_toArray, List.set_cons_zero, List.set_cons_succ]
              refine wpAny_ready (rs := [7]) (by kernel_rfl) (by simp) ?_
              refine AllReady.cons rfl (fun K hK => ?_) AllReady.nil
              go_simp
              refine hK _ _ ?_
              clear hK K
              try simp only [Act.put, List.getElem_toArray, List.getElem_cons_succ, List.getElem_cons_zero, List.setIfInBounds_toArray, List.set_cons_zero, List.set_cons_succ]
              refine wpAny_ready (rs := [8]) (by kernel_rfl) (by simp) ?_
              refine AllReady.cons rfl (fun K hK => ?_) AllReady.nil
              go_simp
              refine hK _ _ ?_
              clear hK K
              try simp only [Act.put, List.getElem_toArray, List.getElem_cons_succ, List.getElem_cons_zero, List.setIfInBounds_toArray, List.set_cons_zero, List.set_cons_succ]
              refine wpAny_done (by kernel_rfl) ?_ _
              obtain ⟨r0, r1, r2, r3⟩ := HX4.out.cellsR
              obtain ⟨t0, t1, t2, t3⟩ := HX4.out.cells
              have g0 := HX4.out.frozenR 0
              have g1 := HX4.out.frozenR 1
              have g2 := HX4.out.frozenR 2
              have g3 := HX4.out.frozenR 3
              go_wp2
              exact bodyPost_ret (v := ordV num op (some ⟨ga, 0, none⟩) (k + 1) capa v) (by simp [results, Try.results61, go_sem, r0, r1, r2, r3]) rfl (HX4.out.fin (by omega) HCode.out)
        · have e3 : ((x2 : Int) == 3) = false := by simpa using hq3
          obtain ⟨r0, r1, r2, r3⟩ := X2.cellsR
          have g0 := X2.frozenR 0
          have g1 := X2.frozenR 1
          have g2 := X2.frozenR 2
          have g3 := X2.frozenR 3
          clear X2 HP HA
          go_wp2
          exact bodyPost_ret (v := ordV num op a' k c' v) (by simp [results, Try.results61, go_sem, r0, r1, r2, r3]) rfl (HX2.out.fin (by omega) HCode.out)
end Go.Proofs.Ytkhhagjcmbbdpaa
namespace Go.Proofs.Ytkhhagjcmbbdpaa
open Go.RowKit Vt

theorem Drawn.below {w w' : World} {G : Nat} {a : Option Addr} {len cap : Nat} {B : Nat} (h : Drawn w w' G a len cap) (hB : B ≤ G) (hw : B ≤ w.heap.size) : Below B w w' :=
  ⟨h.grown.os, h.grown.tape, h.grown.output, h.grown.size, fun k hk => h.grown.block k (by omega) (by intro e; simp at e; omega)⟩

theorem Cur.alloc {w : World} {G : Nat} {a : Option Addr} {len cap : Nat} (h : Cur w G a len cap) (o : Obj) : Cur (w.alloc o) G a len cap := by
  obtain ⟨i, x, hi, hG⟩ := h
  exact ⟨i, x, hi, by rw [Below.heap_alloc w o G (Array.getElem?_eq_some_iff.1 hG).1]; exact hG⟩

theorem Code.alloc {w : World} {G : Nat} {a : Option Addr} {len : Nat} (h : Code w G a len) (o : Obj) : Code (w.alloc o) G a len := by
  rcases h with h | ⟨b, off, ha, hb, hn, hc⟩
  · exact .inl h
  · refine .inr ⟨b, off, ha, by simp; omega, hn, fun j hj => ?_⟩
    obtain ⟨z, hz, hcell⟩ := hc j hj
    exact ⟨z, hz, by rw [World.cell?_of_block (w := w) (Below.heap_alloc w o b hb)]; exact hcell⟩

/-- the cells of n bytes of nought -/
theorem made_bytes (n : Nat) : (madeCells #[Value.int .u8 0] n).toList = bv (List.replicate n 0) := by
  rw [toList_madeCells_one]
  simp [bv]

theorem bv_set (l : List UInt8) (j : Nat) (b : UInt8) (x : Int) (h : (b.toNat : Int) = x) : (bv l).set j (.int .u8 x) = bv (l.set j b) := by
  subst h
  simp [bv, List.map_set]

theorem Cur.kept {w w' : World} {G : Nat} {a : Option Addr} {len cap : Nat} {row : Option Nat} (h : Cur w G a len cap) (hg : w.grownBy w' row) (hr : some G ≠ row) : Cur w' G a len cap := by
  obtain ⟨i, x, hi, hG⟩ := h
  exact ⟨i, x, hi, by rw [hg.block G (Array.getElem?_eq_some_iff.1 hG).1 hr]; exact hG⟩

theorem Code.keptRow {w w' : World} {G : Nat} {a : Option Addr} {len : Nat} {row : Option Nat} (h : Code w G a len) (hg : w.grownBy w' row) (hr : ∀ b off, a = some ⟨b, off, none⟩ → some b ≠ row) : Code w' G a len := by
  rcases h with h | ⟨b, off, ha, hb, hn, hc⟩
  · exact .inl h
  · refine .inr ⟨b, off, ha, Nat.lt_of_lt_of_le hb hg.size, hn, fun j hj => ?_⟩
    obtain ⟨z, hz, hcell⟩ := hc j hj
    exact ⟨z, hz, by rw [World.cell?_of_block (w := w) (hg.block b hb (hr b off ha))]; exact hcell⟩

/-- the bytes lie below block B -/
def Low (a : Option Addr) (len B : Nat) : Prop := len = 0 ∨ ∀ b off, a = some ⟨b, off, none⟩ → b < B

theorem code_low {w : World} {G : Nat} {a : Option Addr} {len B : Nat} (h : Code w G a len) (hl : w.heap.size ≤ B) : Low a len B := by
  rcases h with h | ⟨b, off, ha, hb, _, _⟩
  · exact .inl h
  · refine .inr fun b' off' ha' => ?_
    rw [ha] at ha'
    simp at ha'
    omega

theorem code_row {w w' : World} {G : Nat} {a : Option Addr} {len B : Nat} {row : Option Nat} (h : Code w G a len) (hlow : Low a len B) (hg : w.grownBy w' row) (hr : ∀ k, row = some k → B ≤ k) : Code w' G a len := by
  rcases hlow with h0 | hlow
  · exact .inl h0
  · exact h.keptRow hg (fun b off ha e => by have := hlow b off ha; have := hr b e.symm; omega)

set_option maxRecDepth 100000 in
set_option maxHeartbeats 2000000 in
theorem l01Text_any (n : Nat) (hn : n ≤ 5000) (w : World) (G : Nat) (a : Option Addr) (len cap : Nat) (hl : len ≤ 1048576) (hcur : Cur w G a len cap) (hcode : Code w G a len) :
    Calls Try.prog 93 #[.pointer (some ⟨G, 0, none⟩), .int .i64 (n : Int)] w fun e w' => ∃ S : ByteArray, S.size = n ∧ e = .returned (.string S) ∧ Below G w w' := by
  obtain ⟨i0, hi, hz0, hz1, hz2⟩ := info_parts info5
  have hG := hcur.lt
  have hlow := code_low (B := w.heap.size) hcode (Nat.le_refl _)
  have HLow := hideIt hlow
  have HC := hideIt (hcur.alloc (.cells #[] 5))
  have HD := hideIt (hcode.alloc (.cells #[] 5))
  have HB := hideIt (fun (W : World) (hc : Cur W G a len cap) (hd : Code W G a len) => l01Byte_drawn W G a len cap hl hc hd)
  have d0 : decide ((5000 : Int) < (n : Int)) = false := by simp; omega
  clear hcur hcode hlow
  go_enter Try.func93, Try.ntmps93
  go_wp2
  go_loopw [5, 6] (fun out i wr => ∃ (k g c : Nat) (l : List UInt8), k ≤ n ∧ i = .int .i64 k ∧ out = .slice (some ⟨g, 0, none⟩) k c ∧ Hid (l.length = k) ∧ wr.ownsRow w.heap.size 5 1 (.slice (some ⟨g, 0, none⟩) k c) k (bv l) ∧ Hid (Cur wr G a len cap) ∧ Hid (Code wr G a len) ∧ Below G w wr)
    (fun _ i _ => n - (intOf i).toNat)
  case atStart => exact ⟨0, w.heap.size, 0, [], by omega, rfl, rfl, rfl, World.ownsRow_made _ _ _ (Nat.le_refl _) (by unfold maxLen; omega) rfl, HC, HD, (Below.refl _ _).alloc (by omega) _⟩
  case round =>
    obtain ⟨k, g, c, l, hk, rfl, rfl, hll, hown, hc, hd, hb⟩ := hrel
    have hsz := hb.size
    clear HC HD
    by_cases hlt : k < n
    · go_wp2_with (go_at_call 101; refine (HB.out _ hc.out hd.out).mono ?_; rintro e w1 ⟨x, hx, rfl, dr⟩; refine Hid.out ?_)
      refine (show ∀ {p : Prop}, p → Hid p from fun h => h) ?_
      have lg := hown.lt g rfl
      have hown1 := World.ownsRow.kept hown dr.grown (.inr (by simp [Value.ownBlock]; omega))
      have s1 := dr.grown.size
      have hb1 := hb.trans (dr.below (Nat.le_refl _) (by omega))
      have HC1 := hideIt dr.cur
      have HD1 := hideIt dr.code
      clear dr hown hb hc hd
      go_wp2_with (at_builtin; refine wpList_append_lies _ rfl _ _ 22 rfl w.heap.size 5 i0 (.int .u8 0) 1 1 Try.underlying22 hi hz0 hz1 hz2 rfl (by decide) _ _ _ rfl (hown1.alloc _) ⟨w1.heap.size, 0, none⟩ 1 1 [Value.int .u8 (x : Int)] rfl rfl (one_new _ _ _) (by intro u hu; simp at hu; subst hu; rfl) (by omega) (by unfold maxLen; omega) (by omega) (by simp; omega) (w1.heap.size + 1) (by simp) ?_)
      intro g2 c2 w2 hown2 hg2 _ _
      have hrow : ∀ j, (Value.slice (some ⟨g, 0, none⟩) k c).ownBlock = some j → w.heap.size ≤ j := fun j hj => by simp [Value.ownBlock] at hj; omega
      have HB2 : Hid (Below G w w2) := (hb1.alloc (by omega) _).grown hg2 (by simp; omega) (fun j hj => by have := hrow j hj; omega)
      have HC2 : Hid (Cur w2 G a len cap) := (HC1.out.alloc _).kept hg2 (by simp [Value.ownBlock]; omega)
      have HD2 : Hid (Code w2 G a len) := code_row (HD1.out.alloc _) HLow.out hg2 hrow
      rw [bv_snoc l (UInt8.ofNat x) x (by simp; omega)] at hown2
      have HL2 : Hid ((l ++ [UInt8.ofNat x]).length = k + 1) := by show _ = _; rw [List.length_append, hll.out]; rfl
      clear hg2 hown1 hb1 HC1 HD1
      go_wp2
      go_roundw
      case rel => exact ⟨k + 1, g2, c2, _, by omega, by go_num, rfl, HL2, hown2, HC2, HD2, HB2⟩
      case measure => simp [intOf]; omega
    · have hcv := conv_at hown
      have HLn : Hid (l.length = n) := by show _ = _; have := hll.out; omega
      clear hown
      go_wp2
      go_ret
      exact ⟨_, by simp [ByteArray.size]; exact HLn.out, rfl, hb⟩

theorem big_any (w : World) (a : Option Addr) (len cap : Nat) : Calls Try.prog 10 #[.slice a len cap] w fun e w' => e = .returned (.bool (decide ((1048576 : Int) < (len : Int)))) ∧ w' = w := by
  go_enter Try.func10, Try.ntmps10
  go_wp2
  go_ret
  exact ⟨rfl, rfl⟩

theorem code_up {w w' : World} {a : Option Addr} {len : Nat} (h : Code w w.heap.size a len) (hb : Below w.heap.size w w') : Code w' w'.heap.size a len := by
  rcases h with h | ⟨b, off, ha, hbl, hn, hc⟩
  · exact .inl h
  · have := hb.size
    refine .inr ⟨b, off, ha, by omega, by omega, fun j hj => ?_⟩
    obtain ⟨z, hz, hcell⟩ := hc j hj
    exact ⟨z, hz, by rw [hb.cell hbl]; exact hcell⟩


set_option maxRecDepth 100000 in
set_option maxHeartbeats 4000000 in
theorem l02Spoilt_any (s : ByteArray) (hs : s.size ≤ 5000) (w : World) (G : Nat) (a : Option Addr) (len cap : Nat) (hl : len ≤ 1048576) (hcur : Cur w G a len cap) (hcode : Code w G a len) :
    Calls Try.prog 62 #[.pointer (some ⟨G, 0, none⟩), .string s] w fun e w' => ∃ S : ByteArray, S.size ≤ 6000 ∧ e = .returned (.string S) ∧ Below G w w' := by
  have hGl := hcur.lt
  have HB : Hid (∀ W (m : Int), 0 < m → m ≤ 10000 → DS w W G a len cap → Calls Try.prog 90 #[.pointer (some ⟨G, 0, none⟩), .int .i64 m] W fun e w' => ∃ x : Nat, (x : Int) < m ∧ e = .returned (.int .i64 (x : Int)) ∧ Drawn W w' G a len cap) := fun W m h0 h1 hW => l01Below_any m h0 (by omega) W G a len cap hl hW.cur (hW.code hcode)
  have HT : Hid (∀ W, DS w W G a len cap → Calls Try.prog 93 #[.pointer (some ⟨G, 0, none⟩), .int .i64 1] W fun e w' => ∃ S : ByteArray, S.size = 1 ∧ e = .returned (.string S) ∧ Below G W w') := fun W hW => l01Text_any 1 (by omega) W G a len cap hl hW.cur (hW.code hcode)
  have ZG : Hid (∀ W, DS w W G a len cap → Below G w W) := fun W hW => ⟨hW.grown.os, hW.grown.tape, hW.grown.output, hW.grown.size, fun i hi => hW.grown.block i (by omega) (by simp; omega)⟩
  have D0 := DS.start hcur
  have HCode := hideIt hcode
  clear hcur hcode
  go_enter Try.func62, Try.ntmps62
  go_wp2_with (go_at_call 90; refine (HB.out _ 12 (by omega) (by omega) D0).mono ?_; rintro e w1 ⟨x1, hx1, rfl, hd1⟩; refine Hid.out ?_)
  refine (show ∀ {p : Prop}, p → Hid p from fun h => h) ?_
  have D1 := D0.drawn hd1
  clear hd1 D0
  by_cases q0 : (x1 : Int) = 0
  · have e0 : ((x1 : Int) == 0) = true := by simpa using q0
    go_wp2_with (go_at_call 93; refine (HT.out _ D1).mono ?_; rintro e w2 ⟨S, hS, rfl, hb2⟩; refine Hid.out ?_)
    refine (show ∀ {p : Prop}, p → Hid p from fun h => h) ?_
    have A1 := fun wx => run_string_add_sum (P := Try.prog) wx s S (by omega)
    go_wp2
    go_ret
    exact ⟨s ++ S, by rw [ByteArray.size_append]; omega, rfl, (ZG.out _ D1).trans hb2⟩
  · have e0 : ((x1 : Int) == 0) = false := by simpa using q0
    by_cases q1 : (x1 : Int) = 1
    · have e1 : ((x1 : Int) == 1) = true := by simpa using q1
      have wq : IntKind.i64.wrap ((s.size : Int) + 1) = (s.size : Int) + 1 := by rw [IntKind.wrap_i64]; omega
      go_wp2_with (go_at_call 90; refine (HB.out _ ((s.size : Int) + 1) (by omega) (by omega) D1).mono ?_; rintro e w2 ⟨x2, hx2, rfl, hd2⟩; refine Hid.out ?_)
      refine (show ∀ {p : Prop}, p → Hid p from fun h => h) ?_
      have i1 : (0 : Int) ≤ (x2 : Int) := by omega
      have i2 : (x2 : Int) ≤ (s.size : Int) := by omega
      go_wp2
      go_ret
      exact ⟨_, by rw [ByteArray.size_extract]; omega, rfl, ZG.out _ (D1.drawn hd2)⟩
    · have e1 : ((x1 : Int) == 1) = false := by simpa using q1
      by_cases q2 : (x1 : Int) = 2 ∨ (x1 : Int) = 3
      · by_cases hp : 0 < s.size
        · have d1 : decide ((0 : Int) < (s.size : Int)) = true := by simp; omega
          have tl : ((x1 : Int) == 2) = true ∨ (((x1 : Int) == 2) = false ∧ ((x1 : Int) == 3) = true) := by
            rcases q2 with h | h
            · left; simpa using h
            · right; exact ⟨by simp; omega, by simpa using h⟩
          rcases tl with e2 | ⟨e2, e3⟩
          all_goals
            go_wp2_with (go_at_call 90; refine (HB.out _ (s.size : Int) (by omega) (by omega) D1).mono ?_; rintro e w2 ⟨x2, hx2, rfl, hd2⟩; refine Hid.out ?_)
            refine (show ∀ {p : Prop}, p → Hid p from fun h => h) ?_
            have D2 := D1.drawn hd2
            have i1 : (0 : Int) ≤ (x2 : Int) := by omega
            have i2 : (x2 : Int) ≤ (s.size : Int) := by omega
            have i3 : (0 : Int) ≤ (x2 : Int) + 1 := by omega
            have i4 : (x2 : Int) + 1 ≤ (s.size : Int) := by omega
            have wq : IntKind.i64.wrap ((x2 : Int) + 1) = (x2 : Int) + 1 := by rw [IntKind.wrap_i64]; omega
            have HT2 := hideIt (HT.out _ D2.drew)
            have ZZ := hideIt (ZG.out _ D2.drew)
            have A1 : ∀ (S : ByteArray), S.size = 1 → ∀ wx, (Op.stringOp .add (s.extract 0 x2) S).run Try.prog wx = .ok (.string (s.extract 0 x2 ++ S)) wx := fun S hS wx => run_string_add_sum (P := Try.prog) wx _ _ (by rw [ByteArray.size_extract]; omega)
            have A2 : ∀ (S : ByteArray), S.size = 1 → ∀ wx, (Op.stringOp .add (s.extract 0 x2 ++ S) (s.extract (x2 + 1) s.size)).run Try.prog wx = .ok (.string (s.extract 0 x2 ++ S ++ s.extract (x2 + 1) s.size)) wx := fun S hS wx => run_string_add_sum (P := Try.prog) wx _ _ (by rw [ByteArray.size_append, ByteArray.size_extract, ByteArray.size_extract]; omega)
            clear hd2 D2
            go_wp2
            go_region_held3 (fun _ => True) (trivial) ((go_at_call 93; refine HT2.out.mono ?_; rintro e w3 ⟨S, hS, rfl, hb3⟩; have B1 := A1 S hS; have B2 := A2 S hS))
            go_wp2
            go_ret
            exact ⟨s.extract 0 x2 ++ S ++ s.extract (x2 + 1) s.size, by rw [ByteArray.size_append, ByteArray.size_append, ByteArray.size_extract, ByteArray.size_extract]; omega, rfl, ZZ.out.trans hb3⟩
        · have d1 : decide ((0 : Int) < (s.size : Int)) = false := decide_eq_false (by omega)
          have tl : ((x1 : Int) == 2) = true ∨ (((x1 : Int) == 2) = false ∧ ((x1 : Int) == 3) = true) := by
            rcases q2 with h | h
            · left; simpa using h
            · right; exact ⟨by simp; omega, by simpa using h⟩
          rcases tl with e2 | ⟨e2, e3⟩
          all_goals
            go_wp2
            go_ret
            exact ⟨s, by omega, rfl, ZG.out _ D1⟩
      · have e2 : ((x1 : Int) == 2) = false := by simp; omega
        have e3 : ((x1 : Int) == 3) = false := by simp; omega
        go_wp2
        go_ret
        exact ⟨s, by omega, rfl, ZG.out _ D1⟩
end Go.Proofs.Ytkhhagjcmbbdpaa
namespace Go.Proofs.Ytkhhagjcmbbdpaa
open Go.RowKit

/-- the slice v owns the bytes l; what is frozen of its block lies behind its room -/
def OwnG (w : World) (base : Nat) (v : Value) (l : List UInt8) : Prop :=
  ∃ g cap cur fz, v = .slice (some ⟨g, 0, none⟩) l.length cap ∧ base ≤ g ∧ w.heap[g]? = some (.cells cur 5 fz) ∧ (cap ≤ fz.1 ∨ fz.2 = 0) ∧ l.length ≤ cap ∧ cap ≤ maxLen ∧ cur.size = cap ∧ cur.toList.take l.length = bv l

theorem OwnG.lt {w : World} {base : Nat} {v : Value} {l : List UInt8} (h : OwnG w base v l) : ∀ k, v.ownBlock = some k → base ≤ k ∧ k < w.heap.size := by
  obtain ⟨g, cap, cur, fz, rfl, hb, hg, _⟩ := h
  intro k hk
  simp [Value.ownBlock] at hk
  subst hk
  exact ⟨hb, (Array.getElem?_eq_some_iff.1 hg).1⟩

theorem OwnG.kept {w w' : World} {base : Nat} {v : Value} {l : List UInt8} {row : Option Nat} (h : OwnG w base v l) (hg : w.grownBy w' row) (hne : v.ownBlock ≠ row) : OwnG w' base v l := by
  obtain ⟨g, cap, cur, fz, rfl, hb, hgg, rest⟩ := h
  refine ⟨g, cap, cur, fz, rfl, hb, ?_, rest⟩
  rw [hg.block g (Array.getElem?_eq_some_iff.1 hgg).1 (by simpa [Value.ownBlock] using hne)]
  exact hgg

theorem OwnG.alloc {w : World} {base : Nat} {v : Value} {l : List UInt8} (h : OwnG w base v l) (o : Obj) : OwnG (w.alloc o) base v l := by
  refine h.kept (World.grownBy_alloc w o none) ?_
  obtain ⟨g, cap, cur, fz, rfl, _⟩ := h
  simp [Value.ownBlock]

theorem OwnG.cells {w : World} {base g cap : Nat} {l : List UInt8} (h : OwnG w base (.slice (some ⟨g, 0, none⟩) l.length cap) l) : ∀ j u, (bv l)[j]? = some u → w.cell? ((⟨g, 0, none⟩ : Addr).add j) = some u := by
  intro j u hu
  obtain ⟨g', cap', cur, fz, hv, _, hgg, _, _, _, _, htake⟩ := h
  simp at hv
  obtain ⟨rfl, rfl⟩ := hv
  have hadd : (⟨g, 0, none⟩ : Addr).add j = ⟨g, j, none⟩ := by unfold Addr.add; split <;> simp_all
  rw [hadd, cell_of_row w g j cur 5 fz hgg]
  rw [← htake, List.getElem?_take] at hu
  split at hu
  · simpa using hu
  · cases hu

/-- cells are stored one behind the other where nothing is frozen -/
theorem storeG (P : Program) (g o : Nat) (t : TypeId) (fz : Nat × Nat) : ∀ (vs : List Value) (i : Nat) (cur : Array Value) (w : World), w.heap[g]? = some (.cells cur t fz) → (cur.size ≤ fz.1 ∨ fz.2 = 0) → o + i + vs.length ≤ cur.size → (∀ v ∈ vs, v.oneCell' = true) →
    (storeCells ⟨g, o, none⟩ vs i).run P w = .ok () (w.setRow g (cur.toList.take (o + i) ++ vs ++ cur.toList.drop (o + i + vs.length)).toArray) := by
  intro vs
  induction vs with
  | nil =>
    intro i cur w hg _ _ _
    simp only [storeCells, List.append_nil, List.length_nil, Nat.add_zero, List.take_append_drop, Array.toArray_toList]
    rw [setRow_self w g cur t fz hg]
    rfl
  | cons v rest ih =>
    intro i cur w hg hfz hl h1
    have hi : o + i < cur.size := by simp at hl; omega
    have hadd : (⟨g, o, none⟩ : Addr).add i = ⟨g, o + i, none⟩ := by unfold Addr.add; split <;> simp_all
    have hcell : w.cell? ⟨g, o + i, none⟩ = some cur[o + i] := by simp [World.cell?, hg, hi]
    have hfro : w.frozen? ⟨g, o + i, none⟩ = false := by
      obtain ⟨lo, hi'⟩ := fz
      simp only [World.frozen?, hg, Bool.and_eq_false_iff, decide_eq_false_iff_not]
      simp only at hfz
      omega
    have hst : (store ((⟨g, o, none⟩ : Addr).add i) v).run P w = .ok () (w.setRow g (cur.setIfInBounds (o + i) v)) := by
      rw [hadd, run_store P w _ v _ (h1 v (by simp)), hcell]
      simp [hfro, setCell_eq_setRow w g (o + i) cur t fz v hg]
    have ih := ih (i + 1) (cur.setIfInBounds (o + i) v) (w.setRow g (cur.setIfInBounds (o + i) v)) (setRow_heap w g cur _ t _ hg) (by simpa using hfz) (by simp at hl ⊢; omega) (fun x hx => h1 x (by simp [hx]))
    simp only [storeCells, Sem.run_bind, hst, Result.andThen_ok, ih, setRow_setRow]
    congr 3
    have e := list_seg_step cur.toList (o + i) v rest (by simp at hl ⊢; omega)
    simpa [Array.toList_setIfInBounds, Nat.add_assoc] using e

theorem bv_app (l m : List UInt8) : bv (l ++ m) = bv l ++ bv m := by simp [bv]
theorem bv_len (l : List UInt8) : (bv l).length = l.length := by simp [bv]
theorem bv_one (l : List UInt8) : ∀ u ∈ bv l, u.oneCell' = true := by
  intro u hu
  simp only [bv, List.mem_map] at hu
  obtain ⟨b, _, rfl⟩ := hu
  rfl

/-- bytes are appended to it -/
theorem run_appendG (w : World) (base : Nat) (ty : TypeId) (v : Value) (l : List UInt8) (hown : OwnG w base v l)
    (a : Addr) (c : Nat) (m : List UInt8) (hnews : ∀ j u, (bv m)[j]? = some u → w.cell? (a.add j) = some u) (hsm : l.length + m.length ≤ 1000000) (hbase : base ≤ w.heap.size) :
    ∃ v' w', (Builtin.append_ #[22, 22] ty #[v, .slice (some a) m.length c]).run Try.prog w = .ok v' w' ∧ OwnG w' base v' (l ++ m) ∧ w.grownBy w' v.ownBlock := by
  obtain ⟨i0, hi, hz0, hz1, hz2⟩ := info_parts info5
  have hown0 := hown
  obtain ⟨g, cap, cur, fz, rfl, hbg, hg, hfz, hnc, hcm, hcs, htake⟩ := hown
  have hf := run_firstCells_some (P := Try.prog) w i0.size m.length a m.length c (bv m) (by rw [bv_len, hz1]; omega) hnews
  by_cases hroom : l.length + m.length ≤ cap
  · have hst := storeG Try.prog g (l.length * i0.size) 5 fz (bv m) 0 cur w hg (by omega) (by rw [bv_len, hz1]; omega) (bv_one m)
    simp only [Nat.add_zero] at hst
    have hr : (Builtin.append_ #[22, 22] ty #[.slice (some ⟨g, 0, none⟩) l.length cap, .slice (some a) m.length c]).run Try.prog w = .ok (.slice (some ⟨g, 0, none⟩) (l.length + m.length) cap) (w.setRow g (cur.toList.take (l.length * i0.size) ++ bv m ++ cur.toList.drop (l.length * i0.size + (bv m).length)).toArray) := by
      simp [Builtin.append_, run_underlying Try.underlying22, sizeOf, typeInfo, hi, Builtin.lenOf, hroom, hf, Addr.add_lit, hst]
    refine ⟨_, _, hr, ⟨g, cap, _, fz, by simp, hbg, setRow_heap w g cur _ 5 _ hg, hfz, by simpa using hroom, hcm, ?_, ?_⟩, ⟨rfl, rfl, rfl, by simp, fun k _ hk => setRow_other w g k _ (fun e => hk (by simp [Value.ownBlock, e]))⟩⟩
    · simp only [List.size_toArray, List.length_append, List.length_take, List.length_drop, Array.length_toList, bv_len, hz1]
      omega
    · rw [hz1, Nat.mul_one, htake, bv_app, ← bv_len, bv_app]
      exact List.take_left
  · have hr := run_append_grow (P := Try.prog) w 22 ty 5 i0 (.int .u8 0) Try.underlying22 hi hz0 ⟨g, 0, none⟩ l.length cap (bv l) (by rw [bv_len, hz1]; omega) hown0.cells a m.length c (bv m) (by rw [bv_len, hz1]; omega) hnews (by omega) (by omega) (growslice_fits (by omega) (by rw [hz2]; omega))
    have hge := grownCap_ge w (l.length + m.length) cap 5
    have hcm2 : grownCap w (l.length + m.length) cap 5 ≤ maxLen := grownCap_le_maxLen w (l.length + m.length) cap 5 (by unfold maxLen; omega)
    refine ⟨_, _, hr, ⟨w.heap.size, _, _, (0, 0), by simp, hbase, heap_alloc_new w.drew _, .inr rfl, by simpa using hge, hcm2, ?_, ?_⟩, ⟨rfl, rfl, rfl, by simp, fun k hk _ => Below.heap_alloc w.drew _ k hk⟩⟩
    · simp only [Array.size_append, List.size_toArray, size_zeroCells, bv_len]
      simp [Value.cells]
      omega
    · simp only [Array.toList_append, List.append_assoc]
      rw [← List.append_assoc, ← bv_app, ← bv_len]
      exact List.take_left

theorem wpList_appendG {ops : Array Oper} {rest : List Oper} {o : Oper} {a : Act} {w : World} {Q : Exit → Act → World → Prop} (hgd : o.guard = none) (s x : Operand)
    (ho : o.op = .call { callee := .builtin .append, args := #[s, x], argTypes := #[22, 22] })
    (base : Nat) (v : Value) (l : List UInt8) (hs : a.eval s = v) (hown : OwnG w base v l)
    (ad : Addr) (k c : Nat) (m : List UInt8) (hk : m.length = k) (hx : a.eval x = .slice (some ad) k c) (hnews : ∀ j u, (bv m)[j]? = some u → w.cell? (ad.add j) = some u) (hsm : l.length + m.length ≤ 1000000) (hbase : base ≤ w.heap.size)
    (h : ∀ v' w', OwnG w' base v' (l ++ m) → w.grownBy w' v.ownBlock → wpList Try.prog ops Q rest (a.put o.dst v') w') : wpList Try.prog ops Q (o :: rest) a w := by
  subst hk
  refine wpList_plain hgd fun K hK => ?_
  obtain ⟨v', w', hr, h2, h3⟩ := run_appendG w base o.type v l hown ad c m hnews hsm hbase
  unfold Oper.wp execOp
  simp only [ho, resolve, invoke, builtin, Sem.run_bind, Sem.run_pure, Result.andThen_ok, List.map_toArray, List.map_cons, List.map_nil, hs, hx, hr]
  exact hK _ _ (h v' w' h2 h3)

/-- '[]byte(t)': a new row of its bytes -/
theorem conv_newG (t : List UInt8) (ht : t.length ≤ 1000000) (u : World) :
    ∃ v w', (convert 9 22 (.string ⟨t.toArray⟩)).run Try.prog u = .ok v w' ∧ OwnG w' u.heap.size v t ∧ Below u.heap.size u w' := by
  refine ⟨_, _, run_bytes_of_string u 9 22 5 ⟨t.toArray⟩ Try.underlying9 Try.underlying22 Try.underlying5, ?_, (Below.refl _ _).drew.alloc (Nat.le_refl _) _⟩
  have hs : (⟨t.toArray⟩ : ByteArray).size = t.length := by simp [ByteArray.size]
  rw [hs]
  have hge := grownCap_ge u t.length 0 5
  refine ⟨u.heap.size, grownCap u t.length 0 5, _, _, rfl, Nat.le_refl _, heap_alloc_new u.drew _, ?_, hge, grownCap_le_maxLen u t.length 0 5 (by unfold maxLen; omega), ?_, ?_⟩
  · left
    simp [bytesRow, hs]
    omega
  · simp [bytesRow, hs]
    omega
  · simp only [bytesRow, Array.toList_append, Array.toList_map]
    rw [List.take_append_of_le_length (by simp)]
    rw [List.take_of_length_le (by simp)]
    rfl

/-- 'string(b)' of it -/
theorem conv_backG {w : World} {base : Nat} {v : Value} {l : List UInt8} (h : OwnG w base v l) : (convert 22 9 v).run Try.prog w = .ok (.string ⟨l.toArray⟩) w := by
  have h0 := h
  obtain ⟨g, cap, cur, fz, rfl, _⟩ := h
  exact run_convert_bytes_back (P := Try.prog) w 22 9 5 ⟨g, 0, none⟩ cap l Try.underlying22 Try.underlying5 Try.underlying9 (fun j hj => h0.cells j _ (by simp [bv, hj]))

theorem below_appG {B : Nat} {w wr w1 : World} {v : Value} {l : List UInt8} {o : Obj} (hb : Below B w wr) (hB : B ≤ w.heap.size)
    (hown : OwnG wr B v l) (hg : (wr.alloc o).grownBy w1 v.ownBlock) : Below B w w1 :=
  (hb.alloc (by have := hb.size; omega) _).grown hg (by have := hb.size; simp; omega) (fun k hk => (hown.lt k hk).1)
end Go.Proofs.Ytkhhagjcmbbdpaa
namespace Go.Proofs.Ytkhhagjcmbbdpaa
open Go.RowKit Vt

set_option maxRecDepth 100000 in
set_option maxHeartbeats 1000000 in
theorem iVarText_yes (N : Nat) (hN : N ≤ 1000000000) (w : World) :
    Calls Try.prog 83 #[.int .i64 (N : Int)] w fun e w' => e = .returned (.tuple #[.string ⟨(vt N).toArray⟩, .bool true]) ∧ Below w.heap.size w w' := by
  obtain ⟨i0, hi, hz0, hz1, hz2⟩ := info_parts info5
  have hlen := vt_length N N (Nat.le_refl _)
  have d1 : decide ((N : Int) < 0) = false := by simp
  have d2 : decide ((1000000000 : Int) < (N : Int)) = false := by simp; omega
  go_enter Try.func83, Try.ntmps83
  go_wp2
  go_loopw [0, 4] (fun n out wr => ∃ (m : Nat) (pre : List UInt8), m ≤ N ∧ n = .int .i64 m ∧ Hid (pre ++ vt m = vt N) ∧ wr.ownsRow w.heap.size 5 1 out pre.length (bv pre) ∧ Below w.heap.size w wr)
    (fun n _ _ => (intOf n).toNat)
  case atStart => exact ⟨N, [], Nat.le_refl _, rfl, rfl, World.ownsRow_made _ _ _ (Nat.le_refl _) (by unfold maxLen; omega) rfl, (Below.refl _ _).alloc (Nat.le_refl _) _⟩
  case round =>
    obtain ⟨m, pre, hm, rfl, hv, hown, hb⟩ := hrel
    have hl : pre.length + (vt m).length = (vt N).length := by rw [← hv.out]; simp
    have hp := vt_pos m
    have hsz := hb.size
    by_cases hlt : m < 128
    · go_wp2_with (at_builtin; refine wpList_append_own _ rfl _ _ 22 rfl w.heap.size 5 i0 (.int .u8 0) 1 1 Try.underlying22 hi hz0 hz1 hz2 rfl (by decide) _ _ _ rfl (hown.alloc _) ⟨wr.heap.size, 0, none⟩ 1 1 [Value.int .u8 (m : Int)] rfl rfl (one_new _ _ _) (by intro u hu; simp at hu; subst hu; rfl) (by unfold maxLen; omega) (by omega) (by simp; omega) ?_)
      intro v1 w1 hown1 hg1 hn1
      have hb1 := below_app hb (Nat.le_refl _) hown hg1
      rw [bv_snoc pre (UInt8.ofNat m) m (by simp; omega)] at hown1
      have HV : pre ++ [UInt8.ofNat m] = vt N := by rw [← vt_small m hlt]; exact hv.out
      rw [HV] at hown1
      obtain ⟨g, cap, hv1, hcv⟩ := conv_own hown1 hn1
      clear HV
      rw [hv1]
      clear hown1 hg1 hown hv1 hn1
      go_wp2
      go_ret2
      exact ⟨rfl, hb1⟩
    · go_wp2_with (at_builtin; refine wpList_append_own _ rfl _ _ 22 rfl w.heap.size 5 i0 (.int .u8 0) 1 1 Try.underlying22 hi hz0 hz1 hz2 rfl (by decide) _ _ _ rfl (hown.alloc _) ⟨wr.heap.size, 0, none⟩ 1 1 [Value.int .u8 ((m : Int) % 128 + 128)] rfl rfl (one_new _ _ _) (by intro u hu; simp at hu; subst hu; rfl) (by unfold maxLen; omega) (by omega) (by simp; omega) ?_)
      intro v1 w1 hown1 hg1 _
      have hb1 := below_app hb (Nat.le_refl _) hown hg1
      rw [bv_snoc pre (UInt8.ofNat (m % 128 + 128)) _ (by simp; omega)] at hown1
      have HV : Hid ((pre ++ [UInt8.ofNat (m % 128 + 128)]) ++ vt (m / 128) = vt N) := by
        show _ = _
        rw [List.append_assoc, List.singleton_append, ← vt_big m hlt]; exact hv.out
      clear hg1 hown hv
      go_wp2
      go_roundw
      case rel => exact ⟨m / 128, pre ++ [UInt8.ofNat (m % 128 + 128)], by omega, by go_num, HV, by simpa using hown1, hb1⟩
      case measure => simp [intOf]; omega

end Go.Proofs.Ytkhhagjcmbbdpaa
namespace Go.Proofs.Ytkhhagjcmbbdpaa
open Go.RowKit Vt

/-- bytes as a text -/
def str (L : List UInt8) : ByteArray := ⟨L.toArray⟩
theorem str_size (L : List UInt8) : (str L).size = L.length := by simp [str, ByteArray.size]
theorem str_app (L M : List UInt8) : str L ++ str M = str (L ++ M) := by
  apply ByteArray.ext
  simp [str, ByteArray.data_append]
theorem str_list (L : List UInt8) : (str L).data.toList = L := by simp [str]
theorem str_add {P : Program} (L M : List UInt8) (h : L.length + M.length ≤ 1000000) (w : World) : (Op.stringOp .add (str L) (str M)).run P w = .ok (.string (str (L ++ M))) w := by
  rw [run_string_add_sum w _ _ (by rw [str_size, str_size]; omega), str_app]

theorem vt_le5 (n : Nat) (h : n ≤ 1000000000) : (vt n).length ≤ 5 := vt_len 4 n (by
  have : (128 : Nat) ^ (4 + 1) = 34359738368 := by decide
  omega)

theorem numberText_any (x : Int) (N : Nat) (hx : (N : Int) = x) (hN : N ≤ 1000000000) (w : World) :
    Calls Try.prog 40 #[.int .i64 x] w fun e w' => e = .returned (.string (str (vt N))) ∧ Below w.heap.size w w' := by
  subst hx
  have HV := hideIt (iVarText_yes N hN)
  change Hid (∀ w, Calls _ _ _ w fun e w' => e = .returned (.tuple #[.string (str (vt N)), .bool true]) ∧ _) at HV
  go_enter Try.func40, Try.ntmps40
  go_wp2_with (go_at_call 83; refine (HV.out _).mono ?_; rintro e w1 ⟨rfl, hb⟩)
  go_ret
  exact ⟨rfl, hb⟩

theorem two_new (w : World) (a b : UInt8) (x y : Int) (hx : (a.toNat : Int) = x) (hy : (b.toNat : Int) = y) (t : TypeId) : ∀ j u, (bv [a, b])[j]? = some u → (w.alloc (.cells #[.int .u8 x, .int .u8 y] t)).cell? ((⟨w.heap.size, 0, none⟩ : Addr).add j) = some u := by
  subst hx hy
  intro j u hj
  match j, hj with
  | 0, hj => simp [bv] at hj; subst hj; simp [Addr.add]
  | 1, hj => simp [bv] at hj; subst hj; simp [Addr.add]

theorem one_newG (w : World) (a : UInt8) (x : Int) (hx : (a.toNat : Int) = x) (t : TypeId) : ∀ j u, (bv [a])[j]? = some u → (w.alloc (.cells #[.int .u8 x] t)).cell? ((⟨w.heap.size, 0, none⟩ : Addr).add j) = some u := by
  subst hx
  intro j u hj
  match j, hj with
  | 0, hj => simp [bv] at hj; subst hj; simp [Addr.add]

set_option maxRecDepth 100000 in
set_option maxHeartbeats 4000000 in
theorem edgesText_any (es : List EdgeV) (k : Nat) (a : Option Addr) (c : Nat) (hk : k ≤ 100) (hby : EB8 es) (w : World) (h : Es w w.heap.size a k es) :
    Calls Try.prog 52 #[.slice a k c] w fun e w' => e = .returned (.string (str (et es))) ∧ Below w.heap.size w w' := by
  obtain ⟨hlen, hrow⟩ := h
  have HR := hideIt hrow
  have HL := hideIt hlen
  have HN := hideIt (numberText_any (k : Int) k rfl (by omega) w)
  have hv5 := vt_le5 k (by omega)
  have HB := hideIt hby
  clear hrow hby
  go_enter Try.func52, Try.ntmps52
  go_wp2_with (go_at_call 40; refine HN.out.mono ?_; rintro e w1 ⟨rfl, hb1⟩; refine Hid.out ?_)
  refine (show ∀ {p : Prop}, p → Hid p from fun h => h) ?_
  obtain ⟨v0, w2, hcv, hown, hb2⟩ := conv_newG (vt k) (by omega) w1
  change (convert 9 22 (.string (str (vt k)))).run Try.prog w1 = .ok v0 w2 at hcv
  have hb12 := hb1.trans (hb2.mono hb1.size)
  have hs1 := hb1.size
  have hown : Hid (OwnG w2 w.heap.size v0 (vt k)) := by
    obtain ⟨g, cap, cur, fz, hv, hbg, rest⟩ := hown
    exact ⟨g, cap, cur, fz, hv, Nat.le_trans hs1 hbg, rest⟩
  clear HN hb1 hb2 hs1
  go_wp2
  go_loopw [3, 12] (fun v i wr => ∃ j : Nat, j ≤ k ∧ i = .int .i64 (j : Int) ∧ Hid (OwnG wr w.heap.size v (vt k ++ eb (es.take j))) ∧ Below w.heap.size w wr) (fun _ i _ => k - (intOf i).toNat)
  case atStart => exact ⟨0, by omega, rfl, by show OwnG _ _ _ _; simpa [eb] using hown.out, hb12⟩
  case round =>
    obtain ⟨j, hj, rfl, hO, hb⟩ := hrel
    by_cases hlt : j < k
    · rcases HR.out with hz | ⟨b, off, rfl, hbl, hc⟩
      · omega
      · obtain ⟨f, hf⟩ : ∃ f, es[j]? = some f := ⟨es[j]'(by omega), List.getElem?_eq_getElem (by omega)⟩
        obtain ⟨c0, c1⟩ := hc j f hf
        have e0 : wr.cell? ⟨b, off + j * 2, none⟩ = some (.int .i64 f.1) := by rw [hb.cell hbl]; exact c0
        have e1 : wr.cell? ⟨b, off + j * 2 + 1, none⟩ = some (.int .i64 f.2) := by rw [hb.cell hbl]; exact c1
        obtain ⟨⟨f1, f2⟩, f3, f4⟩ := HB.out f (List.mem_of_getElem? hf)
        have b1 : (0 : Int) ≤ (j : Int) := by omega
        have b2 : (j : Int) < (k : Int) := by omega
        have HTk := hideIt (take_snocF es j f hf)
        have hle : (vt k ++ eb (es.take j)).length ≤ 5 + 200 := by rw [List.length_append, eb_length]; simp; omega
        have hsz := hb.size
        have HLe := hideIt hle
        clear c0 c1 hc hf hle
        go_wp2_with (at_builtin; refine wpList_appendG rfl _ _ rfl w.heap.size _ _ rfl ((hO.out.alloc _).alloc _) ⟨wr.heap.size + 1, 0, none⟩ 2 2 [ob f.1, ob f.2] rfl rfl ?_ (by have := HLe.out; simp only [List.length_cons, List.length_nil]; omega) (by simp; omega) ?_)
        · have := two_new (wr.alloc (.cells #[.int .i64 f.1, .int .i64 f.2] 78)) (ob f.1) (ob f.2) f.1 f.2 (ob_back ⟨f1, f2⟩) (ob_back ⟨f3, f4⟩) 5
          simpa using this
        · intro v1 w1 hown1 hg1
          have hb1 : Below w.heap.size w w1 := ((hb.alloc (by omega) _).alloc (by simp; omega) _).grown hg1 (by simp; omega) (fun q hq => (hO.out.lt q hq).1)
          have HO1 : Hid (OwnG w1 w.heap.size v1 (vt k ++ eb (es.take (j + 1)))) := by
            show OwnG _ _ _ _
            rw [HTk.out, eb_append, eb_cons]
            exact hown1
          clear hown1 hg1 hO
          go_wp2
          go_roundw
          case rel => exact ⟨j + 1, by omega, by go_num, HO1, hb1⟩
          case measure => simp [intOf]; omega
    · have e : es.take j = es := List.take_of_length_le (by omega)
      have hcb := conv_backG hO.out
      rw [e] at hcb
      have hz : (⟨(vt k ++ eb es).toArray⟩ : ByteArray) = str (et es) := by unfold et; rw [HL.out]; rfl
      rw [hz] at hcb
      clear hz e hO HL hlen
      go_wp2
      go_ret
      exact ⟨rfl, hb⟩
end Go.Proofs.Ytkhhagjcmbbdpaa
