/- The draw of a right graph and of an edge for it. The draw of a right graph and an edge, as the laws call it. The program's TakeEdge. Lists of ints: how they stand in memory; eqIntS, markIntS, heldIntS; an answer that is a list of ints. A row of ints that a function makes for itself. What is around a vertex: by the program's way and by the specification's. (No walk.). -/
import Derived.Test.YtobcihdjennieaaKSHas
import Derived.Test.YtobcihdjennieaaKLawSt5
import Derived.Deep.AppendLies
import Derived.Test.YtobcihdjennieaaKIHas
namespace Go.Proofs.Ytobcihdjennieaa
open Go.RowKit

/- what is right stays right -/
theorem chk_of {n : Int} {es : List EdgeV} (h1 : ∀ e ∈ es, eB n e = true) (h2 : Asc es) : chk n es = true := chk_yes fun j hj => by
  have he : es[j]? = some es[j] := List.getElem?_eq_getElem hj
  have hb := h1 _ (List.getElem_mem hj)
  cases j with
  | zero => rw [chkAt_zero he]; exact hb
  | succ i =>
    have hd : es[i]? = some (es[i]'(by omega)) := List.getElem?_eq_getElem (by omega)
    rw [chkAt_succ he hd, hb, h2 i (i + 1) _ _ (by omega) hd he]
    rfl
theorem asc_of_pairwise {es : List EdgeV} (h : es.Pairwise fun d e => lt d e = true) : Asc es := by
  intro i j d e hij hd he
  obtain ⟨h1, rfl⟩ := List.getElem?_eq_some_iff.1 hd
  obtain ⟨h2, rfl⟩ := List.getElem?_eq_some_iff.1 he
  exact List.pairwise_iff_getElem.1 h i j h1 h2 hij
theorem pairwise_asc' {es : List EdgeV} (h : Asc es) : es.Pairwise fun d e => lt d e = true := by
  rw [List.pairwise_iff_getElem]
  exact fun i j hi hj hij => h i j _ _ hij (List.getElem?_eq_getElem hi) (List.getElem?_eq_getElem hj)
theorem asc_put {es : List EdgeV} {e : EdgeV} (h : Asc es) : Asc (putE es e) := by
  have hp := pairwise_asc' h
  refine asc_of_pairwise ?_
  unfold putE
  rw [List.pairwise_append, List.pairwise_append]
  refine ⟨⟨hp.filter _, List.pairwise_singleton _ _, ?_⟩, hp.filter _, ?_⟩
  · intro d hd x hx
    simp at hx
    subst hx
    exact (List.mem_filter.1 hd).2
  · intro d hd x hx
    have h2 := (List.mem_filter.1 hx).2
    rcases List.mem_append.1 hd with h1 | h1
    · exact lt_trans' (List.mem_filter.1 h1).2 h2
    · simp at h1; subst h1; exact h2
theorem len_two {p q : EdgeV → Bool} (hpq : ∀ d, p d = true → q d = false) (es : List EdgeV) : (es.filter p).length + (es.filter q).length ≤ es.length := by
  induction es with
  | nil => simp
  | cons d es ih =>
    simp only [List.filter_cons]
    cases hp : p d with
    | true => rw [hpq d hp]; simp; omega
    | false => cases hq : q d <;> simp <;> omega
theorem put_len (es : List EdgeV) (e : EdgeV) : (putE es e).length ≤ es.length + 1 := by
  have h := len_two (p := fun d => lt d e) (q := fun d => lt e d) (fun d hd => lt_asymm' hd) es
  unfold putE
  simp only [List.length_append, List.length_cons, List.length_nil]
  omega
/-- a right graph, drawn so far -/
structure GR (nn : Nat) (es : List EdgeV) (k : Nat) : Prop where
  n2 : 2 ≤ nn
  n12 : nn ≤ 12
  ok : chk (nn : Int) es = true
  len : es.length ≤ k
theorem GR.put {nn : Nat} {es : List EdgeV} {k : Nat} (h : GR nn es k) {e : EdgeV} (he : eB (nn : Int) e = true) : GR nn (putE es e) (k + 1) := by
  refine ⟨h.n2, h.n12, chk_of ?_ (asc_put (asc_of_chk h.ok)), by have := put_len es e; have := h.len; omega⟩
  intro d hd
  unfold putE at hd
  rcases List.mem_append.1 hd with h1 | h1
  · rcases List.mem_append.1 h1 with h2 | h2
    · exact chk_eB h.ok (List.mem_filter.1 h2).1
    · simp at h2; subst h2; exact he
  · exact chk_eB h.ok (List.mem_filter.1 h1).1
theorem GR.more {nn : Nat} {es : List EdgeV} {k j : Nat} (h : GR nn es k) (hkj : k ≤ j) : GR nn es j := ⟨h.n2, h.n12, h.ok, Nat.le_trans h.len hkj⟩
theorem GR.gB {nn : Nat} {es : List EdgeV} {k : Nat} (h : GR nn es k) (hk : k ≤ 66) : gB (nn : Int) es = true := by
  have h1 := h.n2
  have h2 := h.n12
  have h3 := h.len
  unfold Go.Proofs.Ytobcihdjennieaa.gB
  rw [h.ok, decide_eq_true (by omega), decide_eq_true (by omega)]
  rfl

theorem eB_iff' (n : Int) (e : EdgeV) : eB n e = true ↔ (1 ≤ n ∧ n ≤ 12 ∧ 0 ≤ e.1 ∧ e.1 < e.2 ∧ e.2 < n) := by unfold eB; rw [decide_eq_true_iff]
theorem Cur.grownX {u v : World} {G X : Nat} {a : Option Addr} {len cap : Nat} (h : Cur u G a len cap) (hg : u.grownBy v (some X)) (hX : G ≠ X) : Cur v G a len cap := by
  obtain ⟨i, hh, hi, hG⟩ := h
  have hlt : G < u.heap.size := (Array.getElem?_eq_some_iff.1 hG).1
  exact ⟨i, hh, hi, by rw [hg.block G hlt (by simpa using hX)]; exact hG⟩
theorem Cur.lt {u : World} {G : Nat} {a : Option Addr} {len cap : Nat} (h : Cur u G a len cap) : G < u.heap.size := by
  obtain ⟨i, hh, hi, hG⟩ := h
  exact (Array.getElem?_eq_some_iff.1 hG).1
theorem Cur.up {u v : World} {G : Nat} {a : Option Addr} {len cap : Nat} (h : Cur u G a len cap) (hb : Below u.heap.size u v) : Cur v G a len cap := by
  have hlt := h.lt
  obtain ⟨i, hh, hi, hG⟩ := h
  exact ⟨i, hh, hi, by rw [hb.block G hlt]; exact hG⟩
theorem Code.up {u v : World} {G : Nat} {a : Option Addr} {len : Nat} (h : Code u G a len) (hb : Below u.heap.size u v) : Code v G a len :=
  h.kept ⟨hb.os, hb.tape, hb.output, hb.size, fun k hk _ => hb.block k hk⟩
/-- below w nothing but the cursor has turned -/
theorem grown_up {w u v : World} {G : Nat} (h : w.grownBy u (some G)) (hb : Below w.heap.size u v) : w.grownBy v (some G) :=
  ⟨hb.os.trans h.os, hb.tape.trans h.tape, hb.output.trans h.output, Nat.le_trans h.size hb.size, fun k hk hne => (hb.block k hk).trans (h.block k hk hne)⟩

theorem own_grown {u v : World} {B e s m c X : Nat} {a : Option Addr} {xs : List Value} (h : u.ownsRow B e s (.slice a m c) m xs) (hg : u.grownBy v (some X)) (hX : X < B) : v.ownsRow B e s (.slice a m c) m xs :=
  World.ownsRow.kept h hg (.inr fun e => by have := (h.lt X e).1; omega)

set_option maxRecDepth 100000 in
set_option maxHeartbeats 4000000 in
theorem l05Edge_any (nn : Nat) (h2 : 2 ≤ nn) (h12 : nn ≤ 12) (w : World) (G : Nat) (a : Option Addr) (len cap : Nat) (hl : len ≤ 1048576) (hcur : Cur w G a len cap) (hcode : Code w G a len) :
    Calls Try.prog 72 #[.pointer (some ⟨G, 0, none⟩), .int .i64 (nn : Int)] w fun x w' => ∃ e : EdgeV, Hid (eB (nn : Int) e = true) ∧ x = .returned (.agg #[.int .i64 e.1, .int .i64 e.2]) ∧ Drawn w w' G a len cap := by
  have hb0 : Below w.heap.size w (w.alloc (.cells #[.int .i64 0, .int .i64 0] 59)) := (Below.refl _ _).alloc (Nat.le_refl _) _
  have HB := hideIt (fun (W : World) (hc : Cur W G a len cap) (hd : Code W G a len) => l01Below_any (nn : Int) (by omega) (by omega) W G a len cap hl hc hd)
  have HC0 := hideIt (hcur.up hb0)
  have HD0 := hideIt (hcode.up hb0)
  have hG := hcur.lt
  have HCode := hideIt hcode
  have HGr : Hid (w.grownBy (w.alloc (.cells #[.int .i64 0, .int .i64 0] 59)) (some G)) := grown_of_below hb0 _
  have B0 := Box2.new w 59 (.int .i64 0) (.int .i64 0) w.heap.size rfl
  clear hcur hcode hb0
  go_enter Try.func72, Try.ntmps72
  go_wp2_with (go_at_call 50; refine (HB.out _ HC0.out HD0.out).mono ?_; rintro e w1 ⟨x, hx, rfl, d1⟩; refine Hid.out ?_)
  refine (show ∀ {p : Prop}, p → Hid p from fun h => h) ?_
  have B1 := B0.grown d1.grown (by simp; omega)
  go_wp2_with (go_at_call 50; refine (HB.out _ d1.cur d1.code).mono ?_; rintro e w2 ⟨y, hy, rfl, d2⟩; refine Hid.out ?_)
  refine (show ∀ {p : Prop}, p → Hid p from fun h => h) ?_
  have B2 := B1.grown d2.grown (by simp; omega)
  have D2 := hideIt (d1.trans d2)
  clear B0 B1 d1 d2 HC0 HD0 HB
  have c0 := B2.cell0
  have c1 := B2.cell1
  have f0 := B2.frozen 0
  have f1 := B2.frozen 1
  have HFin : Hid (∀ p q : Int, 0 ≤ p → p < q → q < (nn : Int) → ∃ e : EdgeV, Hid (eB (nn : Int) e = true) ∧ Ending.returned (.agg #[.int .i64 p, .int .i64 q]) = .returned (.agg #[.int .i64 e.1, .int .i64 e.2]) ∧ Drawn w ((w2.setCell ⟨w.heap.size, 0, none⟩ (.int .i64 p)).setCell ⟨w.heap.size, 1, none⟩ (.int .i64 q)) G a len cap) := fun p q hp hpq hq => by
    have hg2 := grown_trans (grown_set w2 w.heap.size 0 (.int .i64 p)) (grown_set _ w.heap.size 1 (.int .i64 q))
    have hbw : Below w.heap.size w2 ((w2.setCell ⟨w.heap.size, 0, none⟩ (.int .i64 p)).setCell ⟨w.heap.size, 1, none⟩ (.int .i64 q)) := ((Below.refl w.heap.size w2).setCell (p := ⟨w.heap.size, 0, none⟩) (Nat.le_refl _) _).setCell (p := ⟨w.heap.size, 1, none⟩) (Nat.le_refl _) _
    have hgw := grown_up (grown_trans HGr.out D2.out.grown) hbw
    refine ⟨(p, q), (eB_iff' _ _).2 ⟨by omega, by omega, hp, hpq, hq⟩, rfl, D2.out.cur.grownX hg2 (by omega), HCode.out.kept hgw, hgw⟩
  have hx' : x < nn := by omega
  have hy' : y < nn := by omega
  by_cases hxy : x = y
  · subst hxy
    by_cases hx1 : x + 1 < nn
    · have m1 : ((x : Int) + 1) % (nn : Int) = (x : Int) + 1 := Int.emod_eq_of_lt (by omega) (by omega)
      have m2 : ((x : Int) + 1).tmod (nn : Int) = (x : Int) + 1 := by rw [Int.tmod_eq_emod_of_nonneg (by omega)]; exact m1
      have d1 : decide ((x : Int) + 1 < (x : Int)) = false := decide_eq_false (by omega)
      have HF := hideIt (HFin.out (x : Int) ((x : Int) + 1) (by omega) (by omega) (by omega))
      clear HFin
      go_wp2
      obtain ⟨e, he, h3, h4⟩ := HF.out
      exact bodyPost_ret (v := .agg #[.int .i64 (x : Int), .int .i64 ((x : Int) + 1)]) (by simp [results, Try.results72, go_sem, c0, c1]) rfl ⟨e, he, h3, h4⟩
    · have hxn : x + 1 = nn := by omega
      have m1 : ((x : Int) + 1) % (nn : Int) = 0 := by rw [show (x : Int) + 1 = (nn : Int) by omega]; exact Int.emod_self
      have m2 : ((x : Int) + 1).tmod (nn : Int) = 0 := by rw [Int.tmod_eq_emod_of_nonneg (by omega)]; exact m1
      have d1 : decide ((0 : Int) < (x : Int)) = true := decide_eq_true (by omega)
      have HF := hideIt (HFin.out 0 (x : Int) (by omega) (by omega) (by omega))
      clear HFin hxn
      go_wp2
      obtain ⟨e, he, h3, h4⟩ := HF.out
      exact bodyPost_ret (v := .agg #[.int .i64 0, .int .i64 (x : Int)]) (by simp [results, Try.results72, go_sem, c0, c1]) rfl ⟨e, he, h3, h4⟩
  · have d0 : ((x : Int) == (y : Int)) = false := by simp; omega
    by_cases hlt : x < y
    · have d1 : decide ((y : Int) < (x : Int)) = false := decide_eq_false (by omega)
      have HF := hideIt (HFin.out (x : Int) (y : Int) (by omega) (by omega) (by omega))
      clear HFin
      go_wp2
      obtain ⟨e, he, h3, h4⟩ := HF.out
      exact bodyPost_ret (v := .agg #[.int .i64 (x : Int), .int .i64 (y : Int)]) (by simp [results, Try.results72, go_sem, c0, c1]) rfl ⟨e, he, h3, h4⟩
    · have d1 : decide ((y : Int) < (x : Int)) = true := decide_eq_true (by omega)
      have HF := hideIt (HFin.out (y : Int) (x : Int) (by omega) (by omega) (by omega))
      clear HFin
      go_wp2
      obtain ⟨e, he, h3, h4⟩ := HF.out
      exact bodyPost_ret (v := .agg #[.int .i64 (y : Int), .int .i64 (x : Int)]) (by simp [results, Try.results72, go_sem, c0, c1]) rfl ⟨e, he, h3, h4⟩

/-- where the draw of a graph stands -/
structure GAt (w : World) (G X : Nat) (a : Option Addr) (len cap nn : Nat) (es : List EdgeV) (a' : Option Addr) (m c' : Nat) (u : World) : Prop where
  cur : Cur u G a len cap
  res : Box2 u w.heap.size 26 (.int .i64 0) (.slice none 0 0)
  box : Box2 u X 26 (.int .i64 (nn : Int)) (.slice a' m c')
  own : u.ownsRow (X + 1) 59 2 (.slice a' m c') m (ecells es)
  grown : w.grownBy u (some G)
  low : G < w.heap.size
  high : w.heap.size < X
theorem GAt.code {w : World} {G X : Nat} {a : Option Addr} {len cap nn : Nat} {es : List EdgeV} {a' : Option Addr} {m c' : Nat} {u : World} (h : GAt w G X a len cap nn es a' m c' u) (hc : Code w G a len) : Code u G a len := hc.kept h.grown
theorem GAt.drawn {w : World} {G X : Nat} {a : Option Addr} {len cap nn : Nat} {es : List EdgeV} {a' : Option Addr} {m c' : Nat} {u v : World} (h : GAt w G X a len cap nn es a' m c' u) (d : Drawn u v G a len cap) : GAt w G X a len cap nn es a' m c' v :=
  ⟨d.cur, h.res.grown d.grown (by have := h.low; simp; omega), h.box.grown d.grown (by have := h.low; have := h.high; simp; omega), own_grown h.own d.grown (by have := h.low; have := h.high; omega), grown_trans h.grown d.grown, h.low, h.high⟩
theorem GAt.up {w : World} {G X : Nat} {a : Option Addr} {len cap nn : Nat} {es : List EdgeV} {a' : Option Addr} {m c' : Nat} {u v : World} (h : GAt w G X a len cap nn es a' m c' u) (hb : Below u.heap.size u v) : GAt w G X a len cap nn es a' m c' v :=
  ⟨h.cur.up hb, h.res.below hb h.res.lt, h.box.below hb h.box.lt, own_up h.own hb, grown_up h.grown (hb.mono h.grown.size), h.low, h.high⟩
theorem GAt.es {w : World} {G X : Nat} {a : Option Addr} {len cap nn : Nat} {es : List EdgeV} {a' : Option Addr} {m c' : Nat} {u : World} (h : GAt w G X a len cap nn es a' m c' u) : Es u u.heap.size a' m es := Es_of_own h.own
theorem GAt.len' {w : World} {G X : Nat} {a : Option Addr} {len cap nn : Nat} {es : List EdgeV} {a' : Option Addr} {m c' : Nat} {u : World} (h : GAt w G X a len cap nn es a' m c' u) : es.length = m := by have := h.own.1; rw [ecells_length] at this; omega
/-- a new list is laid into the box -/
theorem GAt.turn {w : World} {G X : Nat} {a : Option Addr} {len cap nn : Nat} {es : List EdgeV} {a' : Option Addr} {m c' : Nat} {u : World} (h : GAt w G X a len cap nn es a' m c' u) {fs : List EdgeV} {a2 : Option Addr} {m2 c2 : Nat}
    (ho : u.ownsRow (X + 1) 59 2 (.slice a2 m2 c2) m2 (ecells fs)) : GAt w G X a len cap nn fs a2 m2 c2 (u.setCell ⟨X, 1, none⟩ (.slice a2 m2 c2)) := by
  have hlo := h.low
  have hhi := h.high
  have hg := grown_set u X 1 (.slice a2 m2 c2)
  refine ⟨h.cur.grownX hg (by omega), h.res.grown hg (by simp; omega), ?_, own_grown ho hg (by omega), grown_up h.grown ((Below.refl w.heap.size u).setCell (p := ⟨X, 1, none⟩) (by show w.heap.size ≤ X; omega) _), hlo, hhi⟩
  unfold Box2
  have hb : u.heap[X]? = some (.cells #[.int .i64 (nn : Int), .slice a' m c'] 26 (0, 0)) := h.box
  rw [heap_setCell_same u X 1 _ 26 (.slice a2 m2 c2) hb]; rfl

set_option maxRecDepth 100000 in
set_option maxHeartbeats 8000000 in
theorem l05Graph_any (w : World) (G : Nat) (a : Option Addr) (len cap : Nat) (hl : len ≤ 1048576) (hcur : Cur w G a len cap) (hcode : Code w G a len) :
    Calls Try.prog 49 #[.pointer (some ⟨G, 0, none⟩)] w fun x w' => ∃ (nn : Nat) (es : List EdgeV) (a' : Option Addr) (m c' : Nat), Hid (GR nn es 16) ∧ x = .returned (.agg #[.int .i64 (nn : Int), .slice a' m c']) ∧ w'.ownsRow w.heap.size 59 2 (.slice a' m c') m (ecells es) ∧ Drawn w w' G a len cap := by
  have hb0 : Below w.heap.size w (w.alloc (.cells #[.int .i64 0, .slice none 0 0] 26)) := (Below.refl _ _).alloc (Nat.le_refl _) _
  have HB := hideIt (fun (n : Int) (h0 : 0 < n) (h1 : n ≤ 4294967296) (W : World) (hc : Cur W G a len cap) (hd : Code W G a len) => l01Below_any n h0 h1 W G a len cap hl hc hd)
  have HE := hideIt (fun (nn : Nat) (h2 : 2 ≤ nn) (h12 : nn ≤ 12) (W : World) (hc : Cur W G a len cap) (hd : Code W G a len) => l05Edge_any nn h2 h12 W G a len cap hl hc hd)
  have HCode := hideIt hcode
  have hG := hcur.lt
  have HGr : Hid (w.grownBy (w.alloc (.cells #[.int .i64 0, .slice none 0 0] 26)) (some G)) := grown_of_below hb0 _
  have HX := hideIt (HB.out 11 (by omega) (by omega) _ (hcur.up hb0) (hcode.up hb0))
  have R0 := Box2.new w 26 (.int .i64 0) (.slice none 0 0) w.heap.size rfl
  clear hcur hcode hb0
  go_enter Try.func49, Try.ntmps49
  go_wp2_with (go_at_call 50; refine HX.out.mono ?_; rintro e w1 ⟨x, hx, rfl, d1⟩; refine Hid.out ?_)
  refine (show ∀ {p : Prop}, p → Hid p from fun h => h) ?_
  have hz1 : w.heap.size < w1.heap.size := by have := d1.grown.size; simp at this; omega
  have HD0 : Hid (GAt w G w1.heap.size a len cap (x + 2) [] none 0 0 (w1.alloc (.cells #[.int .i64 (((x + 2 : Nat)) : Int), .slice none 0 0] 26))) := by
    have hu : Below w1.heap.size w1 (w1.alloc (.cells #[.int .i64 (((x + 2 : Nat)) : Int), .slice none 0 0] 26)) := (Below.refl _ _).alloc (Nat.le_refl _) _
    have hr := R0.grown d1.grown (by simp; omega)
    exact ⟨d1.cur.up hu, hr.below hu hr.lt, Box2.new _ _ _ _ _ rfl, World.ownsRow_nil _ _ _ _, grown_up (grown_trans HGr.out d1.grown) (hu.mono (by omega)), hG, hz1⟩
  have HR0 : Hid (GR (x + 2) [] 0) := ⟨by omega, by omega, rfl, by simp⟩
  have en : (2 : Int) + (x : Int) = ((x + 2 : Nat) : Int) := by omega
  obtain ⟨nn, hnn⟩ : ∃ nn, nn = x + 2 := ⟨_, rfl⟩
  rw [← hnn] at HD0 HR0 en
  have hn2 : 2 ≤ nn := by omega
  have hn12 : nn ≤ 12 := by omega
  clear HX d1 R0 HGr hnn
  go_wp2
  go_loopw [4] (fun i wr => ∃ (k : Nat) (es : List EdgeV) (a' : Option Addr) (m c' : Nat), k ≤ 16 ∧ i = .int .i64 (k : Int) ∧ Hid (GR nn es k) ∧ Hid (GAt w G w1.heap.size a len cap nn es a' m c' wr)) (fun i _ => 17 - (intOf i).toNat)
  case atStart => exact ⟨0, [], none, 0, 0, by omega, rfl, HR0, HD0⟩
  case round =>
    obtain ⟨k, es, a', m, c', hk, rfl, hR, hD⟩ := hrel
    clear HD0 HR0
    have HX := hideIt (HB.out 16 (by omega) (by omega) wr hD.out.cur (hD.out.code HCode.out))
    go_wp2_with (go_at_call 50; refine HX.out.mono ?_; rintro e w2 ⟨y, hy, rfl, dr2⟩; refine Hid.out ?_)
    refine (show ∀ {p : Prop}, p → Hid p from fun h => h) ?_
    have D2 := hideIt (hD.out.drawn dr2)
    clear HX dr2 hD
    by_cases hkx : k < y
    · have d1 : decide ((k : Int) < (y : Int)) = true := decide_eq_true (by omega)
      have q0 := D2.out.box.cell0
      have HX := hideIt (HE.out nn hn2 hn12 w2 D2.out.cur (D2.out.code HCode.out))
      go_wp2_with (go_at_call 72; refine HX.out.mono ?_; rintro x w3 ⟨e, he, rfl, dr3⟩; refine Hid.out ?_)
      refine (show ∀ {p : Prop}, p → Hid p from fun h => h) ?_
      have D3 := hideIt ((D2.out.drawn dr3).up ((Below.refl w3.heap.size w3).alloc (Nat.le_refl _) (.cells #[.int .i64 e.1, .int .i64 e.2] 59)))
      have hm16 : m ≤ 1048576 := by have := D3.out.len'; have := hR.out.len; omega
      have q1 := D3.out.box.cell0
      have q2 := D3.out.box.cell1
      have HH := hideIt (sHasEdge_any (nn : Int) es e m a' c' hm16 _ D3.out.es)
      have hz3 : w1.heap.size < w3.heap.size := (D2.out.drawn dr3).box.lt
      clear HX dr3 D2 q0
      cases hh : hasB es e with
      | true =>
        rw [hh] at HH
        go_wp2_with (go_at_call 65; refine HH.out.mono ?_; rintro x w4 ⟨rfl, hb4⟩; refine Hid.out ?_)
        refine (show ∀ {p : Prop}, p → Hid p from fun h => h) ?_
        have D4 := hideIt (D3.out.up hb4)
        have HR2 : Hid (GR nn es (k + 1)) := hR.out.more (by omega)
        clear HH D3 q1 q2 hh hb4
        go_wp2
        exact ⟨⟨k + 1, es, a', m, c', by omega, by go_num, HR2, D4⟩, by simp [intOf]; omega⟩
      | false =>
        rw [hh] at HH
        go_wp2_with (go_at_call 65; refine HH.out.mono ?_; rintro x w4 ⟨rfl, hb4⟩; refine Hid.out ?_)
        refine (show ∀ {p : Prop}, p → Hid p from fun h => h) ?_
        have D4 := hideIt (D3.out.up hb4)
        have bE : Box2 w4 w3.heap.size 59 (.int .i64 e.1) (.int .i64 e.2) := (Box2.new w3 59 (.int .i64 e.1) (.int .i64 e.2) _ rfl).below hb4 (by simp)
        have r0 := bE.cell0
        have r1 := bE.cell1
        have r2 := D4.out.box.cell1
        have HP := hideIt (l05Put_any es e m a' c' hm16 w4 D4.out.es)
        have hz4 : w1.heap.size < w4.heap.size := D4.out.box.lt
        clear HH D3 q1 q2 hh hb4 bE
        go_wp2_with (go_at_call 66; refine HP.out.mono ?_; rintro x w5 ⟨a5, m5, c5, rfl, ho5, hb5⟩; refine Hid.out ?_)
        refine (show ∀ {p : Prop}, p → Hid p from fun h => h) ?_
        have D5 := hideIt (D4.out.up hb5)
        have D6 := hideIt (D5.out.turn (own_mono ho5 (show w1.heap.size + 1 ≤ w4.heap.size by omega)))
        have HR2 := hideIt (hR.out.put he.out)
        have s0 := D5.out.box.cell1
        have s1 := D5.out.box.frozen 1
        clear HP ho5 hb5 D4 D5 r0 r1 r2
        go_wp2
        exact ⟨⟨k + 1, _, a5, m5, c5, by omega, by go_num, HR2, D6⟩, by simp [intOf]; omega⟩
    · have d1 : decide ((k : Int) < (y : Int)) = false := decide_eq_false (by omega)
      have r0 := D2.out.box.cell0
      have r1 := D2.out.box.cell1
      have s0 := D2.out.res.cell0
      have s1 := D2.out.res.cell1
      have t0 := D2.out.res.frozen 0
      have t1 := D2.out.res.frozen 1
      have hbw : Below w.heap.size w2 ((w2.setCell ⟨w.heap.size, 0, none⟩ (.int .i64 (nn : Int))).setCell ⟨w.heap.size, 1, none⟩ (.slice a' m c')) := ((Below.refl w.heap.size w2).setCell (p := ⟨w.heap.size, 0, none⟩) (Nat.le_refl _) _).setCell (p := ⟨w.heap.size, 1, none⟩) (Nat.le_refl _) _
      have hgs := grown_trans (grown_set w2 w.heap.size 0 (.int .i64 (nn : Int))) (grown_set _ w.heap.size 1 (.slice a' m c'))
      have hgw := grown_up D2.out.grown hbw
      have HF : Hid (((w2.setCell ⟨w.heap.size, 0, none⟩ (.int .i64 (nn : Int))).setCell ⟨w.heap.size, 1, none⟩ (.slice a' m c')).ownsRow w.heap.size 59 2 (.slice a' m c') m (ecells es) ∧ Drawn w ((w2.setCell ⟨w.heap.size, 0, none⟩ (.int .i64 (nn : Int))).setCell ⟨w.heap.size, 1, none⟩ (.slice a' m c')) G a len cap) :=
        ⟨own_mono (own_grown D2.out.own hgs (by omega)) (show w.heap.size ≤ w1.heap.size + 1 by omega), D2.out.cur.grownX hgs (by omega), HCode.out.kept hgw, hgw⟩
      have HR2 : Hid (GR nn es 16) := hR.out.more hk
      clear D2 hbw hgs hgw
      go_wp2
      exact bodyPost_ret (v := .agg #[.int .i64 (nn : Int), .slice a' m c']) (by simp [results, Try.results49, go_sem, s0, s1]) rfl ⟨nn, es, a', m, c', HR2, rfl, HF.out.1, HF.out.2⟩
end Go.Proofs.Ytobcihdjennieaa
namespace Go.Proofs.Ytobcihdjennieaa
open Go.RowKit

theorem big_any (w : World) (a : Option Addr) (len cap : Nat) : Calls Try.prog 6 #[.slice a len cap] w fun e w' => e = .returned (.bool (decide ((1048576 : Int) < (len : Int)))) ∧ w' = w := by
  go_enter Try.func6, Try.ntmps6
  go_wp2
  go_ret
  exact ⟨rfl, rfl⟩

theorem code_up {w w' : World} {a : Option Addr} {len : Nat} (h : Code w w.heap.size a len) (hb : Below w.heap.size w w') : Code w' w'.heap.size a len := by
  rcases h with h | ⟨b, off, ha, hbl, hn, hc⟩
  · exact .inl h
  · have := hb.size
    refine .inr ⟨b, off, ha, by omega, by omega, fun j hj => ?_⟩
    obtain ⟨z, hz, hcell⟩ := hc j hj
    exact ⟨z, hz, by rw [hb.cell hbl]; exact hcell⟩

/-- the results' cells, the graph's box, the cursor -/
structure RAt (w : World) (X : Nat) (a : Option Addr) (len cap nn : Nat) (es : List EdgeV) (a' : Option Addr) (m c' : Nat) (u : World) : Prop where
  cur : Cur u (w.heap.size + 2) a len cap
  code : Code u (w.heap.size + 2) a len
  r0 : Box2 u w.heap.size 26 (.int .i64 0) (.slice none 0 0)
  r1 : Box2 u (w.heap.size + 1) 59 (.int .i64 0) (.int .i64 0)
  box : Box2 u X 26 (.int .i64 (nn : Int)) (.slice a' m c')
  own : u.ownsRow (w.heap.size + 3) 59 2 (.slice a' m c') m (ecells es)
  bel : Below w.heap.size w u
  high : w.heap.size + 3 ≤ X
theorem RAt.drawn {w : World} {X : Nat} {a : Option Addr} {len cap nn : Nat} {es : List EdgeV} {a' : Option Addr} {m c' : Nat} {u v : World} (h : RAt w X a len cap nn es a' m c' u) (d : Drawn u v (w.heap.size + 2) a len cap) : RAt w X a len cap nn es a' m c' v :=
  ⟨d.cur, d.code, h.r0.grown d.grown (by simp), h.r1.grown d.grown (by simp), h.box.grown d.grown (by have := h.high; simp; omega), own_grown h.own d.grown (by omega), h.bel.grown d.grown h.bel.size (fun j hj => by simp at hj; omega), h.high⟩
theorem RAt.drew {w : World} {X : Nat} {a : Option Addr} {len cap nn : Nat} {es : List EdgeV} {a' : Option Addr} {m c' : Nat} {u : World} (h : RAt w X a len cap nn es a' m c' u) : RAt w X a len cap nn es a' m c' u.drew :=
  ⟨h.cur, h.code, h.r0, h.r1, h.box, h.own.drew, h.bel.drew, h.high⟩

end Go.Proofs.Ytobcihdjennieaa
namespace Go.Proofs.Ytobcihdjennieaa
open Go.RowKit

theorem idxE_is {es : List EdgeV} {e : EdgeV} (h : hasB es e = true) : ∃ p : Nat, idxE es e = (p : Int) ∧ es[p]? = some e := by
  have hm : e ∈ es := by unfold hasB at h; exact of_decide_eq_true h
  refine ⟨es.idxOf e, by unfold idxE; rw [if_pos hm], ?_⟩
  have h1 := List.idxOf_lt_length_iff.2 hm
  rw [List.getElem?_eq_getElem h1, List.getElem_idxOf h1]
theorem idxE_none {es : List EdgeV} {e : EdgeV} (h : hasB es e = false) : idxE es e = -1 := by
  have hm : e ∉ es := by unfold hasB at h; exact of_decide_eq_false h
  unfold idxE
  rw [if_neg hm]

set_option maxRecDepth 100000 in
set_option maxHeartbeats 4000000 in
theorem iTakeEdge_any (N : Int) (es : List EdgeV) (f : EdgeV) (n : Nat) (a : Option Addr) (c : Nat) (hsl : Sl a n c) (hn : n ≤ 1048576) (w : World) (h : Es w w.heap.size a n es) :
    Calls Try.prog 33 #[.agg #[.int .i64 N, .slice a n c], .agg #[.int .i64 f.1, .int .i64 f.2]] w fun e w' => GAns w N (takE N es f) e w' := by
  have hA : Hid (∀ u, In3 w N a n c f u → Es u u.heap.size a n es) := fun u hu => h.up hu.below
  have HGO : Hid (∀ u, In3 w N a n c f u → Calls Try.prog 56 #[.agg #[.int .i64 N, .slice a n c]] u fun e v => e = .returned (.bool (gB N es)) ∧ In3 w N a n c f v) := fun u hu =>
    (iGraphOk_any N es n a c hn u (hA.out u hu)).mono fun _ _ ⟨he, hb⟩ => ⟨he, hu.up hb⟩
  have HIX : Hid (∀ u, In3 w N a n c f u → Calls Try.prog 61 #[.slice a n c, .agg #[.int .i64 f.1, .int .i64 f.2]] u fun e v => e = .returned (.int .i64 (idxE es f)) ∧ In3 w N a n c f v) := fun u hu =>
    (Index_any es f n a c hn u (hA.out u hu)).mono fun _ _ ⟨he, hb⟩ => ⟨he, hu.up hb⟩
  have S1 := In3.start w N a n c f
  have HK : Hid (∀ u, In3 w N a n c f u → (u.cell? ⟨w.heap.size, 0, none⟩ = some (.int .i64 N) ∧ u.cell? ⟨w.heap.size, 1, none⟩ = some (.slice a n c)) ∧ (u.cell? ⟨w.heap.size + 1, 0, none⟩ = some (.int .i64 f.1) ∧ u.cell? ⟨w.heap.size + 1, 1, none⟩ = some (.int .i64 f.2))) := fun u hu => hu.cells
  cases hG : gB N es with
  | false =>
    rw [hG] at HGO
    have HO := hideIt (show takE N es f = none by unfold takE; rw [hG, if_neg (by simp)])
    generalize idxE es f = ix at HIX
    clear hG hsl h hA
    go_enter Try.func33, Try.ntmps33
    go_wp2_with (go_at_call 61; refine (HIX.out _ S1).mono ?_; rintro e w3 ⟨rfl, S3⟩; refine Hid.out ?_)
    refine (show ∀ {p : Prop}, p → Hid p from fun h => h) ?_
    obtain ⟨⟨k0, k1⟩, k2, k3⟩ := HK.out _ S3
    go_wp2_with (go_at_call 56; refine (HGO.out _ S3).mono ?_; rintro e w4 ⟨rfl, S4⟩; refine Hid.out ?_)
    refine (show ∀ {p : Prop}, p → Hid p from fun h => h) ?_
    clear k0 k1 k2 k3
    obtain ⟨⟨r0, r1⟩, r2, r3⟩ := S4.out
    have s4 := S4.size
    go_wp2
    exact bodyPost_ret (v := .tuple #[.agg #[.int .i64 0, .slice none 0 0], .bool false]) (by simp [results, Try.results33, go_sem, r0, r1]) rfl (gans_no S4 HO.out)
  | true =>
    rw [hG] at HGO
    cases hH : hasB es f with
    | false =>
      have HO := hideIt (show takE N es f = none by unfold takE; rw [hH, if_neg (by simp)])
      rw [idxE_none hH] at HIX
      clear hG hH hsl h hA
      go_enter Try.func33, Try.ntmps33
      go_wp2_with (go_at_call 61; refine (HIX.out _ S1).mono ?_; rintro e w3 ⟨rfl, S3⟩; refine Hid.out ?_)
      refine (show ∀ {p : Prop}, p → Hid p from fun h => h) ?_
      obtain ⟨⟨k0, k1⟩, k2, k3⟩ := HK.out _ S3
      go_wp2_with (go_at_call 56; refine (HGO.out _ S3).mono ?_; rintro e w4 ⟨rfl, S4⟩; refine Hid.out ?_)
      refine (show ∀ {p : Prop}, p → Hid p from fun h => h) ?_
      clear k0 k1 k2 k3
      obtain ⟨⟨r0, r1⟩, r2, r3⟩ := S4.out
      have s4 := S4.size
      go_wp2
      exact bodyPost_ret (v := .tuple #[.agg #[.int .i64 0, .slice none 0 0], .bool false]) (by simp [results, Try.results33, go_sem, r0, r1]) rfl (gans_no S4 HO.out)
    | true =>
      have HO := hideIt (show takE N es f = some (outE es f) by unfold takE; rw [hG, hH, if_pos (by simp)])
      have hasc := asc_of_chk (gB_chk hG).2.1
      obtain ⟨p, hp, hpe⟩ := idxE_is hH
      rw [hp] at HIX
      have hl := h.1
      have hpn : p < n := by have := (List.getElem?_eq_some_iff.1 hpe).1; omega
      have HOUT := hideIt (out_at hasc hpe)
      have HLn : Hid (es.length = n) := h.1
      have dneg : decide ((p : Int) < 0) = false := decide_eq_false (by omega)
      obtain ⟨hnc, hcm, hform⟩ := hsl
      unfold maxLen at hcm
      clear hG hH h hasc hp hpe hl
      go_enter Try.func33, Try.ntmps33
      go_wp2_with (go_at_call 61; refine (HIX.out _ S1).mono ?_; rintro e w3 ⟨rfl, S3⟩; refine Hid.out ?_)
      refine (show ∀ {p : Prop}, p → Hid p from fun h => h) ?_
      obtain ⟨⟨k0, k1⟩, k2, k3⟩ := HK.out _ S3
      go_wp2_with (go_at_call 56; refine (HGO.out _ S3).mono ?_; rintro e w7 ⟨rfl, S7⟩; refine Hid.out ?_)
      refine (show ∀ {p : Prop}, p → Hid p from fun h => h) ?_
      clear k0 k1 k2 k3 S1 S3 HGO HIX
      have HES := hideIt (hA.out w7 S7)
      have z7 := S7.size
      rcases hform with ⟨rfl, rfl, rfl⟩ | ⟨b, off, rfl⟩
      · omega
      · have S7d := S7.drew
        have b1 : (0 : Int) ≤ (p : Int) := by omega
        have b2 : (p : Int) + 1 ≤ (n : Int) := by omega
        have b3 : (n : Int) ≤ (c : Int) := by omega
        have b4 : (p : Int) + 1 ≤ (c : Int) := by omega
        have b5 : (p : Int) ≤ (c : Int) := by omega
        have b6 : (0 : Int) ≤ (p : Int) + 1 := by omega
        have b7 : ((p : Int) + 1).toNat = p + 1 := by omega
        have hw1 : IntKind.i64.wrap ((p : Int) + 1) = (p : Int) + 1 := by rw [IntKind.wrap_i64]; omega
        by_cases hcp : c = p + 1
        · obtain ⟨q, hq⟩ : ∃ q, q = p + 1 := ⟨_, rfl⟩
          obtain rfl : n = q := by omega
          obtain rfl : c = n := by omega
          have hq2 : (p : Int) + 1 = (c : Int) := by omega
          have HQ := hideIt hq
          have hwc : IntKind.i64.wrap (c : Int) = (c : Int) := by rw [IntKind.wrap_i64]; omega
          have hcc : (0 : Int) ≤ (c : Int) := by omega
          clear hcp hq b7 hw1 b2 b4 b6 b3
          have T2b : Below w7.heap.size w7 (w7.alloc (.cells #[.slice (some ⟨b, off, none⟩) p c, .slice (some ⟨b, off, none⟩) (0) (0)] 24)).drew := ((Below.refl _ _).alloc (Nat.le_refl _) _).drew
          have T2 := S7.up T2b
          have HCc : Hid (Calls Try.prog 55 #[.slice (some ⟨w7.heap.size, 0, none⟩) 2 2] (w7.alloc (.cells #[.slice (some ⟨b, off, none⟩) p c, .slice (some ⟨b, off, none⟩) (0) (0)] 24)).drew
              fun e v => ∃ a' m' c', e = .returned (.slice a' m' c') ∧ Hid (v.ownsRow (w7.heap.size + 1) 59 2 (.slice a' m' c') m' (ecells (outE es f))) ∧ In3 w N (some ⟨b, off, none⟩) c c f v) := by
            have hE2 := HES.out.up T2b
            refine (Concat_any [⟨some ⟨b, off, none⟩, p, c, es.take p⟩, ⟨some ⟨b, off, none⟩, 0, 0, es.drop (p + 1)⟩] w7.heap.size 2 rfl (by omega) _ ⟨by simp, fun j q hq => ?_⟩ (by simp [pLen]; omega)).mono fun e v ⟨a', m', c', he, ho, hb⟩ => ⟨a', m', c', he, ?_, T2.up hb⟩
            · rcases j with _ | _ | j
              · simp at hq; subst hq
                exact ⟨by simp [go_sem], hE2.take (k := p) (by omega), fun h => by cases h⟩
              · simp at hq; subst hq
                exact ⟨by simp [go_sem], Es.none_of (by rw [List.length_drop]; have := HLn.out; have := HQ.out; omega), fun h => by cases h⟩
              · simp at hq
            · have hp : pAll [⟨some ⟨b, off, none⟩, p, c, es.take p⟩, ⟨some ⟨b, off, none⟩, 0, 0, es.drop (p + 1)⟩] = outE es f := by rw [HOUT.out]; simp [pAll]
              rw [hp] at ho
              exact own_mono ho (by simp)
          clear hA
          go_wp2
          go_region_held3 (fun u => (u.cell? ⟨w.heap.size, 0, none⟩ = some (.int .i64 N) ∧ u.cell? ⟨w.heap.size, 1, none⟩ = some (.slice (some ⟨b, off, none⟩) c c)) ∧ (u.cell? ⟨w.heap.size + 1, 0, none⟩ = some (.int .i64 f.1) ∧ u.cell? ⟨w.heap.size + 1, 1, none⟩ = some (.int .i64 f.2)))
            (first | exact S8.cellsSet _ _ | exact HK.out _ S8 | exact HK.out _ T2 | exact HK.out _ S7d)
            ((go_at_call 55; refine HCc.out.mono ?_; rintro e w8 ⟨a', m', c', rfl, hown8, S8⟩; obtain ⟨⟨r0, r1⟩, r2, r3⟩ := S8.out))
          all_goals
            go_wp2
            exact bodyPost_ret (v := .tuple #[.agg #[.int .i64 N, .slice a' m' c'], .bool true]) (by simp [results, Try.results33, go_sem, r0, r1]) rfl (gans_yes S8 HO.out (by omega) hown8.out)
        · have T2b : Below w7.heap.size w7 (w7.alloc (.cells #[.slice (some ⟨b, off, none⟩) p c, .slice (some ⟨b, off + (p + 1) * 2, none⟩) (n - (p + 1)) (c - (p + 1))] 24)).drew := ((Below.refl _ _).alloc (Nat.le_refl _) _).drew
          have T2 := S7.up T2b
          have HCc : Hid (Calls Try.prog 55 #[.slice (some ⟨w7.heap.size, 0, none⟩) 2 2] (w7.alloc (.cells #[.slice (some ⟨b, off, none⟩) p c, .slice (some ⟨b, off + (p + 1) * 2, none⟩) (n - (p + 1)) (c - (p + 1))] 24)).drew
              fun e v => ∃ a' m' c', e = .returned (.slice a' m' c') ∧ Hid (v.ownsRow (w7.heap.size + 1) 59 2 (.slice a' m' c') m' (ecells (outE es f))) ∧ In3 w N (some ⟨b, off, none⟩) n c f v) := by
            have hE2 := HES.out.up T2b
            refine (Concat_any [⟨some ⟨b, off, none⟩, p, c, es.take p⟩, ⟨some ⟨b, off + (p + 1) * 2, none⟩, n - (p + 1), c - (p + 1), es.drop (p + 1)⟩] w7.heap.size 2 rfl (by omega) _ ⟨by simp, fun j q hq => ?_⟩ (by simp [pLen]; omega)).mono fun e v ⟨a', m', c', he, ho, hb⟩ => ⟨a', m', c', he, ?_, T2.up hb⟩
            · rcases j with _ | _ | j
              · simp at hq; subst hq
                exact ⟨by simp [go_sem], hE2.take (k := p) (by omega), fun h => by cases h⟩
              · simp at hq; subst hq
                exact ⟨by simp [go_sem], hE2.drop (k := p + 1) hpn, fun h => by cases h⟩
              · simp at hq
            · have hp : pAll [⟨some ⟨b, off, none⟩, p, c, es.take p⟩, ⟨some ⟨b, off + (p + 1) * 2, none⟩, n - (p + 1), c - (p + 1), es.drop (p + 1)⟩] = outE es f := by rw [HOUT.out]; simp [pAll]
              rw [hp] at ho
              exact own_mono ho (by simp)
          clear hA
          go_wp2
          go_region_held3 (fun u => (u.cell? ⟨w.heap.size, 0, none⟩ = some (.int .i64 N) ∧ u.cell? ⟨w.heap.size, 1, none⟩ = some (.slice (some ⟨b, off, none⟩) n c)) ∧ (u.cell? ⟨w.heap.size + 1, 0, none⟩ = some (.int .i64 f.1) ∧ u.cell? ⟨w.heap.size + 1, 1, none⟩ = some (.int .i64 f.2)))
            (first | exact S8.cellsSet _ _ | exact HK.out _ S8 | exact HK.out _ T2 | exact HK.out _ S7d)
            ((go_at_call 55; refine HCc.out.mono ?_; rintro e w8 ⟨a', m', c', rfl, hown8, S8⟩; obtain ⟨⟨r0, r1⟩, r2, r3⟩ := S8.out))
          all_goals
            go_wp2
            exact bodyPost_ret (v := .tuple #[.agg #[.int .i64 N, .slice a' m' c'], .bool true]) (by simp [results, Try.results33, go_sem, r0, r1]) rfl (gans_yes S8 HO.out (by omega) hown8.out)
end Go.Proofs.Ytobcihdjennieaa
namespace Go.Proofs.Ytobcihdjennieaa
open Go.RowKit

/-- a list of ints stands in memory below B -/
def Is (w : World) (B : Nat) (a : Option Addr) (n : Nat) (ls : List Int) : Prop :=
  ls.length = n ∧ (n = 0 ∨ ∃ b off, a = some ⟨b, off, none⟩ ∧ b < B ∧ ∀ (j : Nat) (x : Int), ls[j]? = some x → w.cell? ⟨b, off + j, none⟩ = some (.int .i64 x))
theorem Is.below {w w' : World} {B C : Nat} {a : Option Addr} {n : Nat} {ls : List Int} (h : Is w B a n ls) (hb : Below C w w') (hB : B ≤ C) : Is w' B a n ls := by
  refine ⟨h.1, h.2.imp id ?_⟩
  rintro ⟨b, off, h1, h2, h3⟩
  exact ⟨b, off, h1, h2, fun j x hx => by rw [hb.cell (p := ⟨b, _, none⟩) (by show b < _; omega)]; exact h3 j x hx⟩
theorem Is.mono {w : World} {B C : Nat} {a : Option Addr} {n : Nat} {ls : List Int} (h : Is w B a n ls) (hB : B ≤ C) : Is w C a n ls := by
  refine ⟨h.1, h.2.imp id ?_⟩
  rintro ⟨b, off, h1, h2, h3⟩
  exact ⟨b, off, h1, by omega, h3⟩
theorem Is.up {w w' : World} {a : Option Addr} {n : Nat} {ls : List Int} (h : Is w w.heap.size a n ls) (hb : Below w.heap.size w w') : Is w' w'.heap.size a n ls :=
  (h.below hb (Nat.le_refl _)).mono hb.size
def ic (ls : List Int) : List Value := ls.map fun x => Value.int .i64 x
theorem ic_len (ls : List Int) : (ic ls).length = ls.length := by simp [ic]
theorem ic_snoc (ls : List Int) (x : Int) : ic (ls ++ [x]) = ic ls ++ [.int .i64 x] := by simp [ic]
theorem ic_at {ls : List Int} {j : Nat} {x : Int} (h : ls[j]? = some x) : (ic ls)[j]? = some (.int .i64 x) := by rw [ic, List.getElem?_map, h]; rfl
theorem Is_of_own {w : World} {B n c : Nat} {a : Option Addr} {ls : List Int} (h : w.ownsRow B 3 1 (.slice a n c) n (ic ls)) : Is w w.heap.size a n ls := by
  have hl := h.1
  rw [ic_len] at hl
  refine ⟨by omega, ?_⟩
  rcases h.2 with ⟨hv, h0⟩ | ⟨g, cap, cur, hv, hrest⟩
  · exact .inl h0
  · simp at hv
    obtain ⟨rfl, rfl⟩ := hv
    refine .inr ⟨g, 0, rfl, (h.lt g rfl).2, fun j x hx => ?_⟩
    have hj : j < ls.length := (List.getElem?_eq_some_iff.1 hx).1
    rw [Nat.zero_add, h.cellAt j (by omega)]
    exact ic_at hx
theorem info3i : (Try.prog.info? 3).map (fun i => (i.zero, i.size, i.bytes)) = some (some (.int .i64 0), 1, 8) := by kernel_rfl

/-- n marks from k0 on -/
def imarks (k0 n : Nat) : List Int := (List.range n).map fun (t : Nat) => (k0 : Int) + (t : Int)
theorem imarks_snoc (k0 n : Nat) : imarks k0 (n + 1) = imarks k0 n ++ [(k0 : Int) + (n : Int)] := by simp [imarks, List.range_succ]
theorem imarks_at (k0 n j : Nat) (h : j < n) : (imarks k0 n)[j]? = some ((k0 : Int) + (j : Int)) := by simp [imarks, h]

/-- the answer of Around, Labels: a list of the answer's own -/
def IAns (w : World) (ls : List Int) (e : Ending) (w' : World) : Prop :=
  ∃ a m c, e = .returned (.slice a m c) ∧ w'.ownsRow w.heap.size 3 1 (.slice a m c) m (ic ls) ∧ Below w.heap.size w w'

/-- a list that is ours, in blocks lo .. hi -/
structure RBox (u : World) (lo hi : Nat) (a : Option Addr) (m c : Nat) (ls : List Int) : Prop where
  own : u.ownsRow lo 3 1 (.slice a m c) m (ic ls)
  row : ∀ g, (Value.slice a m c).ownBlock = some g → g < hi
  there : hi ≤ u.heap.size
theorem RBox.rng {u v : World} {lo hi l2 h2 : Nat} {a : Option Addr} {m c : Nat} {ls : List Int} (h : RBox u lo hi a m c ls) (hr : Rng l2 h2 u v) (ho : hi ≤ l2 ∨ h2 ≤ lo) : RBox v lo hi a m c ls := by
  have hth := h.there
  refine ⟨⟨h.own.1, ?_⟩, h.row, Nat.le_trans hth hr.size⟩
  rcases h.own.2 with h3 | ⟨g, cap, cur, hv, hg, hcur, hrest⟩
  · exact .inl h3
  · have hgh := h.row g (by rw [hv]; rfl)
    refine .inr ⟨g, cap, cur, hv, hg, ?_, hrest⟩
    rw [hr.block g (by omega) (by omega)]
    exact hcur
theorem RBox.up {u v : World} {lo hi : Nat} {a : Option Addr} {m c : Nat} {ls : List Int} (h : RBox u lo hi a m c ls) (hb : Below u.heap.size u v) : RBox v lo hi a m c ls :=
  h.rng (l2 := hi) (h2 := hi) (Rng.of_below hb) (.inl (Nat.le_refl _))
theorem RBox.is {u : World} {lo hi : Nat} {a : Option Addr} {m c : Nat} {ls : List Int} (h : RBox u lo hi a m c ls) : Is u u.heap.size a m ls := Is_of_own h.own
theorem RBox.len {u : World} {lo hi : Nat} {a : Option Addr} {m c : Nat} {ls : List Int} (h : RBox u lo hi a m c ls) : ls.length = m := by
  have := h.own.1; rw [ic_len] at this; omega
theorem RBox.laid {u : World} {lo : Nat} {a : Option Addr} {m c : Nat} {ls : List Int} (ho : u.ownsRow lo 3 1 (.slice a m c) m (ic ls)) : RBox u lo u.heap.size a m c ls :=
  ⟨ho, fun g hg => (ho.lt g hg).2, Nat.le_refl _⟩
end Go.Proofs.Ytobcihdjennieaa
namespace Go.Proofs.Ytobcihdjennieaa
open Go.RowKit

/-- nothing of wb has turned, and the row is ours -/
structure ISt (wb : World) (a : Option Addr) (m c : Nat) (ls : List Int) (u : World) : Prop where
  own : u.ownsRow wb.heap.size 3 1 (.slice a m c) m (ic ls)
  bel : Below wb.heap.size wb u
theorem ISt.size {wb : World} {a : Option Addr} {m c : Nat} {ls : List Int} {u : World} (h : ISt wb a m c ls u) : wb.heap.size ≤ u.heap.size := h.bel.size
theorem ISt.len {wb : World} {a : Option Addr} {m c : Nat} {ls : List Int} {u : World} (h : ISt wb a m c ls u) : ls.length = m := by have := h.own.1; rw [ic_len] at this; omega
theorem ISt.up {wb : World} {a : Option Addr} {m c : Nat} {ls : List Int} {u v : World} (h : ISt wb a m c ls u) (hb : Below u.heap.size u v) : ISt wb a m c ls v :=
  ⟨own_up h.own hb, h.bel.trans (hb.mono h.size)⟩
theorem ISt.app {wb : World} {a : Option Addr} {m c : Nat} {ls : List Int} {u : World} (h : ISt wb a m c ls u) {x : Int} {o : Obj} {v : Value} {u' : World}
    (ho : u'.ownsRow wb.heap.size 3 1 v (m + 1) (ic ls ++ [.int .i64 x])) (hg : (u.alloc o).grownBy u' (Value.slice a m c).ownBlock) :
    ∃ a' c', v = .slice a' (m + 1) c' ∧ ISt wb a' (m + 1) c' (ls ++ [x]) u' := by
  obtain ⟨a', c', rfl⟩ := own_form ho
  rw [← ic_snoc] at ho
  refine ⟨a', c', rfl, ho, ?_⟩
  exact (h.bel.alloc h.size _).grown hg (by have := h.size; simp; omega) (fun j hj => (h.own.lt j hj).1)
theorem ISt.start (wb : World) : ISt wb (some ⟨wb.heap.size, 0, none⟩) 0 0 [] (wb.alloc (.cells #[] 3)) := by
  refine ⟨?_, (Below.refl _ _).alloc (Nat.le_refl _) _⟩
  have h0 := World.ownsRow_lit (base := wb.heap.size) (e := 3) (size := 1) wb #[] 0 (Nat.le_refl _) (by unfold maxLen; omega) (by simp)
  simpa [ic] using h0
theorem newsI (w : World) (x : Int) : ∀ j u, ([Value.int .i64 x] : List Value)[j]? = some u → (w.alloc (.cells #[.int .i64 x] 3)).cell? ((⟨w.heap.size, 0, none⟩ : Addr).add j) = some u := by
  intro j u hj
  rcases j with _ | j
  · simp at hj; subst hj; simp [Addr.add]
  · simp at hj

/-- the world behind a graph's box -/
def wG (w : World) (N : Int) (a : Option Addr) (n c : Nat) : World := w.alloc (.cells #[.int .i64 N, .slice a n c] 26)
theorem wG_size (w : World) (N : Int) (a : Option Addr) (n c : Nat) : (wG w N a n c).heap.size = w.heap.size + 1 := by simp [wG]
theorem wG_below (w : World) (N : Int) (a : Option Addr) (n c : Nat) : Below w.heap.size w (wG w N a n c) := (Below.refl _ _).alloc (Nat.le_refl _) _
/-- nothing of it has turned -/
def InG (w : World) (N : Int) (a : Option Addr) (n c : Nat) (u : World) : Prop := Good (wG w N a n c) u
theorem InG.start (w : World) (N : Int) (a : Option Addr) (n c : Nat) : InG w N a n c (wG w N a n c) := Good.refl _
theorem InG.up {w : World} {N : Int} {a : Option Addr} {n c : Nat} {u v : World} (h : InG w N a n c u) (hb : Below u.heap.size u v) : InG w N a n c v := Good.up h hb
theorem InG.below {w : World} {N : Int} {a : Option Addr} {n c : Nat} {u : World} (h : InG w N a n c u) : Below w.heap.size w u := (wG_below w N a n c).trans (Below.mono h (by rw [wG_size]; omega))
theorem InG.size {w : World} {N : Int} {a : Option Addr} {n c : Nat} {u : World} (h : InG w N a n c u) : w.heap.size + 1 ≤ u.heap.size := by have := Good.size h; rw [wG_size] at this; exact this
theorem InG.cells {w : World} {N : Int} {a : Option Addr} {n c : Nat} {u : World} (h : InG w N a n c u) : u.cell? ⟨w.heap.size, 0, none⟩ = some (.int .i64 N) ∧ u.cell? ⟨w.heap.size, 1, none⟩ = some (.slice a n c) := by
  have hs := wG_size w N a n c
  refine ⟨?_, ?_⟩
  · rw [Good.cell h (by omega)]; simp [wG]
  · rw [Good.cell h (by omega)]; simp [wG]
/-- a row made since u0 stands in a world since w -/
theorem ISt.inG {w : World} {N : Int} {a : Option Addr} {n c : Nat} {u0 : World} (h0 : InG w N a n c u0) {a' : Option Addr} {m c' : Nat} {ls : List Int} {u : World} (h : ISt u0 a' m c' ls u) : InG w N a n c u := h0.up h.bel
theorem ISt.ans {w : World} {N : Int} {a : Option Addr} {n c : Nat} {u0 : World} (h0 : InG w N a n c u0) {a' : Option Addr} {m c' : Nat} {ls : List Int} {u : World} (h : ISt u0 a' m c' ls u) : IAns w ls (.returned (.slice a' m c')) u :=
  ⟨a', m, c', rfl, own_mono h.own (by have := h0.size; omega), (h.inG h0).below⟩
theorem ians_nil {w u : World} (h : Below w.heap.size w u) : IAns w [] (.returned (.slice none 0 0)) u := ⟨none, 0, 0, rfl, World.ownsRow_nil _ _ _ _, h⟩
end Go.Proofs.Ytobcihdjennieaa
namespace Go.Proofs.Ytobcihdjennieaa

/-- the other end, where the edge has v -/
def otherE (v : Int) (e : EdgeV) : Option Int := if v = e.1 then some e.2 else if v = e.2 then some e.1 else none
/-- the program's way -/
def arI (es : List EdgeV) (v : Int) : List Int := es.filterMap (otherE v)
/-- the specification's way, of n vertices -/
def arS (es : List EdgeV) (v : Int) (n : Nat) : List Int := ((List.range n).map fun (u : Nat) => (u : Int)).filter fun u => hasB es (u, v) || hasB es (v, u)
theorem arI_snoc (es : List EdgeV) (v : Int) (e : EdgeV) : arI (es ++ [e]) v = arI es v ++ (otherE v e).toList := by
  unfold arI
  rw [List.filterMap_append]
  cases h : otherE v e <;> simp [h]
theorem arS_snoc (es : List EdgeV) (v : Int) (n : Nat) : arS es v (n + 1) = arS es v n ++ (if hasB es ((n : Int), v) || hasB es (v, (n : Int)) then [(n : Int)] else []) := by
  unfold arS
  rw [List.range_succ, List.map_append, List.filter_append]
  simp only [List.map_cons, List.map_nil, List.filter_cons, List.filter_nil]
theorem arI_len (es : List EdgeV) (v : Int) : (arI es v).length ≤ es.length := List.length_filterMap_le _ _
theorem arS_len (es : List EdgeV) (v : Int) (n : Nat) : (arS es v n).length ≤ n := by
  unfold arS
  exact Nat.le_trans (List.length_filter_le _ _) (by simp)

theorem sorted_ext : ∀ {l1 l2 : List Int}, l1.Pairwise (· < ·) → l2.Pairwise (· < ·) → (∀ x, x ∈ l1 ↔ x ∈ l2) → l1 = l2 := by
  intro l1
  induction l1 with
  | nil =>
    intro l2 _ _ h
    cases l2 with
    | nil => rfl
    | cons y l2 => exact absurd ((h y).2 (by simp)) (by simp)
  | cons x l1 ih =>
    intro l2 h1 h2 h
    cases l2 with
    | nil => exact absurd ((h x).1 (by simp)) (by simp)
    | cons y l2 =>
      obtain ⟨a1, b1⟩ := List.pairwise_cons.1 h1
      obtain ⟨a2, b2⟩ := List.pairwise_cons.1 h2
      have hxy : x = y := by
        have hx := (h x).1 (by simp)
        have hy := (h y).2 (by simp)
        rcases List.mem_cons.1 hx with e | hx
        · exact e
        · rcases List.mem_cons.1 hy with e | hy
          · exact e.symm
          · have := a2 x hx
            have := a1 y hy
            omega
      subst hxy
      rw [ih b1 b2 fun z => ?_]
      constructor
      · intro hz
        rcases List.mem_cons.1 ((h z).1 (by simp [hz])) with e | hz'
        · have := a1 z hz; omega
        · exact hz'
      · intro hz
        rcases List.mem_cons.1 ((h z).2 (by simp [hz])) with e | hz'
        · have := a2 z hz; omega
        · exact hz'

theorem eB_iff (n : Int) (e : EdgeV) : eB n e = true ↔ (1 ≤ n ∧ n ≤ 12 ∧ 0 ≤ e.1 ∧ e.1 < e.2 ∧ e.2 < n) := by unfold eB; rw [decide_eq_true_iff]

theorem pairwise_asc {es : List EdgeV} (h : Asc es) : es.Pairwise fun d e => lt d e = true := by
  rw [List.pairwise_iff_getElem]
  exact fun i j hi hj hij => h i j _ _ hij (List.getElem?_eq_getElem hi) (List.getElem?_eq_getElem hj)

theorem ar_same {N : Int} {es : List EdgeV} (v : Int) (hg : gB N es = true) : arI es v = arS es v N.toNat := by
  obtain ⟨⟨hN1, hN2⟩, hck, _⟩ := gB_chk hg
  have hE : ∀ e ∈ es, 0 ≤ e.1 ∧ e.1 < e.2 ∧ e.2 < N := fun e he => by have := (eB_iff N e).1 (chk_eB hck he); omega
  refine sorted_ext ?_ ?_ ?_
  · unfold arI
    rw [List.pairwise_filterMap]
    refine List.Pairwise.imp_of_mem ?_ (pairwise_asc (asc_of_chk hck))
    intro d e hd he hlt b hb b' hb'
    rw [lt_iff] at hlt
    have h1 := hE d hd
    have h2 := hE e he
    unfold otherE at hb hb'
    split at hb
    · split at hb'
      · simp at hb hb'; omega
      · split at hb'
        · simp at hb hb'; omega
        · cases hb'
    · split at hb
      · split at hb'
        · simp at hb hb'; omega
        · split at hb'
          · simp at hb hb'; omega
          · cases hb'
      · cases hb
  · unfold arS
    refine List.Pairwise.filter _ ?_
    rw [List.pairwise_map]
    exact List.Pairwise.imp (fun h => by omega) List.pairwise_lt_range
  · intro x
    unfold arI arS
    rw [List.mem_filterMap, List.mem_filter, List.mem_map]
    constructor
    · rintro ⟨e, he, hx⟩
      have h1 := hE e he
      unfold otherE at hx
      split at hx
      · rename_i hv
        simp at hx
        subst hv hx
        refine ⟨⟨e.2.toNat, by rw [List.mem_range]; omega, by omega⟩, ?_⟩
        rw [Bool.or_eq_true]
        exact .inr (decide_eq_true he)
      · split at hx
        · rename_i hv
          simp at hx
          subst hv hx
          refine ⟨⟨e.1.toNat, by rw [List.mem_range]; omega, by omega⟩, ?_⟩
          rw [Bool.or_eq_true]
          exact .inl (decide_eq_true he)
        · cases hx
    · rintro ⟨_, hx⟩
      rw [Bool.or_eq_true] at hx
      rcases hx with hx | hx
      · have hm : (x, v) ∈ es := of_decide_eq_true hx
        have h1 := hE _ hm
        refine ⟨_, hm, ?_⟩
        unfold otherE
        rw [if_neg (by dsimp only at h1 ⊢; omega), if_pos rfl]
      · have hm : (v, x) ∈ es := of_decide_eq_true hx
        refine ⟨_, hm, ?_⟩
        unfold otherE
        rw [if_pos rfl]

/-- Around -/
def arE (N : Int) (es : List EdgeV) (v : Int) : List Int := if gB N es = true then arS es v N.toNat else []
theorem arE_len {N : Int} {es : List EdgeV} {v : Int} : (arE N es v).length ≤ 200 := by
  unfold arE
  split
  · rename_i h
    have h1 := (gB_chk h).1
    have h2 := arS_len es v N.toNat
    omega
  · simp
end Go.Proofs.Ytobcihdjennieaa
