/- The draw of a right graph and of an edge for it. -/
import Derived.Test.YtfkoddhojcjohaaDrawE
import Derived.Test.YtfkoddhojcjohaaSPutE
import Derived.Test.YtfkoddhojcjohaaLawSt5
namespace Go.Proofs.Ytfkoddhojcjohaa
open Go.RowKit

/- what is right stays right -/
theorem chk_of {n : Int} {es : List EdgeV} (h1 : ∀ e ∈ es, eB n e = true) (h2 : Asc es) : chk n es = true := chk_yes fun j hj => by
  have he : es[j]? = some es[j] := List.getElem?_eq_getElem hj
  have hb := h1 _ (List.getElem_mem hj)
  cases j with
  | zero => rw [chkAt_zero he]; exact hb
  | succ i =>
    have hd : es[i]? = some (es[i]'(by omega)) := List.getElem?_eq_getElem (by omega)
    rw [chkAt_succ he hd, hb, h2 i (i + 1) _ _ (by omega) hd he]
    rfl
theorem asc_of_pairwise {es : List EdgeV} (h : es.Pairwise fun d e => lt d e = true) : Asc es := by
  intro i j d e hij hd he
  obtain ⟨h1, rfl⟩ := List.getElem?_eq_some_iff.1 hd
  obtain ⟨h2, rfl⟩ := List.getElem?_eq_some_iff.1 he
  exact List.pairwise_iff_getElem.1 h i j h1 h2 hij
theorem pairwise_asc' {es : List EdgeV} (h : Asc es) : es.Pairwise fun d e => lt d e = true := by
  rw [List.pairwise_iff_getElem]
  exact fun i j hi hj hij => h i j _ _ hij (List.getElem?_eq_getElem hi) (List.getElem?_eq_getElem hj)
theorem asc_put {es : List EdgeV} {e : EdgeV} (h : Asc es) : Asc (putE es e) := by
  have hp := pairwise_asc' h
  refine asc_of_pairwise ?_
  unfold putE
  rw [List.pairwise_append, List.pairwise_append]
  refine ⟨⟨hp.filter _, List.pairwise_singleton _ _, ?_⟩, hp.filter _, ?_⟩
  · intro d hd x hx
    simp at hx
    subst hx
    exact (List.mem_filter.1 hd).2
  · intro d hd x hx
    have h2 := (List.mem_filter.1 hx).2
    rcases List.mem_append.1 hd with h1 | h1
    · exact lt_trans' (List.mem_filter.1 h1).2 h2
    · simp at h1; subst h1; exact h2
theorem len_two {p q : EdgeV → Bool} (hpq : ∀ d, p d = true → q d = false) (es : List EdgeV) : (es.filter p).length + (es.filter q).length ≤ es.length := by
  induction es with
  | nil => simp
  | cons d es ih =>
    simp only [List.filter_cons]
    cases hp : p d with
    | true => rw [hpq d hp]; simp; omega
    | false => cases hq : q d <;> simp <;> omega
theorem put_len (es : List EdgeV) (e : EdgeV) : (putE es e).length ≤ es.length + 1 := by
  have h := len_two (p := fun d => lt d e) (q := fun d => lt e d) (fun d hd => lt_asymm' hd) es
  unfold putE
  simp only [List.length_append, List.length_cons, List.length_nil]
  omega
/-- a right graph, drawn so far -/
structure GR (nn : Nat) (es : List EdgeV) (k : Nat) : Prop where
  n2 : 2 ≤ nn
  n12 : nn ≤ 12
  ok : chk (nn : Int) es = true
  len : es.length ≤ k
theorem GR.put {nn : Nat} {es : List EdgeV} {k : Nat} (h : GR nn es k) {e : EdgeV} (he : eB (nn : Int) e = true) : GR nn (putE es e) (k + 1) := by
  refine ⟨h.n2, h.n12, chk_of ?_ (asc_put (asc_of_chk h.ok)), by have := put_len es e; have := h.len; omega⟩
  intro d hd
  unfold putE at hd
  rcases List.mem_append.1 hd with h1 | h1
  · rcases List.mem_append.1 h1 with h2 | h2
    · exact chk_eB h.ok (List.mem_filter.1 h2).1
    · simp at h2; subst h2; exact he
  · exact chk_eB h.ok (List.mem_filter.1 h1).1
theorem GR.more {nn : Nat} {es : List EdgeV} {k j : Nat} (h : GR nn es k) (hkj : k ≤ j) : GR nn es j := ⟨h.n2, h.n12, h.ok, Nat.le_trans h.len hkj⟩
theorem GR.gB {nn : Nat} {es : List EdgeV} {k : Nat} (h : GR nn es k) (hk : k ≤ 66) : gB (nn : Int) es = true := by
  have h1 := h.n2
  have h2 := h.n12
  have h3 := h.len
  unfold Go.Proofs.Ytfkoddhojcjohaa.gB
  rw [h.ok, decide_eq_true (by omega), decide_eq_true (by omega)]
  rfl

theorem eB_iff' (n : Int) (e : EdgeV) : eB n e = true ↔ (1 ≤ n ∧ n ≤ 12 ∧ 0 ≤ e.1 ∧ e.1 < e.2 ∧ e.2 < n) := by unfold eB; rw [decide_eq_true_iff]
theorem Cur.grownX {u v : World} {G X : Nat} {a : Option Addr} {len cap : Nat} (h : Cur u G a len cap) (hg : u.grownBy v (some X)) (hX : G ≠ X) : Cur v G a len cap := by
  obtain ⟨i, hh, hi, hG⟩ := h
  have hlt : G < u.heap.size := (Array.getElem?_eq_some_iff.1 hG).1
  exact ⟨i, hh, hi, by rw [hg.block G hlt (by simpa using hX)]; exact hG⟩
theorem Cur.lt {u : World} {G : Nat} {a : Option Addr} {len cap : Nat} (h : Cur u G a len cap) : G < u.heap.size := by
  obtain ⟨i, hh, hi, hG⟩ := h
  exact (Array.getElem?_eq_some_iff.1 hG).1
theorem Cur.up {u v : World} {G : Nat} {a : Option Addr} {len cap : Nat} (h : Cur u G a len cap) (hb : Below u.heap.size u v) : Cur v G a len cap := by
  have hlt := h.lt
  obtain ⟨i, hh, hi, hG⟩ := h
  exact ⟨i, hh, hi, by rw [hb.block G hlt]; exact hG⟩
theorem Code.up {u v : World} {G : Nat} {a : Option Addr} {len : Nat} (h : Code u G a len) (hb : Below u.heap.size u v) : Code v G a len :=
  h.kept ⟨hb.os, hb.tape, hb.output, hb.size, fun k hk _ => hb.block k hk⟩
/-- below w nothing but the cursor has turned -/
theorem grown_up {w u v : World} {G : Nat} (h : w.grownBy u (some G)) (hb : Below w.heap.size u v) : w.grownBy v (some G) :=
  ⟨hb.os.trans h.os, hb.tape.trans h.tape, hb.output.trans h.output, Nat.le_trans h.size hb.size, fun k hk hne => (hb.block k hk).trans (h.block k hk hne)⟩

theorem own_grown {u v : World} {B e s m c X : Nat} {a : Option Addr} {xs : List Value} (h : u.ownsRow B e s (.slice a m c) m xs) (hg : u.grownBy v (some X)) (hX : X < B) : v.ownsRow B e s (.slice a m c) m xs :=
  World.ownsRow.kept h hg (.inr fun e => by have := (h.lt X e).1; omega)

set_option maxRecDepth 100000 in
set_option maxHeartbeats 4000000 in
theorem l05Edge_any (nn : Nat) (h2 : 2 ≤ nn) (h12 : nn ≤ 12) (w : World) (G : Nat) (a : Option Addr) (len cap : Nat) (hl : len ≤ 1048576) (hcur : Cur w G a len cap) (hcode : Code w G a len) :
    Calls Try.prog 34 #[.pointer (some ⟨G, 0, none⟩), .int .i64 (nn : Int)] w fun x w' => ∃ e : EdgeV, Hid (eB (nn : Int) e = true) ∧ x = .returned (.agg #[.int .i64 e.1, .int .i64 e.2]) ∧ Drawn w w' G a len cap := by
  have hb0 : Below w.heap.size w (w.alloc (.cells #[.int .i64 0, .int .i64 0] 28)) := (Below.refl _ _).alloc (Nat.le_refl _) _
  have HB := hideIt (fun (W : World) (hc : Cur W G a len cap) (hd : Code W G a len) => l01Below_any (nn : Int) (by omega) (by omega) W G a len cap hl hc hd)
  have HC0 := hideIt (hcur.up hb0)
  have HD0 := hideIt (hcode.up hb0)
  have hG := hcur.lt
  have HCode := hideIt hcode
  have HGr : Hid (w.grownBy (w.alloc (.cells #[.int .i64 0, .int .i64 0] 28)) (some G)) := grown_of_below hb0 _
  have B0 := Box2.new w 28 (.int .i64 0) (.int .i64 0) w.heap.size rfl
  clear hcur hcode hb0
  go_enter Try.func34, Try.ntmps34
  go_wp2_with (go_at_call 54; refine (HB.out _ HC0.out HD0.out).mono ?_; rintro e w1 ⟨x, hx, rfl, d1⟩; refine Hid.out ?_)
  refine (show ∀ {p : Prop}, p → Hid p from fun h => h) ?_
  have B1 := B0.grown d1.grown (by simp; omega)
  go_wp2_with (go_at_call 54; refine (HB.out _ d1.cur d1.code).mono ?_; rintro e w2 ⟨y, hy, rfl, d2⟩; refine Hid.out ?_)
  refine (show ∀ {p : Prop}, p → Hid p from fun h => h) ?_
  have B2 := B1.grown d2.grown (by simp; omega)
  have D2 := hideIt (d1.trans d2)
  clear B0 B1 d1 d2 HC0 HD0 HB
  have c0 := B2.cell0
  have c1 := B2.cell1
  have f0 := B2.frozen 0
  have f1 := B2.frozen 1
  have HFin : Hid (∀ p q : Int, 0 ≤ p → p < q → q < (nn : Int) → ∃ e : EdgeV, Hid (eB (nn : Int) e = true) ∧ Ending.returned (.agg #[.int .i64 p, .int .i64 q]) = .returned (.agg #[.int .i64 e.1, .int .i64 e.2]) ∧ Drawn w ((w2.setCell ⟨w.heap.size, 0, none⟩ (.int .i64 p)).setCell ⟨w.heap.size, 1, none⟩ (.int .i64 q)) G a len cap) := fun p q hp hpq hq => by
    have hg2 := grown_trans (grown_set w2 w.heap.size 0 (.int .i64 p)) (grown_set _ w.heap.size 1 (.int .i64 q))
    have hbw : Below w.heap.size w2 ((w2.setCell ⟨w.heap.size, 0, none⟩ (.int .i64 p)).setCell ⟨w.heap.size, 1, none⟩ (.int .i64 q)) := ((Below.refl w.heap.size w2).setCell (p := ⟨w.heap.size, 0, none⟩) (Nat.le_refl _) _).setCell (p := ⟨w.heap.size, 1, none⟩) (Nat.le_refl _) _
    have hgw := grown_up (grown_trans HGr.out D2.out.grown) hbw
    refine ⟨(p, q), (eB_iff' _ _).2 ⟨by omega, by omega, hp, hpq, hq⟩, rfl, D2.out.cur.grownX hg2 (by omega), HCode.out.kept hgw, hgw⟩
  have hx' : x < nn := by omega
  have hy' : y < nn := by omega
  by_cases hxy : x = y
  · subst hxy
    by_cases hx1 : x + 1 < nn
    · have m1 : ((x : Int) + 1) % (nn : Int) = (x : Int) + 1 := Int.emod_eq_of_lt (by omega) (by omega)
      have m2 : ((x : Int) + 1).tmod (nn : Int) = (x : Int) + 1 := by rw [Int.tmod_eq_emod_of_nonneg (by omega)]; exact m1
      have d1 : decide ((x : Int) + 1 < (x : Int)) = false := decide_eq_false (by omega)
      have HF := hideIt (HFin.out (x : Int) ((x : Int) + 1) (by omega) (by omega) (by omega))
      clear HFin
      go_wp2
      obtain ⟨e, he, h3, h4⟩ := HF.out
      exact bodyPost_ret (v := .agg #[.int .i64 (x : Int), .int .i64 ((x : Int) + 1)]) (by simp [results, Try.results34, go_sem, c0, c1]) rfl ⟨e, he, h3, h4⟩
    · have hxn : x + 1 = nn := by omega
      have m1 : ((x : Int) + 1) % (nn : Int) = 0 := by rw [show (x : Int) + 1 = (nn : Int) by omega]; exact Int.emod_self
      have m2 : ((x : Int) + 1).tmod (nn : Int) = 0 := by rw [Int.tmod_eq_emod_of_nonneg (by omega)]; exact m1
      have d1 : decide ((0 : Int) < (x : Int)) = true := decide_eq_true (by omega)
      have HF := hideIt (HFin.out 0 (x : Int) (by omega) (by omega) (by omega))
      clear HFin hxn
      go_wp2
      obtain ⟨e, he, h3, h4⟩ := HF.out
      exact bodyPost_ret (v := .agg #[.int .i64 0, .int .i64 (x : Int)]) (by simp [results, Try.results34, go_sem, c0, c1]) rfl ⟨e, he, h3, h4⟩
  · have d0 : ((x : Int) == (y : Int)) = false := by simp; omega
    by_cases hlt : x < y
    · have d1 : decide ((y : Int) < (x : Int)) = false := decide_eq_false (by omega)
      have HF := hideIt (HFin.out (x : Int) (y : Int) (by omega) (by omega) (by omega))
      clear HFin
      go_wp2
      obtain ⟨e, he, h3, h4⟩ := HF.out
      exact bodyPost_ret (v := .agg #[.int .i64 (x : Int), .int .i64 (y : Int)]) (by simp [results, Try.results34, go_sem, c0, c1]) rfl ⟨e, he, h3, h4⟩
    · have d1 : decide ((y : Int) < (x : Int)) = true := decide_eq_true (by omega)
      have HF := hideIt (HFin.out (y : Int) (x : Int) (by omega) (by omega) (by omega))
      clear HFin
      go_wp2
      obtain ⟨e, he, h3, h4⟩ := HF.out
      exact bodyPost_ret (v := .agg #[.int .i64 (y : Int), .int .i64 (x : Int)]) (by simp [results, Try.results34, go_sem, c0, c1]) rfl ⟨e, he, h3, h4⟩

/-- where the draw of a graph stands -/
structure GAt (w : World) (G X : Nat) (a : Option Addr) (len cap nn : Nat) (es : List EdgeV) (a' : Option Addr) (m c' : Nat) (u : World) : Prop where
  cur : Cur u G a len cap
  res : Box2 u w.heap.size 26 (.int .i64 0) (.slice none 0 0)
  box : Box2 u X 26 (.int .i64 (nn : Int)) (.slice a' m c')
  own : u.ownsRow (X + 1) 28 2 (.slice a' m c') m (ecells es)
  grown : w.grownBy u (some G)
  low : G < w.heap.size
  high : w.heap.size < X
theorem GAt.code {w : World} {G X : Nat} {a : Option Addr} {len cap nn : Nat} {es : List EdgeV} {a' : Option Addr} {m c' : Nat} {u : World} (h : GAt w G X a len cap nn es a' m c' u) (hc : Code w G a len) : Code u G a len := hc.kept h.grown
theorem GAt.drawn {w : World} {G X : Nat} {a : Option Addr} {len cap nn : Nat} {es : List EdgeV} {a' : Option Addr} {m c' : Nat} {u v : World} (h : GAt w G X a len cap nn es a' m c' u) (d : Drawn u v G a len cap) : GAt w G X a len cap nn es a' m c' v :=
  ⟨d.cur, h.res.grown d.grown (by have := h.low; simp; omega), h.box.grown d.grown (by have := h.low; have := h.high; simp; omega), own_grown h.own d.grown (by have := h.low; have := h.high; omega), grown_trans h.grown d.grown, h.low, h.high⟩
theorem GAt.up {w : World} {G X : Nat} {a : Option Addr} {len cap nn : Nat} {es : List EdgeV} {a' : Option Addr} {m c' : Nat} {u v : World} (h : GAt w G X a len cap nn es a' m c' u) (hb : Below u.heap.size u v) : GAt w G X a len cap nn es a' m c' v :=
  ⟨h.cur.up hb, h.res.below hb h.res.lt, h.box.below hb h.box.lt, own_up h.own hb, grown_up h.grown (hb.mono h.grown.size), h.low, h.high⟩
theorem GAt.es {w : World} {G X : Nat} {a : Option Addr} {len cap nn : Nat} {es : List EdgeV} {a' : Option Addr} {m c' : Nat} {u : World} (h : GAt w G X a len cap nn es a' m c' u) : Es u u.heap.size a' m es := Es_of_own h.own
theorem GAt.len' {w : World} {G X : Nat} {a : Option Addr} {len cap nn : Nat} {es : List EdgeV} {a' : Option Addr} {m c' : Nat} {u : World} (h : GAt w G X a len cap nn es a' m c' u) : es.length = m := by have := h.own.1; rw [ecells_length] at this; omega
/-- a new list is laid into the box -/
theorem GAt.turn {w : World} {G X : Nat} {a : Option Addr} {len cap nn : Nat} {es : List EdgeV} {a' : Option Addr} {m c' : Nat} {u : World} (h : GAt w G X a len cap nn es a' m c' u) {fs : List EdgeV} {a2 : Option Addr} {m2 c2 : Nat}
    (ho : u.ownsRow (X + 1) 28 2 (.slice a2 m2 c2) m2 (ecells fs)) : GAt w G X a len cap nn fs a2 m2 c2 (u.setCell ⟨X, 1, none⟩ (.slice a2 m2 c2)) := by
  have hlo := h.low
  have hhi := h.high
  have hg := grown_set u X 1 (.slice a2 m2 c2)
  refine ⟨h.cur.grownX hg (by omega), h.res.grown hg (by simp; omega), ?_, own_grown ho hg (by omega), grown_up h.grown ((Below.refl w.heap.size u).setCell (p := ⟨X, 1, none⟩) (by show w.heap.size ≤ X; omega) _), hlo, hhi⟩
  unfold Box2
  have hb : u.heap[X]? = some (.cells #[.int .i64 (nn : Int), .slice a' m c'] 26 (0, 0)) := h.box
  rw [heap_setCell_same u X 1 _ 26 (.slice a2 m2 c2) hb]; rfl

set_option maxRecDepth 100000 in
set_option maxHeartbeats 8000000 in
theorem l05Graph_any (w : World) (G : Nat) (a : Option Addr) (len cap : Nat) (hl : len ≤ 1048576) (hcur : Cur w G a len cap) (hcode : Code w G a len) :
    Calls Try.prog 33 #[.pointer (some ⟨G, 0, none⟩)] w fun x w' => ∃ (nn : Nat) (es : List EdgeV) (a' : Option Addr) (m c' : Nat), Hid (GR nn es 16) ∧ x = .returned (.agg #[.int .i64 (nn : Int), .slice a' m c']) ∧ w'.ownsRow w.heap.size 28 2 (.slice a' m c') m (ecells es) ∧ Drawn w w' G a len cap := by
  have hb0 : Below w.heap.size w (w.alloc (.cells #[.int .i64 0, .slice none 0 0] 26)) := (Below.refl _ _).alloc (Nat.le_refl _) _
  have HB := hideIt (fun (n : Int) (h0 : 0 < n) (h1 : n ≤ 4294967296) (W : World) (hc : Cur W G a len cap) (hd : Code W G a len) => l01Below_any n h0 h1 W G a len cap hl hc hd)
  have HE := hideIt (fun (nn : Nat) (h2 : 2 ≤ nn) (h12 : nn ≤ 12) (W : World) (hc : Cur W G a len cap) (hd : Code W G a len) => l05Edge_any nn h2 h12 W G a len cap hl hc hd)
  have HCode := hideIt hcode
  have hG := hcur.lt
  have HGr : Hid (w.grownBy (w.alloc (.cells #[.int .i64 0, .slice none 0 0] 26)) (some G)) := grown_of_below hb0 _
  have HX := hideIt (HB.out 11 (by omega) (by omega) _ (hcur.up hb0) (hcode.up hb0))
  have R0 := Box2.new w 26 (.int .i64 0) (.slice none 0 0) w.heap.size rfl
  clear hcur hcode hb0
  go_enter Try.func33, Try.ntmps33
  go_wp2_with (go_at_call 54; refine HX.out.mono ?_; rintro e w1 ⟨x, hx, rfl, d1⟩; refine Hid.out ?_)
  refine (show ∀ {p : Prop}, p → Hid p from fun h => h) ?_
  have hz1 : w.heap.size < w1.heap.size := by have := d1.grown.size; simp at this; omega
  have HD0 : Hid (GAt w G w1.heap.size a len cap (x + 2) [] none 0 0 (w1.alloc (.cells #[.int .i64 (((x + 2 : Nat)) : Int), .slice none 0 0] 26))) := by
    have hu : Below w1.heap.size w1 (w1.alloc (.cells #[.int .i64 (((x + 2 : Nat)) : Int), .slice none 0 0] 26)) := (Below.refl _ _).alloc (Nat.le_refl _) _
    have hr := R0.grown d1.grown (by simp; omega)
    exact ⟨d1.cur.up hu, hr.below hu hr.lt, Box2.new _ _ _ _ _ rfl, World.ownsRow_nil _ _ _ _, grown_up (grown_trans HGr.out d1.grown) (hu.mono (by omega)), hG, hz1⟩
  have HR0 : Hid (GR (x + 2) [] 0) := ⟨by omega, by omega, rfl, by simp⟩
  have en : (2 : Int) + (x : Int) = ((x + 2 : Nat) : Int) := by omega
  obtain ⟨nn, hnn⟩ : ∃ nn, nn = x + 2 := ⟨_, rfl⟩
  rw [← hnn] at HD0 HR0 en
  have hn2 : 2 ≤ nn := by omega
  have hn12 : nn ≤ 12 := by omega
  clear HX d1 R0 HGr hnn
  go_wp2
  go_loopw [4] (fun i wr => ∃ (k : Nat) (es : List EdgeV) (a' : Option Addr) (m c' : Nat), k ≤ 16 ∧ i = .int .i64 (k : Int) ∧ Hid (GR nn es k) ∧ Hid (GAt w G w1.heap.size a len cap nn es a' m c' wr)) (fun i _ => 17 - (intOf i).toNat)
  case atStart => exact ⟨0, [], none, 0, 0, by omega, rfl, HR0, HD0⟩
  case round =>
    obtain ⟨k, es, a', m, c', hk, rfl, hR, hD⟩ := hrel
    clear HD0 HR0
    have HX := hideIt (HB.out 16 (by omega) (by omega) wr hD.out.cur (hD.out.code HCode.out))
    go_wp2_with (go_at_call 54; refine HX.out.mono ?_; rintro e w2 ⟨y, hy, rfl, dr2⟩; refine Hid.out ?_)
    refine (show ∀ {p : Prop}, p → Hid p from fun h => h) ?_
    have D2 := hideIt (hD.out.drawn dr2)
    clear HX dr2 hD
    by_cases hkx : k < y
    · have d1 : decide ((k : Int) < (y : Int)) = true := decide_eq_true (by omega)
      have q0 := D2.out.box.cell0
      have HX := hideIt (HE.out nn hn2 hn12 w2 D2.out.cur (D2.out.code HCode.out))
      go_wp2_with (go_at_call 34; refine HX.out.mono ?_; rintro x w3 ⟨e, he, rfl, dr3⟩; refine Hid.out ?_)
      refine (show ∀ {p : Prop}, p → Hid p from fun h => h) ?_
      have D3 := hideIt ((D2.out.drawn dr3).up ((Below.refl w3.heap.size w3).alloc (Nat.le_refl _) (.cells #[.int .i64 e.1, .int .i64 e.2] 28)))
      have hm16 : m ≤ 1048576 := by have := D3.out.len'; have := hR.out.len; omega
      have q1 := D3.out.box.cell0
      have q2 := D3.out.box.cell1
      have HH := hideIt (sHasEdge_any (nn : Int) es e m a' c' hm16 _ D3.out.es)
      have hz3 : w1.heap.size < w3.heap.size := (D2.out.drawn dr3).box.lt
      clear HX dr3 D2 q0
      cases hh : hasB es e with
      | true =>
        rw [hh] at HH
        go_wp2_with (go_at_call 23; refine HH.out.mono ?_; rintro x w4 ⟨rfl, hb4⟩; refine Hid.out ?_)
        refine (show ∀ {p : Prop}, p → Hid p from fun h => h) ?_
        have D4 := hideIt (D3.out.up hb4)
        have HR2 : Hid (GR nn es (k + 1)) := hR.out.more (by omega)
        clear HH D3 q1 q2 hh hb4
        go_wp2
        exact ⟨⟨k + 1, es, a', m, c', by omega, by go_num, HR2, D4⟩, by simp [intOf]; omega⟩
      | false =>
        rw [hh] at HH
        go_wp2_with (go_at_call 23; refine HH.out.mono ?_; rintro x w4 ⟨rfl, hb4⟩; refine Hid.out ?_)
        refine (show ∀ {p : Prop}, p → Hid p from fun h => h) ?_
        have D4 := hideIt (D3.out.up hb4)
        have bE : Box2 w4 w3.heap.size 28 (.int .i64 e.1) (.int .i64 e.2) := (Box2.new w3 28 (.int .i64 e.1) (.int .i64 e.2) _ rfl).below hb4 (by simp)
        have r0 := bE.cell0
        have r1 := bE.cell1
        have r2 := D4.out.box.cell1
        have HP := hideIt (l05Put_any es e m a' c' hm16 w4 D4.out.es)
        have hz4 : w1.heap.size < w4.heap.size := D4.out.box.lt
        clear HH D3 q1 q2 hh hb4 bE
        go_wp2_with (go_at_call 51; refine HP.out.mono ?_; rintro x w5 ⟨a5, m5, c5, rfl, ho5, hb5⟩; refine Hid.out ?_)
        refine (show ∀ {p : Prop}, p → Hid p from fun h => h) ?_
        have D5 := hideIt (D4.out.up hb5)
        have D6 := hideIt (D5.out.turn (own_mono ho5 (show w1.heap.size + 1 ≤ w4.heap.size by omega)))
        have HR2 := hideIt (hR.out.put he.out)
        have s0 := D5.out.box.cell1
        have s1 := D5.out.box.frozen 1
        clear HP ho5 hb5 D4 D5 r0 r1 r2
        go_wp2
        exact ⟨⟨k + 1, _, a5, m5, c5, by omega, by go_num, HR2, D6⟩, by simp [intOf]; omega⟩
    · have d1 : decide ((k : Int) < (y : Int)) = false := decide_eq_false (by omega)
      have r0 := D2.out.box.cell0
      have r1 := D2.out.box.cell1
      have s0 := D2.out.res.cell0
      have s1 := D2.out.res.cell1
      have t0 := D2.out.res.frozen 0
      have t1 := D2.out.res.frozen 1
      have hbw : Below w.heap.size w2 ((w2.setCell ⟨w.heap.size, 0, none⟩ (.int .i64 (nn : Int))).setCell ⟨w.heap.size, 1, none⟩ (.slice a' m c')) := ((Below.refl w.heap.size w2).setCell (p := ⟨w.heap.size, 0, none⟩) (Nat.le_refl _) _).setCell (p := ⟨w.heap.size, 1, none⟩) (Nat.le_refl _) _
      have hgs := grown_trans (grown_set w2 w.heap.size 0 (.int .i64 (nn : Int))) (grown_set _ w.heap.size 1 (.slice a' m c'))
      have hgw := grown_up D2.out.grown hbw
      have HF : Hid (((w2.setCell ⟨w.heap.size, 0, none⟩ (.int .i64 (nn : Int))).setCell ⟨w.heap.size, 1, none⟩ (.slice a' m c')).ownsRow w.heap.size 28 2 (.slice a' m c') m (ecells es) ∧ Drawn w ((w2.setCell ⟨w.heap.size, 0, none⟩ (.int .i64 (nn : Int))).setCell ⟨w.heap.size, 1, none⟩ (.slice a' m c')) G a len cap) :=
        ⟨own_mono (own_grown D2.out.own hgs (by omega)) (show w.heap.size ≤ w1.heap.size + 1 by omega), D2.out.cur.grownX hgs (by omega), HCode.out.kept hgw, hgw⟩
      have HR2 : Hid (GR nn es 16) := hR.out.more hk
      clear D2 hbw hgs hgw
      go_wp2
      exact bodyPost_ret (v := .agg #[.int .i64 (nn : Int), .slice a' m c']) (by simp [results, Try.results33, go_sem, s0, s1]) rfl ⟨nn, es, a', m, c', HR2, rfl, HF.out.1, HF.out.2⟩
end Go.Proofs.Ytfkoddhojcjohaa
