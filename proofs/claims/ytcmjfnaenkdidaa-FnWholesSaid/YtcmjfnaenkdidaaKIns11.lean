/- The draw of a right graph and of an edge for it. The draw of a right graph and an edge, as the laws call it. Lists of ints: how they stand in memory; eqIntS, markIntS, heldIntS; an answer that is a list of ints. A row of ints that a function makes for itself. Lists of ints and of edges as the laws of chapter 11 look at them; the edges inside of a shard (pure). The edges inside of a shard: the program's Inside and the specification's. -/
import Derived.Test.YtcmjfnaenkdidaaKSHas
import Derived.Test.YtcmjfnaenkdidaaKLawSt5
import Derived.Deep.AppendLies
namespace Go.Proofs.Ytcmjfnaenkdidaa
open Go.RowKit

/- what is right stays right -/
theorem chk_of {n : Int} {es : List EdgeV} (h1 : ∀ e ∈ es, eB n e = true) (h2 : Asc es) : chk n es = true := chk_yes fun j hj => by
  have he : es[j]? = some es[j] := List.getElem?_eq_getElem hj
  have hb := h1 _ (List.getElem_mem hj)
  cases j with
  | zero => rw [chkAt_zero he]; exact hb
  | succ i =>
    have hd : es[i]? = some (es[i]'(by omega)) := List.getElem?_eq_getElem (by omega)
    rw [chkAt_succ he hd, hb, h2 i (i + 1) _ _ (by omega) hd he]
    rfl
theorem asc_of_pairwise {es : List EdgeV} (h : es.Pairwise fun d e => lt d e = true) : Asc es := by
  intro i j d e hij hd he
  obtain ⟨h1, rfl⟩ := List.getElem?_eq_some_iff.1 hd
  obtain ⟨h2, rfl⟩ := List.getElem?_eq_some_iff.1 he
  exact List.pairwise_iff_getElem.1 h i j h1 h2 hij
theorem pairwise_asc' {es : List EdgeV} (h : Asc es) : es.Pairwise fun d e => lt d e = true := by
  rw [List.pairwise_iff_getElem]
  exact fun i j hi hj hij => h i j _ _ hij (List.getElem?_eq_getElem hi) (List.getElem?_eq_getElem hj)
theorem asc_put {es : List EdgeV} {e : EdgeV} (h : Asc es) : Asc (putE es e) := by
  have hp := pairwise_asc' h
  refine asc_of_pairwise ?_
  unfold putE
  rw [List.pairwise_append, List.pairwise_append]
  refine ⟨⟨hp.filter _, List.pairwise_singleton _ _, ?_⟩, hp.filter _, ?_⟩
  · intro d hd x hx
    simp at hx
    subst hx
    exact (List.mem_filter.1 hd).2
  · intro d hd x hx
    have h2 := (List.mem_filter.1 hx).2
    rcases List.mem_append.1 hd with h1 | h1
    · exact lt_trans' (List.mem_filter.1 h1).2 h2
    · simp at h1; subst h1; exact h2
theorem len_two {p q : EdgeV → Bool} (hpq : ∀ d, p d = true → q d = false) (es : List EdgeV) : (es.filter p).length + (es.filter q).length ≤ es.length := by
  induction es with
  | nil => simp
  | cons d es ih =>
    simp only [List.filter_cons]
    cases hp : p d with
    | true => rw [hpq d hp]; simp; omega
    | false => cases hq : q d <;> simp <;> omega
theorem put_len (es : List EdgeV) (e : EdgeV) : (putE es e).length ≤ es.length + 1 := by
  have h := len_two (p := fun d => lt d e) (q := fun d => lt e d) (fun d hd => lt_asymm' hd) es
  unfold putE
  simp only [List.length_append, List.length_cons, List.length_nil]
  omega
/-- a right graph, drawn so far -/
structure GR (nn : Nat) (es : List EdgeV) (k : Nat) : Prop where
  n2 : 2 ≤ nn
  n12 : nn ≤ 12
  ok : chk (nn : Int) es = true
  len : es.length ≤ k
theorem GR.put {nn : Nat} {es : List EdgeV} {k : Nat} (h : GR nn es k) {e : EdgeV} (he : eB (nn : Int) e = true) : GR nn (putE es e) (k + 1) := by
  refine ⟨h.n2, h.n12, chk_of ?_ (asc_put (asc_of_chk h.ok)), by have := put_len es e; have := h.len; omega⟩
  intro d hd
  unfold putE at hd
  rcases List.mem_append.1 hd with h1 | h1
  · rcases List.mem_append.1 h1 with h2 | h2
    · exact chk_eB h.ok (List.mem_filter.1 h2).1
    · simp at h2; subst h2; exact he
  · exact chk_eB h.ok (List.mem_filter.1 h1).1
theorem GR.more {nn : Nat} {es : List EdgeV} {k j : Nat} (h : GR nn es k) (hkj : k ≤ j) : GR nn es j := ⟨h.n2, h.n12, h.ok, Nat.le_trans h.len hkj⟩
theorem GR.gB {nn : Nat} {es : List EdgeV} {k : Nat} (h : GR nn es k) (hk : k ≤ 66) : gB (nn : Int) es = true := by
  have h1 := h.n2
  have h2 := h.n12
  have h3 := h.len
  unfold Go.Proofs.Ytcmjfnaenkdidaa.gB
  rw [h.ok, decide_eq_true (by omega), decide_eq_true (by omega)]
  rfl

theorem eB_iff' (n : Int) (e : EdgeV) : eB n e = true ↔ (1 ≤ n ∧ n ≤ 12 ∧ 0 ≤ e.1 ∧ e.1 < e.2 ∧ e.2 < n) := by unfold eB; rw [decide_eq_true_iff]
theorem Cur.grownX {u v : World} {G X : Nat} {a : Option Addr} {len cap : Nat} (h : Cur u G a len cap) (hg : u.grownBy v (some X)) (hX : G ≠ X) : Cur v G a len cap := by
  obtain ⟨i, hh, hi, hG⟩ := h
  have hlt : G < u.heap.size := (Array.getElem?_eq_some_iff.1 hG).1
  exact ⟨i, hh, hi, by rw [hg.block G hlt (by simpa using hX)]; exact hG⟩
theorem Cur.lt {u : World} {G : Nat} {a : Option Addr} {len cap : Nat} (h : Cur u G a len cap) : G < u.heap.size := by
  obtain ⟨i, hh, hi, hG⟩ := h
  exact (Array.getElem?_eq_some_iff.1 hG).1
theorem Cur.up {u v : World} {G : Nat} {a : Option Addr} {len cap : Nat} (h : Cur u G a len cap) (hb : Below u.heap.size u v) : Cur v G a len cap := by
  have hlt := h.lt
  obtain ⟨i, hh, hi, hG⟩ := h
  exact ⟨i, hh, hi, by rw [hb.block G hlt]; exact hG⟩
theorem Code.up {u v : World} {G : Nat} {a : Option Addr} {len : Nat} (h : Code u G a len) (hb : Below u.heap.size u v) : Code v G a len :=
  h.kept ⟨hb.os, hb.tape, hb.output, hb.size, fun k hk _ => hb.block k hk⟩
/-- below w nothing but the cursor has turned -/
theorem grown_up {w u v : World} {G : Nat} (h : w.grownBy u (some G)) (hb : Below w.heap.size u v) : w.grownBy v (some G) :=
  ⟨hb.os.trans h.os, hb.tape.trans h.tape, hb.output.trans h.output, Nat.le_trans h.size hb.size, fun k hk hne => (hb.block k hk).trans (h.block k hk hne)⟩

theorem own_grown {u v : World} {B e s m c X : Nat} {a : Option Addr} {xs : List Value} (h : u.ownsRow B e s (.slice a m c) m xs) (hg : u.grownBy v (some X)) (hX : X < B) : v.ownsRow B e s (.slice a m c) m xs :=
  World.ownsRow.kept h hg (.inr fun e => by have := (h.lt X e).1; omega)

set_option maxRecDepth 100000 in
set_option maxHeartbeats 4000000 in
theorem l05Edge_any (nn : Nat) (h2 : 2 ≤ nn) (h12 : nn ≤ 12) (w : World) (G : Nat) (a : Option Addr) (len cap : Nat) (hl : len ≤ 1048576) (hcur : Cur w G a len cap) (hcode : Code w G a len) :
    Calls Try.prog 40 #[.pointer (some ⟨G, 0, none⟩), .int .i64 (nn : Int)] w fun x w' => ∃ e : EdgeV, Hid (eB (nn : Int) e = true) ∧ x = .returned (.agg #[.int .i64 e.1, .int .i64 e.2]) ∧ Drawn w w' G a len cap := by
  have hb0 : Below w.heap.size w (w.alloc (.cells #[.int .i64 0, .int .i64 0] 28)) := (Below.refl _ _).alloc (Nat.le_refl _) _
  have HB := hideIt (fun (W : World) (hc : Cur W G a len cap) (hd : Code W G a len) => l01Below_any (nn : Int) (by omega) (by omega) W G a len cap hl hc hd)
  have HC0 := hideIt (hcur.up hb0)
  have HD0 := hideIt (hcode.up hb0)
  have hG := hcur.lt
  have HCode := hideIt hcode
  have HGr : Hid (w.grownBy (w.alloc (.cells #[.int .i64 0, .int .i64 0] 28)) (some G)) := grown_of_below hb0 _
  have B0 := Box2.new w 28 (.int .i64 0) (.int .i64 0) w.heap.size rfl
  clear hcur hcode hb0
  go_enter Try.func40, Try.ntmps40
  go_wp2_with (go_at_call 42; refine (HB.out _ HC0.out HD0.out).mono ?_; rintro e w1 ⟨x, hx, rfl, d1⟩; refine Hid.out ?_)
  refine (show ∀ {p : Prop}, p → Hid p from fun h => h) ?_
  have B1 := B0.grown d1.grown (by simp; omega)
  go_wp2_with (go_at_call 42; refine (HB.out _ d1.cur d1.code).mono ?_; rintro e w2 ⟨y, hy, rfl, d2⟩; refine Hid.out ?_)
  refine (show ∀ {p : Prop}, p → Hid p from fun h => h) ?_
  have B2 := B1.grown d2.grown (by simp; omega)
  have D2 := hideIt (d1.trans d2)
  clear B0 B1 d1 d2 HC0 HD0 HB
  have c0 := B2.cell0
  have c1 := B2.cell1
  have f0 := B2.frozen 0
  have f1 := B2.frozen 1
  have HFin : Hid (∀ p q : Int, 0 ≤ p → p < q → q < (nn : Int) → ∃ e : EdgeV, Hid (eB (nn : Int) e = true) ∧ Ending.returned (.agg #[.int .i64 p, .int .i64 q]) = .returned (.agg #[.int .i64 e.1, .int .i64 e.2]) ∧ Drawn w ((w2.setCell ⟨w.heap.size, 0, none⟩ (.int .i64 p)).setCell ⟨w.heap.size, 1, none⟩ (.int .i64 q)) G a len cap) := fun p q hp hpq hq => by
    have hg2 := grown_trans (grown_set w2 w.heap.size 0 (.int .i64 p)) (grown_set _ w.heap.size 1 (.int .i64 q))
    have hbw : Below w.heap.size w2 ((w2.setCell ⟨w.heap.size, 0, none⟩ (.int .i64 p)).setCell ⟨w.heap.size, 1, none⟩ (.int .i64 q)) := ((Below.refl w.heap.size w2).setCell (p := ⟨w.heap.size, 0, none⟩) (Nat.le_refl _) _).setCell (p := ⟨w.heap.size, 1, none⟩) (Nat.le_refl _) _
    have hgw := grown_up (grown_trans HGr.out D2.out.grown) hbw
    refine ⟨(p, q), (eB_iff' _ _).2 ⟨by omega, by omega, hp, hpq, hq⟩, rfl, D2.out.cur.grownX hg2 (by omega), HCode.out.kept hgw, hgw⟩
  have hx' : x < nn := by omega
  have hy' : y < nn := by omega
  by_cases hxy : x = y
  · subst hxy
    by_cases hx1 : x + 1 < nn
    · have m1 : ((x : Int) + 1) % (nn : Int) = (x : Int) + 1 := Int.emod_eq_of_lt (by omega) (by omega)
      have m2 : ((x : Int) + 1).tmod (nn : Int) = (x : Int) + 1 := by rw [Int.tmod_eq_emod_of_nonneg (by omega)]; exact m1
      have d1 : decide ((x : Int) + 1 < (x : Int)) = false := decide_eq_false (by omega)
      have HF := hideIt (HFin.out (x : Int) ((x : Int) + 1) (by omega) (by omega) (by omega))
      clear HFin
      go_wp2
      obtain ⟨e, he, h3, h4⟩ := HF.out
      exact bodyPost_ret (v := .agg #[.int .i64 (x : Int), .int .i64 ((x : Int) + 1)]) (by simp [results, Try.results40, go_sem, c0, c1]) rfl ⟨e, he, h3, h4⟩
    · have hxn : x + 1 = nn := by omega
      have m1 : ((x : Int) + 1) % (nn : Int) = 0 := by rw [show (x : Int) + 1 = (nn : Int) by omega]; exact Int.emod_self
      have m2 : ((x : Int) + 1).tmod (nn : Int) = 0 := by rw [Int.tmod_eq_emod_of_nonneg (by omega)]; exact m1
      have d1 : decide ((0 : Int) < (x : Int)) = true := decide_eq_true (by omega)
      have HF := hideIt (HFin.out 0 (x : Int) (by omega) (by omega) (by omega))
      clear HFin hxn
      go_wp2
      obtain ⟨e, he, h3, h4⟩ := HF.out
      exact bodyPost_ret (v := .agg #[.int .i64 0, .int .i64 (x : Int)]) (by simp [results, Try.results40, go_sem, c0, c1]) rfl ⟨e, he, h3, h4⟩
  · have d0 : ((x : Int) == (y : Int)) = false := by simp; omega
    by_cases hlt : x < y
    · have d1 : decide ((y : Int) < (x : Int)) = false := decide_eq_false (by omega)
      have HF := hideIt (HFin.out (x : Int) (y : Int) (by omega) (by omega) (by omega))
      clear HFin
      go_wp2
      obtain ⟨e, he, h3, h4⟩ := HF.out
      exact bodyPost_ret (v := .agg #[.int .i64 (x : Int), .int .i64 (y : Int)]) (by simp [results, Try.results40, go_sem, c0, c1]) rfl ⟨e, he, h3, h4⟩
    · have d1 : decide ((y : Int) < (x : Int)) = true := decide_eq_true (by omega)
      have HF := hideIt (HFin.out (y : Int) (x : Int) (by omega) (by omega) (by omega))
      clear HFin
      go_wp2
      obtain ⟨e, he, h3, h4⟩ := HF.out
      exact bodyPost_ret (v := .agg #[.int .i64 (y : Int), .int .i64 (x : Int)]) (by simp [results, Try.results40, go_sem, c0, c1]) rfl ⟨e, he, h3, h4⟩

/-- where the draw of a graph stands -/
structure GAt (w : World) (G X : Nat) (a : Option Addr) (len cap nn : Nat) (es : List EdgeV) (a' : Option Addr) (m c' : Nat) (u : World) : Prop where
  cur : Cur u G a len cap
  res : Box2 u w.heap.size 26 (.int .i64 0) (.slice none 0 0)
  box : Box2 u X 26 (.int .i64 (nn : Int)) (.slice a' m c')
  own : u.ownsRow (X + 1) 28 2 (.slice a' m c') m (ecells es)
  grown : w.grownBy u (some G)
  low : G < w.heap.size
  high : w.heap.size < X
theorem GAt.code {w : World} {G X : Nat} {a : Option Addr} {len cap nn : Nat} {es : List EdgeV} {a' : Option Addr} {m c' : Nat} {u : World} (h : GAt w G X a len cap nn es a' m c' u) (hc : Code w G a len) : Code u G a len := hc.kept h.grown
theorem GAt.drawn {w : World} {G X : Nat} {a : Option Addr} {len cap nn : Nat} {es : List EdgeV} {a' : Option Addr} {m c' : Nat} {u v : World} (h : GAt w G X a len cap nn es a' m c' u) (d : Drawn u v G a len cap) : GAt w G X a len cap nn es a' m c' v :=
  ⟨d.cur, h.res.grown d.grown (by have := h.low; simp; omega), h.box.grown d.grown (by have := h.low; have := h.high; simp; omega), own_grown h.own d.grown (by have := h.low; have := h.high; omega), grown_trans h.grown d.grown, h.low, h.high⟩
theorem GAt.up {w : World} {G X : Nat} {a : Option Addr} {len cap nn : Nat} {es : List EdgeV} {a' : Option Addr} {m c' : Nat} {u v : World} (h : GAt w G X a len cap nn es a' m c' u) (hb : Below u.heap.size u v) : GAt w G X a len cap nn es a' m c' v :=
  ⟨h.cur.up hb, h.res.below hb h.res.lt, h.box.below hb h.box.lt, own_up h.own hb, grown_up h.grown (hb.mono h.grown.size), h.low, h.high⟩
theorem GAt.es {w : World} {G X : Nat} {a : Option Addr} {len cap nn : Nat} {es : List EdgeV} {a' : Option Addr} {m c' : Nat} {u : World} (h : GAt w G X a len cap nn es a' m c' u) : Es u u.heap.size a' m es := Es_of_own h.own
theorem GAt.len' {w : World} {G X : Nat} {a : Option Addr} {len cap nn : Nat} {es : List EdgeV} {a' : Option Addr} {m c' : Nat} {u : World} (h : GAt w G X a len cap nn es a' m c' u) : es.length = m := by have := h.own.1; rw [ecells_length] at this; omega
/-- a new list is laid into the box -/
theorem GAt.turn {w : World} {G X : Nat} {a : Option Addr} {len cap nn : Nat} {es : List EdgeV} {a' : Option Addr} {m c' : Nat} {u : World} (h : GAt w G X a len cap nn es a' m c' u) {fs : List EdgeV} {a2 : Option Addr} {m2 c2 : Nat}
    (ho : u.ownsRow (X + 1) 28 2 (.slice a2 m2 c2) m2 (ecells fs)) : GAt w G X a len cap nn fs a2 m2 c2 (u.setCell ⟨X, 1, none⟩ (.slice a2 m2 c2)) := by
  have hlo := h.low
  have hhi := h.high
  have hg := grown_set u X 1 (.slice a2 m2 c2)
  refine ⟨h.cur.grownX hg (by omega), h.res.grown hg (by simp; omega), ?_, own_grown ho hg (by omega), grown_up h.grown ((Below.refl w.heap.size u).setCell (p := ⟨X, 1, none⟩) (by show w.heap.size ≤ X; omega) _), hlo, hhi⟩
  unfold Box2
  have hb : u.heap[X]? = some (.cells #[.int .i64 (nn : Int), .slice a' m c'] 26 (0, 0)) := h.box
  rw [heap_setCell_same u X 1 _ 26 (.slice a2 m2 c2) hb]; rfl

set_option maxRecDepth 100000 in
set_option maxHeartbeats 8000000 in
theorem l05Graph_any (w : World) (G : Nat) (a : Option Addr) (len cap : Nat) (hl : len ≤ 1048576) (hcur : Cur w G a len cap) (hcode : Code w G a len) :
    Calls Try.prog 39 #[.pointer (some ⟨G, 0, none⟩)] w fun x w' => ∃ (nn : Nat) (es : List EdgeV) (a' : Option Addr) (m c' : Nat), Hid (GR nn es 16) ∧ x = .returned (.agg #[.int .i64 (nn : Int), .slice a' m c']) ∧ w'.ownsRow w.heap.size 28 2 (.slice a' m c') m (ecells es) ∧ Drawn w w' G a len cap := by
  have hb0 : Below w.heap.size w (w.alloc (.cells #[.int .i64 0, .slice none 0 0] 26)) := (Below.refl _ _).alloc (Nat.le_refl _) _
  have HB := hideIt (fun (n : Int) (h0 : 0 < n) (h1 : n ≤ 4294967296) (W : World) (hc : Cur W G a len cap) (hd : Code W G a len) => l01Below_any n h0 h1 W G a len cap hl hc hd)
  have HE := hideIt (fun (nn : Nat) (h2 : 2 ≤ nn) (h12 : nn ≤ 12) (W : World) (hc : Cur W G a len cap) (hd : Code W G a len) => l05Edge_any nn h2 h12 W G a len cap hl hc hd)
  have HCode := hideIt hcode
  have hG := hcur.lt
  have HGr : Hid (w.grownBy (w.alloc (.cells #[.int .i64 0, .slice none 0 0] 26)) (some G)) := grown_of_below hb0 _
  have HX := hideIt (HB.out 11 (by omega) (by omega) _ (hcur.up hb0) (hcode.up hb0))
  have R0 := Box2.new w 26 (.int .i64 0) (.slice none 0 0) w.heap.size rfl
  clear hcur hcode hb0
  go_enter Try.func39, Try.ntmps39
  go_wp2_with (go_at_call 42; refine HX.out.mono ?_; rintro e w1 ⟨x, hx, rfl, d1⟩; refine Hid.out ?_)
  refine (show ∀ {p : Prop}, p → Hid p from fun h => h) ?_
  have hz1 : w.heap.size < w1.heap.size := by have := d1.grown.size; simp at this; omega
  have HD0 : Hid (GAt w G w1.heap.size a len cap (x + 2) [] none 0 0 (w1.alloc (.cells #[.int .i64 (((x + 2 : Nat)) : Int), .slice none 0 0] 26))) := by
    have hu : Below w1.heap.size w1 (w1.alloc (.cells #[.int .i64 (((x + 2 : Nat)) : Int), .slice none 0 0] 26)) := (Below.refl _ _).alloc (Nat.le_refl _) _
    have hr := R0.grown d1.grown (by simp; omega)
    exact ⟨d1.cur.up hu, hr.below hu hr.lt, Box2.new _ _ _ _ _ rfl, World.ownsRow_nil _ _ _ _, grown_up (grown_trans HGr.out d1.grown) (hu.mono (by omega)), hG, hz1⟩
  have HR0 : Hid (GR (x + 2) [] 0) := ⟨by omega, by omega, rfl, by simp⟩
  have en : (2 : Int) + (x : Int) = ((x + 2 : Nat) : Int) := by omega
  obtain ⟨nn, hnn⟩ : ∃ nn, nn = x + 2 := ⟨_, rfl⟩
  rw [← hnn] at HD0 HR0 en
  have hn2 : 2 ≤ nn := by omega
  have hn12 : nn ≤ 12 := by omega
  clear HX d1 R0 HGr hnn
  go_wp2
  go_loopw [4] (fun i wr => ∃ (k : Nat) (es : List EdgeV) (a' : Option Addr) (m c' : Nat), k ≤ 16 ∧ i = .int .i64 (k : Int) ∧ Hid (GR nn es k) ∧ Hid (GAt w G w1.heap.size a len cap nn es a' m c' wr)) (fun i _ => 17 - (intOf i).toNat)
  case atStart => exact ⟨0, [], none, 0, 0, by omega, rfl, HR0, HD0⟩
  case round =>
    obtain ⟨k, es, a', m, c', hk, rfl, hR, hD⟩ := hrel
    clear HD0 HR0
    have HX := hideIt (HB.out 16 (by omega) (by omega) wr hD.out.cur (hD.out.code HCode.out))
    go_wp2_with (go_at_call 42; refine HX.out.mono ?_; rintro e w2 ⟨y, hy, rfl, dr2⟩; refine Hid.out ?_)
    refine (show ∀ {p : Prop}, p → Hid p from fun h => h) ?_
    have D2 := hideIt (hD.out.drawn dr2)
    clear HX dr2 hD
    by_cases hkx : k < y
    · have d1 : decide ((k : Int) < (y : Int)) = true := decide_eq_true (by omega)
      have q0 := D2.out.box.cell0
      have HX := hideIt (HE.out nn hn2 hn12 w2 D2.out.cur (D2.out.code HCode.out))
      go_wp2_with (go_at_call 40; refine HX.out.mono ?_; rintro x w3 ⟨e, he, rfl, dr3⟩; refine Hid.out ?_)
      refine (show ∀ {p : Prop}, p → Hid p from fun h => h) ?_
      have D3 := hideIt ((D2.out.drawn dr3).up ((Below.refl w3.heap.size w3).alloc (Nat.le_refl _) (.cells #[.int .i64 e.1, .int .i64 e.2] 28)))
      have hm16 : m ≤ 1048576 := by have := D3.out.len'; have := hR.out.len; omega
      have q1 := D3.out.box.cell0
      have q2 := D3.out.box.cell1
      have HH := hideIt (sHasEdge_any (nn : Int) es e m a' c' hm16 _ D3.out.es)
      have hz3 : w1.heap.size < w3.heap.size := (D2.out.drawn dr3).box.lt
      clear HX dr3 D2 q0
      cases hh : hasB es e with
      | true =>
        rw [hh] at HH
        go_wp2_with (go_at_call 64; refine HH.out.mono ?_; rintro x w4 ⟨rfl, hb4⟩; refine Hid.out ?_)
        refine (show ∀ {p : Prop}, p → Hid p from fun h => h) ?_
        have D4 := hideIt (D3.out.up hb4)
        have HR2 : Hid (GR nn es (k + 1)) := hR.out.more (by omega)
        clear HH D3 q1 q2 hh hb4
        go_wp2
        exact ⟨⟨k + 1, es, a', m, c', by omega, by go_num, HR2, D4⟩, by simp [intOf]; omega⟩
      | false =>
        rw [hh] at HH
        go_wp2_with (go_at_call 64; refine HH.out.mono ?_; rintro x w4 ⟨rfl, hb4⟩; refine Hid.out ?_)
        refine (show ∀ {p : Prop}, p → Hid p from fun h => h) ?_
        have D4 := hideIt (D3.out.up hb4)
        have bE : Box2 w4 w3.heap.size 28 (.int .i64 e.1) (.int .i64 e.2) := (Box2.new w3 28 (.int .i64 e.1) (.int .i64 e.2) _ rfl).below hb4 (by simp)
        have r0 := bE.cell0
        have r1 := bE.cell1
        have r2 := D4.out.box.cell1
        have HP := hideIt (l05Put_any es e m a' c' hm16 w4 D4.out.es)
        have hz4 : w1.heap.size < w4.heap.size := D4.out.box.lt
        clear HH D3 q1 q2 hh hb4 bE
        go_wp2_with (go_at_call 63; refine HP.out.mono ?_; rintro x w5 ⟨a5, m5, c5, rfl, ho5, hb5⟩; refine Hid.out ?_)
        refine (show ∀ {p : Prop}, p → Hid p from fun h => h) ?_
        have D5 := hideIt (D4.out.up hb5)
        have D6 := hideIt (D5.out.turn (own_mono ho5 (show w1.heap.size + 1 ≤ w4.heap.size by omega)))
        have HR2 := hideIt (hR.out.put he.out)
        have s0 := D5.out.box.cell1
        have s1 := D5.out.box.frozen 1
        clear HP ho5 hb5 D4 D5 r0 r1 r2
        go_wp2
        exact ⟨⟨k + 1, _, a5, m5, c5, by omega, by go_num, HR2, D6⟩, by simp [intOf]; omega⟩
    · have d1 : decide ((k : Int) < (y : Int)) = false := decide_eq_false (by omega)
      have r0 := D2.out.box.cell0
      have r1 := D2.out.box.cell1
      have s0 := D2.out.res.cell0
      have s1 := D2.out.res.cell1
      have t0 := D2.out.res.frozen 0
      have t1 := D2.out.res.frozen 1
      have hbw : Below w.heap.size w2 ((w2.setCell ⟨w.heap.size, 0, none⟩ (.int .i64 (nn : Int))).setCell ⟨w.heap.size, 1, none⟩ (.slice a' m c')) := ((Below.refl w.heap.size w2).setCell (p := ⟨w.heap.size, 0, none⟩) (Nat.le_refl _) _).setCell (p := ⟨w.heap.size, 1, none⟩) (Nat.le_refl _) _
      have hgs := grown_trans (grown_set w2 w.heap.size 0 (.int .i64 (nn : Int))) (grown_set _ w.heap.size 1 (.slice a' m c'))
      have hgw := grown_up D2.out.grown hbw
      have HF : Hid (((w2.setCell ⟨w.heap.size, 0, none⟩ (.int .i64 (nn : Int))).setCell ⟨w.heap.size, 1, none⟩ (.slice a' m c')).ownsRow w.heap.size 28 2 (.slice a' m c') m (ecells es) ∧ Drawn w ((w2.setCell ⟨w.heap.size, 0, none⟩ (.int .i64 (nn : Int))).setCell ⟨w.heap.size, 1, none⟩ (.slice a' m c')) G a len cap) :=
        ⟨own_mono (own_grown D2.out.own hgs (by omega)) (show w.heap.size ≤ w1.heap.size + 1 by omega), D2.out.cur.grownX hgs (by omega), HCode.out.kept hgw, hgw⟩
      have HR2 : Hid (GR nn es 16) := hR.out.more hk
      clear D2 hbw hgs hgw
      go_wp2
      exact bodyPost_ret (v := .agg #[.int .i64 (nn : Int), .slice a' m c']) (by simp [results, Try.results39, go_sem, s0, s1]) rfl ⟨nn, es, a', m, c', HR2, rfl, HF.out.1, HF.out.2⟩
end Go.Proofs.Ytcmjfnaenkdidaa
namespace Go.Proofs.Ytcmjfnaenkdidaa
open Go.RowKit

theorem big_any (w : World) (a : Option Addr) (len cap : Nat) : Calls Try.prog 8 #[.slice a len cap] w fun e w' => e = .returned (.bool (decide ((1048576 : Int) < (len : Int)))) ∧ w' = w := by
  go_enter Try.func8, Try.ntmps8
  go_wp2
  go_ret
  exact ⟨rfl, rfl⟩

theorem code_up {w w' : World} {a : Option Addr} {len : Nat} (h : Code w w.heap.size a len) (hb : Below w.heap.size w w') : Code w' w'.heap.size a len := by
  rcases h with h | ⟨b, off, ha, hbl, hn, hc⟩
  · exact .inl h
  · have := hb.size
    refine .inr ⟨b, off, ha, by omega, by omega, fun j hj => ?_⟩
    obtain ⟨z, hz, hcell⟩ := hc j hj
    exact ⟨z, hz, by rw [hb.cell hbl]; exact hcell⟩

/-- the results' cells, the graph's box, the cursor -/
structure RAt (w : World) (X : Nat) (a : Option Addr) (len cap nn : Nat) (es : List EdgeV) (a' : Option Addr) (m c' : Nat) (u : World) : Prop where
  cur : Cur u (w.heap.size + 2) a len cap
  code : Code u (w.heap.size + 2) a len
  r0 : Box2 u w.heap.size 26 (.int .i64 0) (.slice none 0 0)
  r1 : Box2 u (w.heap.size + 1) 28 (.int .i64 0) (.int .i64 0)
  box : Box2 u X 26 (.int .i64 (nn : Int)) (.slice a' m c')
  own : u.ownsRow (w.heap.size + 3) 28 2 (.slice a' m c') m (ecells es)
  bel : Below w.heap.size w u
  high : w.heap.size + 3 ≤ X
theorem RAt.drawn {w : World} {X : Nat} {a : Option Addr} {len cap nn : Nat} {es : List EdgeV} {a' : Option Addr} {m c' : Nat} {u v : World} (h : RAt w X a len cap nn es a' m c' u) (d : Drawn u v (w.heap.size + 2) a len cap) : RAt w X a len cap nn es a' m c' v :=
  ⟨d.cur, d.code, h.r0.grown d.grown (by simp), h.r1.grown d.grown (by simp), h.box.grown d.grown (by have := h.high; simp; omega), own_grown h.own d.grown (by omega), h.bel.grown d.grown h.bel.size (fun j hj => by simp at hj; omega), h.high⟩
theorem RAt.drew {w : World} {X : Nat} {a : Option Addr} {len cap nn : Nat} {es : List EdgeV} {a' : Option Addr} {m c' : Nat} {u : World} (h : RAt w X a len cap nn es a' m c' u) : RAt w X a len cap nn es a' m c' u.drew :=
  ⟨h.cur, h.code, h.r0, h.r1, h.box, h.own.drew, h.bel.drew, h.high⟩

set_option maxRecDepth 100000 in
set_option maxHeartbeats 8000000 in
theorem drawRightGraph_any (w : World) (a : Option Addr) (len cap : Nat) (hl : len ≤ 1048576) (hcode : Code w w.heap.size a len) :
    Calls Try.prog 9 #[.slice a len cap] w fun x w' => ∃ (nn : Nat) (es : List EdgeV) (e : EdgeV) (a' : Option Addr) (m c' : Nat), Hid (GR nn es 16) ∧ Hid (eB (nn : Int) e = true) ∧
      x = .returned (.tuple #[.agg #[.int .i64 (nn : Int), .slice a' m c'], .agg #[.int .i64 e.1, .int .i64 e.2]]) ∧ w'.ownsRow w.heap.size 28 2 (.slice a' m c') m (ecells es) ∧ Below w.heap.size w w' := by
  have hb0 : Below w.heap.size w ((w.alloc (.cells #[.int .i64 0, .slice none 0 0] 26)).alloc (.cells #[.int .i64 0, .int .i64 0] 28)) := ((Below.refl _ _).alloc (Nat.le_refl _) _).alloc (by simp) _
  have HN := hideIt (l01New_any _ a len cap hl (code_up hcode hb0))
  have HG := hideIt (fun (W : World) (G : Nat) (hc : Cur W G a len cap) (hd : Code W G a len) => l05Graph_any W G a len cap hl hc hd)
  have HE := hideIt (fun (nn : Nat) (h2 : 2 ≤ nn) (h12 : nn ≤ 12) (W : World) (G : Nat) (hc : Cur W G a len cap) (hd : Code W G a len) => l05Edge_any nn h2 h12 W G a len cap hl hc hd)
  have R0 : Box2 ((w.alloc (.cells #[.int .i64 0, .slice none 0 0] 26)).alloc (.cells #[.int .i64 0, .int .i64 0] 28)) w.heap.size 26 (.int .i64 0) (.slice none 0 0) := (Box2.new w _ _ _ _ rfl).alloc _
  have R1 : Box2 ((w.alloc (.cells #[.int .i64 0, .slice none 0 0] 26)).alloc (.cells #[.int .i64 0, .int .i64 0] 28)) (w.heap.size + 1) 28 (.int .i64 0) (.int .i64 0) := Box2.new _ _ _ _ _ (by simp)
  have hs0 : ((w.alloc (.cells #[.int .i64 0, .slice none 0 0] 26)).alloc (.cells #[.int .i64 0, .int .i64 0] 28)).heap.size = w.heap.size + 2 := by simp
  rw [hs0] at HN
  clear hcode
  go_enter Try.func9, Try.ntmps9
  go_wp2_with (go_at_call 38; refine HN.out.mono ?_; rintro x w1 ⟨rfl, hc, hd, hb, hsz⟩; refine Hid.out ?_)
  refine (show ∀ {p : Prop}, p → Hid p from fun h => h) ?_
  have B1 : Below w.heap.size w w1 := hb0.trans (hb.mono (by omega))
  have R0' := R0.below hb (by omega)
  have R1' := R1.below hb (by omega)
  have HG1 := hideIt (HG.out w1 _ hc hd)
  clear HN HG hc hd hb hb0 R0 R1 hs0
  go_wp2_with (go_at_call 39; refine HG1.out.mono ?_; rintro x w2 ⟨nn, es, a', m, c', hR, rfl, ho2, d2⟩; refine Hid.out ?_)
  refine (show ∀ {p : Prop}, p → Hid p from fun h => h) ?_
  have hz2 := d2.grown.size
  have RA : RAt w w2.heap.size a len cap nn es a' m c' (w2.alloc (.cells #[.int .i64 (nn : Int), .slice a' m c'] 26)) := by
    have hu : Below w2.heap.size w2 (w2.alloc (.cells #[.int .i64 (nn : Int), .slice a' m c'] 26)) := (Below.refl _ _).alloc (Nat.le_refl _) _
    have q0 := R0'.grown d2.grown (by simp)
    have q1 := R1'.grown d2.grown (by simp)
    exact ⟨d2.cur.up hu, d2.code.up hu, q0.below hu q0.lt, q1.below hu q1.lt, Box2.new _ _ _ _ _ rfl, own_up (own_mono ho2 (by omega)) hu, (B1.grown d2.grown B1.size (fun j hj => by simp at hj; omega)).trans (hu.mono (by have := B1.size; omega)), by omega⟩
  have RD := RA.drew
  have h2 := hR.out.n2
  have h12 := hR.out.n12
  have HE2 := hideIt (HE.out nn h2 h12 _ _ RD.cur RD.code)
  have HK : Hid (∀ u, RAt w w2.heap.size a len cap nn es a' m c' u → u.cell? ⟨w2.heap.size, 0, none⟩ = some (.int .i64 (nn : Int)) ∧ u.cell? ⟨w2.heap.size, 1, none⟩ = some (.slice a' m c')) := fun u hu => ⟨hu.box.cell0, hu.box.cell1⟩
  have hX : w.heap.size + 3 ≤ w2.heap.size := by omega
  have HO := hideIt RA.own
  clear HG1 HE ho2 d2 R0' R1' B1 RA
  go_wp2
  go_region_held3 (fun u => u.cell? ⟨w2.heap.size, 0, none⟩ = some (.int .i64 (nn : Int)) ∧ u.cell? ⟨w2.heap.size, 1, none⟩ = some (.slice a' m c'))
    (first | exact HK.out _ R3 | exact HK.out _ RD | (refine ⟨?_, ?_⟩ <;> (repeat rw [set_other (by omega)]) <;> first | exact (HK.out _ R3).1 | exact (HK.out _ R3).2 | exact (HK.out _ RD).1 | exact (HK.out _ RD).2))
    ((go_at_call 40; refine HE2.out.mono ?_; rintro x w3 ⟨e, he, rfl, d3⟩; have R3 := RD.drawn d3; have u0 := R3.r0.cell0; have u1 := R3.r0.cell1; have u2 := R3.r0.frozen 0; have u3 := R3.r0.frozen 1; have v0 := R3.r1.cell0; have v1 := R3.r1.cell1; have v2 := R3.r1.frozen 0; have v3 := R3.r1.frozen 1))
  all_goals
    have HF : Hid (((((w3.setCell ⟨w.heap.size, 0, none⟩ (.int .i64 (nn : Int))).setCell ⟨w.heap.size, 1, none⟩ (.slice a' m c')).setCell ⟨w.heap.size + 1, 0, none⟩ (.int .i64 e.1)).setCell ⟨w.heap.size + 1, 1, none⟩ (.int .i64 e.2)).ownsRow w.heap.size 28 2 (.slice a' m c') m (ecells es) ∧
        Below w.heap.size w ((((w3.setCell ⟨w.heap.size, 0, none⟩ (.int .i64 (nn : Int))).setCell ⟨w.heap.size, 1, none⟩ (.slice a' m c')).setCell ⟨w.heap.size + 1, 0, none⟩ (.int .i64 e.1)).setCell ⟨w.heap.size + 1, 1, none⟩ (.int .i64 e.2))) :=
      ⟨own_mono (own_setLow (own_setLow (own_setLow (own_setLow R3.own w.heap.size 0 _ (by omega)) w.heap.size 1 _ (by omega)) (w.heap.size + 1) 0 _ (by omega)) (w.heap.size + 1) 1 _ (by omega)) (by omega),
        (((R3.bel.setCell (p := ⟨w.heap.size, 0, none⟩) (Nat.le_refl _) _).setCell (p := ⟨w.heap.size, 1, none⟩) (Nat.le_refl _) _).setCell (p := ⟨w.heap.size + 1, 0, none⟩) (Nat.le_succ _) _).setCell (p := ⟨w.heap.size + 1, 1, none⟩) (Nat.le_succ _) _⟩
    have g0 : ((((w3.setCell ⟨w.heap.size, 0, none⟩ (.int .i64 (nn : Int))).setCell ⟨w.heap.size, 1, none⟩ (.slice a' m c')).setCell ⟨w.heap.size + 1, 0, none⟩ (.int .i64 e.1)).setCell ⟨w.heap.size + 1, 1, none⟩ (.int .i64 e.2)).cell? ⟨w.heap.size, 0, none⟩ = some (.int .i64 (nn : Int)) := by
      rw [set_other (by omega), set_other (by omega)]; simp [go_sem, u0]
    have g1 : ((((w3.setCell ⟨w.heap.size, 0, none⟩ (.int .i64 (nn : Int))).setCell ⟨w.heap.size, 1, none⟩ (.slice a' m c')).setCell ⟨w.heap.size + 1, 0, none⟩ (.int .i64 e.1)).setCell ⟨w.heap.size + 1, 1, none⟩ (.int .i64 e.2)).cell? ⟨w.heap.size, 1, none⟩ = some (.slice a' m c') := by
      rw [set_other (by omega), set_other (by omega)]; simp [go_sem, u1]
    clear R3 RD d3
    go_wp2
    exact bodyPost_ret (v := .tuple #[.agg #[.int .i64 (nn : Int), .slice a' m c'], .agg #[.int .i64 e.1, .int .i64 e.2]]) (by simp [results, Try.results9, go_sem, g0, g1, v0, v1]) rfl ⟨nn, es, e, a', m, c', hR, he, rfl, HF.out.1, HF.out.2⟩
end Go.Proofs.Ytcmjfnaenkdidaa
namespace Go.Proofs.Ytcmjfnaenkdidaa
open Go.RowKit

/-- a list of ints stands in memory below B -/
def Is (w : World) (B : Nat) (a : Option Addr) (n : Nat) (ls : List Int) : Prop :=
  ls.length = n ∧ (n = 0 ∨ ∃ b off, a = some ⟨b, off, none⟩ ∧ b < B ∧ ∀ (j : Nat) (x : Int), ls[j]? = some x → w.cell? ⟨b, off + j, none⟩ = some (.int .i64 x))
theorem Is.below {w w' : World} {B C : Nat} {a : Option Addr} {n : Nat} {ls : List Int} (h : Is w B a n ls) (hb : Below C w w') (hB : B ≤ C) : Is w' B a n ls := by
  refine ⟨h.1, h.2.imp id ?_⟩
  rintro ⟨b, off, h1, h2, h3⟩
  exact ⟨b, off, h1, h2, fun j x hx => by rw [hb.cell (p := ⟨b, _, none⟩) (by show b < _; omega)]; exact h3 j x hx⟩
theorem Is.mono {w : World} {B C : Nat} {a : Option Addr} {n : Nat} {ls : List Int} (h : Is w B a n ls) (hB : B ≤ C) : Is w C a n ls := by
  refine ⟨h.1, h.2.imp id ?_⟩
  rintro ⟨b, off, h1, h2, h3⟩
  exact ⟨b, off, h1, by omega, h3⟩
theorem Is.up {w w' : World} {a : Option Addr} {n : Nat} {ls : List Int} (h : Is w w.heap.size a n ls) (hb : Below w.heap.size w w') : Is w' w'.heap.size a n ls :=
  (h.below hb (Nat.le_refl _)).mono hb.size
def ic (ls : List Int) : List Value := ls.map fun x => Value.int .i64 x
theorem ic_len (ls : List Int) : (ic ls).length = ls.length := by simp [ic]
theorem ic_snoc (ls : List Int) (x : Int) : ic (ls ++ [x]) = ic ls ++ [.int .i64 x] := by simp [ic]
theorem ic_at {ls : List Int} {j : Nat} {x : Int} (h : ls[j]? = some x) : (ic ls)[j]? = some (.int .i64 x) := by rw [ic, List.getElem?_map, h]; rfl
theorem Is_of_own {w : World} {B n c : Nat} {a : Option Addr} {ls : List Int} (h : w.ownsRow B 3 1 (.slice a n c) n (ic ls)) : Is w w.heap.size a n ls := by
  have hl := h.1
  rw [ic_len] at hl
  refine ⟨by omega, ?_⟩
  rcases h.2 with ⟨hv, h0⟩ | ⟨g, cap, cur, hv, hrest⟩
  · exact .inl h0
  · simp at hv
    obtain ⟨rfl, rfl⟩ := hv
    refine .inr ⟨g, 0, rfl, (h.lt g rfl).2, fun j x hx => ?_⟩
    have hj : j < ls.length := (List.getElem?_eq_some_iff.1 hx).1
    rw [Nat.zero_add, h.cellAt j (by omega)]
    exact ic_at hx
theorem info3i : (Try.prog.info? 3).map (fun i => (i.zero, i.size, i.bytes)) = some (some (.int .i64 0), 1, 8) := by kernel_rfl

set_option maxHeartbeats 1000000 in
theorem eqIntS_same (ls : List Int) (n : Nat) (a a' : Option Addr) (c c' : Nat) (hn : n ≤ 1048576) (w : World) (h : Is w w.heap.size a n ls) (h' : Is w w.heap.size a' n ls) :
    Calls Try.prog 24 #[.slice a n c, .slice a' n c'] w fun e w' => e = .returned (.bool true) ∧ Below w.heap.size w w' := by
  obtain ⟨hlen, hrow⟩ := h
  obtain ⟨_, hrow'⟩ := h'
  have HR := hideIt hrow
  have HR' := hideIt hrow'
  clear hrow hrow'
  have dn : ((n : Int) != (n : Int)) = false := by simp
  go_enter Try.func24, Try.ntmps24
  go_wp2
  go_loopw [5] (fun i wr => ∃ (k : Nat), k ≤ n ∧ i = .int .i64 (k : Int) ∧ Below w.heap.size w wr) (fun i _ => n - (intOf i).toNat)
  case atStart => exact ⟨0, by omega, rfl, Below.refl _ _⟩
  case round =>
    obtain ⟨k, hk, rfl, hb⟩ := hrel
    by_cases hlt : k < n
    · rcases HR.out with hz | ⟨b, off, rfl, hbl, hc⟩
      · omega
      · rcases HR'.out with hz | ⟨b', off', rfl, hbl', hc'⟩
        · omega
        · obtain ⟨f, hf⟩ : ∃ f, ls[k]? = some f := ⟨ls[k]'(by omega), List.getElem?_eq_getElem (by omega)⟩
          have e0 : wr.cell? ⟨b, off + k, none⟩ = some (.int .i64 f) := by rw [hb.cell hbl]; exact hc k f hf
          have e1 : wr.cell? ⟨b', off' + k, none⟩ = some (.int .i64 f) := by rw [hb.cell hbl']; exact hc' k f hf
          have b1 : (0 : Int) ≤ (k : Int) := by omega
          have b2 : (k : Int) < (n : Int) := by omega
          have d1 : (f != f) = false := by simp
          clear hc hc' hf
          go_wp2
          go_quiet (fail)
          go_wp2
          exact ⟨⟨k + 1, by omega, by go_num, below_drewN hb _⟩, by simp [intOf]; omega⟩
    · go_wp2
      go_ret
      exact ⟨rfl, hb⟩

/-- n marks from k0 on -/
def imarks (k0 n : Nat) : List Int := (List.range n).map fun (t : Nat) => (k0 : Int) + (t : Int)
theorem imarks_snoc (k0 n : Nat) : imarks k0 (n + 1) = imarks k0 n ++ [(k0 : Int) + (n : Int)] := by simp [imarks, List.range_succ]
theorem imarks_at (k0 n j : Nat) (h : j < n) : (imarks k0 n)[j]? = some ((k0 : Int) + (j : Int)) := by simp [imarks, h]

theorem markIntS_zero (a : Option Addr) (c : Nat) (k0 : Int) (w : World) :
    Calls Try.prog 29 #[.slice a 0 c, .int .i64 k0] w fun e w' => e = .returned (.int .i64 k0) ∧ w' = w := by
  go_enter Try.func29, Try.ntmps29
  go_wp2
  refine wp_loop_rounds 1 ?_
  rw [rounds_succ]
  go_wp2
  go_ret
  exact ⟨rfl, rfl⟩

set_option maxHeartbeats 1000000 in
theorem markIntS_any (base g c n k0 : Nat) (xs0 : List Value) (hn : n ≤ 1048576) (hk1 : k0 ≤ 10000000) (w : World) (h : w.ownsRow base 3 1 (.slice (some ⟨g, 0, none⟩) n c) n xs0) :
    Calls Try.prog 29 #[.slice (some ⟨g, 0, none⟩) n c, .int .i64 (k0 : Int)] w fun e w' => e = .returned (.int .i64 ((k0 : Int) + (n : Int))) ∧ w'.ownsRow base 3 1 (.slice (some ⟨g, 0, none⟩) n c) n (ic (imarks k0 n)) ∧ w.grownBy w' (some g) := by
  have H0 := hideIt h
  clear h
  go_enter Try.func29, Try.ntmps29
  go_wp2
  go_loopw [1, 5] (fun q i wr => ∃ (k : Nat) (xs : List Value), k ≤ n ∧ i = .int .i64 (k : Int) ∧ q = .int .i64 ((k0 : Int) + (k : Int)) ∧ Hid (xs.take k = ic (imarks k0 k)) ∧ wr.ownsRow base 3 1 (.slice (some ⟨g, 0, none⟩) n c) n xs ∧ w.grownBy wr (some g)) (fun _ i _ => n - (intOf i).toNat)
  case atStart => exact ⟨0, xs0, by omega, rfl, by simp, by show _ = _; simp [ic, imarks], H0.out, ⟨rfl, rfl, rfl, Nat.le_refl _, fun _ _ _ => rfl⟩⟩
  case round =>
    obtain ⟨k, xs, hk, rfl, rfl, hx, hown, hg⟩ := hrel
    have hl3 : xs.length = n * 1 := hown.1
    by_cases hlt : k < n
    · have b1 : (0 : Int) ≤ (k : Int) := by omega
      have b2 : (k : Int) < (n : Int) := by omega
      have f0 := hown.frozenAt k
      obtain ⟨y0, x0⟩ : ∃ y, wr.cell? ⟨g, k, none⟩ = some y := ⟨_, by rw [hown.cellAt k (by omega)]; exact List.getElem?_eq_getElem (by omega)⟩
      have hst := hown.stored k (.int .i64 ((k0 : Int) + (k : Int)))
      have HO2 := hideIt hst.1
      have HG2 := hideIt (grown_trans hg hst.2)
      have HX : Hid ((xs.set k (.int .i64 ((k0 : Int) + (k : Int)))).take (k + 1) = ic (imarks k0 (k + 1))) := by
        show _ = _
        rw [List.take_add_one, List.take_set_of_le (Nat.le_refl _), hx.out, imarks_snoc, ic_snoc]
        simp [show k < xs.length by omega]
      clear hst hx hown hg
      go_wp2
      exact ⟨⟨k + 1, _, by omega, by go_num, by go_num, HX, HO2.out, HG2.out⟩, by simp [intOf]; omega⟩
    · obtain rfl : k = n := by omega
      have HX : Hid (xs = ic (imarks k0 k)) := by
        show _ = _
        have := hx.out
        rw [List.take_of_length_le (by omega)] at this
        exact this
      have HO := hideIt hown
      clear hx hown
      go_wp2
      go_ret
      exact ⟨rfl, by rw [← HX.out]; exact HO.out, hg⟩

set_option maxHeartbeats 1000000 in
theorem heldIntS_any (n k0 : Nat) (a : Option Addr) (c : Nat) (hn : n ≤ 1048576) (hk1 : k0 ≤ 10000000) (w : World) (h : Is w w.heap.size a n (imarks k0 n)) :
    Calls Try.prog 30 #[.slice a n c, .int .i64 (k0 : Int)] w fun e w' => e = .returned (.int .i64 ((k0 : Int) + (n : Int))) ∧ w' = w := by
  obtain ⟨_, hrow⟩ := h
  have HR := hideIt hrow
  clear hrow
  go_enter Try.func30, Try.ntmps30
  go_wp2
  go_loopw [1, 5] (fun kk i wr => ∃ j : Nat, j ≤ n ∧ i = .int .i64 (j : Int) ∧ kk = .int .i64 ((k0 : Int) + (j : Int)) ∧ wr = w) (fun _ i _ => n - (intOf i).toNat)
  case atStart => exact ⟨0, by omega, rfl, by simp, rfl⟩
  case round =>
    obtain ⟨j, hj, rfl, rfl, hw⟩ := hrel
    have hw' := hw.symm
    subst hw'
    clear hw
    by_cases hlt : j < n
    · rcases HR.out with hz | ⟨b, off, rfl, hbl, hc⟩
      · omega
      · have c0 := hc j _ (imarks_at k0 n j hlt)
        have b1 : (0 : Int) ≤ (j : Int) := by omega
        have b2 : (j : Int) < (n : Int) := by omega
        have d1 : ((k0 : Int) + (j : Int) != (k0 : Int) + (j : Int)) = false := by simp
        clear hc
        go_wp2
        exact ⟨⟨j + 1, by omega, by go_num, by go_num, by first | trivial | rfl⟩, by simp [intOf]; omega⟩
    · obtain rfl : j = n := by omega
      go_wp2
      go_ret
      exact ⟨rfl, rfl⟩

/-- the answer of Around, Labels: a list of the answer's own -/
def IAns (w : World) (ls : List Int) (e : Ending) (w' : World) : Prop :=
  ∃ a m c, e = .returned (.slice a m c) ∧ w'.ownsRow w.heap.size 3 1 (.slice a m c) m (ic ls) ∧ Below w.heap.size w w'

/-- a list that is ours, in blocks lo .. hi -/
structure RBox (u : World) (lo hi : Nat) (a : Option Addr) (m c : Nat) (ls : List Int) : Prop where
  own : u.ownsRow lo 3 1 (.slice a m c) m (ic ls)
  row : ∀ g, (Value.slice a m c).ownBlock = some g → g < hi
  there : hi ≤ u.heap.size
theorem RBox.rng {u v : World} {lo hi l2 h2 : Nat} {a : Option Addr} {m c : Nat} {ls : List Int} (h : RBox u lo hi a m c ls) (hr : Rng l2 h2 u v) (ho : hi ≤ l2 ∨ h2 ≤ lo) : RBox v lo hi a m c ls := by
  have hth := h.there
  refine ⟨⟨h.own.1, ?_⟩, h.row, Nat.le_trans hth hr.size⟩
  rcases h.own.2 with h3 | ⟨g, cap, cur, hv, hg, hcur, hrest⟩
  · exact .inl h3
  · have hgh := h.row g (by rw [hv]; rfl)
    refine .inr ⟨g, cap, cur, hv, hg, ?_, hrest⟩
    rw [hr.block g (by omega) (by omega)]
    exact hcur
theorem RBox.up {u v : World} {lo hi : Nat} {a : Option Addr} {m c : Nat} {ls : List Int} (h : RBox u lo hi a m c ls) (hb : Below u.heap.size u v) : RBox v lo hi a m c ls :=
  h.rng (l2 := hi) (h2 := hi) (Rng.of_below hb) (.inl (Nat.le_refl _))
theorem RBox.is {u : World} {lo hi : Nat} {a : Option Addr} {m c : Nat} {ls : List Int} (h : RBox u lo hi a m c ls) : Is u u.heap.size a m ls := Is_of_own h.own
theorem RBox.len {u : World} {lo hi : Nat} {a : Option Addr} {m c : Nat} {ls : List Int} (h : RBox u lo hi a m c ls) : ls.length = m := by
  have := h.own.1; rw [ic_len] at this; omega
theorem RBox.laid {u : World} {lo : Nat} {a : Option Addr} {m c : Nat} {ls : List Int} (ho : u.ownsRow lo 3 1 (.slice a m c) m (ic ls)) : RBox u lo u.heap.size a m c ls :=
  ⟨ho, fun g hg => (ho.lt g hg).2, Nat.le_refl _⟩
theorem eqRB {u : World} {lo hi lo' hi' : Nat} {a a' : Option Addr} {m c m' c' : Nat} {ls : List Int} (h : RBox u lo hi a m c ls) (h' : RBox u lo' hi' a' m' c' ls) (hm : m ≤ 1048576) :
    Calls Try.prog 24 #[.slice a m c, .slice a' m' c'] u fun e v => e = .returned (.bool true) ∧ Below u.heap.size u v := by
  have e : m' = m := by rw [← h.len, ← h'.len]
  subst e
  exact eqIntS_same ls m' a a' c c' hm u h.is h'.is
theorem markRB {u : World} {lo hi : Nat} {a : Option Addr} {m c : Nat} {ls : List Int} (h : RBox u lo hi a m c ls) (k0 : Nat) (hm : m ≤ 1048576) (h1 : k0 ≤ 10000000) :
    Calls Try.prog 29 #[.slice a m c, .int .i64 (k0 : Int)] u fun e v => e = .returned (.int .i64 ((k0 : Int) + (m : Int))) ∧ RBox v lo hi a m c (imarks k0 m) ∧ Rng lo hi u v := by
  have hth := h.there
  rcases h.own.2 with ⟨hv, hm0⟩ | ⟨g, cap, cur, hv, hg, hcur, hrest⟩
  · subst hm0
    refine (markIntS_zero a c (k0 : Int) u).mono fun e v ⟨he, hb⟩ => ⟨by rw [he]; simp, ?_, by rw [hb]; exact Rng.of_below (Below.refl _ _)⟩
    have hg0 : ls = [] := List.length_eq_zero_iff.1 h.len
    subst hg0
    rw [hb]
    exact h
  · have hv' := hv
    simp at hv'
    obtain ⟨rfl, rfl⟩ := hv'
    have hgh := h.row g rfl
    refine (markIntS_any lo g c m k0 _ hm h1 u h.own).mono fun e v ⟨he, ho, hgr⟩ => ⟨he, ⟨ho, h.row, Nat.le_trans hth hgr.size⟩, Rng.of_grown hgr hg hgh⟩
theorem heldRB {u : World} {lo hi : Nat} {a : Option Addr} {m c : Nat} (k0 : Nat) (h : RBox u lo hi a m c (imarks k0 m)) (hm : m ≤ 1048576) (h1 : k0 ≤ 10000000) :
    Calls Try.prog 30 #[.slice a m c, .int .i64 (k0 : Int)] u fun e v => e = .returned (.int .i64 ((k0 : Int) + (m : Int))) ∧ v = u :=
  heldIntS_any m k0 a c hm h1 u h.is
end Go.Proofs.Ytcmjfnaenkdidaa
namespace Go.Proofs.Ytcmjfnaenkdidaa
open Go.RowKit

/-- nothing of wb has turned, and the row is ours -/
structure ISt (wb : World) (a : Option Addr) (m c : Nat) (ls : List Int) (u : World) : Prop where
  own : u.ownsRow wb.heap.size 3 1 (.slice a m c) m (ic ls)
  bel : Below wb.heap.size wb u
theorem ISt.size {wb : World} {a : Option Addr} {m c : Nat} {ls : List Int} {u : World} (h : ISt wb a m c ls u) : wb.heap.size ≤ u.heap.size := h.bel.size
theorem ISt.len {wb : World} {a : Option Addr} {m c : Nat} {ls : List Int} {u : World} (h : ISt wb a m c ls u) : ls.length = m := by have := h.own.1; rw [ic_len] at this; omega
theorem ISt.up {wb : World} {a : Option Addr} {m c : Nat} {ls : List Int} {u v : World} (h : ISt wb a m c ls u) (hb : Below u.heap.size u v) : ISt wb a m c ls v :=
  ⟨own_up h.own hb, h.bel.trans (hb.mono h.size)⟩
theorem ISt.app {wb : World} {a : Option Addr} {m c : Nat} {ls : List Int} {u : World} (h : ISt wb a m c ls u) {x : Int} {o : Obj} {v : Value} {u' : World}
    (ho : u'.ownsRow wb.heap.size 3 1 v (m + 1) (ic ls ++ [.int .i64 x])) (hg : (u.alloc o).grownBy u' (Value.slice a m c).ownBlock) :
    ∃ a' c', v = .slice a' (m + 1) c' ∧ ISt wb a' (m + 1) c' (ls ++ [x]) u' := by
  obtain ⟨a', c', rfl⟩ := own_form ho
  rw [← ic_snoc] at ho
  refine ⟨a', c', rfl, ho, ?_⟩
  exact (h.bel.alloc h.size _).grown hg (by have := h.size; simp; omega) (fun j hj => (h.own.lt j hj).1)
theorem ISt.start (wb : World) : ISt wb (some ⟨wb.heap.size, 0, none⟩) 0 0 [] (wb.alloc (.cells #[] 3)) := by
  refine ⟨?_, (Below.refl _ _).alloc (Nat.le_refl _) _⟩
  have h0 := World.ownsRow_lit (base := wb.heap.size) (e := 3) (size := 1) wb #[] 0 (Nat.le_refl _) (by unfold maxLen; omega) (by simp)
  simpa [ic] using h0
theorem newsI (w : World) (x : Int) : ∀ j u, ([Value.int .i64 x] : List Value)[j]? = some u → (w.alloc (.cells #[.int .i64 x] 3)).cell? ((⟨w.heap.size, 0, none⟩ : Addr).add j) = some u := by
  intro j u hj
  rcases j with _ | j
  · simp at hj; subst hj; simp [Addr.add]
  · simp at hj

/-- the world behind a graph's box -/
def wG (w : World) (N : Int) (a : Option Addr) (n c : Nat) : World := w.alloc (.cells #[.int .i64 N, .slice a n c] 26)
theorem wG_size (w : World) (N : Int) (a : Option Addr) (n c : Nat) : (wG w N a n c).heap.size = w.heap.size + 1 := by simp [wG]
theorem wG_below (w : World) (N : Int) (a : Option Addr) (n c : Nat) : Below w.heap.size w (wG w N a n c) := (Below.refl _ _).alloc (Nat.le_refl _) _
/-- nothing of it has turned -/
def InG (w : World) (N : Int) (a : Option Addr) (n c : Nat) (u : World) : Prop := Good (wG w N a n c) u
theorem InG.start (w : World) (N : Int) (a : Option Addr) (n c : Nat) : InG w N a n c (wG w N a n c) := Good.refl _
theorem InG.up {w : World} {N : Int} {a : Option Addr} {n c : Nat} {u v : World} (h : InG w N a n c u) (hb : Below u.heap.size u v) : InG w N a n c v := Good.up h hb
theorem InG.below {w : World} {N : Int} {a : Option Addr} {n c : Nat} {u : World} (h : InG w N a n c u) : Below w.heap.size w u := (wG_below w N a n c).trans (Below.mono h (by rw [wG_size]; omega))
theorem InG.size {w : World} {N : Int} {a : Option Addr} {n c : Nat} {u : World} (h : InG w N a n c u) : w.heap.size + 1 ≤ u.heap.size := by have := Good.size h; rw [wG_size] at this; exact this
theorem InG.cells {w : World} {N : Int} {a : Option Addr} {n c : Nat} {u : World} (h : InG w N a n c u) : u.cell? ⟨w.heap.size, 0, none⟩ = some (.int .i64 N) ∧ u.cell? ⟨w.heap.size, 1, none⟩ = some (.slice a n c) := by
  have hs := wG_size w N a n c
  refine ⟨?_, ?_⟩
  · rw [Good.cell h (by omega)]; simp [wG]
  · rw [Good.cell h (by omega)]; simp [wG]
/-- a row made since u0 stands in a world since w -/
theorem ISt.inG {w : World} {N : Int} {a : Option Addr} {n c : Nat} {u0 : World} (h0 : InG w N a n c u0) {a' : Option Addr} {m c' : Nat} {ls : List Int} {u : World} (h : ISt u0 a' m c' ls u) : InG w N a n c u := h0.up h.bel
theorem ISt.ans {w : World} {N : Int} {a : Option Addr} {n c : Nat} {u0 : World} (h0 : InG w N a n c u0) {a' : Option Addr} {m c' : Nat} {ls : List Int} {u : World} (h : ISt u0 a' m c' ls u) : IAns w ls (.returned (.slice a' m c')) u :=
  ⟨a', m, c', rfl, own_mono h.own (by have := h0.size; omega), (h.inG h0).below⟩
theorem ians_nil {w u : World} (h : Below w.heap.size w u) : IAns w [] (.returned (.slice none 0 0)) u := ⟨none, 0, 0, rfl, World.ownsRow_nil _ _ _ _, h⟩
end Go.Proofs.Ytcmjfnaenkdidaa
namespace Go.Proofs.Ytcmjfnaenkdidaa
open Go.RowKit

set_option maxHeartbeats 1000000 in
theorem toIntS_any (ls : List Int) (n : Nat) (a : Option Addr) (cap : Nat) (hn : n ≤ 1048576) (w : World) (h : Is w w.heap.size a n ls) :
    Calls Try.prog 37 #[.slice a n cap] w fun e w' => ∃ g, e = .returned (.slice (some ⟨g, 0, none⟩) n n) ∧ w'.ownsRow w.heap.size 3 1 (.slice (some ⟨g, 0, none⟩) n n) n (ic ls) ∧ Below w.heap.size w w' := by
  obtain ⟨i0, hi, hz0, hz1, hz2⟩ := info_parts info3i
  obtain ⟨hlen, hrow⟩ := h
  have hmk : ∀ u : World, (Instr.makeSlice 31 (.int .i64 (n : Int)) (.int .i64 (n : Int))).run Try.prog u =
      .ok (.slice (some ⟨u.heap.size, 0, none⟩) n n) (u.alloc (.cells (madeCells #[.int .i64 0] n) 3)) := fun u => by
    have h := run_make (P := Try.prog) u 31 3 i0 _ Try.underlying31 hi hz0 .i64 .i64 (n : Int) (n : Int) (by omega) (by omega) (by rw [hz2]; omega) (by omega)
    rw [Int.toNat_natCast] at h
    simpa [hz1, Value.cells] using h
  have HR := hideIt hrow
  clear hrow
  go_enter Try.func37, Try.ntmps37
  go_wp2
  go_loopw [4] (fun i wr => ∃ (k : Nat) (xs : List Value), k ≤ n ∧ i = .int .i64 (k : Int) ∧ Hid (xs.take k = ic (ls.take k)) ∧ wr.ownsRow w.heap.size 3 1 (.slice (some ⟨w.heap.size, 0, none⟩) n n) n xs ∧ Below w.heap.size w wr)
    (fun i _ => n - (intOf i).toNat)
  case atStart => exact ⟨0, _, by omega, rfl, by show _ = _; simp [ic], World.ownsRow_lit (base := w.heap.size) (e := 3) (size := 1) w (madeCells #[.int .i64 0] n) n (Nat.le_refl _) (by unfold maxLen; omega) (by simp [madeCells]), (Below.refl _ _).alloc (Nat.le_refl _) _⟩
  case round =>
    obtain ⟨k, xs, hk, rfl, hx, hown, hb⟩ := hrel
    have hl3 : xs.length = n * 1 := hown.1
    by_cases hlt : k < n
    · rcases HR.out with hz | ⟨b, off, rfl, hbl, hc⟩
      · omega
      · obtain ⟨f, hf⟩ : ∃ f, ls[k]? = some f := ⟨ls[k]'(by omega), List.getElem?_eq_getElem (by omega)⟩
        have e0 : wr.cell? ⟨b, off + k, none⟩ = some (.int .i64 f) := by rw [hb.cell hbl]; exact hc k f hf
        have b1 : (0 : Int) ≤ (k : Int) := by omega
        have b2 : (k : Int) < (n : Int) := by omega
        have HTk := hideIt (take_snocF ls k f hf)
        have f0 := hown.frozenAt k
        have x0 : wr.cell? ⟨w.heap.size, k, none⟩ = some (xs[k]'(by omega)) := by rw [hown.cellAt k (by omega)]; exact List.getElem?_eq_getElem (by omega)
        clear hc hf
        go_wp2
        refine ⟨⟨k + 1, xs.set k (.int .i64 f), by omega, by go_num, ?_, (hown.stored k _).1, hb.setCell (Nat.le_refl _) _⟩, by simp [intOf]; omega⟩
        show _ = _
        rw [HTk.out, List.take_add_one, List.take_set_of_le (Nat.le_refl _), hx.out]
        simp [ic, show k < xs.length by omega]
    · have e : ls.take k = ls := List.take_of_length_le (by omega)
      have HX : Hid (xs = ic ls) := by
        show _ = _
        have := hx.out
        rw [e, List.take_of_length_le (by omega)] at this
        exact this
      have HO := hideIt hown
      clear hx e hown hl3
      go_wp2
      go_ret
      exact ⟨w.heap.size, rfl, by rw [← HX.out]; exact HO.out, hb⟩

/-- a list of edges that is ours, in blocks lo .. hi -/
structure EBox (u : World) (lo hi : Nat) (a : Option Addr) (m c : Nat) (es : List EdgeV) : Prop where
  own : u.ownsRow lo 28 2 (.slice a m c) m (ecells es)
  row : ∀ g, (Value.slice a m c).ownBlock = some g → g < hi
  there : hi ≤ u.heap.size
theorem EBox.rng {u v : World} {lo hi l2 h2 : Nat} {a : Option Addr} {m c : Nat} {es : List EdgeV} (h : EBox u lo hi a m c es) (hr : Rng l2 h2 u v) (ho : hi ≤ l2 ∨ h2 ≤ lo) : EBox v lo hi a m c es := by
  have hth := h.there
  refine ⟨⟨h.own.1, ?_⟩, h.row, Nat.le_trans hth hr.size⟩
  rcases h.own.2 with h3 | ⟨g, cap, cur, hv, hg, hcur, hrest⟩
  · exact .inl h3
  · have hgh := h.row g (by rw [hv]; rfl)
    refine .inr ⟨g, cap, cur, hv, hg, ?_, hrest⟩
    rw [hr.block g (by omega) (by omega)]
    exact hcur
theorem EBox.up {u v : World} {lo hi : Nat} {a : Option Addr} {m c : Nat} {es : List EdgeV} (h : EBox u lo hi a m c es) (hb : Below u.heap.size u v) : EBox v lo hi a m c es := h.rng (l2 := hi) (h2 := hi) (Rng.of_below hb) (.inl (Nat.le_refl _))
theorem EBox.es {u : World} {lo hi : Nat} {a : Option Addr} {m c : Nat} {es : List EdgeV} (h : EBox u lo hi a m c es) : Es u u.heap.size a m es := Es_of_own h.own
theorem EBox.len {u : World} {lo hi : Nat} {a : Option Addr} {m c : Nat} {es : List EdgeV} (h : EBox u lo hi a m c es) : es.length = m := by have := h.own.1; rw [ecells_length] at this; omega
theorem EBox.laid {u : World} {lo : Nat} {a : Option Addr} {m c : Nat} {es : List EdgeV} (ho : u.ownsRow lo 28 2 (.slice a m c) m (ecells es)) : EBox u lo u.heap.size a m c es := ⟨ho, fun g hg => (ho.lt g hg).2, Nat.le_refl _⟩
theorem eqEB {u : World} {lo hi lo' hi' : Nat} {a a' : Option Addr} {m c m' c' : Nat} {es : List EdgeV} (h : EBox u lo hi a m c es) (h' : EBox u lo' hi' a' m' c' es) (hm : m ≤ 1048576) :
    Calls Try.prog 26 #[.slice a m c, .slice a' m' c'] u fun e v => e = .returned (.bool true) ∧ Below u.heap.size u v := by
  have e : m' = m := by rw [← h.len, ← h'.len]
  subst e
  exact eqEdgeS_same es m' a a' c c' hm u h.es h'.es
theorem markEB {u : World} {lo hi : Nat} {a : Option Addr} {m c : Nat} {es : List EdgeV} (h : EBox u lo hi a m c es) (k0 : Nat) (hm : m ≤ 1048576) (h1 : k0 ≤ 10000000) :
    Calls Try.prog 28 #[.slice a m c, .int .i64 (k0 : Int)] u fun e v => e = .returned (.int .i64 ((k0 : Int) + (m : Int) * 2)) ∧ EBox v lo hi a m c (marks k0 m) ∧ Rng lo hi u v := by
  have hth := h.there
  rcases h.own.2 with ⟨hv, hm0⟩ | ⟨g, cap, cur, hv, hg, hcur, hrest⟩
  · subst hm0
    refine (markEdgeS_zero a c (k0 : Int) u).mono fun e v ⟨he, hb⟩ => ⟨by rw [he]; simp, ?_, by rw [hb]; exact Rng.of_below (Below.refl _ _)⟩
    have hg0 : es = [] := List.length_eq_zero_iff.1 h.len
    subst hg0
    rw [hb]
    exact h
  · have hv' := hv
    simp at hv'
    obtain ⟨rfl, rfl⟩ := hv'
    have hgh := h.row g rfl
    refine (markEdgeS_any lo g c m k0 es hm h1 u h.own).mono fun e v ⟨he, ho, hgr⟩ => ⟨he, ⟨ho, h.row, Nat.le_trans hth hgr.size⟩, Rng.of_grown hgr hg hgh⟩
theorem heldEB {u : World} {lo hi : Nat} {a : Option Addr} {m c : Nat} (k0 : Nat) (h : EBox u lo hi a m c (marks k0 m)) (hm : m ≤ 1048576) (h1 : k0 ≤ 10000000) :
    Calls Try.prog 36 #[.slice a m c, .int .i64 (k0 : Int)] u fun e v => e = .returned (.int .i64 ((k0 : Int) + (m : Int) * 2)) ∧ v = u :=
  heldEdgeS_any m k0 a c hm h1 u h.es

theorem szEdgeS_yes (n : Nat) (a : Option Addr) (c : Nat) (l : Int) (h : (n : Int) ≤ l) (hl : l ≤ 1048576) (w : World) : Calls Try.prog 20 #[.slice a n c, .int .i64 l] w fun e w' => e = .returned (.int .i64 (l - (n : Int))) ∧ w' = w := by
  have d1 : decide (l - (n : Int) < 0) = false := decide_eq_false (by omega)
  go_enter Try.func20, Try.ntmps20
  go_wp2
  go_ret
  exact ⟨rfl, rfl⟩
theorem szEdgeS_no (n : Nat) (a : Option Addr) (c : Nat) (l : Int) (h0 : 0 ≤ l) (h : l < (n : Int)) (hn : n ≤ maxLen) (w : World) : Calls Try.prog 20 #[.slice a n c, .int .i64 l] w fun e w' => e = .returned (.int .i64 (-1)) ∧ w' = w := by
  unfold maxLen at hn
  have d1 : decide (l - (n : Int) < 0) = true := decide_eq_true (by omega)
  go_enter Try.func20, Try.ntmps20
  go_wp2
  go_ret
  exact ⟨rfl, rfl⟩

/-- the shard has the vertex -/
def hasV (own : List Int) (s v : Int) : Bool := decide (0 ≤ v ∧ own[v.toNat]? = some s)
/-- both ends -/
def inB (own : List Int) (s : Int) (e : EdgeV) : Bool := hasV own s e.1 && hasV own s e.2
/-- the edges inside -/
def insE (own : List Int) (es : List EdgeV) (s : Int) : List EdgeV := es.filter (inB own s)
theorem insE_len (own : List Int) (es : List EdgeV) (s : Int) : (insE own es s).length ≤ es.length := List.length_filter_le _ _
theorem insE_snoc (own : List Int) (es : List EdgeV) (s : Int) (k : Nat) (f : EdgeV) (h : es[k]? = some f) : insE own (es.take (k + 1)) s = insE own (es.take k) s ++ (if inB own s f then [f] else []) := by
  unfold insE
  rw [take_snocF es k f h, List.filter_append]
  cases hb : inB own s f <;> simp [hb]
/-- an answer that is a list of edges of its own -/
def EAns (w : World) (ls : List EdgeV) (e : Ending) (w' : World) : Prop :=
  ∃ a m c, e = .returned (.slice a m c) ∧ w'.ownsRow w.heap.size 28 2 (.slice a m c) m (ecells ls) ∧ Below w.heap.size w w'
/-- a row of edges in the making -/
structure ESt (wb : World) (a : Option Addr) (m c : Nat) (ls : List EdgeV) (u : World) : Prop where
  own : u.ownsRow wb.heap.size 28 2 (.slice a m c) m (ecells ls)
  bel : Below wb.heap.size wb u
theorem ESt.size {wb : World} {a : Option Addr} {m c : Nat} {ls : List EdgeV} {u : World} (h : ESt wb a m c ls u) : wb.heap.size ≤ u.heap.size := h.bel.size
theorem ESt.len {wb : World} {a : Option Addr} {m c : Nat} {ls : List EdgeV} {u : World} (h : ESt wb a m c ls u) : ls.length = m := by have := h.own.1; rw [ecells_length] at this; omega
theorem ESt.up {wb : World} {a : Option Addr} {m c : Nat} {ls : List EdgeV} {u v : World} (h : ESt wb a m c ls u) (hb : Below u.heap.size u v) : ESt wb a m c ls v :=
  ⟨own_up h.own hb, h.bel.trans (hb.mono h.size)⟩
theorem ESt.app {wb : World} {a : Option Addr} {m c : Nat} {ls : List EdgeV} {u : World} (h : ESt wb a m c ls u) {x : EdgeV} {o : Obj} {v : Value} {u' : World}
    (ho : u'.ownsRow wb.heap.size 28 2 v (m + 1) (ecells ls ++ [.int .i64 x.1, .int .i64 x.2])) (hg : (u.alloc o).grownBy u' (Value.slice a m c).ownBlock) :
    ∃ a' c', v = .slice a' (m + 1) c' ∧ ESt wb a' (m + 1) c' (ls ++ [x]) u' := by
  obtain ⟨a', c', rfl⟩ := own_form ho
  rw [← ecells_snoc] at ho
  refine ⟨a', c', rfl, ho, ?_⟩
  exact (h.bel.alloc h.size _).grown hg (by have := h.size; simp; omega) (fun j hj => (h.own.lt j hj).1)
theorem ESt.start (wb : World) : ESt wb (some ⟨wb.heap.size, 0, none⟩) 0 0 [] (wb.alloc (.cells #[] 28)) := by
  refine ⟨?_, (Below.refl _ _).alloc (Nat.le_refl _) _⟩
  have h0 := World.ownsRow_lit (base := wb.heap.size) (e := 28) (size := 2) wb #[] 0 (Nat.le_refl _) (by unfold maxLen; omega) (by simp)
  simpa [ecells] using h0
theorem news2 (w : World) (g : EdgeV) : ∀ j u, ([Value.int .i64 g.1, Value.int .i64 g.2] : List Value)[j]? = some u → (w.alloc (.cells #[.int .i64 g.1, .int .i64 g.2] 28)).cell? ((⟨w.heap.size, 0, none⟩ : Addr).add j) = some u := by
  intro j u hj
  rcases j with _ | _ | j
  · simp at hj; subst hj; simp [Addr.add]
  · simp at hj; subst hj; simp [Addr.add]
  · simp at hj

theorem shardHas_any (ls : List Int) (n : Nat) (a : Option Addr) (c : Nat) (v s : Int) (w : World) (h : Is w w.heap.size a n ls) :
    Calls Try.prog 56 #[.slice a n c, .int .i64 v, .int .i64 s] w fun e w' => e = .returned (.bool (hasV ls s v)) ∧ w' = w := by
  obtain ⟨hlen, hrow⟩ := h
  by_cases h1 : 0 ≤ v
  · have d1 : decide (0 ≤ v) = true := decide_eq_true h1
    by_cases h2 : v < (n : Int)
    · have d2 : decide (v < (n : Int)) = true := decide_eq_true h2
      rcases hrow with hz | ⟨b, off, rfl, hbl, hc⟩
      · omega
      · obtain ⟨x, hx⟩ : ∃ x, ls[v.toNat]? = some x := ⟨ls[v.toNat]'(by omega), List.getElem?_eq_getElem (by omega)⟩
        have e0 := hc v.toNat x hx
        have HV : Hid (hasV ls s v = (x == s)) := by
          show _ = _
          unfold hasV
          rw [hx]
          by_cases hxs : x = s <;> simp [h1, hxs]
        clear hc hx
        go_enter Try.func56, Try.ntmps56
        go_wp2
        go_ret
        exact ⟨by rw [HV.out]; rfl, rfl⟩
    · have d2 : decide (v < (n : Int)) = false := decide_eq_false h2
      have HV : Hid (hasV ls s v = false) := by
        show _ = _
        unfold hasV
        rw [List.getElem?_eq_none (by omega)]
        simp
      clear hrow
      go_enter Try.func56, Try.ntmps56
      go_wp2
      go_ret
      exact ⟨by rw [HV.out]; rfl, rfl⟩
  · have d1 : decide (0 ≤ v) = false := decide_eq_false h1
    have HV : Hid (hasV ls s v = false) := by
      show _ = _
      unfold hasV
      simp [h1]
    clear hrow
    go_enter Try.func56, Try.ntmps56
    go_wp2
    go_ret
    exact ⟨by rw [HV.out]; rfl, rfl⟩
end Go.Proofs.Ytcmjfnaenkdidaa
namespace Go.Proofs.Ytcmjfnaenkdidaa
open Go.RowKit

set_option maxRecDepth 100000 in
set_option maxHeartbeats 4000000 in
theorem iInside_any (ls : List Int) (q : Nat) (ao : Option Addr) (co : Nat) (es : List EdgeV) (n : Nat) (a : Option Addr) (c : Nat) (s : Int) (hn : n ≤ 1048576) (w : World) (ho : Is w w.heap.size ao q ls) (h : Es w w.heap.size a n es) :
    Calls Try.prog 17 #[.slice ao q co, .slice a n c, .int .i64 s] w fun e w' => EAns w (insE ls es s) e w' := by
  obtain ⟨i0, hi, hz0, hz1, hz2⟩ := info_parts infoIE
  obtain ⟨hlen, hrow⟩ := h
  have HR := hideIt hrow
  have HS : Hid (∀ u, Below w.heap.size w u → ∀ v, Calls Try.prog 56 #[.slice ao q co, .int .i64 v, .int .i64 s] u fun e u' => e = .returned (.bool (hasV ls s v)) ∧ u' = u) := fun u hu v =>
    shardHas_any ls q ao co v s u (ho.up hu)
  clear hrow ho
  go_enter Try.func17, Try.ntmps17
  go_wp2
  go_loopw [7, 13] (fun v i wr => ∃ (k m' : Nat) (a' : Option Addr) (c' : Nat) (gs : List EdgeV), k ≤ n ∧ i = .int .i64 (k : Int) ∧ v = .slice a' m' c' ∧ m' ≤ k ∧ Hid (gs = insE ls (es.take k) s) ∧ ESt w a' m' c' gs wr) (fun _ i _ => n - (intOf i).toNat)
  case atStart => exact ⟨0, 0, _, _, [], by omega, rfl, rfl, by omega, by show _ = _; simp [insE], ESt.start w⟩
  case round =>
    obtain ⟨k, m', a', c', gs, hk, rfl, rfl, hm, hgs, hst⟩ := hrel
    by_cases hlt : k < n
    · rcases HR.out with hz | ⟨b, off, rfl, hbl, hc⟩
      · omega
      · obtain ⟨f, hf⟩ : ∃ f, es[k]? = some f := ⟨es[k]'(by omega), List.getElem?_eq_getElem (by omega)⟩
        obtain ⟨c0, c1⟩ := hc k f hf
        have b1 : (0 : Int) ≤ (k : Int) := by omega
        have b2 : (k : Int) < (n : Int) := by omega
        have e0 : wr.cell? ⟨b, off + k * 2, none⟩ = some (.int .i64 f.1) := by rw [hst.bel.cell hbl]; exact c0
        have e1 : wr.cell? ⟨b, off + k * 2 + 1, none⟩ = some (.int .i64 f.2) := by rw [hst.bel.cell hbl]; exact c1
        have S1 : ESt w a' m' c' gs (wr.alloc (.cells #[.int .i64 f.1, .int .i64 f.2] 28)) := hst.up ((Below.refl _ _).alloc (Nat.le_refl _) _)
        have HS1 := hideIt (HS.out _ S1.bel)
        have z1 := hst.size
        have HX := hideIt (insE_snoc ls es s k f hf)
        clear hc hf c0 c1
        cases g1 : hasV ls s f.1 with
        | false =>
          have HG : Hid (gs = insE ls (es.take (k + 1)) s) := by show _ = _; rw [HX.out, hgs.out]; simp [inB, g1]
          clear HX hgs
          go_wp2_with (go_at_call 56; refine (HS1.out _).mono ?_; rintro e w1 ⟨rfl, rfl⟩)
          exact ⟨⟨k + 1, m', a', c', gs, by omega, by go_num, rfl, by omega, HG, S1⟩, by simp [intOf]; omega⟩
        | true =>
          cases g2 : hasV ls s f.2 with
          | false =>
            have HG : Hid (gs = insE ls (es.take (k + 1)) s) := by show _ = _; rw [HX.out, hgs.out]; simp [inB, g1, g2]
            clear HX hgs
            go_wp2_with (go_at_call 56; refine (HS1.out _).mono ?_; rintro e w1 ⟨rfl, rfl⟩)
            exact ⟨⟨k + 1, m', a', c', gs, by omega, by go_num, rfl, by omega, HG, S1⟩, by simp [intOf]; omega⟩
          | true =>
            have HG : Hid (gs ++ [f] = insE ls (es.take (k + 1)) s) := by show _ = _; rw [HX.out, hgs.out]; simp [inB, g1, g2]
            clear HX hgs
            go_wp2_with (first | (go_at_call 56; refine (HS1.out _).mono ?_; rintro e w1 ⟨rfl, rfl⟩) | (at_builtin; refine wpList_append_own _ rfl _ _ 24 rfl w.heap.size 28 i0 _ 2 16 Try.underlying24 hi hz0 hz1 hz2 rfl (by decide) _ _ _ rfl (S1.own.alloc _) ⟨wr.heap.size + 1, 0, none⟩ 1 1 [.int .i64 f.1, .int .i64 f.2] rfl (by simp) (by have := news2 (wr.alloc (.cells #[.int .i64 f.1, .int .i64 f.2] 28)) f; simpa using this) (by intro u hu; simp at hu; rcases hu with rfl | rfl <;> rfl) (by unfold maxLen; omega) (by omega) (by simp; omega) ?_))
            intro v2 w2 hown2 hg2 hn2
            obtain ⟨a2, c2, rfl, hst2⟩ := S1.app (x := f) hown2 hg2
            clear hown2 hg2 hn2 S1 e0 e1 hst
            go_wp2
            exact ⟨⟨k + 1, m' + 1, a2, c2, gs ++ [f], by omega, by go_num, rfl, by omega, HG, hst2⟩, by simp [intOf]; omega⟩
    · have HF : Hid (gs = insE ls es s) := by show _ = _; rw [hgs.out, List.take_of_length_le (by omega)]
      have HO := hideIt hst.own
      have hb := hst.bel
      clear hgs hst
      go_wp2
      go_ret
      exact ⟨a', m', c', rfl, by rw [← HF.out]; exact HO.out, hb⟩

theorem hasV_out {ls : List Int} {s v : Int} (h : ¬ (0 ≤ v ∧ v ≤ (ls.length : Int) - 1)) : hasV ls s v = false := by
  unfold hasV
  by_cases h1 : 0 ≤ v
  · rw [List.getElem?_eq_none (by omega)]; simp
  · simp [h1]
theorem hasV_at {ls : List Int} {s v x : Int} (h : 0 ≤ v) (hx : ls[v.toNat]? = some x) : hasV ls s v = (x == s) := by
  unfold hasV
  rw [hx]
  by_cases hxs : x = s <;> simp [h, hxs]

set_option maxRecDepth 100000 in
set_option maxHeartbeats 4000000 in
theorem sInside_any (ls : List Int) (q : Nat) (ao : Option Addr) (co : Nat) (es : List EdgeV) (n : Nat) (a : Option Addr) (c : Nat) (s : Int) (hq : q ≤ 1048576) (hn : n ≤ 1048576) (w : World) (ho : Is w w.heap.size ao q ls) (h : Es w w.heap.size a n es) :
    Calls Try.prog 18 #[.slice ao q co, .slice a n c, .int .i64 s] w fun e w' => EAns w (insE ls es s) e w' := by
  obtain ⟨i0, hi, hz0, hz1, hz2⟩ := info_parts infoIE
  obtain ⟨hlen, hrow⟩ := h
  obtain ⟨hol, horow⟩ := ho
  have HR := hideIt hrow
  have HOr := hideIt horow
  have HI := hideIt l01In_any
  clear hrow horow
  go_enter Try.func18, Try.ntmps18
  go_wp2
  go_loopw [7, 8] (fun v i wr => ∃ (k m' : Nat) (a' : Option Addr) (c' : Nat) (gs : List EdgeV), k ≤ n ∧ i = .int .i64 (k : Int) ∧ v = .slice a' m' c' ∧ m' ≤ k ∧ Hid (gs = insE ls (es.take k) s) ∧ ESt w a' m' c' gs wr) (fun _ i _ => n - (intOf i).toNat)
  case atStart => exact ⟨0, 0, _, _, [], by omega, rfl, rfl, by omega, by show _ = _; simp [insE], ESt.start w⟩
  case round =>
    obtain ⟨k, m', a', c', gs, hk, rfl, rfl, hm, hgs, hst⟩ := hrel
    by_cases hlt : k < n
    · rcases HR.out with hz | ⟨b, off, rfl, hbl, hc⟩
      · omega
      · obtain ⟨f, hf⟩ : ∃ f, es[k]? = some f := ⟨es[k]'(by omega), List.getElem?_eq_getElem (by omega)⟩
        obtain ⟨c0, c1⟩ := hc k f hf
        have b1 : (0 : Int) ≤ (k : Int) := by omega
        have b2 : (k : Int) < (n : Int) := by omega
        have e0 : wr.cell? ⟨b, off + k * 2, none⟩ = some (.int .i64 f.1) := by rw [hst.bel.cell hbl]; exact c0
        have e1 : wr.cell? ⟨b, off + k * 2 + 1, none⟩ = some (.int .i64 f.2) := by rw [hst.bel.cell hbl]; exact c1
        have S1 : ESt w a' m' c' gs (wr.alloc (.cells #[.int .i64 f.1, .int .i64 f.2] 28)) := hst.up ((Below.refl _ _).alloc (Nat.le_refl _) _)
        have z1 := hst.size
        have HX := hideIt (insE_snoc ls es s k f hf)
        clear hc hf c0 c1
        by_cases g1 : 0 ≤ f.1 ∧ f.1 ≤ (q : Int) - 1
        case neg =>
          have r1 : decide (0 ≤ f.1 ∧ f.1 ≤ (q : Int) - 1) = false := decide_eq_false g1
          have HG : Hid (gs = insE ls (es.take (k + 1)) s) := by show _ = _; rw [HX.out, hgs.out]; simp [inB, hasV_out (s := s) (v := f.1) (ls := ls) (by omega)]
          clear HX hgs g1
          go_wp2_with (go_at_call 57; refine (HI.out _ _ _ _).mono ?_; rintro e w1 ⟨rfl, rfl⟩)
          exact ⟨⟨k + 1, m', a', c', gs, by omega, by go_num, rfl, by omega, HG, S1⟩, by simp [intOf]; omega⟩
        case pos =>
          have r1 : decide (0 ≤ f.1 ∧ f.1 ≤ (q : Int) - 1) = true := decide_eq_true g1
          by_cases g2 : 0 ≤ f.2 ∧ f.2 ≤ (q : Int) - 1
          case neg =>
            have r2 : decide (0 ≤ f.2 ∧ f.2 ≤ (q : Int) - 1) = false := decide_eq_false g2
            have HG : Hid (gs = insE ls (es.take (k + 1)) s) := by show _ = _; rw [HX.out, hgs.out]; simp [inB, hasV_out (s := s) (v := f.2) (ls := ls) (by omega)]
            clear HX hgs g1 g2
            go_wp2_with (go_at_call 57; refine (HI.out _ _ _ _).mono ?_; rintro e w1 ⟨rfl, rfl⟩)
            exact ⟨⟨k + 1, m', a', c', gs, by omega, by go_num, rfl, by omega, HG, S1⟩, by simp [intOf]; omega⟩
          case pos =>
            have r2 : decide (0 ≤ f.2 ∧ f.2 ≤ (q : Int) - 1) = true := decide_eq_true g2
            rcases HOr.out with hz | ⟨bo, offo, rfl, hbo, hco⟩
            · omega
            · obtain ⟨x, hx⟩ : ∃ x, ls[f.1.toNat]? = some x := ⟨ls[f.1.toNat]'(by omega), List.getElem?_eq_getElem (by omega)⟩
              obtain ⟨y, hy⟩ : ∃ y, ls[f.2.toNat]? = some y := ⟨ls[f.2.toNat]'(by omega), List.getElem?_eq_getElem (by omega)⟩
              have e2 : wr.cell? ⟨bo, offo + f.1.toNat, none⟩ = some (.int .i64 x) := by rw [hst.bel.cell hbo]; exact hco _ x hx
              have e3 : wr.cell? ⟨bo, offo + f.2.toNat, none⟩ = some (.int .i64 y) := by rw [hst.bel.cell hbo]; exact hco _ y hy
              have v1 := hasV_at (s := s) g1.1 hx
              have v2 := hasV_at (s := s) g2.1 hy
              have p1 : (0 : Int) ≤ f.1 := g1.1
              have p2 : f.1 < (q : Int) := by omega
              have p3 : (0 : Int) ≤ f.2 := g2.1
              have p4 : f.2 < (q : Int) := by omega
              have p5 : bo < wr.heap.size := by omega
              clear hco hx hy g1 g2
              cases w1 : (x == s) with
              | false =>
                have HG : Hid (gs = insE ls (es.take (k + 1)) s) := by show _ = _; rw [HX.out, hgs.out]; simp [inB, v1, w1]
                clear HX hgs v1 v2
                go_wp2_with (go_at_call 57; refine (HI.out _ _ _ _).mono ?_; rintro e w1 ⟨rfl, rfl⟩)
                exact ⟨⟨k + 1, m', a', c', gs, by omega, by go_num, rfl, by omega, HG, S1⟩, by simp [intOf]; omega⟩
              | true =>
                cases w2 : (y == s) with
                | false =>
                  have HG : Hid (gs = insE ls (es.take (k + 1)) s) := by show _ = _; rw [HX.out, hgs.out]; simp [inB, v2, w2]
                  clear HX hgs v1 v2
                  go_wp2_with (go_at_call 57; refine (HI.out _ _ _ _).mono ?_; rintro e w1 ⟨rfl, rfl⟩)
                  exact ⟨⟨k + 1, m', a', c', gs, by omega, by go_num, rfl, by omega, HG, S1⟩, by simp [intOf]; omega⟩
                | true =>
                  have HG : Hid (gs ++ [f] = insE ls (es.take (k + 1)) s) := by show _ = _; rw [HX.out, hgs.out]; simp [inB, v1, w1, v2, w2]
                  clear HX hgs v1 v2
                  go_wp2_with (first | (go_at_call 57; refine (HI.out _ _ _ _).mono ?_; rintro e w1 ⟨rfl, rfl⟩) | (at_builtin; refine wpList_append_own _ rfl _ _ 24 rfl w.heap.size 28 i0 _ 2 16 Try.underlying24 hi hz0 hz1 hz2 rfl (by decide) _ _ _ rfl (S1.own.alloc _) ⟨wr.heap.size + 1, 0, none⟩ 1 1 [.int .i64 f.1, .int .i64 f.2] rfl (by simp) (by have := news2 (wr.alloc (.cells #[.int .i64 f.1, .int .i64 f.2] 28)) f; simpa using this) (by intro u hu; simp at hu; rcases hu with rfl | rfl <;> rfl) (by unfold maxLen; omega) (by omega) (by simp; omega) ?_))
                  intro v2 w2 hown2 hg2 hn2
                  obtain ⟨a2, c2, rfl, hst2⟩ := S1.app (x := f) hown2 hg2
                  clear hown2 hg2 hn2 S1 e0 e1 hst
                  go_wp2
                  exact ⟨⟨k + 1, m' + 1, a2, c2, gs ++ [f], by omega, by go_num, rfl, by omega, HG, hst2⟩, by simp [intOf]; omega⟩
    · have HF : Hid (gs = insE ls es s) := by show _ = _; rw [hgs.out, List.take_of_length_le (by omega)]
      have HO := hideIt hst.own
      have hb := hst.bel
      clear hgs hst
      go_wp2
      go_ret
      exact ⟨a', m', c', rfl, by rw [← HF.out]; exact HO.out, hb⟩
end Go.Proofs.Ytcmjfnaenkdidaa
