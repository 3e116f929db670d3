/- An event laid anew, held against itself; the walk of FnExactEventOk. Rows of events that leave nothing: compared, marked, held. A line's parts, as both sides of ReadScript meet them; ends of a script. -/
import Derived.Test.YtgdlpmmbeacejaaDoorKEw15
import Derived.Test.YtgdlpmmbeacejaaDoorKSc18
import Derived.Test.YtgdlpmmbeacejaaDoorKWx17
namespace Go.Proofs.YtgdlpmmbeacejaaDoor
open Go.RowKit

set_option maxRecDepth 100000 in
set_option maxHeartbeats 4000000 in
theorem eqEvent_same (k nd t i o a b : Int) (cut : Bool) (ls : List Int) (n : Nat) (ad ad' : Option Addr) (c c' : Nat) (hn : n ≤ 1048576) (w : World) (h : Is w w.heap.size ad n ls) (h' : Is w w.heap.size ad' n ls) :
    Calls Tryd.prog 17 #[.agg #[.int .i64 k, .int .i64 nd, .int .i64 t, .int .i64 i, .int .i64 o, .int .i64 a, .int .i64 b, .bool cut, .slice ad n c], .agg #[.int .i64 k, .int .i64 nd, .int .i64 t, .int .i64 i, .int .i64 o, .int .i64 a, .int .i64 b, .bool cut, .slice ad' n c']] w fun e w' => e = .returned (.bool true) ∧ Below w.heap.size w w' := by
  obtain ⟨W, hW⟩ : ∃ W, W = (w.alloc (.cells #[.int .i64 k, .int .i64 nd, .int .i64 t, .int .i64 i, .int .i64 o, .int .i64 a, .int .i64 b, .bool cut, .slice ad n c] 57)).alloc (.cells #[.int .i64 k, .int .i64 nd, .int .i64 t, .int .i64 i, .int .i64 o, .int .i64 a, .int .i64 b, .bool cut, .slice ad' n c'] 57) := ⟨_, rfl⟩
  have B2 : Below w.heap.size w W := by rw [hW]; exact ((Below.refl _ _).alloc (Nat.le_refl _) _).alloc (by simp) _
  have X1 := (BxA.new w 57 #[.int .i64 k, .int .i64 nd, .int .i64 t, .int .i64 i, .int .i64 o, .int .i64 a, .int .i64 b, .bool cut, .slice ad n c]).up (belA _ (.cells #[.int .i64 k, .int .i64 nd, .int .i64 t, .int .i64 i, .int .i64 o, .int .i64 a, .int .i64 b, .bool cut, .slice ad' n c'] 57))
  have X2 := BxA.new (w.alloc (.cells #[.int .i64 k, .int .i64 nd, .int .i64 t, .int .i64 i, .int .i64 o, .int .i64 a, .int .i64 b, .bool cut, .slice ad n c] 57)) 57 #[.int .i64 k, .int .i64 nd, .int .i64 t, .int .i64 i, .int .i64 o, .int .i64 a, .int .i64 b, .bool cut, .slice ad' n c']
  rw [← hW] at X1 X2
  rw [show (w.alloc (.cells #[.int .i64 k, .int .i64 nd, .int .i64 t, .int .i64 i, .int .i64 o, .int .i64 a, .int .i64 b, .bool cut, .slice ad n c] 57)).heap.size = w.heap.size + 1 by simp] at X2
  have HA := hideIt (eqAsk_yes i o a b W)
  have HO := hideIt (fun u (hu : Below w.heap.size w u) => eqIntS_same ls n ad ad' c c' hn u (h.up hu) (h'.up hu))
  have HB := hideIt B2
  have HX1 := hideIt X1
  have HX2 := hideIt X2
  have x0 := X1.cell 0 rfl
  have y0 := X2.cell 0 rfl
  have x1 := X1.cell 1 rfl
  have y1 := X2.cell 1 rfl
  have x2 := X1.cell 2 rfl
  have y2 := X2.cell 2 rfl
  have x3 := X1.cell 3 rfl
  have y3 := X2.cell 3 rfl
  have x4 := X1.cell 4 rfl
  have y4 := X2.cell 4 rfl
  have x5 := X1.cell 5 rfl
  have y5 := X2.cell 5 rfl
  have x6 := X1.cell 6 rfl
  have y6 := X2.cell 6 rfl
  have dk : (k != k) = false := by simp
  have dn : (nd != nd) = false := by simp
  have dt : (t != t) = false := by simp
  have dc : (cut != cut) = false := by simp
  clear h h' B2 X1 X2
  go_enter Tryd.func17, Tryd.ntmps17
  go_upto_region 1 with fail
  rw [← hW]
  clear hW
  go_wp2_with (go_at_call 32; refine HA.out.mono ?_; rintro e w1 ⟨rfl, b1⟩; refine Hid.out ?_)
  refine (show ∀ {p : Prop}, p → Hid p from fun h => h) ?_
  have B3 := HB.out.trans (b1.mono HB.out.size)
  have HO2 := hideIt (HO.out w1 B3)
  have HB3 := hideIt B3
  have Y1 := HX1.out.up b1
  have Y2 := HX2.out.up b1
  clear x0 y0 x1 y1 x2 y2 x3 y3 x4 y4 x5 y5 x6 y6 B3 b1 HB HO HA HX1 HX2
  have x7 := Y1.cell 7 rfl
  have x8 := Y1.cell 8 rfl
  have y7 := Y2.cell 7 rfl
  have y8 := Y2.cell 8 rfl
  clear Y1 Y2
  go_wp2_with (go_at_call 33; refine HO2.out.mono ?_; rintro e w2 ⟨rfl, b2⟩)
  go_ret
  exact ⟨rfl, HB3.out.trans (b2.mono HB3.out.size)⟩

theorem BxA.c9 {u : World} {b : Nat} {t : TypeId} {v0 v1 v2 v3 v4 v5 v6 v7 v8 : Value} (x : BxA u b t #[v0, v1, v2, v3, v4, v5, v6, v7, v8]) : u.cell? ⟨b, 0, none⟩ = some v0 ∧ u.cell? ⟨b, 1, none⟩ = some v1 ∧ u.cell? ⟨b, 2, none⟩ = some v2 ∧ u.cell? ⟨b, 3, none⟩ = some v3 ∧ u.cell? ⟨b, 4, none⟩ = some v4 ∧ u.cell? ⟨b, 5, none⟩ = some v5 ∧ u.cell? ⟨b, 6, none⟩ = some v6 ∧ u.cell? ⟨b, 7, none⟩ = some v7 ∧ u.cell? ⟨b, 8, none⟩ = some v8 :=
  ⟨x.cell 0 rfl, x.cell 1 rfl, x.cell 2 rfl, x.cell 3 rfl, x.cell 4 rfl, x.cell 5 rfl, x.cell 6 rfl, x.cell 7 rfl, x.cell 8 rfl⟩
theorem bupE {w u v : World} (h : Below w.heap.size w u) (hb : Below u.heap.size u v) : Below w.heap.size w v := h.trans (hb.mono h.size)

end Go.Proofs.YtgdlpmmbeacejaaDoor
namespace Go.Proofs.YtgdlpmmbeacejaaDoor
open Go.RowKit C

/-- an event of a row of cells -/
structure Ev9 (cs : List Value) (q : Nat) (x : EvR × Bool) : Prop where
  c0 : cs[q * 9]? = some (.int .i64 x.1.k)
  c1 : cs[q * 9 + 1]? = some (.int .i64 x.1.nd)
  c2 : cs[q * 9 + 2]? = some (.int .i64 x.1.t)
  c3 : cs[q * 9 + 3]? = some (.int .i64 x.1.i)
  c4 : cs[q * 9 + 4]? = some (.int .i64 x.1.o)
  c5 : cs[q * 9 + 5]? = some (.int .i64 x.1.a)
  c6 : cs[q * 9 + 6]? = some (.int .i64 x.1.b)
  c7 : cs[q * 9 + 7]? = some (.bool x.2)
  c8 : cs[q * 9 + 8]? = some (.slice none 0 0)
theorem Ev9.other {cs : List Value} {q k j : Nat} {x : EvR × Bool} {v : Value} (h : Ev9 cs q x) (hne : q ≠ k) (hj : j < 9) : Ev9 (cs.set (k * 9 + j) v) q x := by
  refine ⟨?_, ?_, ?_, ?_, ?_, ?_, ?_, ?_, ?_⟩ <;> rw [List.getElem?_set_ne (by omega)]
  · exact h.c0
  · exact h.c1
  · exact h.c2
  · exact h.c3
  · exact h.c4
  · exact h.c5
  · exact h.c6
  · exact h.c7
  · exact h.c8
theorem Ev9.put {cs : List Value} {k : Nat} {x : EvR × Bool} (h : Ev9 cs k x) (y : EvR × Bool) : Ev9 ((((((((cs.set (k * 9) (.int .i64 y.1.k)).set (k * 9 + 1) (.int .i64 y.1.nd)).set (k * 9 + 2) (.int .i64 y.1.t)).set (k * 9 + 3) (.int .i64 y.1.i)).set (k * 9 + 4) (.int .i64 y.1.o)).set (k * 9 + 5) (.int .i64 y.1.a)).set (k * 9 + 6) (.int .i64 y.1.b)).set (k * 9 + 7) (.bool y.2)) k y := by
  have l0 := (List.getElem?_eq_some_iff.1 h.c8).1
  refine ⟨?_, ?_, ?_, ?_, ?_, ?_, ?_, ?_, ?_⟩
  · rw [List.getElem?_set_ne (by omega), List.getElem?_set_ne (by omega), List.getElem?_set_ne (by omega), List.getElem?_set_ne (by omega), List.getElem?_set_ne (by omega), List.getElem?_set_ne (by omega), List.getElem?_set_ne (by omega), List.getElem?_set_self (by first | omega | (simp; omega))]
  · rw [List.getElem?_set_ne (by omega), List.getElem?_set_ne (by omega), List.getElem?_set_ne (by omega), List.getElem?_set_ne (by omega), List.getElem?_set_ne (by omega), List.getElem?_set_ne (by omega), List.getElem?_set_self (by first | omega | (simp; omega))]
  · rw [List.getElem?_set_ne (by omega), List.getElem?_set_ne (by omega), List.getElem?_set_ne (by omega), List.getElem?_set_ne (by omega), List.getElem?_set_ne (by omega), List.getElem?_set_self (by first | omega | (simp; omega))]
  · rw [List.getElem?_set_ne (by omega), List.getElem?_set_ne (by omega), List.getElem?_set_ne (by omega), List.getElem?_set_ne (by omega), List.getElem?_set_self (by first | omega | (simp; omega))]
  · rw [List.getElem?_set_ne (by omega), List.getElem?_set_ne (by omega), List.getElem?_set_ne (by omega), List.getElem?_set_self (by first | omega | (simp; omega))]
  · rw [List.getElem?_set_ne (by omega), List.getElem?_set_ne (by omega), List.getElem?_set_self (by first | omega | (simp; omega))]
  · rw [List.getElem?_set_ne (by omega), List.getElem?_set_self (by first | omega | (simp; omega))]
  · rw [List.getElem?_set_self (by first | omega | (simp; omega))]
  · rw [List.getElem?_set_ne (by omega), List.getElem?_set_ne (by omega), List.getElem?_set_ne (by omega), List.getElem?_set_ne (by omega), List.getElem?_set_ne (by omega), List.getElem?_set_ne (by omega), List.getElem?_set_ne (by omega), List.getElem?_set_ne (by omega)]; exact h.c8
theorem Ev9.others {cs : List Value} {q k : Nat} {x : EvR × Bool} {v0 v1 v2 v3 v4 v5 v6 v7 : Value} (h : Ev9 cs q x) (hne : q ≠ k) : Ev9 ((((((((cs.set (k * 9) (v0)).set (k * 9 + 1) (v1)).set (k * 9 + 2) (v2)).set (k * 9 + 3) (v3)).set (k * 9 + 4) (v4)).set (k * 9 + 5) (v5)).set (k * 9 + 6) (v6)).set (k * 9 + 7) (v7)) q x :=
  (((((((h.other (j := 0) hne (by omega)).other (j := 1) hne (by omega)).other (j := 2) hne (by omega)).other (j := 3) hne (by omega)).other (j := 4) hne (by omega)).other (j := 5) hne (by omega)).other (j := 6) hne (by omega)).other (j := 7) hne (by omega)
theorem Ev9.of : ∀ (l : List (EvR × Bool)) (q : Nat) (x : EvR × Bool), l[q]? = some x → Ev9 (evc l) q x
  | [], q, x, h => by simp at h
  | e :: r, 0, x, h => by
      obtain rfl : e = x := by simpa using h
      exact ⟨rfl, rfl, rfl, rfl, rfl, rfl, rfl, rfl, rfl⟩
  | e :: r, q + 1, x, h => by
      have hh := Ev9.of r q x (by simpa using h)
      have hl : (ecl e).length = 9 := rfl
      have hx : ∀ j, (evc (e :: r))[(q + 1) * 9 + j]? = (evc r)[q * 9 + j]? := fun j => by
        show (ecl e ++ evc r)[(q + 1) * 9 + j]? = _
        rw [List.getElem?_append_right (by omega), hl]
        congr 1
        omega
      exact ⟨(hx 0).trans hh.c0, (hx 1).trans hh.c1, (hx 2).trans hh.c2, (hx 3).trans hh.c3, (hx 4).trans hh.c4, (hx 5).trans hh.c5, (hx 6).trans hh.c6, (hx 7).trans hh.c7, (hx 8).trans hh.c8⟩
/-- an event, as a walk reads it -/
structure Eh9 (w : World) (b o : Nat) (x : EvR × Bool) : Prop where
  c0 : w.cell? ⟨b, o, none⟩ = some (.int .i64 x.1.k)
  c1 : w.cell? ⟨b, o + 1, none⟩ = some (.int .i64 x.1.nd)
  c2 : w.cell? ⟨b, o + 2, none⟩ = some (.int .i64 x.1.t)
  c3 : w.cell? ⟨b, o + 3, none⟩ = some (.int .i64 x.1.i)
  c4 : w.cell? ⟨b, o + 4, none⟩ = some (.int .i64 x.1.o)
  c5 : w.cell? ⟨b, o + 5, none⟩ = some (.int .i64 x.1.a)
  c6 : w.cell? ⟨b, o + 6, none⟩ = some (.int .i64 x.1.b)
  c7 : w.cell? ⟨b, o + 7, none⟩ = some (.bool x.2)
  c8 : w.cell? ⟨b, o + 8, none⟩ = some (.slice none 0 0)
theorem Eh9.below {w w' : World} {C b o : Nat} {x : EvR × Bool} (h : Eh9 w b o x) (hb : Below C w w') (hl : b < C) : Eh9 w' b o x := by
  refine ⟨?_, ?_, ?_, ?_, ?_, ?_, ?_, ?_, ?_⟩ <;> rw [hb.cell hl]
  · exact h.c0
  · exact h.c1
  · exact h.c2
  · exact h.c3
  · exact h.c4
  · exact h.c5
  · exact h.c6
  · exact h.c7
  · exact h.c8
/-- a row of events -/
def Eq9 (w : World) (B : Nat) (a : Option Addr) (n : Nat) (f : Nat → EvR × Bool) : Prop := n = 0 ∨ ∃ b off, a = some ⟨b, off, none⟩ ∧ b < B ∧ ∀ t < n, Eh9 w b (off + t * 9) (f t)
theorem Eq9.up {w w' : World} {a : Option Addr} {n : Nat} {f : Nat → EvR × Bool} (h : Eq9 w w.heap.size a n f) (hb : Below w.heap.size w w') : Eq9 w' w'.heap.size a n f := by
  refine h.imp id ?_
  rintro ⟨b, off, h1, h2, h3⟩
  exact ⟨b, off, h1, Nat.lt_of_lt_of_le h2 hb.size, fun t ht => (h3 t ht).below hb h2⟩
theorem Eq9.of_own {w : World} {B n c : Nat} {a : Option Addr} {cs : List Value} {f : Nat → EvR × Bool} (h : w.ownsRow B 57 9 (.slice a n c) n cs) (he : ∀ t < n, Ev9 cs t (f t)) : Eq9 w w.heap.size a n f := by
  rcases h.2 with ⟨hv, h0⟩ | ⟨g, cap, cur, hv, hrest⟩
  · exact .inl h0
  · simp at hv
    obtain ⟨rfl, rfl⟩ := hv
    refine .inr ⟨g, 0, rfl, (h.lt g rfl).2, fun t ht => ?_⟩
    have e := he t ht
    have l0 := (List.getElem?_eq_some_iff.1 e.c8).1
    have hl := h.1
    refine ⟨?_, ?_, ?_, ?_, ?_, ?_, ?_, ?_, ?_⟩ <;> rw [Nat.zero_add, h.cellAt _ (by omega)]
    · exact e.c0
    · exact e.c1
    · exact e.c2
    · exact e.c3
    · exact e.c4
    · exact e.c5
    · exact e.c6
    · exact e.c7
    · exact e.c8
set_option maxHeartbeats 4000000 in
theorem eqEventS_same (n : Nat) (f : Nat → EvR × Bool) (a a' : Option Addr) (c c' : Nat) (hn : n ≤ 1048576) (w : World) (h : Eq9 w w.heap.size a n f) (h' : Eq9 w w.heap.size a' n f) :
    Calls Tryd.prog 6 #[.slice a n c, .slice a' n c'] w fun e w' => e = .returned (.bool true) ∧ Below w.heap.size w w' := by
  have HR := hideIt h
  have HR' := hideIt h'
  clear h h'
  have dn : ((n : Int) != (n : Int)) = false := by simp
  go_enter Tryd.func6, Tryd.ntmps6
  go_wp2
  go_loopw [5] (fun i wr => ∃ (k : Nat), k ≤ n ∧ i = .int .i64 (k : Int) ∧ Below w.heap.size w wr) (fun i _ => n - (intOf i).toNat)
  case atStart => exact ⟨0, by omega, rfl, Below.refl _ _⟩
  case round =>
    obtain ⟨k, hk, rfl, hb⟩ := hrel
    by_cases hlt : k < n
    · rcases HR.out with hz | ⟨b, off, rfl, hbl, hc⟩
      · omega
      · rcases HR'.out with hz | ⟨b', off', rfl, hbl', hc'⟩
        · omega
        · have hat := hc k hlt
          have hat' := hc' k hlt
          obtain ⟨z, hz⟩ : ∃ z, z = f k := ⟨_, rfl⟩
          rw [← hz] at hat hat'
          have HT : Hid (∀ W : World, Below w.heap.size w W → Calls Tryd.prog 17 #[.agg #[.int .i64 z.1.k, .int .i64 z.1.nd, .int .i64 z.1.t, .int .i64 z.1.i, .int .i64 z.1.o, .int .i64 z.1.a, .int .i64 z.1.b, .bool z.2, .slice none 0 0], .agg #[.int .i64 z.1.k, .int .i64 z.1.nd, .int .i64 z.1.t, .int .i64 z.1.i, .int .i64 z.1.o, .int .i64 z.1.a, .int .i64 z.1.b, .bool z.2, .slice none 0 0]] W fun e w' => e = .returned (.bool true) ∧ Below w.heap.size w w') := fun W hW =>
            (eqEvent_same z.1.k z.1.nd z.1.t z.1.i z.1.o z.1.a z.1.b z.2 [] 0 none none 0 0 (by omega) W ⟨rfl, .inl rfl⟩ ⟨rfl, .inl rfl⟩).mono fun _ _ ⟨he, hb'⟩ => ⟨he, hW.trans (hb'.mono hW.size)⟩
          have HK : Hid (∀ W : World, Below w.heap.size w W → (W.cell? ⟨b, off + k * 9, none⟩ = some (.int .i64 z.1.k) ∧ W.cell? ⟨b, off + k * 9 + 1, none⟩ = some (.int .i64 z.1.nd) ∧ W.cell? ⟨b, off + k * 9 + 2, none⟩ = some (.int .i64 z.1.t) ∧ W.cell? ⟨b, off + k * 9 + 3, none⟩ = some (.int .i64 z.1.i) ∧ W.cell? ⟨b, off + k * 9 + 4, none⟩ = some (.int .i64 z.1.o) ∧ W.cell? ⟨b, off + k * 9 + 5, none⟩ = some (.int .i64 z.1.a) ∧ W.cell? ⟨b, off + k * 9 + 6, none⟩ = some (.int .i64 z.1.b) ∧ W.cell? ⟨b, off + k * 9 + 7, none⟩ = some (.bool z.2) ∧ W.cell? ⟨b, off + k * 9 + 8, none⟩ = some (.slice none 0 0)) ∧ (W.cell? ⟨b', off' + k * 9, none⟩ = some (.int .i64 z.1.k) ∧ W.cell? ⟨b', off' + k * 9 + 1, none⟩ = some (.int .i64 z.1.nd) ∧ W.cell? ⟨b', off' + k * 9 + 2, none⟩ = some (.int .i64 z.1.t) ∧ W.cell? ⟨b', off' + k * 9 + 3, none⟩ = some (.int .i64 z.1.i) ∧ W.cell? ⟨b', off' + k * 9 + 4, none⟩ = some (.int .i64 z.1.o) ∧ W.cell? ⟨b', off' + k * 9 + 5, none⟩ = some (.int .i64 z.1.a) ∧ W.cell? ⟨b', off' + k * 9 + 6, none⟩ = some (.int .i64 z.1.b) ∧ W.cell? ⟨b', off' + k * 9 + 7, none⟩ = some (.bool z.2) ∧ W.cell? ⟨b', off' + k * 9 + 8, none⟩ = some (.slice none 0 0))) := fun W hW => by
            have h1 := hat.below hW hbl
            have h2 := hat'.below hW hbl'
            exact ⟨⟨h1.c0, h1.c1, h1.c2, h1.c3, h1.c4, h1.c5, h1.c6, h1.c7, h1.c8⟩, ⟨h2.c0, h2.c1, h2.c2, h2.c3, h2.c4, h2.c5, h2.c6, h2.c7, h2.c8⟩⟩
          obtain ⟨⟨e0, e1, e2, e3, e4, e5, e6, e7, e8⟩, ⟨g0, g1, g2, g3, g4, g5, g6, g7, g8⟩⟩ := HK.out wr hb
          have b1 : (0 : Int) ≤ (k : Int) := by omega
          have b2 : (k : Int) < (n : Int) := by omega
          have hbd := hb.drew
          clear hc hc' hat hat' hz
          go_wp2
          go_region_held3 (fun W => Below w.heap.size w W ∧ (W.cell? ⟨b, off + k * 9, none⟩ = some (.int .i64 z.1.k) ∧ W.cell? ⟨b, off + k * 9 + 1, none⟩ = some (.int .i64 z.1.nd) ∧ W.cell? ⟨b, off + k * 9 + 2, none⟩ = some (.int .i64 z.1.t) ∧ W.cell? ⟨b, off + k * 9 + 3, none⟩ = some (.int .i64 z.1.i) ∧ W.cell? ⟨b, off + k * 9 + 4, none⟩ = some (.int .i64 z.1.o) ∧ W.cell? ⟨b, off + k * 9 + 5, none⟩ = some (.int .i64 z.1.a) ∧ W.cell? ⟨b, off + k * 9 + 6, none⟩ = some (.int .i64 z.1.b) ∧ W.cell? ⟨b, off + k * 9 + 7, none⟩ = some (.bool z.2) ∧ W.cell? ⟨b, off + k * 9 + 8, none⟩ = some (.slice none 0 0)) ∧ (W.cell? ⟨b', off' + k * 9, none⟩ = some (.int .i64 z.1.k) ∧ W.cell? ⟨b', off' + k * 9 + 1, none⟩ = some (.int .i64 z.1.nd) ∧ W.cell? ⟨b', off' + k * 9 + 2, none⟩ = some (.int .i64 z.1.t) ∧ W.cell? ⟨b', off' + k * 9 + 3, none⟩ = some (.int .i64 z.1.i) ∧ W.cell? ⟨b', off' + k * 9 + 4, none⟩ = some (.int .i64 z.1.o) ∧ W.cell? ⟨b', off' + k * 9 + 5, none⟩ = some (.int .i64 z.1.a) ∧ W.cell? ⟨b', off' + k * 9 + 6, none⟩ = some (.int .i64 z.1.b) ∧ W.cell? ⟨b', off' + k * 9 + 7, none⟩ = some (.bool z.2) ∧ W.cell? ⟨b', off' + k * 9 + 8, none⟩ = some (.slice none 0 0)))
            (first | exact ⟨hb3, HK.out _ hb3⟩ | exact ⟨hbd, HK.out _ hbd⟩)
            ((go_at_call 17; refine (HT.out _ hbd).mono ?_; rintro e w1 ⟨rfl, hb3⟩))
          clear hbd
          go_wp2
          exact ⟨⟨k + 1, by omega, by go_num, hb3⟩, by simp [intOf]; omega⟩
    · go_wp2
      go_ret
      exact ⟨rfl, hb⟩
/-- the marks of the t-th event -/
def emk (k0 t : Nat) : EvR × Bool := (⟨(k0 : Int) + (t : Int) * 8, (k0 : Int) + (t : Int) * 8 + 1, (k0 : Int) + (t : Int) * 8 + 1 + 1, (k0 : Int) + (t : Int) * 8 + 1 + 1 + 1, (k0 : Int) + (t : Int) * 8 + 1 + 1 + 1 + 1, (k0 : Int) + (t : Int) * 8 + 1 + 1 + 1 + 1 + 1, (k0 : Int) + (t : Int) * 8 + 1 + 1 + 1 + 1 + 1 + 1⟩, decide (((k0 : Int) + (t : Int) * 8 + 1 + 1 + 1 + 1 + 1 + 1 + 1) % 3 = 0))
set_option maxRecDepth 100000 in
set_option maxHeartbeats 4000000 in
theorem markEventS_any (base g c n k0 : Nat) (cs0 : List Value) (hn : n ≤ 1048576) (hk1 : k0 ≤ 10000000) (w : World)
    (h : w.ownsRow base 57 9 (.slice (some ⟨g, 0, none⟩) n c) n cs0) (he : ∀ t < n, ∃ x, Ev9 cs0 t x) :
    Calls Tryd.prog 7 #[.slice (some ⟨g, 0, none⟩) n c, .int .i64 (k0 : Int)] w fun e w' => e = .returned (.int .i64 ((k0 : Int) + (n : Int) * 8)) ∧
      (∃ cs, w'.ownsRow base 57 9 (.slice (some ⟨g, 0, none⟩) n c) n cs ∧ ∀ t < n, Ev9 cs t (emk k0 t)) ∧ w.grownBy w' (some g) := by
  have HO0 := hideIt h
  have HE0 := hideIt he
  have HM3 := hideIt markIntS_nil
  clear h he
  go_enter Tryd.func7, Tryd.ntmps7
  go_wp2
  go_loopw [1, 5] (fun kk i wr => ∃ (j : Nat) (xs : List Value), j ≤ n ∧ i = .int .i64 (j : Int) ∧ kk = .int .i64 ((k0 : Int) + (j : Int) * 8) ∧ Hid ((∀ t < j, Ev9 xs t (emk k0 t)) ∧ ∀ t < n, ∃ x, Ev9 xs t x) ∧
      wr.ownsRow base 57 9 (.slice (some ⟨g, 0, none⟩) n c) n xs ∧ w.grownBy wr (some g)) (fun _ i _ => n - (intOf i).toNat)
  case atStart => exact ⟨0, _, by omega, rfl, by simp, ⟨fun t ht => by omega, HE0.out⟩, HO0.out, ⟨rfl, rfl, rfl, Nat.le_refl _, fun _ _ _ => rfl⟩⟩
  case round =>
    obtain ⟨j, xs, hj, rfl, rfl, hx, hown, hgr⟩ := hrel
    clear HO0 HE0
    have hl3 : xs.length = n * 9 := hown.1
    by_cases hlt : j < n
    · have b1 : (0 : Int) ≤ (j : Int) := by omega
      have b2 : (j : Int) < (n : Int) := by omega
      obtain ⟨x, ex⟩ := hx.out.2 j hlt
      have c0 := (hown.cellAt (j * 9) (by omega)).trans ex.c0
      have c1 := (hown.cellAt (j * 9 + 1) (by omega)).trans ex.c1
      have c2 := (hown.cellAt (j * 9 + 2) (by omega)).trans ex.c2
      have c3 := (hown.cellAt (j * 9 + 3) (by omega)).trans ex.c3
      have c4 := (hown.cellAt (j * 9 + 4) (by omega)).trans ex.c4
      have c5 := (hown.cellAt (j * 9 + 5) (by omega)).trans ex.c5
      have c6 := (hown.cellAt (j * 9 + 6) (by omega)).trans ex.c6
      have c7 := (hown.cellAt (j * 9 + 7) (by omega)).trans ex.c7
      have c8 := (hown.cellAt (j * 9 + 8) (by omega)).trans ex.c8
      have f0 := hown.frozenAt (j * 9)
      have f1 := hown.frozenAt (j * 9 + 1)
      have f2 := hown.frozenAt (j * 9 + 2)
      have f3 := hown.frozenAt (j * 9 + 3)
      have f4 := hown.frozenAt (j * 9 + 4)
      have f5 := hown.frozenAt (j * 9 + 5)
      have f6 := hown.frozenAt (j * 9 + 6)
      have f7 := hown.frozenAt (j * 9 + 7)
      obtain ⟨B, hB⟩ : ∃ B, decide (((k0 : Int) + (j : Int) * 8 + 1 + 1 + 1 + 1 + 1 + 1 + 1) % 3 = 0) = B := ⟨_, rfl⟩
      have hst0 := hown.stored (j * 9) (.int .i64 ((k0 : Int) + (j : Int) * 8))
      have hst1 := hst0.1.stored (j * 9 + 1) (.int .i64 ((k0 : Int) + (j : Int) * 8 + 1))
      have hst2 := hst1.1.stored (j * 9 + 2) (.int .i64 ((k0 : Int) + (j : Int) * 8 + 1 + 1))
      have hst3 := hst2.1.stored (j * 9 + 3) (.int .i64 ((k0 : Int) + (j : Int) * 8 + 1 + 1 + 1))
      have hst4 := hst3.1.stored (j * 9 + 4) (.int .i64 ((k0 : Int) + (j : Int) * 8 + 1 + 1 + 1 + 1))
      have hst5 := hst4.1.stored (j * 9 + 5) (.int .i64 ((k0 : Int) + (j : Int) * 8 + 1 + 1 + 1 + 1 + 1))
      have hst6 := hst5.1.stored (j * 9 + 6) (.int .i64 ((k0 : Int) + (j : Int) * 8 + 1 + 1 + 1 + 1 + 1 + 1))
      have hst7 := hst6.1.stored (j * 9 + 7) (.bool B)
      have HO2 := hideIt hst7.1
      have HG2 := hideIt (grown_trans (grown_trans (grown_trans (grown_trans (grown_trans (grown_trans (grown_trans (grown_trans hgr hst0.2) hst1.2) hst2.2) hst3.2) hst4.2) hst5.2) hst6.2) hst7.2)
      have HX : Hid ((∀ t < j + 1, Ev9 ((((((((xs.set (j * 9) (.int .i64 ((k0 : Int) + (j : Int) * 8))).set (j * 9 + 1) (.int .i64 ((k0 : Int) + (j : Int) * 8 + 1))).set (j * 9 + 2) (.int .i64 ((k0 : Int) + (j : Int) * 8 + 1 + 1))).set (j * 9 + 3) (.int .i64 ((k0 : Int) + (j : Int) * 8 + 1 + 1 + 1))).set (j * 9 + 4) (.int .i64 ((k0 : Int) + (j : Int) * 8 + 1 + 1 + 1 + 1))).set (j * 9 + 5) (.int .i64 ((k0 : Int) + (j : Int) * 8 + 1 + 1 + 1 + 1 + 1))).set (j * 9 + 6) (.int .i64 ((k0 : Int) + (j : Int) * 8 + 1 + 1 + 1 + 1 + 1 + 1))).set (j * 9 + 7) (.bool B)) t (emk k0 t)) ∧
          ∀ t < n, ∃ x, Ev9 ((((((((xs.set (j * 9) (.int .i64 ((k0 : Int) + (j : Int) * 8))).set (j * 9 + 1) (.int .i64 ((k0 : Int) + (j : Int) * 8 + 1))).set (j * 9 + 2) (.int .i64 ((k0 : Int) + (j : Int) * 8 + 1 + 1))).set (j * 9 + 3) (.int .i64 ((k0 : Int) + (j : Int) * 8 + 1 + 1 + 1))).set (j * 9 + 4) (.int .i64 ((k0 : Int) + (j : Int) * 8 + 1 + 1 + 1 + 1))).set (j * 9 + 5) (.int .i64 ((k0 : Int) + (j : Int) * 8 + 1 + 1 + 1 + 1 + 1))).set (j * 9 + 6) (.int .i64 ((k0 : Int) + (j : Int) * 8 + 1 + 1 + 1 + 1 + 1 + 1))).set (j * 9 + 7) (.bool B)) t x) := by
        have hp := ex.put (⟨(k0 : Int) + (j : Int) * 8, (k0 : Int) + (j : Int) * 8 + 1, (k0 : Int) + (j : Int) * 8 + 1 + 1, (k0 : Int) + (j : Int) * 8 + 1 + 1 + 1, (k0 : Int) + (j : Int) * 8 + 1 + 1 + 1 + 1, (k0 : Int) + (j : Int) * 8 + 1 + 1 + 1 + 1 + 1, (k0 : Int) + (j : Int) * 8 + 1 + 1 + 1 + 1 + 1 + 1⟩, B)
        constructor
        · intro t ht
          by_cases e : t = j
          · subst e
            unfold emk
            rw [hB]
            exact hp
          · exact (hx.out.1 t (by omega)).others e
        · intro t ht
          by_cases e : t = j
          · subst e
            exact ⟨_, hp⟩
          · obtain ⟨y, hy⟩ := hx.out.2 t ht
            exact ⟨y, hy.others e⟩
      have dB : ((((k0 : Int) + (j : Int) * 8 + 1 + 1 + 1 + 1 + 1 + 1 + 1) % 3) == 0) = B := by rw [← hB]; rfl
      clear hst0 hst1 hst2 hst3 hst4 hst5 hst6 hst7 hx hown hgr hB ex
      go_wp2_with (first
        | (go_at_call 18; refine (HM3.out _ _).mono ?_; rintro e w3 ⟨rfl, rfl⟩))
      all_goals exact ⟨⟨j + 1, _, by omega, by go_num, by go_num, HX, HO2.out, HG2.out⟩, by simp [intOf]; omega⟩
    · obtain rfl : j = n := by omega
      have HX := hideIt hx.out.1
      have HO := hideIt hown
      clear hx hown
      go_wp2
      go_ret
      exact ⟨rfl, ⟨_, HO.out, HX.out⟩, hgr⟩
set_option maxRecDepth 100000 in
set_option maxHeartbeats 4000000 in
theorem heldEventS_any (n k0 : Nat) (a : Option Addr) (c : Nat) (hn : n ≤ 1048576) (hk1 : k0 ≤ 10000000) (w : World) (h : Eq9 w w.heap.size a n (emk k0)) :
    Calls Tryd.prog 8 #[.slice a n c, .int .i64 (k0 : Int)] w fun e w' => e = .returned (.int .i64 ((k0 : Int) + (n : Int) * 8)) ∧ w' = w := by
  have HR := hideIt h
  have HM3 := hideIt heldIntS_nil
  clear h
  go_enter Tryd.func8, Tryd.ntmps8
  go_wp2
  go_loopw [1, 5] (fun kk i wr => ∃ j : Nat, j ≤ n ∧ i = .int .i64 (j : Int) ∧ kk = .int .i64 ((k0 : Int) + (j : Int) * 8) ∧ wr = w) (fun _ i _ => n - (intOf i).toNat)
  case atStart => exact ⟨0, by omega, rfl, by simp, rfl⟩
  case round =>
    obtain ⟨j, hj, rfl, rfl, hw⟩ := hrel
    have hw' := hw.symm
    subst hw'
    clear hw
    by_cases hlt : j < n
    · rcases HR.out with hz | ⟨b, off, rfl, hbl, hc⟩
      · omega
      · obtain ⟨B, hB⟩ : ∃ B, decide (((k0 : Int) + (j : Int) * 8 + 1 + 1 + 1 + 1 + 1 + 1 + 1) % 3 = 0) = B := ⟨_, rfl⟩
        have hat := hc j hlt
        unfold emk at hat
        rw [hB] at hat
        obtain ⟨c0, c1, c2, c3, c4, c5, c6, c7, c8⟩ := hat
        dsimp only at c0 c1 c2 c3 c4 c5 c6 c7
        have b1 : (0 : Int) ≤ (j : Int) := by omega
        have b2 : (j : Int) < (n : Int) := by omega
        have d0 : (((k0 : Int) + (j : Int) * 8) != ((k0 : Int) + (j : Int) * 8)) = false := by simp
        have d1 : (((k0 : Int) + (j : Int) * 8 + 1) != ((k0 : Int) + (j : Int) * 8 + 1)) = false := by simp
        have d2 : (((k0 : Int) + (j : Int) * 8 + 1 + 1) != ((k0 : Int) + (j : Int) * 8 + 1 + 1)) = false := by simp
        have d3 : (((k0 : Int) + (j : Int) * 8 + 1 + 1 + 1) != ((k0 : Int) + (j : Int) * 8 + 1 + 1 + 1)) = false := by simp
        have d4 : (((k0 : Int) + (j : Int) * 8 + 1 + 1 + 1 + 1) != ((k0 : Int) + (j : Int) * 8 + 1 + 1 + 1 + 1)) = false := by simp
        have d5 : (((k0 : Int) + (j : Int) * 8 + 1 + 1 + 1 + 1 + 1) != ((k0 : Int) + (j : Int) * 8 + 1 + 1 + 1 + 1 + 1)) = false := by simp
        have d6 : (((k0 : Int) + (j : Int) * 8 + 1 + 1 + 1 + 1 + 1 + 1) != ((k0 : Int) + (j : Int) * 8 + 1 + 1 + 1 + 1 + 1 + 1)) = false := by simp
        have d7 : (B != B) = false := by simp
        have q2 : decide ((k0 : Int) + (j : Int) * 8 + 1 + 1 + 1 + 1 + 1 + 1 + 1 + 1 < 0) = false := decide_eq_false (by omega)
        have dB : ((((k0 : Int) + (j : Int) * 8 + 1 + 1 + 1 + 1 + 1 + 1 + 1) % 3) == 0) = B := by rw [← hB]; rfl
        clear hc hB
        go_wp2_with (first
          | (go_at_call 19; refine (HM3.out _ _).mono ?_; rintro e w3 ⟨rfl, rfl⟩))
        exact ⟨⟨j + 1, by omega, by go_num, by go_num, trivial⟩, by simp [intOf]; omega⟩
    · obtain rfl : j = n := by omega
      go_wp2
      go_ret
      exact ⟨rfl, rfl⟩
end Go.Proofs.YtgdlpmmbeacejaaDoor
namespace Go.Proofs.YtgdlpmmbeacejaaDoor
open Go.RowKit C
open Go.Lib (fields fieldsGo isSp)

theorem field_pos : ∀ (r cur x : List UInt8), x ∈ fieldsGo cur r → 0 < x.length
  | [], cur, x, h => by
    unfold fieldsGo at h
    split at h
    · simp at h
    · rename_i hc
      simp at h
      subst h
      cases x <;> simp_all
  | b :: r, cur, x, h => by
    unfold fieldsGo at h
    split at h
    · split at h
      · exact field_pos r [] x h
      · rename_i hc
        rcases List.mem_cons.1 h with rfl | h
        · cases x <;> simp_all
        · exact field_pos r [] x h
    · exact field_pos r _ x h
theorem poR_mem {l : List UInt8} {ps : List ByteArray} (h : Words.poR l = some ps) : ps.length ≤ 10 ∧ ∀ x ∈ ps, 0 < x.size ∧ x.size ≤ 600 := by
  refine ⟨Words.poR_length h, ?_⟩
  unfold Words.poR at h
  split at h
  · rename_i hc
    have h := Option.some.inj h
    subst h
    intro x hx
    obtain ⟨f, hf, rfl⟩ := List.mem_map.1 hx
    have h1 := field_pos l [] f hf
    have h2 := field_small l l [] f hf
    simp at h2
    have e : (Words.mkB f).size = f.length := by simp [Words.mkB, ByteArray.size]
    rw [e]
    omega
  · cases h
theorem mkB_list (l : List UInt8) : (Words.mkB l).data.toList = l := by simp [Words.mkB]
/-- a line of no parts -/
def PtZ (bf : Bool) (u : World) (e : Ending) (u' : World) : Prop := ∃ a c, e = .returned (.tuple #[.slice a 0 c, .bool bf]) ∧ Below u.heap.size u u'
/-- a line of parts -/
def PtP (ps : List ByteArray) (n : Nat) (u : World) (e : Ending) (u' : World) : Prop := ∃ g c, e = .returned (.tuple #[.slice (some ⟨g, 0, none⟩) n c, .bool true]) ∧ n ≤ c ∧ Pv u' g 0 ps ∧ Below u.heap.size u u'
theorem pt_none {l : List UInt8} (h : Words.poR l = none) {u u' : World} {e : Ending} (hp : PoOut (Words.mkB l) u e u') : PtZ false u e u' := by
  have := outZ hp (by rw [mkB_list, h]; rfl)
  rw [mkB_list, h] at this
  exact this
theorem pt_nil {l : List UInt8} (h : Words.poR l = some []) {u u' : World} {e : Ending} (hp : PoOut (Words.mkB l) u e u') : PtZ true u e u' := by
  have := outZ hp (by rw [mkB_list, h]; rfl)
  rw [mkB_list, h] at this
  exact this
theorem pt_some {l : List UInt8} {ps : List ByteArray} (h : Words.poR l = some ps) {n : Nat} (hn : ps.length = n) (h0 : 0 < n) {u u' : World} {e : Ending} (hp : PoOut (Words.mkB l) u e u') : PtP ps n u e u' := by
  have := outP hp (by rw [mkB_list, h]; show 0 < ps.length; omega)
  rw [mkB_list, h] at this
  obtain ⟨g, c, he, ho, hb⟩ := this
  have ho : u'.ownsRow u.heap.size 9 1 (.slice (some ⟨g, 0, none⟩) ps.length c) ps.length (ps.map Value.string) := ho
  refine ⟨g, c, by rw [← hn]; exact he, ?_, ⟨(ho.lt g rfl).2, fun j x hx => ?_⟩, hb⟩
  · rcases ho.2 with ⟨hv, _⟩ | ⟨g', c', cur, hv, _, _, hle, _⟩
    · simp at hv
    · simp at hv
      obtain ⟨_, rfl⟩ := hv
      omega
  · have hj : j < ps.length := (List.getElem?_eq_some_iff.1 hx).1
    rw [Nat.zero_add, cells_of rfl ho j hj]
    rw [List.getElem?_eq_getElem hj] at hx
    rw [Option.some.inj hx]
theorem rs_long {l : List UInt8} (h : 4000 < l.length ∨ 100 < (Lines.lns l).length) : rsR l = (⟨0, 0, []⟩, -1) := by unfold rsR; rw [if_pos h]
theorem rs_fault {l : List UInt8} (h : ¬ (4000 < l.length ∨ 100 < (Lines.lns l).length)) {i : Nat} {st : Sst} (hr : Rn (Lines.lns l) i st) (hi : i < (Lines.lns l).length) (hs : stepL st ((Lines.lns l)[i]) = none) : rsR l = (⟨0, 0, []⟩, ((i : Int) + 1)) := by
  unfold rsR
  rw [if_neg h, hr.fault hi hs]
  simp
theorem rs_noweb {l : List UInt8} (h : ¬ (4000 < l.length ∨ 100 < (Lines.lns l).length)) {i : Nat} {st : Sst} (hr : Rn (Lines.lns l) i st) (hi : ¬ i < (Lines.lns l).length) (hs : st.n = 0) : rsR l = (⟨0, 0, []⟩, 1) := by
  unfold rsR
  rw [if_neg h, hr.done hi]
  simp [hs]
theorem rs_done {l : List UInt8} (h : ¬ (4000 < l.length ∨ 100 < (Lines.lns l).length)) {i : Nat} {st : Sst} (hr : Rn (Lines.lns l) i st) (hi : ¬ i < (Lines.lns l).length) (hs : st.n ≠ 0) : rsR l = (st, 0) := by
  unfold rsR
  rw [if_neg h, hr.done hi]
  simp [hs]
theorem rs_out {l : List UInt8} {st : Sst} {f : Int} (h : rsR l = (st, f)) {w w' : World} {a : Option Addr} {n c : Nat} (hn : st.evs.length = n) (ho : w'.ownsRow w.heap.size 57 9 (.slice a n c) n (evc st.evs)) (hb : Below w.heap.size w w') :
    RsOut l w (.returned (.tuple #[.int .i64 (st.n : Int), .int .i64 (st.sh : Int), .slice a n c, .int .i64 f])) w' := by
  refine ⟨a, n, c, ?_, ?_, ?_, hb⟩
  · rw [h]
  · rw [h]; exact hn
  · rw [h]; exact ho
end Go.Proofs.YtgdlpmmbeacejaaDoor
