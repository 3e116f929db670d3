/- The walk of FnGraphs. -/
import Derived.Test.YtfkoddhojcjohaaGraphTell
import Derived.Deep.DeepCutAuto
namespace Go.Proofs.Ytfkoddhojcjohaa
open Go.RowKit

/-- an edge in a box, below -/
structure BE (u : World) (Y : Nat) (e : EdgeV) : Prop where
  c0 : u.cell? ⟨Y, 0, none⟩ = some (.int .i64 e.1)
  c1 : u.cell? ⟨Y, 1, none⟩ = some (.int .i64 e.2)
  lt : Y < u.heap.size
theorem BE.up {u v : World} {Y : Nat} {e : EdgeV} (h : BE u Y e) (hb : Below u.heap.size u v) : BE v Y e :=
  ⟨by rw [hb.cell h.lt]; exact h.c0, by rw [hb.cell h.lt]; exact h.c1, Nat.lt_of_lt_of_le h.lt hb.size⟩

/-- what AddEdge answers at a graph that stands below -/
theorem add_at {u : World} {X nn : Nat} {a : Option Addr} {m c : Nat} {es : List EdgeV} (h : BG u X (nn : Int) a m c es) (hm : m ≤ 100) (e : EdgeV) {o : Option (List EdgeV)} (ho : addE (nn : Int) es e = o) :
    Calls Try.prog 11 #[.agg #[.int .i64 (nn : Int), .slice a m c], .agg #[.int .i64 e.1, .int .i64 e.2]] u fun x v => ∃ aw mw cw, x = .returned (.tuple #[.agg #[.int .i64 (if o.isSome then (nn : Int) else 0), .slice aw mw cw], .bool o.isSome]) ∧ v.ownsRow u.heap.size 28 2 (.slice aw mw cw) mw (ecells (o.getD [])) ∧ Below u.heap.size u v := by
  subst ho
  exact iAddEdge_any (nn : Int) es e m a c h.sl (by omega) u h.row
/-- what TakeEdge answers -/
theorem take_at {u : World} {X nn : Nat} {a : Option Addr} {m c : Nat} {es : List EdgeV} (h : BG u X (nn : Int) a m c es) (hm : m ≤ 100) (e : EdgeV) {o : Option (List EdgeV)} (ho : takE (nn : Int) es e = o) :
    Calls Try.prog 15 #[.agg #[.int .i64 (nn : Int), .slice a m c], .agg #[.int .i64 e.1, .int .i64 e.2]] u fun x v => ∃ aw mw cw, x = .returned (.tuple #[.agg #[.int .i64 (if o.isSome then (nn : Int) else 0), .slice aw mw cw], .bool o.isSome]) ∧ v.ownsRow u.heap.size 28 2 (.slice aw mw cw) mw (ecells (o.getD [])) ∧ Below u.heap.size u v := by
  subst ho
  exact iTakeEdge_any (nn : Int) es e m a c h.sl (by omega) u h.row
theorem BG.len {u : World} {X : Nat} {M : Int} {a : Option Addr} {m c : Nat} {es : List EdgeV} (h : BG u X M a m c es) : es.length = m := h.row.1

set_option maxRecDepth 100000 in
set_option maxHeartbeats 16000000 in
theorem fnGraphs.walk (a : Option Addr) (len cap : Nat) (w : World) (hcode : Code w w.heap.size a len) :
    Calls Try.prog 3 #[.slice a len cap] w fun e w' => e = .returned (.bool true) ∧ Below w.heap.size w w' := by
  by_cases hbig : 1048576 < len
  · have H := hideIt (big_any w a len cap)
    have d0 : decide ((1048576 : Int) < (len : Int)) = true := decide_eq_true (by omega)
    rw [d0] at H
    go_enter Try.func3, Try.ntmps3
    go_wp2_with (go_at_call 9; refine H.out.mono ?_; rintro e w1 ⟨rfl, rfl⟩)
    go_ret
    exact ⟨rfl, Below.refl _ _⟩
  have hl : len ≤ 1048576 := by omega
  have H := hideIt (big_any w a len cap)
  have d0 : decide ((1048576 : Int) < (len : Int)) = false := decide_eq_false (by omega)
  rw [d0] at H
  have HD := hideIt (drawRightGraph_any w a len cap hl hcode)
  clear hcode
  go_enter Try.func3, Try.ntmps3
  go_wp2_with (go_at_call 9; refine H.out.mono ?_; rintro e w1 ⟨rfl, hw1⟩; have hw1' := hw1.symm; subst hw1'; refine Hid.out ?_)
  refine (show ∀ {p : Prop}, p → Hid p from fun h => h) ?_
  go_wp2_with (go_at_call 10; refine HD.out.mono ?_; rintro x w2 ⟨nn, es, e, a', m, c', hR, he, rfl, ho2, hb2⟩; refine Hid.out ?_)
  refine (show ∀ {p : Prop}, p → Hid p from fun h => h) ?_
  have hn2 := hR.out.n2
  have hn12 := hR.out.n12
  have hm : es.length = m := by have := ho2.1; rw [ecells_length] at this; omega
  have hm16 : m ≤ 16 := by have := hR.out.len; omega
  have HGB := hideIt (hR.out.gB (by omega))
  have hasc := hideIt (asc_of_chk hR.out.ok)
  obtain ⟨W3, hW3⟩ : ∃ W3, W3 = (w2.alloc (.cells #[.int .i64 (nn : Int), .slice a' m c'] 26)).alloc (.cells #[.int .i64 e.1, .int .i64 e.2] 28) := ⟨_, rfl⟩
  have G3 : BG W3 w2.heap.size (nn : Int) a' m c' es := by rw [hW3]; exact (BG.laid ho2).up ((Below.refl _ _).alloc (Nat.le_refl _) _)
  have E3 : BE W3 (w2.heap.size + 1) e := by rw [hW3]; exact ⟨by simp [go_sem], by simp [go_sem], by simp⟩
  have HB3 : Hid (Below w.heap.size w W3) := by
    show Below _ _ _
    rw [hW3]
    exact hb2.trans ((((Below.refl w2.heap.size w2).alloc (Nat.le_refl _) _).alloc (by simp) _).mono hb2.size)
  clear HD H ho2 hb2
  go_upto_region 4 with fail
  rw [← hW3]
  clear hW3
  cases hh : hasB es e with
  | true =>
    have hmem : e ∈ es := of_decide_eq_true hh
    have o1 : addE (nn : Int) es e = none := by unfold addE; rw [hh, if_neg (by simp)]
    have o2 : takE (nn : Int) es e = some (outE es e) := by unfold takE; rw [HGB.out, hh, if_pos (by simp)]
    have o3 : addE (nn : Int) (outE es e) e = some es := by unfold addE; rw [(hR.out.out e).gB (by omega), he.out, has_out, if_pos (by simp), put_out hasc.out hmem]
    have hlo := outE_length es e
    have O := hideIt (And.intro o1 (And.intro o2 o3))
    clear o1 o2 o3 hmem
    have H4 := hideIt (add_at G3 (by omega) e O.out.1)
    simp only [Option.isSome_none, Option.getD_none, Bool.false_eq_true, if_false] at H4
    have Gc0 := G3.c0
    have Gc1 := G3.c1
    have Ec0 := E3.c0
    have Ec1 := E3.c1
    go_wp2_with (go_at_call 11; refine H4.out.mono ?_; rintro x w4 ⟨a4, m4, c4, rfl, ho4, hb4⟩; refine Hid.out ?_)
    refine (show ∀ {p : Prop}, p → Hid p from fun h => h) ?_
    have hu4 : Below W3.heap.size W3 (w4.alloc (.cells #[.int .i64 0, .slice a4 m4 c4] 26)) := hb4.trans (((Below.refl w4.heap.size w4).alloc (Nat.le_refl _) _).mono hb4.size)
    have G4 := G3.up hu4
    have E4 := E3.up hu4
    have HB4 := hideIt (HB3.out.trans (hu4.mono HB3.out.size))
    have A4 : BG (w4.alloc (.cells #[.int .i64 0, .slice a4 m4 c4] 26)) w4.heap.size 0 a4 m4 c4 [] := BG.laid ho4
    clear Gc0 Gc1 Ec0 Ec1
    clear hu4 hb4 H4 G3 E3 HB3 ho4
    have H5 := hideIt (iHasEdge_any (nn : Int) es e m a' c' (by omega) _ G4.row)
    rw [hh] at H5
    have Gc0 := G4.c0
    have Gc1 := G4.c1
    have Ec0 := E4.c0
    have Ec1 := E4.c1
    go_wp2_with (go_at_call 12; refine H5.out.mono ?_; rintro x w5 ⟨rfl, hb5⟩; refine Hid.out ?_)
    refine (show ∀ {p : Prop}, p → Hid p from fun h => h) ?_
    have hu5 := hb5
    have G5 := G4.up hu5
    have E5 := E4.up hu5
    have A5 := A4.up hu5
    have HB5 := hideIt (HB4.out.trans (hu5.mono HB4.out.size))
    clear Gc0 Gc1 Ec0 Ec1
    clear hu5 hb5 H5 G4 E4 A4 HB4
    have H6 := hideIt (iGraphOk_any (nn : Int) es m a' c' (by omega) _ G5.row)
    rw [HGB.out] at H6
    have Gc0 := G5.c0
    have Gc1 := G5.c1
    have Ec0 := E5.c0
    have Ec1 := E5.c1
    go_wp2_with (go_at_call 13; refine H6.out.mono ?_; rintro x w6 ⟨rfl, hb6⟩; refine Hid.out ?_)
    refine (show ∀ {p : Prop}, p → Hid p from fun h => h) ?_
    have hu6 := hb6
    have G6 := G5.up hu6
    have E6 := E5.up hu6
    have A6 := A5.up hu6
    have HB6 := hideIt (HB5.out.trans (hu6.mono HB5.out.size))
    clear Gc0 Gc1 Ec0 Ec1
    clear hu6 hb6 H6 G5 E5 A5 HB5
    have H7 := hideIt (iEdgeOk_any (nn : Int) e w6)
    rw [he.out] at H7
    have Gc0 := G6.c0
    have Gc1 := G6.c1
    have Ec0 := E6.c0
    have Ec1 := E6.c1
    go_wp2_with (go_at_call 14; refine H7.out.mono ?_; rintro x w7 ⟨rfl, hb7⟩; refine Hid.out ?_)
    refine (show ∀ {p : Prop}, p → Hid p from fun h => h) ?_
    have hu7 := hb7
    have G7 := G6.up hu7
    have E7 := E6.up hu7
    have A7 := A6.up hu7
    have HB7 := hideIt (HB6.out.trans (hu7.mono HB6.out.size))
    clear Gc0 Gc1 Ec0 Ec1
    clear hu7 hb7 H7 G6 E6 A6 HB6
    have H8 := hideIt (take_at G7 (by omega) e O.out.2.1)
    simp only [Option.isSome_some, Option.getD_some, if_true] at H8
    have Gc0 := G7.c0
    have Gc1 := G7.c1
    have Ec0 := E7.c0
    have Ec1 := E7.c1
    go_wp2_with (go_at_call 15; refine H8.out.mono ?_; rintro x w8 ⟨a8, m8, c8, rfl, ho8, hb8⟩; refine Hid.out ?_)
    refine (show ∀ {p : Prop}, p → Hid p from fun h => h) ?_
    have hu8 : Below w7.heap.size w7 (w8.alloc (.cells #[.int .i64 (nn : Int), .slice a8 m8 c8] 26)) := hb8.trans (((Below.refl w8.heap.size w8).alloc (Nat.le_refl _) _).mono hb8.size)
    have G8 := G7.up hu8
    have E8 := E7.up hu8
    have A8 := A7.up hu8
    have HB8 := hideIt (HB7.out.trans (hu8.mono HB7.out.size))
    have B8 : BG (w8.alloc (.cells #[.int .i64 (nn : Int), .slice a8 m8 c8] 26)) w8.heap.size (nn : Int) a8 m8 c8 (outE es e) := BG.laid ho8
    clear Gc0 Gc1 Ec0 Ec1
    clear hu8 hb8 H8 G7 E7 A7 HB7 ho8
    have hlB := B8.len
    have H9 := hideIt (add_at B8 (by omega) e O.out.2.2)
    simp only [Option.isSome_some, Option.getD_some, if_true] at H9
    have Bc0 := B8.c0
    have Bc1 := B8.c1
    have Ec0 := E8.c0
    have Ec1 := E8.c1
    go_wp2_with (go_at_call 11; refine H9.out.mono ?_; rintro x w9 ⟨a9, m9, c9, rfl, ho9, hb9⟩; refine Hid.out ?_)
    refine (show ∀ {p : Prop}, p → Hid p from fun h => h) ?_
    have hu9 : Below (w8.alloc (.cells #[.int .i64 (nn : Int), .slice a8 m8 c8] 26)).heap.size (w8.alloc (.cells #[.int .i64 (nn : Int), .slice a8 m8 c8] 26)) (w9.alloc (.cells #[.int .i64 (nn : Int), .slice a9 m9 c9] 26)) := hb9.trans (((Below.refl w9.heap.size w9).alloc (Nat.le_refl _) _).mono hb9.size)
    have G9 := G8.up hu9
    have E9 := E8.up hu9
    have A9 := A8.up hu9
    have B9 := B8.up hu9
    have HB9 := hideIt (HB8.out.trans (hu9.mono HB8.out.size))
    have C9 : BG (w9.alloc (.cells #[.int .i64 (nn : Int), .slice a9 m9 c9] 26)) w9.heap.size (nn : Int) a9 m9 c9 es := BG.laid ho9
    clear Bc0 Bc1 Ec0 Ec1
    clear hu9 hb9 H9 G8 E8 A8 B8 HB8 ho9
    have hlC := C9.len
    obtain rfl : m9 = m := by omega
    have H10 := hideIt (sameEdges_same es _ _ _ c9 c' (by omega) _ C9.row G9.row)
    have Cc0 := C9.c0
    have Cc1 := C9.c1
    have Gc0 := G9.c0
    have Gc1 := G9.c1
    go_wp2_with (go_at_call 16; refine H10.out.mono ?_; rintro x w10 ⟨rfl, hb10⟩; refine Hid.out ?_)
    refine (show ∀ {p : Prop}, p → Hid p from fun h => h) ?_
    have hu10 := hb10
    have G10 := G9.up hu10
    have E10 := E9.up hu10
    have A10 := A9.up hu10
    have B10 := B9.up hu10
    have C10 := C9.up hu10
    have HB10 := hideIt (HB9.out.trans (hu10.mono HB9.out.size))
    clear Cc0 Cc1 Gc0 Gc1
    clear hu10 hb10 H10 G9 E9 A9 B9 C9 HB9
    have H11 := hideIt (iHasEdge_any (nn : Int) (outE es e) e m8 a8 c8 (by omega) _ B10.row)
    rw [has_out] at H11
    have Bc0 := B10.c0
    have Bc1 := B10.c1
    have Ec0 := E10.c0
    have Ec1 := E10.c1
    go_wp2_with (go_at_call 12; refine H11.out.mono ?_; rintro x w11 ⟨rfl, hb11⟩; refine Hid.out ?_)
    refine (show ∀ {p : Prop}, p → Hid p from fun h => h) ?_
    have hu11 := hb11
    have G11 := G10.up hu11
    have E11 := E10.up hu11
    have A11 := A10.up hu11
    have B11 := B10.up hu11
    have C11 := C10.up hu11
    have HB11 := hideIt (HB10.out.trans (hu11.mono HB10.out.size))
    clear Bc0 Bc1 Ec0 Ec1
    clear hu11 hb11 H11 G10 E10 A10 B10 C10 HB10
    go_wp2
    go_ret
    exact ⟨rfl, HB11.out⟩
  | false =>
    have hmem : e ∉ es := of_decide_eq_false hh
    have o1 : addE (nn : Int) es e = some (putE es e) := by unfold addE; rw [HGB.out, he.out, hh, if_pos (by simp)]
    have o2 : takE (nn : Int) (putE es e) e = some es := by unfold takE; rw [(hR.out.put he.out).gB (by omega), has_put, if_pos (by simp), out_put hasc.out hmem]
    have o3 : addE (nn : Int) (putE es e) e = none := by unfold addE; rw [has_put, if_neg (by simp)]
    have o4 : takE (nn : Int) es e = none := by unfold takE; rw [hh, if_neg (by simp)]
    have hgp := hideIt ((hR.out.put he.out).gB (by omega))
    have hlo := put_len es e
    have O := hideIt (And.intro o1 (And.intro o2 (And.intro o3 o4)))
    clear o1 o2 o3 o4 hmem
    have H4 := hideIt (add_at G3 (by omega) e O.out.1)
    simp only [Option.isSome_some, Option.getD_some, if_true] at H4
    have Gc0 := G3.c0
    have Gc1 := G3.c1
    have Ec0 := E3.c0
    have Ec1 := E3.c1
    go_wp2_with (go_at_call 11; refine H4.out.mono ?_; rintro x w4 ⟨a4, m4, c4, rfl, ho4, hb4⟩; refine Hid.out ?_)
    refine (show ∀ {p : Prop}, p → Hid p from fun h => h) ?_
    have hu4 : Below W3.heap.size W3 (w4.alloc (.cells #[.int .i64 (nn : Int), .slice a4 m4 c4] 26)) := hb4.trans (((Below.refl w4.heap.size w4).alloc (Nat.le_refl _) _).mono hb4.size)
    have G4 := G3.up hu4
    have E4 := E3.up hu4
    have HB4 := hideIt (HB3.out.trans (hu4.mono HB3.out.size))
    have A4 : BG (w4.alloc (.cells #[.int .i64 (nn : Int), .slice a4 m4 c4] 26)) w4.heap.size (nn : Int) a4 m4 c4 (putE es e) := BG.laid ho4
    clear Gc0 Gc1 Ec0 Ec1
    clear hu4 hb4 H4 G3 E3 HB3 ho4
    have H5 := hideIt (iHasEdge_any (nn : Int) es e m a' c' (by omega) _ G4.row)
    rw [hh] at H5
    have Gc0 := G4.c0
    have Gc1 := G4.c1
    have Ec0 := E4.c0
    have Ec1 := E4.c1
    go_wp2_with (go_at_call 12; refine H5.out.mono ?_; rintro x w5 ⟨rfl, hb5⟩; refine Hid.out ?_)
    refine (show ∀ {p : Prop}, p → Hid p from fun h => h) ?_
    have hu5 := hb5
    have G5 := G4.up hu5
    have E5 := E4.up hu5
    have A5 := A4.up hu5
    have HB5 := hideIt (HB4.out.trans (hu5.mono HB4.out.size))
    clear Gc0 Gc1 Ec0 Ec1
    clear hu5 hb5 H5 G4 E4 A4 HB4
    have H6 := hideIt (iGraphOk_any (nn : Int) es m a' c' (by omega) _ G5.row)
    rw [HGB.out] at H6
    have Gc0 := G5.c0
    have Gc1 := G5.c1
    have Ec0 := E5.c0
    have Ec1 := E5.c1
    go_wp2_with (go_at_call 13; refine H6.out.mono ?_; rintro x w6 ⟨rfl, hb6⟩; refine Hid.out ?_)
    refine (show ∀ {p : Prop}, p → Hid p from fun h => h) ?_
    have hu6 := hb6
    have G6 := G5.up hu6
    have E6 := E5.up hu6
    have A6 := A5.up hu6
    have HB6 := hideIt (HB5.out.trans (hu6.mono HB5.out.size))
    clear Gc0 Gc1 Ec0 Ec1
    clear hu6 hb6 H6 G5 E5 A5 HB5
    have H7 := hideIt (iEdgeOk_any (nn : Int) e w6)
    rw [he.out] at H7
    have Gc0 := G6.c0
    have Gc1 := G6.c1
    have Ec0 := E6.c0
    have Ec1 := E6.c1
    go_wp2_with (go_at_call 14; refine H7.out.mono ?_; rintro x w7 ⟨rfl, hb7⟩; refine Hid.out ?_)
    refine (show ∀ {p : Prop}, p → Hid p from fun h => h) ?_
    have hu7 := hb7
    have G7 := G6.up hu7
    have E7 := E6.up hu7
    have A7 := A6.up hu7
    have HB7 := hideIt (HB6.out.trans (hu7.mono HB6.out.size))
    clear Gc0 Gc1 Ec0 Ec1
    clear hu7 hb7 H7 G6 E6 A6 HB6
    have hlA := A7.len
    have H8 := hideIt (take_at A7 (by omega) e O.out.2.1)
    simp only [Option.isSome_some, Option.getD_some, if_true] at H8
    have Ac0 := A7.c0
    have Ac1 := A7.c1
    have Ec0 := E7.c0
    have Ec1 := E7.c1
    go_wp2_with (go_at_call 15; refine H8.out.mono ?_; rintro x w8 ⟨a8, m8, c8, rfl, ho8, hb8⟩; refine Hid.out ?_)
    refine (show ∀ {p : Prop}, p → Hid p from fun h => h) ?_
    have hu8 : Below w7.heap.size w7 (w8.alloc (.cells #[.int .i64 (nn : Int), .slice a8 m8 c8] 26)) := hb8.trans (((Below.refl w8.heap.size w8).alloc (Nat.le_refl _) _).mono hb8.size)
    have G8 := G7.up hu8
    have E8 := E7.up hu8
    have A8 := A7.up hu8
    have HB8 := hideIt (HB7.out.trans (hu8.mono HB7.out.size))
    have B8 : BG (w8.alloc (.cells #[.int .i64 (nn : Int), .slice a8 m8 c8] 26)) w8.heap.size (nn : Int) a8 m8 c8 es := BG.laid ho8
    clear Ac0 Ac1 Ec0 Ec1
    clear hu8 hb8 H8 G7 E7 A7 HB7 ho8
    have hlB := B8.len
    obtain rfl : m8 = m := by omega
    have H9 := hideIt (add_at A8 (by omega) e O.out.2.2.1)
    simp only [Option.isSome_none, Option.getD_none, Bool.false_eq_true, if_false] at H9
    have Ac0 := A8.c0
    have Ac1 := A8.c1
    have Ec0 := E8.c0
    have Ec1 := E8.c1
    go_wp2_with (go_at_call 11; refine H9.out.mono ?_; rintro x w9 ⟨a9, m9, c9, rfl, ho9, hb9⟩; refine Hid.out ?_)
    refine (show ∀ {p : Prop}, p → Hid p from fun h => h) ?_
    have hu9 : Below (w8.alloc (.cells #[.int .i64 (nn : Int), .slice a8 m8 c8] 26)).heap.size (w8.alloc (.cells #[.int .i64 (nn : Int), .slice a8 m8 c8] 26)) (w9.alloc (.cells #[.int .i64 0, .slice a9 m9 c9] 26)) := hb9.trans (((Below.refl w9.heap.size w9).alloc (Nat.le_refl _) _).mono hb9.size)
    have G9 := G8.up hu9
    have E9 := E8.up hu9
    have A9 := A8.up hu9
    have B9 := B8.up hu9
    have HB9 := hideIt (HB8.out.trans (hu9.mono HB8.out.size))
    have C9 : BG (w9.alloc (.cells #[.int .i64 0, .slice a9 m9 c9] 26)) w9.heap.size 0 a9 m9 c9 [] := BG.laid ho9
    clear Ac0 Ac1 Ec0 Ec1
    clear hu9 hb9 H9 G8 E8 A8 B8 HB8 ho9
    have H10 := hideIt (take_at G9 (by omega) e O.out.2.2.2)
    simp only [Option.isSome_none, Option.getD_none, Bool.false_eq_true, if_false] at H10
    have Gc0 := G9.c0
    have Gc1 := G9.c1
    have Ec0 := E9.c0
    have Ec1 := E9.c1
    go_wp2_with (go_at_call 15; refine H10.out.mono ?_; rintro x w10 ⟨a10, m10, c10, rfl, ho10, hb10⟩; refine Hid.out ?_)
    refine (show ∀ {p : Prop}, p → Hid p from fun h => h) ?_
    have hu10 : Below (w9.alloc (.cells #[.int .i64 0, .slice a9 m9 c9] 26)).heap.size (w9.alloc (.cells #[.int .i64 0, .slice a9 m9 c9] 26)) (w10.alloc (.cells #[.int .i64 0, .slice a10 m10 c10] 26)) := hb10.trans (((Below.refl w10.heap.size w10).alloc (Nat.le_refl _) _).mono hb10.size)
    have G10 := G9.up hu10
    have E10 := E9.up hu10
    have A10 := A9.up hu10
    have B10 := B9.up hu10
    have C10 := C9.up hu10
    have HB10 := hideIt (HB9.out.trans (hu10.mono HB9.out.size))
    have D10 : BG (w10.alloc (.cells #[.int .i64 0, .slice a10 m10 c10] 26)) w10.heap.size 0 a10 m10 c10 [] := BG.laid ho10
    clear Gc0 Gc1 Ec0 Ec1
    clear hu10 hb10 H10 G9 E9 A9 B9 C9 HB9 ho10
    have H11 := hideIt (sameEdges_same es _ _ _ c8 c' (by omega) _ B10.row G10.row)
    have Bc0 := B10.c0
    have Bc1 := B10.c1
    have Gc0 := G10.c0
    have Gc1 := G10.c1
    go_wp2_with (go_at_call 16; refine H11.out.mono ?_; rintro x w11 ⟨rfl, hb11⟩; refine Hid.out ?_)
    refine (show ∀ {p : Prop}, p → Hid p from fun h => h) ?_
    have hu11 := hb11
    have G11 := G10.up hu11
    have E11 := E10.up hu11
    have A11 := A10.up hu11
    have B11 := B10.up hu11
    have C11 := C10.up hu11
    have D11 := D10.up hu11
    have HB11 := hideIt (HB10.out.trans (hu11.mono HB10.out.size))
    clear Bc0 Bc1 Gc0 Gc1
    clear hu11 hb11 H11 G10 E10 A10 B10 C10 D10 HB10
    have H12 := hideIt (iHasEdge_any (nn : Int) (putE es e) e m4 a4 c4 (by omega) _ A11.row)
    rw [has_put] at H12
    have Ac0 := A11.c0
    have Ac1 := A11.c1
    have Ec0 := E11.c0
    have Ec1 := E11.c1
    go_wp2_with (go_at_call 12; refine H12.out.mono ?_; rintro x w12 ⟨rfl, hb12⟩; refine Hid.out ?_)
    refine (show ∀ {p : Prop}, p → Hid p from fun h => h) ?_
    have hu12 := hb12
    have G12 := G11.up hu12
    have E12 := E11.up hu12
    have A12 := A11.up hu12
    have B12 := B11.up hu12
    have C12 := C11.up hu12
    have D12 := D11.up hu12
    have HB12 := hideIt (HB11.out.trans (hu12.mono HB11.out.size))
    clear Ac0 Ac1 Ec0 Ec1
    clear hu12 hb12 H12 G11 E11 A11 B11 C11 D11 HB11
    have H13 := hideIt (sGraphOk_any (nn : Int) (putE es e) m4 a4 c4 (by omega) _ A12.row)
    rw [hgp.out] at H13
    have Ac0 := A12.c0
    have Ac1 := A12.c1
    go_wp2_with (go_at_call 17; refine H13.out.mono ?_; rintro x w13 ⟨rfl, hb13⟩; refine Hid.out ?_)
    refine (show ∀ {p : Prop}, p → Hid p from fun h => h) ?_
    have hu13 := hb13
    have G13 := G12.up hu13
    have E13 := E12.up hu13
    have A13 := A12.up hu13
    have B13 := B12.up hu13
    have C13 := C12.up hu13
    have D13 := D12.up hu13
    have HB13 := hideIt (HB12.out.trans (hu13.mono HB12.out.size))
    clear Ac0 Ac1
    clear hu13 hb13 H13 G12 E12 A12 B12 C12 D12 HB12
    go_wp2
    go_ret
    exact ⟨rfl, HB13.out⟩
end Go.Proofs.Ytfkoddhojcjohaa
