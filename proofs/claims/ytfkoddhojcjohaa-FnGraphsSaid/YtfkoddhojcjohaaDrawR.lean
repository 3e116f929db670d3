/- The draw of a right graph and an edge, as the laws call it. -/
import Derived.Test.YtfkoddhojcjohaaDrawG
namespace Go.Proofs.Ytfkoddhojcjohaa
open Go.RowKit

theorem big_any (w : World) (a : Option Addr) (len cap : Nat) : Calls Try.prog 9 #[.slice a len cap] w fun e w' => e = .returned (.bool (decide ((1048576 : Int) < (len : Int)))) ∧ w' = w := by
  go_enter Try.func9, Try.ntmps9
  go_wp2
  go_ret
  exact ⟨rfl, rfl⟩

theorem code_up {w w' : World} {a : Option Addr} {len : Nat} (h : Code w w.heap.size a len) (hb : Below w.heap.size w w') : Code w' w'.heap.size a len := by
  rcases h with h | ⟨b, off, ha, hbl, hn, hc⟩
  · exact .inl h
  · have := hb.size
    refine .inr ⟨b, off, ha, by omega, by omega, fun j hj => ?_⟩
    obtain ⟨z, hz, hcell⟩ := hc j hj
    exact ⟨z, hz, by rw [hb.cell hbl]; exact hcell⟩

/-- the results' cells, the graph's box, the cursor -/
structure RAt (w : World) (X : Nat) (a : Option Addr) (len cap nn : Nat) (es : List EdgeV) (a' : Option Addr) (m c' : Nat) (u : World) : Prop where
  cur : Cur u (w.heap.size + 2) a len cap
  code : Code u (w.heap.size + 2) a len
  r0 : Box2 u w.heap.size 26 (.int .i64 0) (.slice none 0 0)
  r1 : Box2 u (w.heap.size + 1) 28 (.int .i64 0) (.int .i64 0)
  box : Box2 u X 26 (.int .i64 (nn : Int)) (.slice a' m c')
  own : u.ownsRow (w.heap.size + 3) 28 2 (.slice a' m c') m (ecells es)
  bel : Below w.heap.size w u
  high : w.heap.size + 3 ≤ X
theorem RAt.drawn {w : World} {X : Nat} {a : Option Addr} {len cap nn : Nat} {es : List EdgeV} {a' : Option Addr} {m c' : Nat} {u v : World} (h : RAt w X a len cap nn es a' m c' u) (d : Drawn u v (w.heap.size + 2) a len cap) : RAt w X a len cap nn es a' m c' v :=
  ⟨d.cur, d.code, h.r0.grown d.grown (by simp), h.r1.grown d.grown (by simp), h.box.grown d.grown (by have := h.high; simp; omega), own_grown h.own d.grown (by omega), h.bel.grown d.grown h.bel.size (fun j hj => by simp at hj; omega), h.high⟩
theorem RAt.drew {w : World} {X : Nat} {a : Option Addr} {len cap nn : Nat} {es : List EdgeV} {a' : Option Addr} {m c' : Nat} {u : World} (h : RAt w X a len cap nn es a' m c' u) : RAt w X a len cap nn es a' m c' u.drew :=
  ⟨h.cur, h.code, h.r0, h.r1, h.box, h.own.drew, h.bel.drew, h.high⟩

set_option maxRecDepth 100000 in
set_option maxHeartbeats 8000000 in
theorem drawRightGraph_any (w : World) (a : Option Addr) (len cap : Nat) (hl : len ≤ 1048576) (hcode : Code w w.heap.size a len) :
    Calls Try.prog 10 #[.slice a len cap] w fun x w' => ∃ (nn : Nat) (es : List EdgeV) (e : EdgeV) (a' : Option Addr) (m c' : Nat), Hid (GR nn es 16) ∧ Hid (eB (nn : Int) e = true) ∧
      x = .returned (.tuple #[.agg #[.int .i64 (nn : Int), .slice a' m c'], .agg #[.int .i64 e.1, .int .i64 e.2]]) ∧ w'.ownsRow w.heap.size 28 2 (.slice a' m c') m (ecells es) ∧ Below w.heap.size w w' := by
  have hb0 : Below w.heap.size w ((w.alloc (.cells #[.int .i64 0, .slice none 0 0] 26)).alloc (.cells #[.int .i64 0, .int .i64 0] 28)) := ((Below.refl _ _).alloc (Nat.le_refl _) _).alloc (by simp) _
  have HN := hideIt (l01New_any _ a len cap hl (code_up hcode hb0))
  have HG := hideIt (fun (W : World) (G : Nat) (hc : Cur W G a len cap) (hd : Code W G a len) => l05Graph_any W G a len cap hl hc hd)
  have HE := hideIt (fun (nn : Nat) (h2 : 2 ≤ nn) (h12 : nn ≤ 12) (W : World) (G : Nat) (hc : Cur W G a len cap) (hd : Code W G a len) => l05Edge_any nn h2 h12 W G a len cap hl hc hd)
  have R0 : Box2 ((w.alloc (.cells #[.int .i64 0, .slice none 0 0] 26)).alloc (.cells #[.int .i64 0, .int .i64 0] 28)) w.heap.size 26 (.int .i64 0) (.slice none 0 0) := (Box2.new w _ _ _ _ rfl).alloc _
  have R1 : Box2 ((w.alloc (.cells #[.int .i64 0, .slice none 0 0] 26)).alloc (.cells #[.int .i64 0, .int .i64 0] 28)) (w.heap.size + 1) 28 (.int .i64 0) (.int .i64 0) := Box2.new _ _ _ _ _ (by simp)
  have hs0 : ((w.alloc (.cells #[.int .i64 0, .slice none 0 0] 26)).alloc (.cells #[.int .i64 0, .int .i64 0] 28)).heap.size = w.heap.size + 2 := by simp
  rw [hs0] at HN
  clear hcode
  go_enter Try.func10, Try.ntmps10
  go_wp2_with (go_at_call 32; refine HN.out.mono ?_; rintro x w1 ⟨rfl, hc, hd, hb, hsz⟩; refine Hid.out ?_)
  refine (show ∀ {p : Prop}, p → Hid p from fun h => h) ?_
  have B1 : Below w.heap.size w w1 := hb0.trans (hb.mono (by omega))
  have R0' := R0.below hb (by omega)
  have R1' := R1.below hb (by omega)
  have HG1 := hideIt (HG.out w1 _ hc hd)
  clear HN HG hc hd hb hb0 R0 R1 hs0
  go_wp2_with (go_at_call 33; refine HG1.out.mono ?_; rintro x w2 ⟨nn, es, a', m, c', hR, rfl, ho2, d2⟩; refine Hid.out ?_)
  refine (show ∀ {p : Prop}, p → Hid p from fun h => h) ?_
  have hz2 := d2.grown.size
  have RA : RAt w w2.heap.size a len cap nn es a' m c' (w2.alloc (.cells #[.int .i64 (nn : Int), .slice a' m c'] 26)) := by
    have hu : Below w2.heap.size w2 (w2.alloc (.cells #[.int .i64 (nn : Int), .slice a' m c'] 26)) := (Below.refl _ _).alloc (Nat.le_refl _) _
    have q0 := R0'.grown d2.grown (by simp)
    have q1 := R1'.grown d2.grown (by simp)
    exact ⟨d2.cur.up hu, d2.code.up hu, q0.below hu q0.lt, q1.below hu q1.lt, Box2.new _ _ _ _ _ rfl, own_up (own_mono ho2 (by omega)) hu, (B1.grown d2.grown B1.size (fun j hj => by simp at hj; omega)).trans (hu.mono (by have := B1.size; omega)), by omega⟩
  have RD := RA.drew
  have h2 := hR.out.n2
  have h12 := hR.out.n12
  have HE2 := hideIt (HE.out nn h2 h12 _ _ RD.cur RD.code)
  have HK : Hid (∀ u, RAt w w2.heap.size a len cap nn es a' m c' u → u.cell? ⟨w2.heap.size, 0, none⟩ = some (.int .i64 (nn : Int)) ∧ u.cell? ⟨w2.heap.size, 1, none⟩ = some (.slice a' m c')) := fun u hu => ⟨hu.box.cell0, hu.box.cell1⟩
  have hX : w.heap.size + 3 ≤ w2.heap.size := by omega
  have HO := hideIt RA.own
  clear HG1 HE ho2 d2 R0' R1' B1 RA
  go_wp2
  go_region_held3 (fun u => u.cell? ⟨w2.heap.size, 0, none⟩ = some (.int .i64 (nn : Int)) ∧ u.cell? ⟨w2.heap.size, 1, none⟩ = some (.slice a' m c'))
    (first | exact HK.out _ R3 | exact HK.out _ RD | (refine ⟨?_, ?_⟩ <;> (repeat rw [set_other (by omega)]) <;> first | exact (HK.out _ R3).1 | exact (HK.out _ R3).2 | exact (HK.out _ RD).1 | exact (HK.out _ RD).2))
    ((go_at_call 34; refine HE2.out.mono ?_; rintro x w3 ⟨e, he, rfl, d3⟩; have R3 := RD.drawn d3; have u0 := R3.r0.cell0; have u1 := R3.r0.cell1; have u2 := R3.r0.frozen 0; have u3 := R3.r0.frozen 1; have v0 := R3.r1.cell0; have v1 := R3.r1.cell1; have v2 := R3.r1.frozen 0; have v3 := R3.r1.frozen 1))
  all_goals
    have HF : Hid (((((w3.setCell ⟨w.heap.size, 0, none⟩ (.int .i64 (nn : Int))).setCell ⟨w.heap.size, 1, none⟩ (.slice a' m c')).setCell ⟨w.heap.size + 1, 0, none⟩ (.int .i64 e.1)).setCell ⟨w.heap.size + 1, 1, none⟩ (.int .i64 e.2)).ownsRow w.heap.size 28 2 (.slice a' m c') m (ecells es) ∧
        Below w.heap.size w ((((w3.setCell ⟨w.heap.size, 0, none⟩ (.int .i64 (nn : Int))).setCell ⟨w.heap.size, 1, none⟩ (.slice a' m c')).setCell ⟨w.heap.size + 1, 0, none⟩ (.int .i64 e.1)).setCell ⟨w.heap.size + 1, 1, none⟩ (.int .i64 e.2))) :=
      ⟨own_mono (own_setLow (own_setLow (own_setLow (own_setLow R3.own w.heap.size 0 _ (by omega)) w.heap.size 1 _ (by omega)) (w.heap.size + 1) 0 _ (by omega)) (w.heap.size + 1) 1 _ (by omega)) (by omega),
        (((R3.bel.setCell (p := ⟨w.heap.size, 0, none⟩) (Nat.le_refl _) _).setCell (p := ⟨w.heap.size, 1, none⟩) (Nat.le_refl _) _).setCell (p := ⟨w.heap.size + 1, 0, none⟩) (Nat.le_succ _) _).setCell (p := ⟨w.heap.size + 1, 1, none⟩) (Nat.le_succ _) _⟩
    have g0 : ((((w3.setCell ⟨w.heap.size, 0, none⟩ (.int .i64 (nn : Int))).setCell ⟨w.heap.size, 1, none⟩ (.slice a' m c')).setCell ⟨w.heap.size + 1, 0, none⟩ (.int .i64 e.1)).setCell ⟨w.heap.size + 1, 1, none⟩ (.int .i64 e.2)).cell? ⟨w.heap.size, 0, none⟩ = some (.int .i64 (nn : Int)) := by
      rw [set_other (by omega), set_other (by omega)]; simp [go_sem, u0]
    have g1 : ((((w3.setCell ⟨w.heap.size, 0, none⟩ (.int .i64 (nn : Int))).setCell ⟨w.heap.size, 1, none⟩ (.slice a' m c')).setCell ⟨w.heap.size + 1, 0, none⟩ (.int .i64 e.1)).setCell ⟨w.heap.size + 1, 1, none⟩ (.int .i64 e.2)).cell? ⟨w.heap.size, 1, none⟩ = some (.slice a' m c') := by
      rw [set_other (by omega), set_other (by omega)]; simp [go_sem, u1]
    clear R3 RD d3
    go_wp2
    exact bodyPost_ret (v := .tuple #[.agg #[.int .i64 (nn : Int), .slice a' m c'], .agg #[.int .i64 e.1, .int .i64 e.2]]) (by simp [results, Try.results10, go_sem, g0, g1, v0, v1]) rfl ⟨nn, es, e, a', m, c', hR, he, rfl, HF.out.1, HF.out.2⟩
end Go.Proofs.Ytfkoddhojcjohaa
