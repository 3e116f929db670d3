/- Draws for chapter 11: lists of owners, of edges. sameInts, sameEdges: two lists of one content. The walk of FnInside. A slice of bytes that comes in, as the walks over drawn inputs want it. -/
import Derived.Test.YtcmjfnaenkdidaaKIns11
import Derived.Test.YtcmjfnaenkdidaaKSHas
import Derived.WalkKit
import Derived.ProofKit
import Derived.OpenShut
import Derived.ChangeOld
import Derived.Below
namespace Go.Proofs.Ytcmjfnaenkdidaa
open Go.RowKit

theorem gr_set (w : World) (G j : Nat) (u : Value) : w.grownBy (w.setCell ⟨G, j, none⟩ u) (some G) :=
  ⟨rfl, rfl, rfl, by simp [World.setCell], fun k _ hk => heap_setCell_other w ⟨G, j, none⟩ k u (fun e => hk (by simp [e]))⟩
theorem gr_trans {a b c : World} {row : Option Nat} (h : a.grownBy b row) (k : b.grownBy c row) : a.grownBy c row :=
  ⟨k.os.trans h.os, k.tape.trans h.tape, k.output.trans h.output, Nat.le_trans h.size k.size, fun i hi hr => (k.block i (Nat.lt_of_lt_of_le hi h.size) hr).trans (h.block i hi hr)⟩
theorem gr_refl (w : World) (row : Option Nat) : w.grownBy w row := ⟨rfl, rfl, rfl, Nat.le_refl _, fun _ _ _ => rfl⟩
theorem gr_drew (w : World) (row : Option Nat) : w.grownBy w.drew row := ⟨rfl, rfl, rfl, Nat.le_refl _, fun _ _ _ => rfl⟩
theorem gr_below {w w' : World} (h : Below w.heap.size w w') (row : Option Nat) : w.grownBy w' row := ⟨h.os, h.tape, h.output, h.size, fun i hi _ => h.block i hi⟩
theorem bel1 (w : World) (o : Obj) : Below w.heap.size w (w.alloc o) := (Below.refl _ _).alloc (Nat.le_refl _) _
theorem own_ne {w : World} {B T S n G : Nat} {v : Value} {xs : List Value} (h : w.ownsRow B T S v n xs) (hG : G < B) : v.ownBlock = none ∨ v.ownBlock ≠ some G := by
  right
  intro hq
  have := h.lt G hq
  omega
theorem gr_own {w wr w1 : World} {G : Nat} {row : Option Nat} (h : w.grownBy wr (some G)) (hg : wr.grownBy w1 row) (hr : ∀ q, row = some q → w.heap.size ≤ q) : w.grownBy w1 (some G) := by
  refine ⟨hg.os.trans h.os, hg.tape.trans h.tape, hg.output.trans h.output, Nat.le_trans h.size hg.size, fun i hi hn => ?_⟩
  rw [hg.block i (Nat.lt_of_lt_of_le hi h.size) (fun e => by have := hr i e.symm; omega)]
  exact h.block i hi hn

/-- since w only the cursor and new blocks have turned -/
structure DS (w u : World) (G : Nat) (a : Option Addr) (len cap : Nat) : Prop where
  cur : Cur u G a len cap
  grown : w.grownBy u (some G)

section
variable {w u v : World} {G : Nat} {a : Option Addr} {len cap : Nat}
theorem DS.start (h : Cur w G a len cap) : DS w w G a len cap := ⟨h, gr_refl _ _⟩
theorem DS.code (h : DS w u G a len cap) (hc : Code w G a len) : Code u G a len := hc.kept h.grown
theorem DS.fin (h : DS w u G a len cap) (hc : Code w G a len) : Drawn w u G a len cap := ⟨h.cur, h.code hc, h.grown⟩
theorem DS.drawn (h : DS w u G a len cap) (d : Drawn u v G a len cap) : DS w v G a len cap := ⟨d.cur, gr_trans h.grown d.grown⟩
theorem DS.up (h : DS w u G a len cap) (hb : Below u.heap.size u v) : DS w v G a len cap := ⟨h.cur.up hb, gr_trans h.grown (gr_below hb _)⟩
theorem DS.alloc (h : DS w u G a len cap) (o : Obj) : DS w (u.alloc o) G a len cap := h.up (bel1 _ _)
theorem DS.drew (h : DS w u G a len cap) : DS w u.drew G a len cap := ⟨h.cur, gr_trans h.grown (gr_drew _ _)⟩
theorem DS.row {row : Option Nat} (h : DS w u G a len cap) (hG : G < w.heap.size) (hg : u.grownBy v row) (hr : ∀ q, row = some q → w.heap.size ≤ q) : DS w v G a len cap := by
  refine ⟨?_, gr_own h.grown hg hr⟩
  obtain ⟨i, x, hi, hq⟩ := h.cur
  exact ⟨i, x, hi, by rw [hg.block G (Array.getElem?_eq_some_iff.1 hq).1 (fun e => by have := hr G e.symm; omega)]; exact hq⟩
theorem DS.set (h : DS w u G a len cap) (hG : G < w.heap.size) (b j : Nat) (x : Value) (hb : w.heap.size ≤ b) : DS w (u.setCell ⟨b, j, none⟩ x) G a len cap :=
  h.row hG (gr_set u b j x) (fun q hq => by simp at hq; omega)
theorem DS.size (h : DS w u G a len cap) : w.heap.size ≤ u.heap.size := h.grown.size
theorem blk_drawn {b : Nat} {o : Obj} (h : u.heap[b]? = some o) (d : Drawn u v G a len cap) (hb : b ≠ G) : v.heap[b]? = some o := by
  rw [d.grown.block b (Array.getElem?_eq_some_iff.1 h).1 (by simp; exact hb)]; exact h
theorem blk_up {b : Nat} {o : Obj} (h : u.heap[b]? = some o) (hb : Below u.heap.size u v) : v.heap[b]? = some o := by
  rw [hb.block b (Array.getElem?_eq_some_iff.1 h).1]; exact h
theorem blk_alloc {b : Nat} {o : Obj} (h : u.heap[b]? = some o) (p : Obj) : (u.alloc p).heap[b]? = some o := blk_up h (bel1 _ _)
theorem blk_row {b : Nat} {o : Obj} {row : Option Nat} (h : u.heap[b]? = some o) (hg : u.grownBy v row) (hb : row ≠ some b) : v.heap[b]? = some o := by
  rw [hg.block b (Array.getElem?_eq_some_iff.1 h).1 (Ne.symm hb)]; exact h
theorem own_drawn {B e s n : Nat} {x : Value} {xs : List Value} (h : u.ownsRow B e s x n xs) (d : Drawn u v G a len cap) (hG : G < B) : v.ownsRow B e s x n xs := h.kept d.grown (own_ne h hG)
end

theorem l09N_any (w : World) (G : Nat) (a : Option Addr) (len cap : Nat) (hl : len ≤ 1048576) (hcur : Cur w G a len cap) (hcode : Code w G a len) :
    Calls Try.prog 52 #[.pointer (some ⟨G, 0, none⟩)] w fun e w' => ∃ nn : Nat, (2 ≤ nn ∧ nn ≤ 12) ∧ e = .returned (.int .i64 (nn : Int)) ∧ Drawn w w' G a len cap := by
  have HB := hideIt (l01Below_any 11 (by omega) (by omega) w G a len cap hl hcur hcode)
  clear hcur hcode
  go_enter Try.func52, Try.ntmps52
  go_wp2_with (go_at_call 42; refine HB.out.mono ?_; rintro e w1 ⟨x, hx, rfl, hd⟩)
  go_ret
  exact ⟨2 + x, by omega, by simp, hd⟩

theorem ints_new (w : World) (zs : List Int) (t : TypeId) : ∀ j, j < zs.length → ∃ z : Int, (w.alloc (.cells (zs.map (Value.int .i64)).toArray t)).cell? ⟨w.heap.size, j, none⟩ = some (.int .i64 z) := by
  intro j hj
  refine ⟨zs[j], ?_⟩
  have := heap_alloc_new w (.cells (zs.map (Value.int .i64)).toArray t)
  rw [cell_of_row _ _ j _ _ _ this]
  simp [hj]

set_option maxRecDepth 100000 in
set_option maxHeartbeats 4000000 in
theorem l05AnyEdge_any (w : World) (G : Nat) (a : Option Addr) (len cap : Nat) (hl : len ≤ 1048576) (hcur : Cur w G a len cap) (hcode : Code w G a len) :
    Calls Try.prog 54 #[.pointer (some ⟨G, 0, none⟩), .agg #[.int .i64 0, .slice none 0 0]] w fun x w' => ∃ e : EdgeV, x = .returned (.agg #[.int .i64 e.1, .int .i64 e.2]) ∧ Drawn w w' G a len cap := by
  have hGl := hcur.lt
  have HO : Hid (∀ W, DS w W G a len cap → Calls Try.prog 53 #[.pointer (some ⟨G, 0, none⟩), .int .i64 12] W fun e w' => ∃ b : Bool, e = .returned (.bool b) ∧ Drawn W w' G a len cap) := fun W hW => l01Once_any 12 (by omega) (by omega) W G a len cap hl hW.cur (hW.code hcode)
  have HE : Hid (∀ W, DS w W G a len cap → Calls Try.prog 40 #[.pointer (some ⟨G, 0, none⟩), .int .i64 6] W fun x w' => ∃ e : EdgeV, Hid (eB (6 : Int) e = true) ∧ x = .returned (.agg #[.int .i64 e.1, .int .i64 e.2]) ∧ Drawn W w' G a len cap) := fun W hW => l05Edge_any 6 (by omega) (by omega) W G a len cap hl hW.cur (hW.code hcode)
  have D0 : DS w ((w.alloc (.cells #[.int .i64 0, .slice none 0 0] 26)).alloc (.cells #[.int .i64 0, .int .i64 0] 28)) G a len cap := ((DS.start hcur).alloc _).alloc _
  have b0 : ((w.alloc (.cells #[.int .i64 0, .slice none 0 0] 26)).alloc (.cells #[.int .i64 0, .int .i64 0] 28)).heap[w.heap.size + 1]? = some (.cells #[.int .i64 0, .int .i64 0] 28 (0, 0)) := by
    have := heap_alloc_new (w.alloc (.cells #[.int .i64 0, .slice none 0 0] 26)) (.cells #[.int .i64 0, .int .i64 0] 28)
    simpa using this
  have HD0 := hideIt D0
  have Hb0 := hideIt b0
  have HCode := hideIt hcode
  clear hcur hcode D0 b0
  go_enter Try.func54, Try.ntmps54
  go_wp2_with (go_at_call 53; refine (HO.out _ HD0.out).mono ?_; rintro e w1 ⟨b, rfl, hd1⟩; refine Hid.out ?_)
  refine (show ∀ {p : Prop}, p → Hid p from fun h => h) ?_
  have D1 := HD0.out.drawn hd1
  have b1 := blk_drawn Hb0.out hd1 (show w.heap.size + 1 ≠ G by omega)
  have z1 := D1.size
  clear HD0 Hb0 hd1
  cases b with
  | true =>
    have HP : Hid (∀ (W : World) (zs : List Int), 0 < zs.length → zs.length ≤ 1000 → DS w W G a len cap → Calls Try.prog 72 #[.pointer (some ⟨G, 0, none⟩), .slice (some ⟨W.heap.size, 0, none⟩) zs.length zs.length] (W.alloc (.cells (zs.map (Value.int .i64)).toArray 3)) fun e w' => ∃ x : Int, e = .returned (.int .i64 x) ∧ Drawn (W.alloc (.cells (zs.map (Value.int .i64)).toArray 3)) w' G a len cap) := fun W zs h0 h1 hW => by
      have hW2 := hW.alloc (.cells (zs.map (Value.int .i64)).toArray 3)
      have hz := hW.size
      exact l01PickInt_any W.heap.size zs.length zs.length h0 h1 _ G a len cap hl hW2.cur (hW2.code HCode.out) (by simp) (by omega) (ints_new W zs 3)
    have P1 := hideIt (HP.out w1 [-1, 0, 5, 11, 12] (by simp) (by simp) D1)
    simp only [List.map_cons, List.map_nil, List.length_cons, List.length_nil, Nat.zero_add, Nat.reduceAdd] at P1
    go_wp2_with (go_at_call 72; refine P1.out.mono ?_; rintro e w2 ⟨x, rfl, hd2⟩; refine Hid.out ?_)
    refine (show ∀ {p : Prop}, p → Hid p from fun h => h) ?_
    have D2 := (D1.alloc _).drawn hd2
    have b2 := blk_drawn (blk_alloc b1 _) hd2 (show w.heap.size + 1 ≠ G by omega)
    clear hd2 b1 D1 P1
    have P2 := hideIt (HP.out w2 [0, 5, 11, 12] (by simp) (by simp) D2)
    simp only [List.map_cons, List.map_nil, List.length_cons, List.length_nil, Nat.zero_add, Nat.reduceAdd] at P2
    go_wp2_with (go_at_call 72; refine P2.out.mono ?_; rintro e w3 ⟨y, rfl, hd3⟩; refine Hid.out ?_)
    refine (show ∀ {p : Prop}, p → Hid p from fun h => h) ?_
    have D3 := (D2.alloc _).drawn hd3
    have b3 := blk_drawn (blk_alloc b2 _) hd3 (show w.heap.size + 1 ≠ G by omega)
    have e0 : w3.cell? ⟨w.heap.size + 1, 0, none⟩ = some (.int .i64 0) := by rw [cell_of_row w3 _ 0 _ _ _ b3]; rfl
    have e1 : w3.cell? ⟨w.heap.size + 1, 1, none⟩ = some (.int .i64 0) := by rw [cell_of_row w3 _ 1 _ _ _ b3]; rfl
    have f0 := frozen_of_row w3 _ 0 _ _ b3
    have f1 := frozen_of_row w3 _ 1 _ _ b3
    have HD3 := hideIt D3
    clear D3 D2 b2 b3 hd3 P2 HP
    go_wp2
    refine bodyPost_ret (v := .agg #[.int .i64 x, .int .i64 y]) (by simp [results, Try.results54, go_sem, e0, e1]) rfl ⟨(x, y), rfl, DS.fin ?_ HCode.out⟩
    exact (HD3.out.set hGl _ _ _ (by omega)).set hGl _ _ _ (by omega)
  | false =>
    have c0 : w1.cell? ⟨w.heap.size + 1, 0, none⟩ = some (.int .i64 0) := by rw [cell_of_row w1 _ 0 _ _ _ b1]; rfl
    have c1 : w1.cell? ⟨w.heap.size + 1, 1, none⟩ = some (.int .i64 0) := by rw [cell_of_row w1 _ 1 _ _ _ b1]; rfl
    go_wp2_with (go_at_call 40; refine (HE.out _ D1).mono ?_; rintro e w2 ⟨e2, _, rfl, hd2⟩; refine Hid.out ?_)
    refine (show ∀ {p : Prop}, p → Hid p from fun h => h) ?_
    have D2 := D1.drawn hd2
    have b2 := blk_drawn b1 hd2 (show w.heap.size + 1 ≠ G by omega)
    have e0 : w2.cell? ⟨w.heap.size + 1, 0, none⟩ = some (.int .i64 0) := by rw [cell_of_row w2 _ 0 _ _ _ b2]; rfl
    have e1 : w2.cell? ⟨w.heap.size + 1, 1, none⟩ = some (.int .i64 0) := by rw [cell_of_row w2 _ 1 _ _ _ b2]; rfl
    have f0 := frozen_of_row w2 _ 0 _ _ b2
    have f1 := frozen_of_row w2 _ 1 _ _ b2
    have HD2 := hideIt D2
    clear D1 D2 b1 b2 hd2 c0 c1
    go_wp2
    refine bodyPost_ret (v := .agg #[.int .i64 e2.1, .int .i64 e2.2]) (by simp [results, Try.results54, go_sem, e0, e1]) rfl ⟨e2, rfl, DS.fin ?_ HCode.out⟩
    exact (HD2.out.set hGl _ _ _ (by omega)).set hGl _ _ _ (by omega)
theorem five_cells7 (w : World) (z0 z1 z2 z3 z4 : Int) (t : TypeId) : ∀ j, j < 5 → ∃ z : Int, (w.alloc (.cells #[.int .i64 z0, .int .i64 z1, .int .i64 z2, .int .i64 z3, .int .i64 z4] t)).cell? ⟨w.heap.size, j, none⟩ = some (.int .i64 z) := by
  intro j hj
  rw [cell_of_row _ w.heap.size j _ t (0, 0) (heap_alloc_new w _)]
  rcases (show j = 0 ∨ j = 1 ∨ j = 2 ∨ j = 3 ∨ j = 4 from by omega) with rfl | rfl | rfl | rfl | rfl <;> exact ⟨_, rfl⟩
theorem Drawn.from7 {w w' : World} {o : Obj} {G : Nat} {a : Option Addr} {len cap : Nat} (h : Drawn (w.alloc o) w' G a len cap) : Drawn w w' G a len cap := ⟨h.cur, h.code, grownT (World.grownBy_alloc w o (some G)) h.grown⟩
set_option maxRecDepth 100000 in
set_option maxHeartbeats 8000000 in
theorem l01Place7_any (n : Int) (h0 : 0 < n) (h1 : n ≤ 1000000) (w : World) (G : Nat) (a : Option Addr) (len cap : Nat) (hl : len ≤ 1048576) (hcur : Cur w G a len cap) (hcode : Code w G a len) :
    Calls Try.prog 55 #[.pointer (some ⟨G, 0, none⟩), .int .i64 n] w fun e w' => ∃ x : Int, e = .returned (.int .i64 x) ∧ Drawn w w' G a len cap := by
  have hG := hcur.lt
  have HO := hideIt (l01Once_any 15 (by omega) (by omega) w G a len cap hl hcur hcode)
  clear hcur hcode
  have hw : IntKind.i64.wrap (n + 1) = n + 1 := by rw [IntKind.wrap_i64]; omega
  go_enter Try.func55, Try.ntmps55
  go_wp2_with (go_at_call 53; refine HO.out.mono ?_; rintro e w1 ⟨b, rfl, hd⟩; refine Hid.out ?_)
  refine (show ∀ {p : Prop}, p → Hid p from fun h => h) ?_
  have hs1 := hd.grown.size
  have HD := hideIt hd
  clear hd HO
  cases b with
  | true =>
    have HP := hideIt (l01PickInt_any w1.heap.size 5 5 (by omega) (by omega) _ G a len cap hl (HD.out.cur.up ((Below.refl _ _).alloc (Nat.le_refl _) (.cells #[.int .i64 (-1), .int .i64 n, .int .i64 (n + 1), .int .i64 9223372036854775807, .int .i64 (-9223372036854775808)] 3))) (HD.out.code.up ((Below.refl _ _).alloc (Nat.le_refl _) _)) (by simp) (by omega) (five_cells7 w1 _ _ _ _ _ 3))
    go_wp2_with (go_at_call 72; refine HP.out.mono ?_; rintro e w2 ⟨y, rfl, hd2⟩)
    go_ret
    exact ⟨_, rfl, HD.out.trans hd2.from7⟩
  | false =>
    have HP := hideIt (l01Below_any n h0 (by omega) w1 G a len cap hl HD.out.cur HD.out.code)
    go_wp2_with (go_at_call 42; refine HP.out.mono ?_; rintro e w2 ⟨y, hy, rfl, hd2⟩)
    go_ret
    exact ⟨_, rfl, HD.out.trans hd2⟩

set_option maxRecDepth 100000 in
set_option maxHeartbeats 8000000 in
theorem drawInside_any (w : World) (a : Option Addr) (len cap : Nat) (hl : len ≤ 1048576) (hcode : Code w w.heap.size a len) :
    Calls Try.prog 16 #[.slice a len cap] w fun x w' => ∃ (ls : List Int) (es : List EdgeV) (s : Int) (ao : Option Addr) (q co : Nat) (ae : Option Addr) (n ce : Nat), x = .returned (.tuple #[.slice ao q co, .slice ae n ce, .int .i64 s]) ∧ (1 ≤ q ∧ q ≤ 12) ∧ n ≤ 9 ∧
      w'.ownsRow w.heap.size 3 1 (.slice ao q co) q (ic ls) ∧ w'.ownsRow w.heap.size 28 2 (.slice ae n ce) n (ecells es) ∧ Below w.heap.size w w' := by
  obtain ⟨j0, hj, hy0, hy1, hy2⟩ := info_parts info3i
  obtain ⟨i0, hi, hz0, hz1, hz2⟩ := info_parts infoIE
  have HN := hideIt (l01New_any w a len cap hl hcode)
  clear hcode
  go_enter Try.func16, Try.ntmps16
  go_wp2_with (go_at_call 38; refine HN.out.mono ?_; rintro e w0 ⟨rfl, hc, hd, hb, hs⟩; refine Hid.out ?_)
  refine (show ∀ {p : Prop}, p → Hid p from fun h => h) ?_
  have hB0 := hideIt hb
  have hG := hc.lt
  have H1 := hideIt (l09N_any w0 w.heap.size a len cap hl hc hd)
  have HC0 := hideIt hd
  have D00 := DS.start hc
  clear HN hc hd hb
  go_wp2_with (go_at_call 52; refine H1.out.mono ?_; rintro e w1 ⟨nn, hnn, rfl, hd1⟩; refine Hid.out ?_)
  refine (show ∀ {p : Prop}, p → Hid p from fun h => h) ?_
  have D1 := D00.drawn hd1
  clear H1 hd1 D00
  have z1 := D1.size
  have HBe : Hid (∀ (k : Int) (_ : 0 < k) (_ : k ≤ 4294967296) W, DS w0 W w.heap.size a len cap → Calls Try.prog 42 #[.pointer (some ⟨w.heap.size, 0, none⟩), .int .i64 k] W fun e w' => ∃ x : Nat, (x : Int) < k ∧ e = .returned (.int .i64 (x : Int)) ∧ Drawn W w' w.heap.size a len cap) := fun k h0 h1 W hW => l01Below_any k h0 h1 W _ a len cap hl hW.cur (hW.code HC0.out)
  have HEd : Hid (∀ W, DS w0 W w.heap.size a len cap → Calls Try.prog 40 #[.pointer (some ⟨w.heap.size, 0, none⟩), .int .i64 (nn : Int)] W fun x w' => ∃ e : EdgeV, Hid (eB (nn : Int) e = true) ∧ x = .returned (.agg #[.int .i64 e.1, .int .i64 e.2]) ∧ Drawn W w' w.heap.size a len cap) := fun W hW => l05Edge_any nn hnn.1 hnn.2 W _ a len cap hl hW.cur (hW.code HC0.out)
  have HAE : Hid (∀ W, DS w0 W w.heap.size a len cap → Calls Try.prog 54 #[.pointer (some ⟨w.heap.size, 0, none⟩), .agg #[.int .i64 0, .slice none 0 0]] W fun x w' => ∃ e : EdgeV, x = .returned (.agg #[.int .i64 e.1, .int .i64 e.2]) ∧ Drawn W w' w.heap.size a len cap) := fun W hW => l05AnyEdge_any W _ a len cap hl hW.cur (hW.code HC0.out)
  have HOn : Hid (∀ W, DS w0 W w.heap.size a len cap → Calls Try.prog 53 #[.pointer (some ⟨w.heap.size, 0, none⟩), .int .i64 10] W fun e w' => ∃ b : Bool, e = .returned (.bool b) ∧ Drawn W w' w.heap.size a len cap) := fun W hW => l01Once_any 10 (by omega) (by omega) W _ a len cap hl hW.cur (hW.code HC0.out)
  have HPl : Hid (∀ W, DS w0 W w.heap.size a len cap → Calls Try.prog 55 #[.pointer (some ⟨w.heap.size, 0, none⟩), .int .i64 3] W fun e w' => ∃ x : Int, e = .returned (.int .i64 x) ∧ Drawn W w' w.heap.size a len cap) := fun W hW => l01Place7_any 3 (by omega) (by omega) W _ a len cap hl hW.cur (hW.code HC0.out)
  go_wp2
  go_loopw [7, 8] (fun v i wr => ∃ (k : Nat) (a' : Option Addr) (c' : Nat) (ls : List Int), k ≤ nn ∧ i = .int .i64 (k : Int) ∧ v = .slice a' k c' ∧ DS w1 wr w.heap.size a len cap ∧ wr.ownsRow w1.heap.size 3 1 (.slice a' k c') k (ic ls)) (fun _ i _ => nn - (intOf i).toNat)
  case atStart => exact ⟨0, _, _, [], by omega, rfl, rfl, (DS.start D1.cur).alloc _, (ISt.start w1).own⟩
  case round =>
    obtain ⟨k, a', c', ls, hk, rfl, rfl, hD, hown⟩ := hrel
    have HT1 : Hid (∀ W, DS w1 W w.heap.size a len cap → DS w0 W w.heap.size a len cap) := fun W hW => ⟨hW.cur, gr_trans D1.grown hW.grown⟩
    clear D1
    by_cases hlt : k < nn
    · have b2 : (k : Int) < (nn : Int) := by omega
      have HB2 := hideIt (HBe.out 2 (by omega) (by omega) wr (HT1.out _ hD))
      go_wp2_with (go_at_call 42; refine HB2.out.mono ?_; rintro e w2 ⟨x, hx, rfl, hd2⟩; refine Hid.out ?_)
      refine (show ∀ {p : Prop}, p → Hid p from fun h => h) ?_
      have D2 := hD.drawn hd2
      have own2 := own_drawn hown hd2 (by omega)
      have z2 := D2.size
      clear HB2 hD hown hd2
      have hx2 : IntKind.i64.wrap (1 + (x : Int)) = 1 + (x : Int) := by rw [IntKind.wrap_i64]; omega
      go_wp2_with (at_builtin; refine wpList_append_own _ rfl _ _ 31 rfl w1.heap.size 3 j0 _ 1 8 Try.underlying31 hj hy0 hy1 hy2 rfl (by decide) _ _ _ rfl (own2.alloc _) ⟨w2.heap.size, 0, none⟩ 1 1 [.int .i64 (1 + (x : Int))] rfl rfl (newsI _ _) (by intro u hu; simp at hu; subst hu; rfl) (by unfold maxLen; omega) (by omega) (by simp; omega) ?_)
      intro v2 w3 hown2 hg2 hn2
      obtain ⟨a2, c2, rfl⟩ := own_form hown2
      rw [← ic_snoc] at hown2
      have D3 := (D2.alloc (.cells #[.int .i64 (1 + (x : Int))] 3)).row (by omega) hg2 (fun q hq => (own2.lt q hq).1)
      clear hg2 hn2 own2 D2
      go_wp2
      exact ⟨⟨k + 1, a2, c2, _, by omega, by go_num, rfl, D3, hown2⟩, by simp [intOf]; omega⟩
    · obtain rfl : k = nn := by omega
      have d0 : decide ((k : Int) < (k : Int)) = false := decide_eq_false (by omega)
      have HR1 := hideIt hown
      have zr := hD.size
      have HT : Hid (∀ W, DS wr W w.heap.size a len cap → DS w0 W w.heap.size a len cap) := fun W hW => HT1.out _ ⟨hW.cur, gr_trans hD.grown hW.grown⟩
      have hcr := hD.cur
      clear hown hD
      generalize wr = wx at *
      go_wp2
      go_loopw [9, 10] (fun v i wq => ∃ (p m : Nat) (ae : Option Addr) (ce : Nat) (es : List EdgeV), p ≤ 8 ∧ i = .int .i64 (p : Int) ∧ v = .slice ae m ce ∧ m ≤ p ∧ DS wx wq w.heap.size a len cap ∧ wq.ownsRow wx.heap.size 28 2 (.slice ae m ce) m (ecells es)) (fun _ i _ => 8 - (intOf i).toNat)
      case atStart => exact ⟨0, 0, _, _, [], by omega, rfl, rfl, by omega, (DS.start hcr).alloc _, (ESt.start wx).own⟩
      case round =>
        obtain ⟨p, m, ae, ce, es, hp, rfl, rfl, hm, hE, hown⟩ := hrel
        have HB2 := hideIt (HBe.out 8 (by omega) (by omega) _ (HT.out _ hE))
        go_wp2_with (go_at_call 42; refine HB2.out.mono ?_; rintro e w2 ⟨x, hx, rfl, hd2⟩; refine Hid.out ?_)
        refine (show ∀ {p : Prop}, p → Hid p from fun h => h) ?_
        have D2 := hE.drawn hd2
        have own2 := own_drawn hown hd2 (by omega)
        clear HB2 hE hown hd2
        by_cases hlt2 : p < x
        · have b2 : decide ((p : Int) < (x : Int)) = true := decide_eq_true (by omega)
          have HE2 := hideIt (HEd.out _ (HT.out _ D2))
          go_wp2_with (go_at_call 40; refine HE2.out.mono ?_; rintro y w3 ⟨f, _, rfl, hd3⟩; refine Hid.out ?_)
          refine (show ∀ {p : Prop}, p → Hid p from fun h => h) ?_
          have D3 := D2.drawn hd3
          have own3 := own_drawn own2 hd3 (by omega)
          have z3 := D3.size
          clear HE2 D2 own2 hd3
          go_wp2_with (at_builtin; refine wpList_append_own _ rfl _ _ 24 rfl wx.heap.size 28 i0 _ 2 16 Try.underlying24 hi hz0 hz1 hz2 rfl (by decide) _ _ _ rfl (own3.alloc _) ⟨w3.heap.size, 0, none⟩ 1 1 [.int .i64 f.1, .int .i64 f.2] rfl rfl (news2 _ f) (by intro u hu; simp at hu; rcases hu with rfl | rfl <;> rfl) (by unfold maxLen; omega) (by omega) (by simp; omega) ?_)
          intro v2 w4 hown4 hg4 hn4
          obtain ⟨a2, c2, rfl⟩ := own_form hown4
          rw [← ecells_snoc] at hown4
          have D4 := (D3.alloc (.cells #[.int .i64 f.1, .int .i64 f.2] 28)).row (by omega) hg4 (fun q hq => (own3.lt q hq).1)
          clear hg4 hn4 own3 D3
          go_wp2
          exact ⟨⟨p + 1, m + 1, a2, c2, _, by omega, by go_num, rfl, by omega, D4, hown4⟩, by simp [intOf]; omega⟩
        · have b2 : decide ((p : Int) < (x : Int)) = false := decide_eq_false (by omega)
          have HO2 := hideIt (HOn.out _ (HT.out _ D2))
          go_wp2_with (go_at_call 53; refine HO2.out.mono ?_; rintro y w3 ⟨b, rfl, hd3⟩; refine Hid.out ?_)
          refine (show ∀ {p : Prop}, p → Hid p from fun h => h) ?_
          have D3 := D2.drawn hd3
          have own3 := own_drawn own2 hd3 (by omega)
          have z3 := D3.size
          clear HO2 D2 own2 hd3
          cases b with
          | true =>
            have HE2 := hideIt (HAE.out _ (HT.out _ D3))
            go_wp2_with (go_at_call 54; refine HE2.out.mono ?_; rintro y w4 ⟨f, rfl, hd4⟩; refine Hid.out ?_)
            refine (show ∀ {p : Prop}, p → Hid p from fun h => h) ?_
            have D4 := D3.drawn hd4
            have own4 := own_drawn own3 hd4 (by omega)
            have z4 := D4.size
            clear HE2 D3 own3 hd4
            go_wp2_with (at_builtin; refine wpList_append_own _ rfl _ _ 24 rfl wx.heap.size 28 i0 _ 2 16 Try.underlying24 hi hz0 hz1 hz2 rfl (by decide) _ _ _ rfl (own4.alloc _) ⟨w4.heap.size, 0, none⟩ 1 1 [.int .i64 f.1, .int .i64 f.2] rfl rfl (news2 _ f) (by intro u hu; simp at hu; rcases hu with rfl | rfl <;> rfl) (by unfold maxLen; omega) (by omega) (by simp; omega) ?_)
            intro v2 w5 hown5 hg5 hn5
            obtain ⟨a2, c2, rfl⟩ := own_form hown5
            rw [← ecells_snoc] at hown5
            have D5 := (D4.alloc (.cells #[.int .i64 f.1, .int .i64 f.2] 28)).row (by omega) hg5 (fun q hq => (own4.lt q hq).1)
            clear hg5 hn5 own4 D4
            have HP5 := hideIt (HPl.out _ (HT.out _ D5))
            go_wp2_with (go_at_call 55; refine HP5.out.mono ?_; rintro y w6 ⟨s, rfl, hd6⟩)
            have D6 := D5.drawn hd6
            have o1 := own_mono (HR1.out.kept D6.grown (own_ne HR1.out (by omega))) (show w.heap.size ≤ w1.heap.size by omega)
            have o2 := own_mono (own_drawn hown5 hd6 (by omega)) (show w.heap.size ≤ wx.heap.size by omega)
            have bb : Below w.heap.size w w6 := hB0.out.trans ((Below.refl w.heap.size w0).grown (HT.out _ D6).grown (by omega) (fun j e => by cases e; exact Nat.le_refl _))
            exact bodyPost_ret (v := .tuple #[.slice a' k c', .slice a2 (m + 1) c2, .int .i64 s]) (by simp [results, Try.results16, go_sem]) rfl ⟨ls, _, s, a', k, c', a2, m + 1, c2, rfl, ⟨by omega, by omega⟩, by omega, o1, o2, bb⟩
          | false =>
            have HP5 := hideIt (HPl.out _ (HT.out _ D3))
            go_wp2_with (go_at_call 55; refine HP5.out.mono ?_; rintro y w6 ⟨s, rfl, hd6⟩)
            have D6 := D3.drawn hd6
            have o1 := own_mono (HR1.out.kept D6.grown (own_ne HR1.out (by omega))) (show w.heap.size ≤ w1.heap.size by omega)
            have o2 := own_mono (own_drawn own3 hd6 (by omega)) (show w.heap.size ≤ wx.heap.size by omega)
            have bb : Below w.heap.size w w6 := hB0.out.trans ((Below.refl w.heap.size w0).grown (HT.out _ D6).grown (by omega) (fun j e => by cases e; exact Nat.le_refl _))
            exact bodyPost_ret (v := .tuple #[.slice a' k c', .slice ae m ce, .int .i64 s]) (by simp [results, Try.results16, go_sem]) rfl ⟨ls, es, s, a', k, c', ae, m, ce, rfl, ⟨by omega, by omega⟩, by omega, o1, o2, bb⟩
end Go.Proofs.Ytcmjfnaenkdidaa
namespace Go.Proofs.Ytcmjfnaenkdidaa
open Go.RowKit

set_option maxHeartbeats 1000000 in
theorem sameInts_same (ls : List Int) (n : Nat) (a a' : Option Addr) (c c' : Nat) (hn : n ≤ 1048576) (w : World) (h : Is w w.heap.size a n ls) (h' : Is w w.heap.size a' n ls) :
    Calls Try.prog 14 #[.slice a n c, .slice a' n c'] w fun e w' => e = .returned (.bool true) ∧ Below w.heap.size w w' := by
  obtain ⟨hlen, hrow⟩ := h
  obtain ⟨_, hrow'⟩ := h'
  have HR := hideIt hrow
  have HR' := hideIt hrow'
  clear hrow hrow'
  have dn : ((n : Int) != (n : Int)) = false := by simp
  go_enter Try.func14, Try.ntmps14
  go_wp2
  go_loopw [5] (fun i wr => ∃ (k : Nat), k ≤ n ∧ i = .int .i64 (k : Int) ∧ Below w.heap.size w wr) (fun i _ => n - (intOf i).toNat)
  case atStart => exact ⟨0, by omega, rfl, Below.refl _ _⟩
  case round =>
    obtain ⟨k, hk, rfl, hb⟩ := hrel
    by_cases hlt : k < n
    · rcases HR.out with hz | ⟨b, off, rfl, hbl, hc⟩
      · omega
      · rcases HR'.out with hz | ⟨b', off', rfl, hbl', hc'⟩
        · omega
        · obtain ⟨f, hf⟩ : ∃ f, ls[k]? = some f := ⟨ls[k]'(by omega), List.getElem?_eq_getElem (by omega)⟩
          have e0 : wr.cell? ⟨b, off + k, none⟩ = some (.int .i64 f) := by rw [hb.cell hbl]; exact hc k f hf
          have e1 : wr.cell? ⟨b', off' + k, none⟩ = some (.int .i64 f) := by rw [hb.cell hbl']; exact hc' k f hf
          have b1 : (0 : Int) ≤ (k : Int) := by omega
          have b2 : (k : Int) < (n : Int) := by omega
          have d1 : (f != f) = false := by simp
          clear hc hc' hf
          go_wp2
          go_quiet (fail)
          go_wp2
          exact ⟨⟨k + 1, by omega, by go_num, below_drewN hb _⟩, by simp [intOf]; omega⟩
    · go_wp2
      go_ret
      exact ⟨rfl, hb⟩

set_option maxHeartbeats 1000000 in
theorem sameEdges_same (fs : List EdgeV) (n : Nat) (a a' : Option Addr) (c c' : Nat) (hn : n ≤ 1048576) (w : World) (h : Es w w.heap.size a n fs) (h' : Es w w.heap.size a' n fs) :
    Calls Try.prog 15 #[.slice a n c, .slice a' n c'] w fun e w' => e = .returned (.bool true) ∧ Below w.heap.size w w' := by
  obtain ⟨hlen, hrow⟩ := h
  obtain ⟨_, hrow'⟩ := h'
  have HR := hideIt hrow
  have HR' := hideIt hrow'
  clear hrow hrow'
  have dn : ((n : Int) != (n : Int)) = false := by simp
  go_enter Try.func15, Try.ntmps15
  go_wp2
  go_loopw [5] (fun i wr => ∃ k : Nat, k ≤ n ∧ i = .int .i64 (k : Int) ∧ Below w.heap.size w wr) (fun i _ => n - (intOf i).toNat)
  case atStart => exact ⟨0, by omega, rfl, Below.refl _ _⟩
  case round =>
    obtain ⟨k, hk, rfl, hb⟩ := hrel
    by_cases hlt : k < n
    · rcases HR.out with hz | ⟨b, off, rfl, hbl, hc⟩
      · omega
      · rcases HR'.out with hz | ⟨b', off', rfl, hbl', hc'⟩
        · omega
        · obtain ⟨f, hf⟩ : ∃ f, fs[k]? = some f := ⟨fs[k]'(by omega), List.getElem?_eq_getElem (by omega)⟩
          obtain ⟨c0, c1⟩ := hc k f hf
          obtain ⟨d0, d1⟩ := hc' k f hf
          have e0 : wr.cell? ⟨b, off + k * 2, none⟩ = some (.int .i64 f.1) := by rw [hb.cell hbl]; exact c0
          have e1 : wr.cell? ⟨b, off + k * 2 + 1, none⟩ = some (.int .i64 f.2) := by rw [hb.cell hbl]; exact c1
          have e3 : wr.cell? ⟨b', off' + k * 2, none⟩ = some (.int .i64 f.1) := by rw [hb.cell hbl']; exact d0
          have e4 : wr.cell? ⟨b', off' + k * 2 + 1, none⟩ = some (.int .i64 f.2) := by rw [hb.cell hbl']; exact d1
          have b1 : (0 : Int) ≤ (k : Int) := by omega
          have b2 : (k : Int) < (n : Int) := by omega
          clear c0 c1 d0 d1 hc hc' hf
          go_wp2
          go_quiet (fail)
          go_wp2
          exact ⟨⟨k + 1, by omega, by go_num, below_drewN hb _⟩, by simp [intOf]; omega⟩
    · go_wp2
      go_ret
      exact ⟨rfl, hb⟩
end Go.Proofs.Ytcmjfnaenkdidaa
namespace Go.Proofs.Ytcmjfnaenkdidaa
open Go.RowKit

theorem bup1 {w u v : World} (h : Below w.heap.size w u) (hb : Below u.heap.size u v) : Below w.heap.size w v := h.trans (hb.mono h.size)
set_option maxRecDepth 100000 in
set_option maxHeartbeats 8000000 in
theorem fnInside.walk (a : Option Addr) (len cap : Nat) (w : World) (hcode : Code w w.heap.size a len) :
    Calls Try.prog 4 #[.slice a len cap] w fun e w' => e = .returned (.bool true) ∧ Below w.heap.size w w' := by
  have HBig := hideIt (big_any w a len cap)
  by_cases hl : len ≤ 1048576
  case neg =>
    have d0 : decide ((1048576 : Int) < (len : Int)) = true := decide_eq_true (by omega)
    clear hcode
    go_enter Try.func4, Try.ntmps4
    go_wp2_with (go_at_call 8; refine HBig.out.mono ?_; rintro e w1 ⟨rfl, rfl⟩)
    go_ret
    exact ⟨rfl, Below.refl _ _⟩
  case pos =>
    have d0 : decide ((1048576 : Int) < (len : Int)) = false := decide_eq_false (by omega)
    have H1 := hideIt (drawInside_any w a len cap hl hcode)
    clear hcode
    go_enter Try.func4, Try.ntmps4
    go_wp2_with (go_at_call 8; refine HBig.out.mono ?_; rintro e w0 ⟨rfl, hw⟩; have hw' := hw.symm; subst hw'; clear hw; refine Hid.out ?_)
    refine (show ∀ {p : Prop}, p → Hid p from fun h => h) ?_
    clear HBig
    go_wp2_with (go_at_call 16; refine H1.out.mono ?_; rintro e w1 ⟨ls, es, s, ao, q, co, ae, n, ce, rfl, hq, hn, o1, o2, b1⟩; refine Hid.out ?_)
    refine (show ∀ {p : Prop}, p → Hid p from fun h => h) ?_
    have H2 := hideIt (iInside_any ls q ao co es n ae ce s (by omega) w1 (Is_of_own o1) (Es_of_own o2))
    have HI1 := hideIt (Is_of_own o1)
    have HE1 := hideIt (Es_of_own o2)
    clear H1 o1 o2
    go_wp2_with (go_at_call 17; refine H2.out.mono ?_; rintro e w2 ⟨al, ml, cl, rfl, ol, b2⟩; refine Hid.out ?_)
    refine (show ∀ {p : Prop}, p → Hid p from fun h => h) ?_
    have G2 := bup1 b1 b2
    have H3 := hideIt (sInside_any ls q ao co es n ae ce s (by omega) (by omega) w2 (HI1.out.up b2) (HE1.out.up b2))
    clear H2
    go_wp2_with (go_at_call 18; refine H3.out.mono ?_; rintro e w3 ⟨aw, mw, cw, rfl, ow, b3⟩; refine Hid.out ?_)
    refine (show ∀ {p : Prop}, p → Hid p from fun h => h) ?_
    have G3 := bup1 G2 b3
    have HI3 := hideIt ((HI1.out.up b2).up b3)
    have HE3 := hideIt ((HE1.out.up b2).up b3)
    have ol3 := own_up ol b3
    have hml : ml = (insE ls es s).length := by have := ol.1; rw [ecells_length] at this; omega
    have hmw : mw = (insE ls es s).length := by have := ow.1; rw [ecells_length] at this; omega
    have HML := hideIt hml
    obtain rfl : mw = ml := by omega
    have HSm := hideIt (fun u (hu : Below w3.heap.size w3 u) => sameEdges_same (insE ls es s) mw al aw cl cw (by have := insE_len ls es s; have := HE1.out.1; omega) u ((Es_of_own ol3).up hu) ((Es_of_own ow).up hu))
    obtain ⟨hol, horow⟩ := HI3.out
    obtain ⟨hel, herow⟩ := HE3.out
    have HR := hideIt herow
    have HOr := hideIt horow
    clear hml hmw H3 ol ow ol3 HI1 HE1 HI3 HE3 herow horow G2 b1 b2 b3
    go_wp2
    go_loopw [8, 9] (fun v i wr => ∃ (k m : Nat), k ≤ n ∧ i = .int .i64 (k : Int) ∧ v = .int .i64 (m : Int) ∧ m ≤ k ∧ Hid (m = (insE ls (es.take k) s).length) ∧ Below w3.heap.size w3 wr) (fun _ i _ => n - (intOf i).toNat)
    case atStart => exact ⟨0, 0, by omega, rfl, rfl, by omega, by show _ = _; simp [insE], Below.refl _ _⟩
    case round =>
      obtain ⟨k, m, hk, rfl, rfl, hm, hgs, hb⟩ := hrel
      by_cases hlt : k < n
      · rcases HR.out with hz | ⟨b, off, rfl, hbl, hc⟩
        · omega
        · obtain ⟨f, hf⟩ : ∃ f, es[k]? = some f := ⟨es[k]'(by omega), List.getElem?_eq_getElem (by omega)⟩
          obtain ⟨c0, c1⟩ := hc k f hf
          have b1 : (0 : Int) ≤ (k : Int) := by omega
          have b2 : (k : Int) < (n : Int) := by omega
          have e0 : wr.cell? ⟨b, off + k * 2, none⟩ = some (.int .i64 f.1) := by rw [hb.cell hbl]; exact c0
          have e1 : wr.cell? ⟨b, off + k * 2 + 1, none⟩ = some (.int .i64 f.2) := by rw [hb.cell hbl]; exact c1
          have hb1 : Below w3.heap.size w3 (wr.alloc (.cells #[.int .i64 f.1, .int .i64 f.2] 28)) := hb.alloc hb.size _
          have z1 := hb.size
          have HX := hideIt (insE_snoc ls es s k f hf)
          clear hc hf c0 c1
          by_cases g1 : 0 ≤ f.1
          case neg =>
            have r1 : decide (0 ≤ f.1) = false := decide_eq_false g1
            have HG : Hid (m = (insE ls (es.take (k + 1)) s).length) := by show _ = _; rw [HX.out]; simp [inB, hasV_out (s := s) (v := f.1) (ls := ls) (by omega)]; exact hgs.out
            clear HX hgs g1
            go_wp2
            exact ⟨⟨k + 1, m, by omega, by go_num, rfl, by omega, HG, hb1⟩, by simp [intOf]; omega⟩
          case pos =>
            have r1 : decide (0 ≤ f.1) = true := decide_eq_true g1
            by_cases g2 : 0 ≤ f.2
            case neg =>
              have r2 : decide (0 ≤ f.2) = false := decide_eq_false g2
              have HG : Hid (m = (insE ls (es.take (k + 1)) s).length) := by show _ = _; rw [HX.out]; simp [inB, hasV_out (s := s) (v := f.2) (ls := ls) (by omega)]; exact hgs.out
              clear HX hgs g2
              go_wp2
              exact ⟨⟨k + 1, m, by omega, by go_num, rfl, by omega, HG, hb1⟩, by simp [intOf]; omega⟩
            case pos =>
              have r2 : decide (0 ≤ f.2) = true := decide_eq_true g2
              by_cases g3 : f.1 < (q : Int)
              case neg =>
                have r3 : decide (f.1 < (q : Int)) = false := decide_eq_false g3
                have HG : Hid (m = (insE ls (es.take (k + 1)) s).length) := by show _ = _; rw [HX.out]; simp [inB, hasV_out (s := s) (v := f.1) (ls := ls) (by omega)]; exact hgs.out
                clear HX hgs g3
                go_wp2
                exact ⟨⟨k + 1, m, by omega, by go_num, rfl, by omega, HG, hb1⟩, by simp [intOf]; omega⟩
              case pos =>
                have r3 : decide (f.1 < (q : Int)) = true := decide_eq_true g3
                by_cases g4 : f.2 < (q : Int)
                case neg =>
                  have r4 : decide (f.2 < (q : Int)) = false := decide_eq_false g4
                  have HG : Hid (m = (insE ls (es.take (k + 1)) s).length) := by show _ = _; rw [HX.out]; simp [inB, hasV_out (s := s) (v := f.2) (ls := ls) (by omega)]; exact hgs.out
                  clear HX hgs g4
                  go_wp2
                  exact ⟨⟨k + 1, m, by omega, by go_num, rfl, by omega, HG, hb1⟩, by simp [intOf]; omega⟩
                case pos =>
                  have r4 : decide (f.2 < (q : Int)) = true := decide_eq_true g4
                  rcases HOr.out with hz | ⟨bo, offo, rfl, hbo, hco⟩
                  · omega
                  · obtain ⟨x, hx⟩ : ∃ x, ls[f.1.toNat]? = some x := ⟨ls[f.1.toNat]'(by omega), List.getElem?_eq_getElem (by omega)⟩
                    obtain ⟨y, hy⟩ : ∃ y, ls[f.2.toNat]? = some y := ⟨ls[f.2.toNat]'(by omega), List.getElem?_eq_getElem (by omega)⟩
                    have e2 : wr.cell? ⟨bo, offo + f.1.toNat, none⟩ = some (.int .i64 x) := by rw [hb.cell hbo]; exact hco _ x hx
                    have e3 : wr.cell? ⟨bo, offo + f.2.toNat, none⟩ = some (.int .i64 y) := by rw [hb.cell hbo]; exact hco _ y hy
                    have v1 := hasV_at (s := s) g1 hx
                    have v2 := hasV_at (s := s) g2 hy
                    have p5 : bo < wr.heap.size := by omega
                    clear hco hx hy
                    cases w1 : (x == s) with
                    | false =>
                      have HG : Hid (m = (insE ls (es.take (k + 1)) s).length) := by show _ = _; rw [HX.out]; simp [inB, v1, w1]; exact hgs.out
                      clear HX hgs v1 v2
                      go_wp2
                      exact ⟨⟨k + 1, m, by omega, by go_num, rfl, by omega, HG, hb1⟩, by simp [intOf]; omega⟩
                    | true =>
                      cases w2 : (y == s) with
                      | false =>
                        have HG : Hid (m = (insE ls (es.take (k + 1)) s).length) := by show _ = _; rw [HX.out]; simp [inB, v2, w2]; exact hgs.out
                        clear HX hgs v1 v2
                        go_wp2
                        exact ⟨⟨k + 1, m, by omega, by go_num, rfl, by omega, HG, hb1⟩, by simp [intOf]; omega⟩
                      | true =>
                        have HG : Hid (m + 1 = (insE ls (es.take (k + 1)) s).length) := by show _ = _; rw [HX.out]; simp [inB, v1, w1, v2, w2]; exact hgs.out
                        clear HX hgs v1 v2
                        go_wp2
                        exact ⟨⟨k + 1, m + 1, by omega, by go_num, by go_num, by omega, HG, hb1⟩, by simp [intOf]; omega⟩
      · have hmm : m = mw := by have h2 := hgs.out; rw [List.take_of_length_le (by omega)] at h2; have := HML.out; omega
        have hqp : decide ((0 : Int) < (q : Int)) = true := decide_eq_true (by omega)
        subst hmm
        have HS3 := hideIt (HSm.out _ hb)
        clear hgs HML HSm
        go_wp2_with (go_at_call 15; refine HS3.out.mono ?_; rintro e w9 ⟨rfl, b9⟩)
        go_ret
        exact ⟨rfl, bup1 G3 (hb.trans (b9.mono hb.size))⟩
end Go.Proofs.Ytcmjfnaenkdidaa
namespace Go.Proofs.Ytcmjfnaenkdidaa
open Go.ChangeShapes Go.WideShapes Go.ChangeAt Go.RowKit

/-- a slice of bytes that came in, as the walk wants it -/
theorem code_of {H : Type} {enc : TypeId × Value → H} {W : World} {a : Option Addr} {len cap fuel : Nat} {x : DataW H × List MemPlace}
    (hf : DataW.trod enc Try.prog W 0 (fun _ => true) true fuel 22 [.slice a len cap] = some x) : Code W W.heap.size a len := by
  rcases open_ints Try.underlying22 Try.underlying5 (by kernel_rfl) hf with ⟨hcs, _⟩ | ⟨x, l, c, zs, hcs, _, hl, hm, hz, _, hcell, hwz⟩
  · simp at hcs
    obtain ⟨rfl, rfl, rfl⟩ := hcs
    exact .inl rfl
  · simp at hcs
    obtain ⟨rfl, rfl, rfl⟩ := hcs
    by_cases h0 : len = 0
    · exact .inl h0
    · have hzl : zs.length = cap := by simpa using hz
      obtain ⟨b, off, rfl, hc⟩ := ints_at hcell (by omega)
      have hb : b < W.heap.size := World.block_lt_of_cell? W _ (hc 0 (by omega))
      refine .inr ⟨b, off, rfl, hb, by omega, fun j hj => ?_⟩
      have hw := hwz (zs.getD j 0) (by
        rw [List.getD_eq_getElem?_getD, List.getElem?_eq_getElem (by omega)]
        exact List.getElem_mem _)
      have hr : 0 ≤ zs.getD j 0 ∧ zs.getD j 0 ≤ 255 := by simpa [Lit.wf, IntKind.min, IntKind.max, IntKind.signed, IntKind.bits] using hw
      refine ⟨(zs.getD j 0).toNat, by omega, ?_⟩
      rw [hc j (by omega), Int.toNat_of_nonneg hr.1]

end Go.Proofs.Ytcmjfnaenkdidaa
