/- Draws for forests. Draws of an edge. A forest that is only read, all of it above lo, and a box at X. The program's raiseTree: ledges turned in place. The program's lesserTree. WebTake's levels, pure: what holds at each of them. -/
import Derived.Test.YtgjnlhdgekfieaaGreatKDraw6
import Derived.Test.YtgjnlhdgekfieaaGreatKBx7
import Derived.Test.YtgjnlhdgekfieaaGreatKSVerts
import Derived.Test.YtgjnlhdgekfieaaGreatKIFa9
import Derived.Test.YtgjnlhdgekfieaaGreatKWt9
import Derived.Test.YtgjnlhdgekfieaaGreatKIAdd9
import Derived.Test.YtgjnlhdgekfieaaGreatKITn9
namespace Go.Proofs.YtgjnlhdgekfieaaGreat
open Go.RowKit

theorem Cur.up7 {u v : World} {G : Nat} {a : Option Addr} {len cap : Nat} (h : Cur u G a len cap) (hb : Below u.heap.size u v) : Cur v G a len cap := by
  obtain ⟨p, q, h1, h⟩ := h
  exact ⟨p, q, h1, by rw [hb.block G (Array.getElem?_eq_some_iff.1 h).1]; exact h⟩
theorem Code.up7 {u v : World} {G : Nat} {a : Option Addr} {len : Nat} (h : Code u G a len) (hb : Below u.heap.size u v) : Code v G a len :=
  h.kept ⟨hb.os, hb.tape, hb.output, hb.size, fun k hk _ => hb.block k hk⟩
theorem big7_any (w : World) (a : Option Addr) (len cap : Nat) : Calls Tryz.prog 12 #[.slice a len cap] w fun e w' => e = .returned (.bool (decide ((1048576 : Int) < (len : Int)))) ∧ w' = w := by
  go_enter Tryz.func12, Tryz.ntmps12
  go_wp2
  go_ret
  exact ⟨rfl, rfl⟩
theorem five_cells7 (w : World) (z0 z1 z2 z3 z4 : Int) (t : TypeId) : ∀ j, j < 5 → ∃ z : Int, (w.alloc (.cells #[.int .i64 z0, .int .i64 z1, .int .i64 z2, .int .i64 z3, .int .i64 z4] t)).cell? ⟨w.heap.size, j, none⟩ = some (.int .i64 z) := by
  intro j hj
  rw [cell_of_row _ w.heap.size j _ t (0, 0) (heap_alloc_new w _)]
  rcases (show j = 0 ∨ j = 1 ∨ j = 2 ∨ j = 3 ∨ j = 4 from by omega) with rfl | rfl | rfl | rfl | rfl <;> exact ⟨_, rfl⟩
theorem Drawn.from7 {w w' : World} {o : Obj} {G : Nat} {a : Option Addr} {len cap : Nat} (h : Drawn (w.alloc o) w' G a len cap) : Drawn w w' G a len cap := ⟨h.cur, h.code, grownT (World.grownBy_alloc w o (some G)) h.grown⟩
theorem Cur.lt7 {u : World} {G : Nat} {a : Option Addr} {len cap : Nat} (h : Cur u G a len cap) : G < u.heap.size := by
  obtain ⟨p, q, _, h⟩ := h
  exact (Array.getElem?_eq_some_iff.1 h).1
set_option maxRecDepth 100000 in
set_option maxHeartbeats 8000000 in
theorem l01Place7_any (n : Int) (h0 : 0 < n) (h1 : n ≤ 1000000) (w : World) (G : Nat) (a : Option Addr) (len cap : Nat) (hl : len ≤ 1048576) (hcur : Cur w G a len cap) (hcode : Code w G a len) :
    Calls Tryz.prog 120 #[.pointer (some ⟨G, 0, none⟩), .int .i64 n] w fun e w' => ∃ x : Int, e = .returned (.int .i64 x) ∧ Drawn w w' G a len cap := by
  have hG := hcur.lt7
  have HO := hideIt (l01Once_any 15 (by omega) (by omega) w G a len cap hl hcur hcode)
  clear hcur hcode
  have hw : IntKind.i64.wrap (n + 1) = n + 1 := by rw [IntKind.wrap_i64]; omega
  go_enter Tryz.func120, Tryz.ntmps120
  go_wp2_with (go_at_call 71; refine HO.out.mono ?_; rintro e w1 ⟨b, rfl, hd⟩; refine Hid.out ?_)
  refine (show ∀ {p : Prop}, p → Hid p from fun h => h) ?_
  have hs1 := hd.grown.size
  have HD := hideIt hd
  clear hd HO
  cases b with
  | true =>
    have HP := hideIt (l01PickInt_any w1.heap.size 5 5 (by omega) (by omega) _ G a len cap hl (HD.out.cur.up7 ((Below.refl _ _).alloc (Nat.le_refl _) (.cells #[.int .i64 (-1), .int .i64 n, .int .i64 (n + 1), .int .i64 9223372036854775807, .int .i64 (-9223372036854775808)] 3))) (HD.out.code.up7 ((Below.refl _ _).alloc (Nat.le_refl _) _)) (by simp) (by omega) (five_cells7 w1 _ _ _ _ _ 3))
    go_wp2_with (go_at_call 167; refine HP.out.mono ?_; rintro e w2 ⟨y, rfl, hd2⟩)
    go_ret
    exact ⟨_, rfl, HD.out.trans hd2.from7⟩
  | false =>
    have HP := hideIt (l01Below_any n h0 (by omega) w1 G a len cap hl HD.out.cur HD.out.code)
    go_wp2_with (go_at_call 72; refine HP.out.mono ?_; rintro e w2 ⟨y, hy, rfl, hd2⟩)
    go_ret
    exact ⟨_, rfl, HD.out.trans hd2⟩
end Go.Proofs.YtgjnlhdgekfieaaGreat
namespace Go.Proofs.YtgjnlhdgekfieaaGreat
open Go.RowKit

theorem eB_iff7 (n : Int) (e : EdgeV) : eB n e = true ↔ (1 ≤ n ∧ n ≤ 12 ∧ 0 ≤ e.1 ∧ e.1 < e.2 ∧ e.2 < n) := by unfold eB; rw [decide_eq_true_iff]
theorem Cur.grownX7 {u v : World} {G X : Nat} {a : Option Addr} {len cap : Nat} (h : Cur u G a len cap) (hg : u.grownBy v (some X)) (hX : G ≠ X) : Cur v G a len cap := by
  obtain ⟨i, hh, hi, hG⟩ := h
  have hlt : G < u.heap.size := (Array.getElem?_eq_some_iff.1 hG).1
  exact ⟨i, hh, hi, by rw [hg.block G hlt (by simpa using hX)]; exact hG⟩
/-- below w nothing but the cursor has turned -/
theorem grown_up7 {w u v : World} {G : Nat} (h : w.grownBy u (some G)) (hb : Below w.heap.size u v) : w.grownBy v (some G) :=
  ⟨hb.os.trans h.os, hb.tape.trans h.tape, hb.output.trans h.output, Nat.le_trans h.size hb.size, fun k hk hne => (hb.block k hk).trans (h.block k hk hne)⟩

set_option maxRecDepth 100000 in
set_option maxHeartbeats 4000000 in
theorem l05Edge_any (nn : Nat) (h2 : 2 ≤ nn) (h12 : nn ≤ 12) (w : World) (G : Nat) (a : Option Addr) (len cap : Nat) (hl : len ≤ 1048576) (hcur : Cur w G a len cap) (hcode : Code w G a len) :
    Calls Tryz.prog 73 #[.pointer (some ⟨G, 0, none⟩), .int .i64 (nn : Int)] w fun x w' => ∃ e : EdgeV, Hid (eB (nn : Int) e = true) ∧ x = .returned (.agg #[.int .i64 e.1, .int .i64 e.2]) ∧ Drawn w w' G a len cap := by
  have hb0 : Below w.heap.size w (w.alloc (.cells #[.int .i64 0, .int .i64 0] 28)) := (Below.refl _ _).alloc (Nat.le_refl _) _
  have HB := hideIt (fun (W : World) (hc : Cur W G a len cap) (hd : Code W G a len) => l01Below_any (nn : Int) (by omega) (by omega) W G a len cap hl hc hd)
  have HC0 := hideIt (hcur.up7 hb0)
  have HD0 := hideIt (hcode.up7 hb0)
  have hG := hcur.lt7
  have HCode := hideIt hcode
  have HGr : Hid (w.grownBy (w.alloc (.cells #[.int .i64 0, .int .i64 0] 28)) (some G)) := grown_of_below hb0 _
  have B0 := Box7.new w 28 (.int .i64 0) (.int .i64 0) w.heap.size rfl
  clear hcur hcode hb0
  go_enter Tryz.func73, Tryz.ntmps73
  go_wp2_with (go_at_call 72; refine (HB.out _ HC0.out HD0.out).mono ?_; rintro e w1 ⟨x, hx, rfl, d1⟩; refine Hid.out ?_)
  refine (show ∀ {p : Prop}, p → Hid p from fun h => h) ?_
  have B1 := B0.grown d1.grown (by simp; omega)
  go_wp2_with (go_at_call 72; refine (HB.out _ d1.cur d1.code).mono ?_; rintro e w2 ⟨y, hy, rfl, d2⟩; refine Hid.out ?_)
  refine (show ∀ {p : Prop}, p → Hid p from fun h => h) ?_
  have B2 := B1.grown d2.grown (by simp; omega)
  have D2 := hideIt (d1.trans d2)
  clear B0 B1 d1 d2 HC0 HD0 HB
  have c0 := B2.cell0
  have c1 := B2.cell1
  have f0 := B2.frozen 0
  have f1 := B2.frozen 1
  have HFin : Hid (∀ p q : Int, 0 ≤ p → p < q → q < (nn : Int) → ∃ e : EdgeV, Hid (eB (nn : Int) e = true) ∧ Ending.returned (.agg #[.int .i64 p, .int .i64 q]) = .returned (.agg #[.int .i64 e.1, .int .i64 e.2]) ∧ Drawn w ((w2.setCell ⟨w.heap.size, 0, none⟩ (.int .i64 p)).setCell ⟨w.heap.size, 1, none⟩ (.int .i64 q)) G a len cap) := fun p q hp hpq hq => by
    have hg2 := grownT (grown_set w2 w.heap.size 0 (.int .i64 p)) (grown_set _ w.heap.size 1 (.int .i64 q))
    have hbw : Below w.heap.size w2 ((w2.setCell ⟨w.heap.size, 0, none⟩ (.int .i64 p)).setCell ⟨w.heap.size, 1, none⟩ (.int .i64 q)) := ((Below.refl w.heap.size w2).setCell (p := ⟨w.heap.size, 0, none⟩) (Nat.le_refl _) _).setCell (p := ⟨w.heap.size, 1, none⟩) (Nat.le_refl _) _
    have hgw := grown_up7 (grownT HGr.out D2.out.grown) hbw
    refine ⟨(p, q), (eB_iff7 _ _).2 ⟨by omega, by omega, hp, hpq, hq⟩, rfl, D2.out.cur.grownX7 hg2 (by omega), HCode.out.kept hgw, hgw⟩
  have hx' : x < nn := by omega
  have hy' : y < nn := by omega
  by_cases hxy : x = y
  · subst hxy
    by_cases hx1 : x + 1 < nn
    · have m1 : ((x : Int) + 1) % (nn : Int) = (x : Int) + 1 := Int.emod_eq_of_lt (by omega) (by omega)
      have m2 : ((x : Int) + 1).tmod (nn : Int) = (x : Int) + 1 := by rw [Int.tmod_eq_emod_of_nonneg (by omega)]; exact m1
      have d1 : decide ((x : Int) + 1 < (x : Int)) = false := decide_eq_false (by omega)
      have HF := hideIt (HFin.out (x : Int) ((x : Int) + 1) (by omega) (by omega) (by omega))
      clear HFin
      go_wp2
      obtain ⟨e, he, h3, h4⟩ := HF.out
      exact bodyPost_ret (v := .agg #[.int .i64 (x : Int), .int .i64 ((x : Int) + 1)]) (by simp [results, Tryz.results73, go_sem, c0, c1]) rfl ⟨e, he, h3, h4⟩
    · have hxn : x + 1 = nn := by omega
      have m1 : ((x : Int) + 1) % (nn : Int) = 0 := by rw [show (x : Int) + 1 = (nn : Int) by omega]; exact Int.emod_self
      have m2 : ((x : Int) + 1).tmod (nn : Int) = 0 := by rw [Int.tmod_eq_emod_of_nonneg (by omega)]; exact m1
      have d1 : decide ((0 : Int) < (x : Int)) = true := decide_eq_true (by omega)
      have HF := hideIt (HFin.out 0 (x : Int) (by omega) (by omega) (by omega))
      clear HFin hxn
      go_wp2
      obtain ⟨e, he, h3, h4⟩ := HF.out
      exact bodyPost_ret (v := .agg #[.int .i64 0, .int .i64 (x : Int)]) (by simp [results, Tryz.results73, go_sem, c0, c1]) rfl ⟨e, he, h3, h4⟩
  · have d0 : ((x : Int) == (y : Int)) = false := by simp; omega
    by_cases hlt : x < y
    · have d1 : decide ((y : Int) < (x : Int)) = false := decide_eq_false (by omega)
      have HF := hideIt (HFin.out (x : Int) (y : Int) (by omega) (by omega) (by omega))
      clear HFin
      go_wp2
      obtain ⟨e, he, h3, h4⟩ := HF.out
      exact bodyPost_ret (v := .agg #[.int .i64 (x : Int), .int .i64 (y : Int)]) (by simp [results, Tryz.results73, go_sem, c0, c1]) rfl ⟨e, he, h3, h4⟩
    · have d1 : decide ((y : Int) < (x : Int)) = true := decide_eq_true (by omega)
      have HF := hideIt (HFin.out (y : Int) (x : Int) (by omega) (by omega) (by omega))
      clear HFin
      go_wp2
      obtain ⟨e, he, h3, h4⟩ := HF.out
      exact bodyPost_ret (v := .agg #[.int .i64 (y : Int), .int .i64 (x : Int)]) (by simp [results, Tryz.results73, go_sem, c0, c1]) rfl ⟨e, he, h3, h4⟩

end Go.Proofs.YtgjnlhdgekfieaaGreat
namespace Go.Proofs.YtgjnlhdgekfieaaGreat
open Go.RowKit

def TL (u : World) (lo X : Nat) (a : Option Addr) (m c : Nat) (ts : List (List Int)) : Prop :=
  ∃ hs, u.ownsRow lo 44 1 (.slice a m c) m hs ∧ HdT u u.heap.size hs ts ∧ ∀ v ∈ hs, HdL lo v ∧ HdN X v
theorem TL.ts {u : World} {lo X : Nat} {a : Option Addr} {m c : Nat} {ts : List (List Int)} (h : TL u lo X a m c ts) : Ts u u.heap.size a m ts := by
  obtain ⟨hs, h1, h2, _⟩ := h
  exact h2.ts h1
theorem TL.up {u v : World} {lo X : Nat} {a : Option Addr} {m c : Nat} {ts : List (List Int)} (h : TL u lo X a m c ts) (hb : Below u.heap.size u v) : TL v lo X a m c ts := by
  obtain ⟨hs, h1, h2, h3⟩ := h
  exact ⟨hs, own_up h1 hb, (h2.below hb (Nat.le_refl _)).mono hb.size, h3⟩
theorem TL.lo {u : World} {lo lo' X : Nat} {a : Option Addr} {m c : Nat} {ts : List (List Int)} (h : TL u lo X a m c ts) (hl : lo' ≤ lo) : TL u lo' X a m c ts := by
  obtain ⟨hs, h1, h2, h3⟩ := h
  exact ⟨hs, own_mono h1 hl, h2, fun v hv => ⟨(h3 v hv).1.mono hl, (h3 v hv).2⟩⟩
theorem Is.grown {u v : World} {B G n : Nat} {a : Option Addr} {ls : List Int} (h : Is u B a n ls) (hB : B ≤ u.heap.size) (hg : u.grownBy v (some G)) (hx : ∀ b off s, a = some ⟨b, off, s⟩ → b ≠ G) : Is v B a n ls := by
  refine ⟨h.1, h.2.imp id ?_⟩
  rintro ⟨b, off, h1, h2, h3⟩
  exact ⟨b, off, h1, h2, fun j x hj => by
    have hn := hx b off none h1
    rw [World.cell?_of_block (w := u) (hg.block b (by omega) (by simpa using hn))]; exact h3 j x hj⟩
theorem TL.grown {u v : World} {lo X G : Nat} {a : Option Addr} {m c : Nat} {ts : List (List Int)} (h : TL u lo X a m c ts) (hg : u.grownBy v (some G)) (hG : G < lo) : TL v lo X a m c ts := by
  obtain ⟨hs, h1, h2, h3⟩ := h
  refine ⟨hs, World.ownsRow.kept h1 hg (.inr fun e => by have := (h1.lt G e).1; omega), ⟨h2.1, fun i t ht => ?_⟩, h3⟩
  obtain ⟨a', c', p1, p2, p3⟩ := h2.2 i t ht
  exact ⟨a', c', p1, (p2.grown (Nat.le_refl _) hg fun b off s e => ((h3 _ (List.mem_of_getElem? p1)).1.ne hG) b off s _ _ (by rw [e])).mono hg.size, p3⟩
theorem TL.setX {u : World} {lo X j : Nat} {a : Option Addr} {m c : Nat} {ts : List (List Int)} {v0 v1 : Value} (h : TL u lo X a m c ts) (hb : Box7 u X 57 v0 v1) (v : Value) : TL (u.setCell ⟨X, j, none⟩ v) lo X a m c ts := by
  obtain ⟨hs, h1, h2, h3⟩ := h
  refine ⟨hs, own_typed h1 hb, ?_, h3⟩
  have hz : (u.setCell ⟨X, j, none⟩ v).heap.size = u.heap.size := by simp [World.setCell]
  rw [hz]
  exact h2.set (fun v hv => (h3 v hv).2) v
theorem fp_pos {N : Int} {ts : List (List Int)} (h : FP N ts) : ∀ t ∈ ts, 0 < t.length := fun t ht => tB_pos (h.q.1 t ht).1
/-- a right forest's rows, below a box that is new -/
theorem TL.of {u : World} {lo : Nat} {a : Option Addr} {m c : Nat} {hs : List Value} {ts : List (List Int)} {N : Int} (hP : FP N ts) (h1 : u.ownsRow lo 44 1 (.slice a m c) m hs) (h2 : HdT u u.heap.size hs ts) (h3 : ∀ v ∈ hs, HdL lo v) : TL u lo u.heap.size a m c ts :=
  ⟨hs, h1, h2, fun v hv => ⟨h3 v hv, h2.lowN (fp_pos hP) (Nat.le_refl _) v hv⟩⟩
/-- rows that are newer than a box -/
theorem TL.nw {u : World} {lo X : Nat} {a : Option Addr} {m c : Nat} {hs : List Value} {ts : List (List Int)} (h1 : u.ownsRow lo 44 1 (.slice a m c) m hs) (h2 : HdT u u.heap.size hs ts) (h3 : ∀ v ∈ hs, HdL lo v) (hX : X < lo) : TL u lo X a m c ts :=
  ⟨hs, h1, h2, fun v hv => ⟨h3 v hv, (h3 v hv).ne hX⟩⟩
theorem FB.hdl {u : World} {lo hi : Nat} {a : Option Addr} {n c : Nat} {R : List Rw} (h : FB u lo hi a n c R) : ∀ v ∈ rhs R, HdL lo v := fun v hv => by
  obtain ⟨r, hr, rfl⟩ := List.mem_map.1 hv
  intro b off s n c e
  simp only [Rw.hdr, Value.slice.injEq, Option.some.injEq, Addr.mk.injEq] at e
  rw [← e.1.1]
  exact (h.ins r hr).2.1

/-- where the draw of a forest stands -/
structure FDr (w : World) (G X : Nat) (a : Option Addr) (len cap N : Nat) (a' : Option Addr) (m c' : Nat) (ts : List (List Int)) (u : World) : Prop where
  cur : Cur u G a len cap
  res : Box7 u w.heap.size 57 (.int .i64 0) (.slice none 0 0)
  box : Box7 u X 57 (.int .i64 (N : Int)) (.slice a' m c')
  tl : TL u (w.heap.size + 1) X a' m c' ts
  grown : w.grownBy u (some G)
  low : G < w.heap.size
  high : w.heap.size < X
theorem FDr.code {w : World} {G X : Nat} {a : Option Addr} {len cap N : Nat} {a' : Option Addr} {m c' : Nat} {ts : List (List Int)} {u : World} (h : FDr w G X a len cap N a' m c' ts u) (hc : Code w G a len) : Code u G a len := hc.kept h.grown
theorem FDr.drawn {w : World} {G X : Nat} {a : Option Addr} {len cap N : Nat} {a' : Option Addr} {m c' : Nat} {ts : List (List Int)} {u v : World} (h : FDr w G X a len cap N a' m c' ts u) (d : Drawn u v G a len cap) : FDr w G X a len cap N a' m c' ts v :=
  ⟨d.cur, h.res.grown d.grown (by have := h.low; simp; omega), h.box.grown d.grown (by have := h.low; have := h.high; simp; omega), h.tl.grown d.grown (by have := h.low; omega), grownT h.grown d.grown, h.low, h.high⟩
theorem FDr.up {w : World} {G X : Nat} {a : Option Addr} {len cap N : Nat} {a' : Option Addr} {m c' : Nat} {ts : List (List Int)} {u v : World} (h : FDr w G X a len cap N a' m c' ts u) (hb : Below u.heap.size u v) : FDr w G X a len cap N a' m c' ts v :=
  ⟨h.cur.up7 hb, h.res.up hb, h.box.up hb, h.tl.up hb, grown_up7 h.grown (hb.mono h.grown.size), h.low, h.high⟩
theorem FDr.put {w : World} {G X : Nat} {a : Option Addr} {len cap N : Nat} {a' : Option Addr} {m c' : Nat} {ts : List (List Int)} {u : World} (h : FDr w G X a len cap N a' m c' ts u) {M : Nat} {a2 : Option Addr} {m2 c2 : Nat} {t2 : List (List Int)} (ht : TL u (w.heap.size + 1) X a2 m2 c2 t2) :
    FDr w G X a len cap M a2 m2 c2 t2 ((u.setCell ⟨X, 0, none⟩ (.int .i64 (M : Int))).setCell ⟨X, 1, none⟩ (.slice a2 m2 c2)) := by
  have hl := h.low
  have hh := h.high
  have hg := grownT (grown_set u X 0 (.int .i64 (M : Int))) (grown_set _ X 1 (.slice a2 m2 c2))
  have hbw : Below w.heap.size u ((u.setCell ⟨X, 0, none⟩ (.int .i64 (M : Int))).setCell ⟨X, 1, none⟩ (.slice a2 m2 c2)) := ((Below.refl w.heap.size u).setCell (p := ⟨X, 0, none⟩) (Nat.le_of_lt hh) _).setCell (p := ⟨X, 1, none⟩) (Nat.le_of_lt hh) _
  have hb0 : Box7 (u.setCell ⟨X, 0, none⟩ (.int .i64 (M : Int))) X 57 (.int .i64 (M : Int)) (.slice a' m c') := by
    unfold Box7
    rw [heap_setCell_same _ X 0 _ 57 _ h.box]; rfl
  exact ⟨h.cur.grownX7 hg (by omega), h.res.grown hg (by simp; omega), h.box.set _ _, (ht.setX h.box _).setX hb0 _, grown_up7 h.grown hbw, h.low, h.high⟩
end Go.Proofs.YtgjnlhdgekfieaaGreat
namespace Go.Proofs.YtgjnlhdgekfieaaGreat
open Go.RowKit

theorem lcells_setL : ∀ {ls : List Ld} {k : Nat} {x : Ld} (_ : ls[k]? = some x) (l : Int), (lcells ls).set (k * 4 + 2) (.int .i64 l) = lcells (ls.set k ⟨x.a, x.b, l, x.t⟩)
  | [], k, x, h, l => by simp at h
  | y :: ys, 0, x, h, l => by
    simp at h
    subst h
    simp [lcells, lcell]
  | y :: ys, k + 1, x, h, l => by
    have h' : ys[k]? = some x := by simpa using h
    have ih := lcells_setL h' l
    rw [show (k + 1) * 4 + 2 = k * 4 + 2 + 1 + 1 + 1 + 1 by omega]
    simp only [lcells, lcell, List.flatMap_cons, List.cons_append, List.nil_append, List.set_cons_succ] at ih ⊢
    rw [ih]
theorem lcells_setT : ∀ {ls : List Ld} {k : Nat} {x : Ld} (_ : ls[k]? = some x) (t : Bool), (lcells ls).set (k * 4 + 3) (.bool t) = lcells (ls.set k ⟨x.a, x.b, x.l, t⟩)
  | [], k, x, h, l => by simp at h
  | y :: ys, 0, x, h, l => by
    simp at h
    subst h
    simp [lcells, lcell]
  | y :: ys, k + 1, x, h, t => by
    have h' : ys[k]? = some x := by simpa using h
    have ih := lcells_setT h' t
    rw [show (k + 1) * 4 + 3 = k * 4 + 3 + 1 + 1 + 1 + 1 by omega]
    simp only [lcells, lcell, List.flatMap_cons, List.cons_append, List.nil_append, List.set_cons_succ] at ih ⊢
    rw [ih]
theorem is_mono {w : World} {B C n : Nat} {a : Option Addr} {ls : List Int} (h : Is w B a n ls) (hB : B ≤ C) : Is w C a n ls :=
  ⟨h.1, h.2.imp id fun ⟨b, off, h1, h2, h3⟩ => ⟨b, off, h1, by omega, h3⟩⟩
theorem rsL_no {i : Int} {t : List Int} {x : Ld} (h : ¬ (x.t = true ∧ x.l = i ∧ x.a ∈ t)) : rsL i t x = x := by unfold rsL; rw [if_neg h]
theorem rsL_yes {i : Int} {t : List Int} {x : Ld} (h : x.t = true ∧ x.l = i ∧ x.a ∈ t) : rsL i t x = ⟨x.a, x.b, upL i, x.t⟩ := by unfold rsL; rw [if_pos h]
theorem turn_skip {f : Ld → Ld} {L : List Ld} {k : Nat} {x : Ld} (h : L[k]? = some x) (hf : f x = x) : (L.take (k + 1)).map f ++ L.drop (k + 1) = (L.take k).map f ++ L.drop k := by
  rw [← turn_step h, hf]
  have := turn_at (f := f) h
  obtain ⟨hk, hx⟩ := List.getElem?_eq_some_iff.1 this
  conv => lhs; rw [← hx]
  exact List.set_getElem_self hk

set_option maxRecDepth 100000 in
set_option maxHeartbeats 4000000 in
theorem raiseTree_any (base g c n : Nat) (ls : List Ld) (t : List Int) (m : Nat) (a' : Option Addr) (c' : Nat) (i : Int) (h0 : 0 ≤ i) (h4 : i ≤ 4) (hn : n ≤ 1048576) (hm : m ≤ 1048576) (w : World)
    (h : w.ownsRow base 52 4 (.slice (some ⟨g, 0, none⟩) n c) n (lcells ls)) (ht : Is w w.heap.size a' m t) (hne : ∀ b off s, a' = some ⟨b, off, s⟩ → b ≠ g) :
    Calls Tryz.prog 144 #[.slice (some ⟨g, 0, none⟩) n c, .slice a' m c', .int .i64 i] w fun e w' => e = .returned (.tuple #[]) ∧
      w'.ownsRow base 52 4 (.slice (some ⟨g, 0, none⟩) n c) n (lcells (ls.map (rsL i t))) ∧ w.grownBy w' (some g) := by
  have hlen : ls.length = n := by have := h.1; rw [lcells_length] at this; omega
  have HC : Hid (∀ W v, w.grownBy W (some g) → Calls Tryz.prog 191 #[.slice a' m c', .int .i64 v] W fun e w' => e = .returned (.bool (decide (v ∈ t))) ∧ w' = W) := fun W v hW => conI_any t v m a' c' (by omega) W (is_mono (ht.grown (Nat.le_refl _) hW hne) hW.size)
  have HU := hideIt (levelUp_any i h0 h4)
  have HO0 := hideIt h
  clear h ht
  go_enter Tryz.func144, Tryz.ntmps144
  go_wp2
  go_loopw [10] (fun q wr => ∃ (k : Nat), k ≤ n ∧ q = .int .i64 (k : Int) ∧ wr.ownsRow base 52 4 (.slice (some ⟨g, 0, none⟩) n c) n (lcells ((ls.take k).map (rsL i t) ++ ls.drop k)) ∧ w.grownBy wr (some g)) (fun q _ => n - (intOf q).toNat)
  case atStart => exact ⟨0, by omega, rfl, by simpa using HO0.out, ⟨rfl, rfl, rfl, Nat.le_refl _, fun _ _ _ => rfl⟩⟩
  case round =>
    obtain ⟨k, hk, rfl, hown, hgr⟩ := hrel
    clear HO0
    by_cases hlt : k < n
    · obtain ⟨x, hx⟩ : ∃ x, ls[k]? = some x := ⟨ls[k]'(by omega), List.getElem?_eq_getElem (by omega)⟩
      have hxa := turn_at (f := rsL i t) hx
      have b1 : (0 : Int) ≤ (k : Int) := by omega
      have b2 : (k : Int) < (n : Int) := by omega
      obtain ⟨p0, p1, p2, p3⟩ := lcells_at _ k x hxa
      have hl4 : (lcells ((ls.take k).map (rsL i t) ++ ls.drop k)).length = n * 4 := hown.1
      have e0 : wr.cell? ⟨g, k * 4, none⟩ = some (.int .i64 x.a) := by rw [hown.cellAt (k * 4) (by omega)]; exact p0
      have e1 : wr.cell? ⟨g, k * 4 + 1, none⟩ = some (.int .i64 x.b) := by rw [hown.cellAt (k * 4 + 1) (by omega)]; exact p1
      have e2 : wr.cell? ⟨g, k * 4 + 2, none⟩ = some (.int .i64 x.l) := by rw [hown.cellAt (k * 4 + 2) (by omega)]; exact p2
      have e3 : wr.cell? ⟨g, k * 4 + 3, none⟩ = some (.bool x.t) := by rw [hown.cellAt (k * 4 + 3) (by omega)]; exact p3
      obtain ⟨W1, hW1⟩ : ∃ W1, W1 = wr.alloc (.cells #[.int .i64 x.a, .int .i64 x.b, .int .i64 x.l, .bool x.t] 52) := ⟨_, rfl⟩
      have hG1 : w.grownBy W1 (some g) := by rw [hW1]; exact grown_trans hgr (World.grownBy_alloc wr _ _)
      have hO1 : W1.ownsRow base 52 4 (.slice (some ⟨g, 0, none⟩) n c) n (lcells ((ls.take k).map (rsL i t) ++ ls.drop k)) := by rw [hW1]; exact hown.alloc _
      have q0 : W1.cell? ⟨wr.heap.size, 0, none⟩ = some (.int .i64 x.a) := by rw [hW1]; simp
      have q2 : W1.cell? ⟨wr.heap.size, 2, none⟩ = some (.int .i64 x.l) := by rw [hW1]; simp
      have q3 : W1.cell? ⟨wr.heap.size, 3, none⟩ = some (.bool x.t) := by rw [hW1]; simp
      have f2 := hO1.frozenAt (k * 4 + 2)
      have e2' : W1.cell? ⟨g, k * 4 + 2, none⟩ = some (.int .i64 x.l) := by rw [hO1.cellAt (k * 4 + 2) (by omega)]; exact p2
      have hst := hO1.stored (k * 4 + 2) (.int .i64 (upL i))
      rw [lcells_setL hxa] at hst
      have HO1 := hideIt hO1
      have HG1 := hideIt hG1
      have HSt := hideIt hst
      have hq := hideIt (HC.out W1 x.a hG1)
      clear hown hgr p0 p1 p2 p3 hO1 hG1 hst hl4
      go_upto_region 3 with fail
      rw [← hW1]
      clear hW1 e0 e1 e2 e3
      by_cases ht1 : x.t = true
      · by_cases hl1 : x.l = i
        · by_cases ha1 : x.a ∈ t
          · have hf := rsL_yes (i := i) (t := t) ⟨ht1, hl1, ha1⟩
            have HN := hideIt (turn_step (f := rsL i t) hx)
            rw [decide_eq_true ha1] at hq
            rw [ht1] at q3
            rw [hf] at HN
            have d1 : (x.l == i) = true := by simp [hl1]
            have HUp := hideIt (HU.out W1)
            clear hf ht1 hl1 ha1 hxa hx
            go_wp2_with (go_at_call 191; refine hq.out.mono ?_; rintro e w1 ⟨rfl, hw1⟩; have hw1' := hw1.symm; subst hw1'; refine Hid.out ?_)
            refine (show ∀ {p : Prop}, p → Hid p from fun h => h) ?_
            go_wp2_with (go_at_call 146; refine HUp.out.mono ?_; rintro e w2 ⟨rfl, hw2⟩; have hw2' := hw2.symm; subst hw2'; refine Hid.out ?_)
            refine (show ∀ {p : Prop}, p → Hid p from fun h => h) ?_
            go_wp2
            exact ⟨⟨k + 1, by omega, by go_num, by rw [← HN.out]; exact HSt.out.1, grown_trans HG1.out HSt.out.2⟩, by simp [intOf]; omega⟩
          · have HN := hideIt (turn_skip hx (rsL_no (i := i) (t := t) fun h => ha1 h.2.2))
            rw [decide_eq_false ha1] at hq
            rw [ht1] at q3
            have d1 : (x.l == i) = true := by simp [hl1]
            clear ht1 hl1 ha1 hxa hx
            go_wp2_with (go_at_call 191; refine hq.out.mono ?_; rintro e w1 ⟨rfl, hw1⟩; have hw1' := hw1.symm; subst hw1'; refine Hid.out ?_)
            refine (show ∀ {p : Prop}, p → Hid p from fun h => h) ?_
            go_wp2
            exact ⟨⟨k + 1, by omega, by go_num, by rw [HN.out]; exact HO1.out, HG1.out⟩, by simp [intOf]; omega⟩
        · have HN := hideIt (turn_skip hx (rsL_no (i := i) (t := t) fun h => hl1 h.2.1))
          rw [ht1] at q3
          have d1 : (x.l == i) = false := by simp [hl1]
          clear ht1 hl1 hxa hx
          go_wp2
          exact ⟨⟨k + 1, by omega, by go_num, by rw [HN.out]; exact HO1.out, HG1.out⟩, by simp [intOf]; omega⟩
      · have HN := hideIt (turn_skip hx (rsL_no (i := i) (t := t) fun h => ht1 h.1))
        rw [show x.t = false by simpa using ht1] at q3
        clear ht1 hxa hx
        go_wp2
        exact ⟨⟨k + 1, by omega, by go_num, by rw [HN.out]; exact HO1.out, HG1.out⟩, by simp [intOf]; omega⟩
    · obtain rfl : k = n := by omega
      have HO : Hid (wr.ownsRow base 52 4 (.slice (some ⟨g, 0, none⟩) k c) k (lcells (ls.map (rsL i t)))) := by
        show _
        rw [List.take_of_length_le (by omega), List.drop_eq_nil_of_le (by omega), List.append_nil] at hown
        exact hown
      have HG := hideIt hgr
      clear hown hgr
      go_wp2
      exact bodyPost_end (v := .tuple #[]) (results_none rfl _ _ _) rfl ⟨rfl, HO.out, HG.out⟩
end Go.Proofs.YtgjnlhdgekfieaaGreat
namespace Go.Proofs.YtgjnlhdgekfieaaGreat
open Go.RowKit

/-- a vertex's tree -/
theorem FtAll.at {es : List EdgeV} {n : Nat} {ts : List (List Int)} (h : FtAll es n ts) {v : Int} (h0 : 0 ≤ v) (h1 : v < (n : Int)) : ∃ (k : Nat) (t : List Int), ts[k]? = some t ∧ trI ts v = (k : Int) ∧ treeO (n : Int) ts v = (k : Int) ∧ sizeO (n : Int) ts v = ((vsL t).length : Int) := by
  rcases trI_cases ts v with ⟨k, t, hk, _, e⟩ | ⟨hn, _⟩
  · have ht : treeO (n : Int) ts v = (k : Int) := by rw [treeO_yes h.fp, e]
    exact ⟨k, t, hk, e, ht, sizeO_yes ht hk⟩
  · obtain ⟨t, ht, hv⟩ := h.cov v h0 h1
    exact absurd hv (hn t ht)

theorem len_le {t : List Int} {B : Nat} : ∀ {ts : List (List Int)}, t ∈ ts → lnS ts ≤ B → t.length ≤ B
  | [], h, _ => by simp at h
  | x :: xs, h, hB => by
    have hs : lnS (x :: xs) = x.length + lnS xs := by simp [lnS]
    rw [hs] at hB
    rcases List.mem_cons.1 h with rfl | h
    · omega
    · exact len_le h (by omega)
/-- what lesserTree answers: a row that is new -/
def LtA (w : World) (t : List Int) (e : Ending) (w' : World) : Prop :=
  ∃ g m c, e = .returned (.slice (some ⟨g, 0, none⟩) m c) ∧ Is w' w'.heap.size (some ⟨g, 0, none⟩) m t ∧ w.heap.size ≤ g ∧ m ≤ 1048576 ∧ Below w.heap.size w w'

set_option maxRecDepth 100000 in
set_option maxHeartbeats 8000000 in
theorem lesserTree_any (nn : Nat) (ls : List Ld) (e : EdgeV) (lv : Int) (n : Nat) (a : Option Addr) (c : Nat) (hG : gB (nn : Int) (gE ls) = true) (hl : ∀ x ∈ ls, 0 ≤ x.l) (hB : Bridge (fE ls 0)) (hlv : 0 ≤ lv) (ts : List (List Int)) (hts : ftK (fE ls lv) nn nn = some ts) (hA : FtAll (fE ls lv) nn ts)
    (he1 : 0 ≤ e.1 ∧ e.1 < (nn : Int)) (he2 : 0 ≤ e.2 ∧ e.2 < (nn : Int)) (w : World) (h : Ls w w.heap.size a n ls) :
    Calls Tryz.prog 143 #[.agg #[.int .i64 (nn : Int), .slice a n c], .agg #[.int .i64 e.1, .int .i64 e.2], .int .i64 lv] w (LtA w (smT ts e)) := by
  obtain ⟨k1, t1, hk1, i1, o1, s1⟩ := hA.at he1.1 he1.2
  obtain ⟨k2, t2, hk2, i2, o2, s2⟩ := hA.at he2.1 he2.2
  have hsm : smT ts e = if (vsL t2).length < (vsL t1).length then t2 else t1 := by
    unfold smT
    rw [i1, i2, Int.toNat_natCast, Int.toNat_natCast]
    simp only [List.getD_eq_getElem?_getD, hk1, hk2, Option.getD_some]
  have hsmall := FP_small hA.fp
  obtain ⟨W2, hW2⟩ : ∃ W2, W2 = (w.alloc (.cells #[.int .i64 (nn : Int), .slice a n c] 26)).alloc (.cells #[.int .i64 e.1, .int .i64 e.2] 28) := ⟨_, rfl⟩
  have G2 : Good w W2 := by rw [hW2]; exact ((Good.refl w).alloc _).alloc _
  have X2 : Box7 W2 w.heap.size 26 (.int .i64 (nn : Int)) (.slice a n c) := by rw [hW2]; exact (Box7.new w _ _ _ _ rfl).alloc _
  have E2 : Box7 W2 (w.heap.size + 1) 28 (.int .i64 e.1) (.int .i64 e.2) := by rw [hW2]; exact Box7.new _ _ _ _ _ (by simp)
  have HF := hideIt (iForestAt_yes nn ls lv n a c hG hl hB hlv ts hts W2 (h.up G2))
  have q0 := X2.cell0
  have q1 := X2.cell1
  have HG2 := hideIt G2
  have HZ2 : Hid (w.heap.size ≤ W2.heap.size) := G2.size
  clear h hG hl hB hts hA X2 G2
  go_enter Tryz.func143, Tryz.ntmps143
  go_upto_region 1 with fail
  rw [← hW2]
  clear hW2
  go_wp2_with (go_at_call 33; refine HF.out.mono ?_; rintro x w3 ⟨a3, m3, c3, R, rfl, hFB, hR, hb3⟩; refine Hid.out ?_)
  refine (show ∀ {p : Prop}, p → Hid p from fun h => h) ?_
  simp only [Option.getD_some] at hR
  subst hR
  have hFt : ∀ (k : Nat) (t : List Int), (rts R)[k]? = some t → ∃ r, R[k]? = some r ∧ r.t = t := fun k t hk => by
    have hkl : k < R.length := by rw [← rts_len]; exact (List.getElem?_eq_some_iff.1 hk).1
    have hr : R[k]? = some R[k] := List.getElem?_eq_getElem hkl
    exact ⟨_, hr, Option.some.inj ((rts_at hr).symm.trans hk)⟩
  obtain ⟨r1, hr1, rfl⟩ := hFt k1 t1 hk1
  obtain ⟨r2, hr2, rfl⟩ := hFt k2 t2 hk2
  have hkm1 : k1 < m3 := by have := (List.getElem?_eq_some_iff.1 hr1).1; have := hFB.len; omega
  have hkm2 : k2 < m3 := by have := (List.getElem?_eq_some_iff.1 hr2).1; have := hFB.len; omega
  obtain ⟨gR, rfl⟩ : ∃ gR, a3 = some ⟨gR, 0, none⟩ := by
    rcases hFB.own.2 with ⟨_, h0⟩ | ⟨g, cap, cur, hv, _⟩
    · omega
    · simp at hv
      exact ⟨g, hv.1⟩
  have g23 : Good W2 w3 := hb3
  obtain ⟨W4, hW4⟩ : ∃ W4, W4 = w3.alloc (.cells #[.int .i64 (nn : Int), .slice (some ⟨gR, 0, none⟩) m3 c3] 57) := ⟨_, rfl⟩
  have g34 : Good w3 W4 := by rw [hW4]; exact (Good.refl w3).alloc _
  have F4 : Box7 W4 w3.heap.size 57 (.int .i64 (nn : Int)) (.slice (some ⟨gR, 0, none⟩) m3 c3) := by rw [hW4]; exact Box7.new _ _ _ _ _ rfl
  have E4 := (E2.up g23).up g34
  have hFB4 := hFB.up g34
  have HG4 := hideIt ((HG2.out.up g23).up g34)
  have hln : m3 + lnS (rts R) ≤ 1048576 := by have := hFB.len; rw [← rts_len] at this; omega
  have HSz : Hid (∀ v u, Good W4 u → Calls Tryz.prog 36 #[.agg #[.int .i64 (nn : Int), .slice (some ⟨gR, 0, none⟩) m3 c3], .int .i64 v] u fun x v' => x = .returned (.int .i64 (sizeO (nn : Int) (rts R) v)) ∧ Good W4 v') := fun v u hu => (iSizeOf_any _ (rts R) v m3 (some ⟨gR, 0, none⟩) c3 hln u (hFB4.ts.up hu)).mono fun _ _ ⟨hx, hb⟩ => ⟨hx, hu.up hb⟩
  have HTr : Hid (∀ v u, Good W4 u → Calls Tryz.prog 83 #[.agg #[.int .i64 (nn : Int), .slice (some ⟨gR, 0, none⟩) m3 c3], .int .i64 v] u fun x v' => x = .returned (.int .i64 (treeO (nn : Int) (rts R) v)) ∧ Good W4 v') := fun v u hu => (iTreeOf_any _ (rts R) v m3 (some ⟨gR, 0, none⟩) c3 hln u (hFB4.ts.up hu)).mono fun _ _ ⟨hx, hb⟩ => ⟨hx, hu.up hb⟩
  have HFB := hideIt hFB4
  clear HF hFB hb3 q0 q1 g23 HG2 E2 hFB4 hsmall
  go_upto_region 2 with fail
  rw [← hW4]
  clear hW4 g34
  have c1 : W4.cell? ⟨gR, k1, none⟩ = some (.slice (some ⟨r1.g, 0, none⟩) r1.t.length r1.cp) := by rw [HFB.out.own.cellAt k1 (by omega)]; exact rhs_at hr1
  have c2 : W4.cell? ⟨gR, k2, none⟩ = some (.slice (some ⟨r2.g, 0, none⟩) r2.t.length r2.cp) := by rw [HFB.out.own.cellAt k2 (by omega)]; exact rhs_at hr2
  have hgl : gR < W4.heap.size := (HFB.out.own.lt gR rfl).2
  have HC : Hid (∀ u, Good W4 u → ((u.cell? ⟨w3.heap.size, 0, none⟩ = some (.int .i64 (nn : Int)) ∧ u.cell? ⟨w3.heap.size, 1, none⟩ = some (.slice (some ⟨gR, 0, none⟩) m3 c3)) ∧ (u.cell? ⟨w.heap.size + 1, 0, none⟩ = some (.int .i64 e.1) ∧ u.cell? ⟨w.heap.size + 1, 1, none⟩ = some (.int .i64 e.2)) ∧ (u.cell? ⟨gR, k1, none⟩ = some (.slice (some ⟨r1.g, 0, none⟩) r1.t.length r1.cp) ∧ u.cell? ⟨gR, k2, none⟩ = some (.slice (some ⟨r2.g, 0, none⟩) r2.t.length r2.cp))) ∧ Good W4 u) := fun u hu => ⟨⟨⟨(F4.up hu).cell0, (F4.up hu).cell1⟩, ⟨(E4.up hu).cell0, (E4.up hu).cell1⟩, by rw [hu.cell hgl]; exact c1, by rw [hu.cell hgl]; exact c2⟩, hu⟩
  have HI1 : Hid (∀ u, Good W4 u → Is u u.heap.size (some ⟨r1.g, 0, none⟩) r1.t.length r1.t) := fun u hu => (HFB.out.ins r1 (List.mem_of_getElem? hr1)).1.is.up hu
  have HI2 : Hid (∀ u, Good W4 u → Is u u.heap.size (some ⟨r2.g, 0, none⟩) r2.t.length r2.t) := fun u hu => (HFB.out.ins r2 (List.mem_of_getElem? hr2)).1.is.up hu
  have HL : Hid (w.heap.size ≤ r1.g ∧ w.heap.size ≤ r2.g) := ⟨Nat.le_trans HZ2.out (HFB.out.ins r1 (List.mem_of_getElem? hr1)).2.1, Nat.le_trans HZ2.out (HFB.out.ins r2 (List.mem_of_getElem? hr2)).2.1⟩
  have HM : Hid (r1.t.length ≤ 1048576 ∧ r2.t.length ≤ 1048576) := ⟨len_le (List.mem_of_getElem? hk1) (by omega), len_le (List.mem_of_getElem? hk2) (by omega)⟩
  obtain ⟨z1, hz1⟩ : ∃ z1 : Int, z1 = ((vsL r1.t).length : Int) := ⟨_, rfl⟩
  obtain ⟨z2, hz2⟩ : ∃ z2 : Int, z2 = ((vsL r2.t).length : Int) := ⟨_, rfl⟩
  rw [← hz1] at s1
  rw [← hz2] at s2
  have HZs := hideIt (And.intro s1 s2)
  have HZz := hideIt (And.intro hz1 hz2)
  clear hz1 hz2
  have HOs := hideIt (And.intro o1 o2)
  have HSm := hideIt hsm
  have qe := E4.cell0
  clear s1 s2 o1 o2 hsm c1 c2 HFB hr1 hr2 hk1 hk2 i1 i2 F4 E4 hgl hln hFt
  go_upto_region 3 with fail
  have hS0 := HC.out _ (Good.refl W4).drew
  clear qe
  go_region_held3 (fun u => ((u.cell? ⟨w3.heap.size, 0, none⟩ = some (.int .i64 (nn : Int)) ∧ u.cell? ⟨w3.heap.size, 1, none⟩ = some (.slice (some ⟨gR, 0, none⟩) m3 c3)) ∧ (u.cell? ⟨w.heap.size + 1, 0, none⟩ = some (.int .i64 e.1) ∧ u.cell? ⟨w.heap.size + 1, 1, none⟩ = some (.int .i64 e.2)) ∧ (u.cell? ⟨gR, k1, none⟩ = some (.slice (some ⟨r1.g, 0, none⟩) r1.t.length r1.cp) ∧ u.cell? ⟨gR, k2, none⟩ = some (.slice (some ⟨r2.g, 0, none⟩) r2.t.length r2.cp))) ∧ Good W4 u)
    (first | with_reducible assumption)
    ((go_at_call 36; refine (HSz.out _ _ (And.right (by assumption))).mono ?_; rintro x w6 ⟨rfl, hg6⟩; have hS6 := HC.out _ hg6))
  all_goals
    obtain ⟨⟨_, ⟨ee0, ee1⟩, _⟩, hg7⟩ := hS6
    simp only [HZs.out.1, HZs.out.2]
    clear HZs HSz
    by_cases hz : z2 < z1
    · have hd : decide (z2 < z1) = true := decide_eq_true hz
      have HT : Hid (∀ u, Good W4 u → Calls Tryz.prog 83 #[.agg #[.int .i64 (nn : Int), .slice (some ⟨gR, 0, none⟩) m3 c3], .int .i64 e.2] u fun x v' => x = .returned (.int .i64 (k2 : Int)) ∧ Good W4 v') := fun u hu => (HTr.out _ u hu).mono fun _ _ ⟨hx, hb⟩ => ⟨by rw [hx, HOs.out.2], hb⟩
      have HSv : Hid (smT (rts R) e = r2.t) := by show _ = _; rw [HSm.out, if_pos (by have := HZz.out; omega)]
      have b1 : (0 : Int) ≤ (k2 : Int) := by omega
      have b2 : (k2 : Int) < (m3 : Int) := by omega
      clear hz HTr HOs HSm
      rw [hd]
      clear hd
      go_wp2
      have hS0 := HC.out _ hg7.drew
      clear ee0 ee1 hg7
      go_region_held3 (fun u => ((u.cell? ⟨w3.heap.size, 0, none⟩ = some (.int .i64 (nn : Int)) ∧ u.cell? ⟨w3.heap.size, 1, none⟩ = some (.slice (some ⟨gR, 0, none⟩) m3 c3)) ∧ (u.cell? ⟨w.heap.size + 1, 0, none⟩ = some (.int .i64 e.1) ∧ u.cell? ⟨w.heap.size + 1, 1, none⟩ = some (.int .i64 e.2)) ∧ (u.cell? ⟨gR, k1, none⟩ = some (.slice (some ⟨r1.g, 0, none⟩) r1.t.length r1.cp) ∧ u.cell? ⟨gR, k2, none⟩ = some (.slice (some ⟨r2.g, 0, none⟩) r2.t.length r2.cp))) ∧ Good W4 u)
        (first | with_reducible assumption)
        ((go_at_call 83; refine (HT.out _ (And.right (by assumption))).mono ?_; rintro x w8 ⟨rfl, hg8⟩; have hS8 := HC.out _ hg8))
      all_goals
        go_wp2
        go_ret
        exact ⟨r2.g, _, _, rfl, by rw [HSv.out]; exact HI2.out _ hg8, HL.out.2, HM.out.2, HG4.out.up hg8⟩
    · have hd : decide (z2 < z1) = false := decide_eq_false hz
      have HT : Hid (∀ u, Good W4 u → Calls Tryz.prog 83 #[.agg #[.int .i64 (nn : Int), .slice (some ⟨gR, 0, none⟩) m3 c3], .int .i64 e.1] u fun x v' => x = .returned (.int .i64 (k1 : Int)) ∧ Good W4 v') := fun u hu => (HTr.out _ u hu).mono fun _ _ ⟨hx, hb⟩ => ⟨by rw [hx, HOs.out.1], hb⟩
      have HSv : Hid (smT (rts R) e = r1.t) := by show _ = _; rw [HSm.out, if_neg (by have := HZz.out; omega)]
      have b1 : (0 : Int) ≤ (k1 : Int) := by omega
      have b2 : (k1 : Int) < (m3 : Int) := by omega
      clear hz HTr HOs HSm
      rw [hd]
      clear hd
      go_wp2
      have hS0 := HC.out _ hg7.drew
      clear ee0 ee1 hg7
      go_region_held3 (fun u => ((u.cell? ⟨w3.heap.size, 0, none⟩ = some (.int .i64 (nn : Int)) ∧ u.cell? ⟨w3.heap.size, 1, none⟩ = some (.slice (some ⟨gR, 0, none⟩) m3 c3)) ∧ (u.cell? ⟨w.heap.size + 1, 0, none⟩ = some (.int .i64 e.1) ∧ u.cell? ⟨w.heap.size + 1, 1, none⟩ = some (.int .i64 e.2)) ∧ (u.cell? ⟨gR, k1, none⟩ = some (.slice (some ⟨r1.g, 0, none⟩) r1.t.length r1.cp) ∧ u.cell? ⟨gR, k2, none⟩ = some (.slice (some ⟨r2.g, 0, none⟩) r2.t.length r2.cp))) ∧ Good W4 u)
        (first | with_reducible assumption)
        ((go_at_call 83; refine (HT.out _ (And.right (by assumption))).mono ?_; rintro x w8 ⟨rfl, hg8⟩; have hS8 := HC.out _ hg8))
      all_goals
        go_wp2
        go_ret
        exact ⟨r1.g, _, _, rfl, by rw [HSv.out]; exact HI1.out _ hg8, HL.out.1, HM.out.1, HG4.out.up hg8⟩
end Go.Proofs.YtgjnlhdgekfieaaGreat
namespace Go.Proofs.YtgjnlhdgekfieaaGreat

theorem asc_pair {es : List EdgeV} : Asc es ↔ es.Pairwise fun d e => lt d e = true := by
  rw [List.pairwise_iff_getElem]
  exact ⟨fun h i j hi hj hij => h i j _ _ hij (List.getElem?_eq_getElem hi) (List.getElem?_eq_getElem hj), fun h i j d e hij hd he => by
    obtain ⟨hi, rfl⟩ := List.getElem?_eq_some_iff.1 hd
    obtain ⟨hj, rfl⟩ := List.getElem?_eq_some_iff.1 he
    exact h i j hi hj hij⟩
/-- right edges without one of them are right -/
theorem gB_out {N : Int} {es : List EdgeV} (h : gB N es = true) (e : EdgeV) : gB N (outE es e) = true := by
  obtain ⟨h1, h2, h3⟩ := gB_chk h
  have hc : chk N (outE es e) = true := chk_of (fun d hd => chk_eB h2 (List.mem_filter.1 hd).1) (asc_pair.2 ((asc_pair.1 (asc_of_chk h2)).filter _))
  have hl := outE_length es e
  unfold gB
  rw [decide_eq_true h1, hc, decide_eq_true (show (outE es e).length ≤ 66 by omega)]
  rfl
theorem gE_out (ls : List Ld) (e : EdgeV) : gE (ouL ls e) = outE (gE ls) e := by
  unfold gE ouL outE
  rw [List.filter_map]
  rfl
theorem Stg.of {n : Nat} {ls : List Ld} (h : WOk (n : Int) ls) : Stg n ls := ⟨h.1, h.2.1, h.bridge⟩
theorem Stg.out {n : Nat} {ls : List Ld} (h : Stg n ls) (e : EdgeV) : Stg n (ouL ls e) :=
  ⟨by rw [gE_out]; exact gB_out h.g e, fun x hx => h.l x (List.mem_filter.1 hx).1, h.br.sub fun d hd => by
    obtain ⟨x, hx, h1, h2, h3⟩ := fE_mem.1 hd
    exact fE_mem.2 ⟨x, (List.mem_filter.1 hx).1, h1, h2, h3⟩⟩
/-- each Level has its trees -/
theorem Stg.trees {n : Nat} {ls : List Ld} (h : Stg n ls) {i : Int} (hi : 0 ≤ i) : ftK (fE ls i) n n = some (lvT n ls i) ∧ FtAll (fE ls i) n (lvT n ls i) := by
  obtain ⟨m, hm, h1, h2⟩ := gB_n h.g
  have hmn : m = n := by omega
  subst hmn
  have he := fE_ends h.g i
  obtain ⟨ts, hts⟩ := (ft_iff he h1 h2).2 (h.br.sub fun d hd => fE_low hi hd)
  have e : lvT m ls i = ts := by unfold lvT; rw [hts]; rfl
  rw [e]
  exact ⟨hts, ft_all he h1 h2 hts⟩
/-- a Level at which nothing takes the place -/
theorem lvO_none {n : Nat} {e : EdgeV} {i : Int} {ls : List Ld} (h : ∀ x ∈ ls.map (rsL i (smT (lvT n ls i) e)), ¬ hitL i (smT (lvT n ls i) e) x) :
    lvO n e i ls = ((ls.map (rsL i (smT (lvT n ls i) e))).map (srL i (smT (lvT n ls i) e)), none) := by unfold lvO; exact srO_none h
theorem Stg.down {n : Nat} {ls : List Ld} (h : Stg n ls) {i : Int} (hi : 0 ≤ i ∧ i ≤ 4) (t s : List Int) : Stg n ((ls.map (rsL i t)).map (srL i s)) := (h.keep (keep_rs hi t)).keep (keep_sr hi s)
end Go.Proofs.YtgjnlhdgekfieaaGreat
