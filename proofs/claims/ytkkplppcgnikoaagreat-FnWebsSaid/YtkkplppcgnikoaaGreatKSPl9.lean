/- The specification's l07With: tours left out, others put in, all by their least vertices. Draws of an edge. Edges with their levels: pure. Lists of edges with their levels in memory. slices.Concat of edges with levels. The specification's l08Put. -/
import Derived.Test.YtkkplppcgnikoaaGreatKIVerts
import Derived.Test.YtkkplppcgnikoaaGreatKIRer
import Derived.Test.YtkkplppcgnikoaaGreatKBx7
import Derived.Deep.DeepCutAuto
import Derived.Test.YtkkplppcgnikoaaGreatKTourP
import Derived.Lib.AppendZerosOnto
import Derived.Lib.Walk
import Derived.Lib.SliceRun
import Derived.Laws.AppendOwnNone
import Derived.Deep.AppendLies
namespace Go.Proofs.YtkkplppcgnikoaaGreat
open Go.RowKit

end Go.Proofs.YtkkplppcgnikoaaGreat
namespace Go.Proofs.YtkkplppcgnikoaaGreat
open Go.RowKit

theorem eB_iff7 (n : Int) (e : EdgeV) : eB n e = true ↔ (1 ≤ n ∧ n ≤ 12 ∧ 0 ≤ e.1 ∧ e.1 < e.2 ∧ e.2 < n) := by unfold eB; rw [decide_eq_true_iff]
theorem Cur.grownX7 {u v : World} {G X : Nat} {a : Option Addr} {len cap : Nat} (h : Cur u G a len cap) (hg : u.grownBy v (some X)) (hX : G ≠ X) : Cur v G a len cap := by
  obtain ⟨i, hh, hi, hG⟩ := h
  have hlt : G < u.heap.size := (Array.getElem?_eq_some_iff.1 hG).1
  exact ⟨i, hh, hi, by rw [hg.block G hlt (by simpa using hX)]; exact hG⟩
/-- below w nothing but the cursor has turned -/
theorem grown_up7 {w u v : World} {G : Nat} (h : w.grownBy u (some G)) (hb : Below w.heap.size u v) : w.grownBy v (some G) :=
  ⟨hb.os.trans h.os, hb.tape.trans h.tape, hb.output.trans h.output, Nat.le_trans h.size hb.size, fun k hk hne => (hb.block k hk).trans (h.block k hk hne)⟩

set_option maxRecDepth 100000 in
set_option maxHeartbeats 4000000 in
theorem l05Edge_any (nn : Nat) (h2 : 2 ≤ nn) (h12 : nn ≤ 12) (w : World) (G : Nat) (a : Option Addr) (len cap : Nat) (hl : len ≤ 1048576) (hcur : Cur w G a len cap) (hcode : Code w G a len) :
    Calls Tryz.prog 66 #[.pointer (some ⟨G, 0, none⟩), .int .i64 (nn : Int)] w fun x w' => ∃ e : EdgeV, Hid (eB (nn : Int) e = true) ∧ x = .returned (.agg #[.int .i64 e.1, .int .i64 e.2]) ∧ Drawn w w' G a len cap := by
  have hb0 : Below w.heap.size w (w.alloc (.cells #[.int .i64 0, .int .i64 0] 28)) := (Below.refl _ _).alloc (Nat.le_refl _) _
  have HB := hideIt (fun (W : World) (hc : Cur W G a len cap) (hd : Code W G a len) => l01Below_any (nn : Int) (by omega) (by omega) W G a len cap hl hc hd)
  have HC0 := hideIt (hcur.up7 hb0)
  have HD0 := hideIt (hcode.up7 hb0)
  have hG := hcur.lt7
  have HCode := hideIt hcode
  have HGr : Hid (w.grownBy (w.alloc (.cells #[.int .i64 0, .int .i64 0] 28)) (some G)) := grown_of_below hb0 _
  have B0 := Box7.new w 28 (.int .i64 0) (.int .i64 0) w.heap.size rfl
  clear hcur hcode hb0
  go_enter Tryz.func66, Tryz.ntmps66
  go_wp2_with (go_at_call 65; refine (HB.out _ HC0.out HD0.out).mono ?_; rintro e w1 ⟨x, hx, rfl, d1⟩; refine Hid.out ?_)
  refine (show ∀ {p : Prop}, p → Hid p from fun h => h) ?_
  have B1 := B0.grown d1.grown (by simp; omega)
  go_wp2_with (go_at_call 65; refine (HB.out _ d1.cur d1.code).mono ?_; rintro e w2 ⟨y, hy, rfl, d2⟩; refine Hid.out ?_)
  refine (show ∀ {p : Prop}, p → Hid p from fun h => h) ?_
  have B2 := B1.grown d2.grown (by simp; omega)
  have D2 := hideIt (d1.trans d2)
  clear B0 B1 d1 d2 HC0 HD0 HB
  have c0 := B2.cell0
  have c1 := B2.cell1
  have f0 := B2.frozen 0
  have f1 := B2.frozen 1
  have HFin : Hid (∀ p q : Int, 0 ≤ p → p < q → q < (nn : Int) → ∃ e : EdgeV, Hid (eB (nn : Int) e = true) ∧ Ending.returned (.agg #[.int .i64 p, .int .i64 q]) = .returned (.agg #[.int .i64 e.1, .int .i64 e.2]) ∧ Drawn w ((w2.setCell ⟨w.heap.size, 0, none⟩ (.int .i64 p)).setCell ⟨w.heap.size, 1, none⟩ (.int .i64 q)) G a len cap) := fun p q hp hpq hq => by
    have hg2 := grownT (grown_set w2 w.heap.size 0 (.int .i64 p)) (grown_set _ w.heap.size 1 (.int .i64 q))
    have hbw : Below w.heap.size w2 ((w2.setCell ⟨w.heap.size, 0, none⟩ (.int .i64 p)).setCell ⟨w.heap.size, 1, none⟩ (.int .i64 q)) := ((Below.refl w.heap.size w2).setCell (p := ⟨w.heap.size, 0, none⟩) (Nat.le_refl _) _).setCell (p := ⟨w.heap.size, 1, none⟩) (Nat.le_refl _) _
    have hgw := grown_up7 (grownT HGr.out D2.out.grown) hbw
    refine ⟨(p, q), (eB_iff7 _ _).2 ⟨by omega, by omega, hp, hpq, hq⟩, rfl, D2.out.cur.grownX7 hg2 (by omega), HCode.out.kept hgw, hgw⟩
  have hx' : x < nn := by omega
  have hy' : y < nn := by omega
  by_cases hxy : x = y
  · subst hxy
    by_cases hx1 : x + 1 < nn
    · have m1 : ((x : Int) + 1) % (nn : Int) = (x : Int) + 1 := Int.emod_eq_of_lt (by omega) (by omega)
      have m2 : ((x : Int) + 1).tmod (nn : Int) = (x : Int) + 1 := by rw [Int.tmod_eq_emod_of_nonneg (by omega)]; exact m1
      have d1 : decide ((x : Int) + 1 < (x : Int)) = false := decide_eq_false (by omega)
      have HF := hideIt (HFin.out (x : Int) ((x : Int) + 1) (by omega) (by omega) (by omega))
      clear HFin
      go_wp2
      obtain ⟨e, he, h3, h4⟩ := HF.out
      exact bodyPost_ret (v := .agg #[.int .i64 (x : Int), .int .i64 ((x : Int) + 1)]) (by simp [results, Tryz.results66, go_sem, c0, c1]) rfl ⟨e, he, h3, h4⟩
    · have hxn : x + 1 = nn := by omega
      have m1 : ((x : Int) + 1) % (nn : Int) = 0 := by rw [show (x : Int) + 1 = (nn : Int) by omega]; exact Int.emod_self
      have m2 : ((x : Int) + 1).tmod (nn : Int) = 0 := by rw [Int.tmod_eq_emod_of_nonneg (by omega)]; exact m1
      have d1 : decide ((0 : Int) < (x : Int)) = true := decide_eq_true (by omega)
      have HF := hideIt (HFin.out 0 (x : Int) (by omega) (by omega) (by omega))
      clear HFin hxn
      go_wp2
      obtain ⟨e, he, h3, h4⟩ := HF.out
      exact bodyPost_ret (v := .agg #[.int .i64 0, .int .i64 (x : Int)]) (by simp [results, Tryz.results66, go_sem, c0, c1]) rfl ⟨e, he, h3, h4⟩
  · have d0 : ((x : Int) == (y : Int)) = false := by simp; omega
    by_cases hlt : x < y
    · have d1 : decide ((y : Int) < (x : Int)) = false := decide_eq_false (by omega)
      have HF := hideIt (HFin.out (x : Int) (y : Int) (by omega) (by omega) (by omega))
      clear HFin
      go_wp2
      obtain ⟨e, he, h3, h4⟩ := HF.out
      exact bodyPost_ret (v := .agg #[.int .i64 (x : Int), .int .i64 (y : Int)]) (by simp [results, Tryz.results66, go_sem, c0, c1]) rfl ⟨e, he, h3, h4⟩
    · have d1 : decide ((y : Int) < (x : Int)) = true := decide_eq_true (by omega)
      have HF := hideIt (HFin.out (y : Int) (x : Int) (by omega) (by omega) (by omega))
      clear HFin
      go_wp2
      obtain ⟨e, he, h3, h4⟩ := HF.out
      exact bodyPost_ret (v := .agg #[.int .i64 (y : Int), .int .i64 (x : Int)]) (by simp [results, Tryz.results66, go_sem, c0, c1]) rfl ⟨e, he, h3, h4⟩

end Go.Proofs.YtkkplppcgnikoaaGreat
namespace Go.Proofs.YtkkplppcgnikoaaGreat
open Go.RowKit

/-- an edge with its level, of the forest or beside it -/
structure Ld where
  a : Int
  b : Int
  l : Int
  t : Bool
def Ld.e (x : Ld) : EdgeV := (x.a, x.b)
/-- the graph's edges -/
def gE (ls : List Ld) : List EdgeV := ls.map Ld.e
def fP (i : Int) (x : Ld) : Bool := x.t && decide (i ≤ x.l)
/-- the edges of F(i) -/
def fE (ls : List Ld) (i : Int) : List EdgeV := (ls.filter (fP i)).map Ld.e
theorem gE_len (ls : List Ld) : (gE ls).length = ls.length := by simp [gE]
theorem gE_at {ls : List Ld} {j : Nat} {x : Ld} (h : ls[j]? = some x) : (gE ls)[j]? = some x.e := by simp [gE, h]
theorem gE_mem {ls : List Ld} {x : Ld} (h : x ∈ ls) : x.e ∈ gE ls := List.mem_map.2 ⟨x, h, rfl⟩
theorem fE_mem {ls : List Ld} {i : Int} {e : EdgeV} : e ∈ fE ls i ↔ ∃ x ∈ ls, x.t = true ∧ i ≤ x.l ∧ x.e = e := by
  unfold fE
  simp only [List.mem_map, List.mem_filter, fP, Bool.and_eq_true, decide_eq_true_eq]
  constructor
  · rintro ⟨x, ⟨h1, h2, h3⟩, h4⟩; exact ⟨x, h1, h2, h3, h4⟩
  · rintro ⟨x, h1, h2, h3, h4⟩; exact ⟨x, ⟨h1, h2, h3⟩, h4⟩
theorem fE_g {ls : List Ld} {i : Int} {e : EdgeV} (h : e ∈ fE ls i) : e ∈ gE ls := by
  obtain ⟨x, hx, _, _, rfl⟩ := fE_mem.1 h
  exact gE_mem hx
theorem fE_low {ls : List Ld} {i j : Int} (h : i ≤ j) {e : EdgeV} (he : e ∈ fE ls j) : e ∈ fE ls i := by
  obtain ⟨x, hx, h1, h2, rfl⟩ := fE_mem.1 he
  exact fE_mem.2 ⟨x, hx, h1, by omega, rfl⟩
theorem fE_len (ls : List Ld) (i : Int) : (fE ls i).length ≤ ls.length := by unfold fE; rw [List.length_map]; exact List.length_filter_le _ _
theorem fE_take_yes {ls : List Ld} {i : Int} {k : Nat} {x : Ld} (h : ls[k]? = some x) (hp : fP i x = true) : fE (ls.take (k + 1)) i = fE (ls.take k) i ++ [x.e] := by
  unfold fE
  rw [List.take_add_one, h]
  simp [hp]
theorem fE_take_no {ls : List Ld} {i : Int} {k : Nat} {x : Ld} (h : ls[k]? = some x) (hp : fP i x = false) : fE (ls.take (k + 1)) i = fE (ls.take k) i := by
  unfold fE
  rw [List.take_add_one, h]
  simp [hp]
end Go.Proofs.YtkkplppcgnikoaaGreat
namespace Go.Proofs.YtkkplppcgnikoaaGreat
open Go.RowKit

/-- the list ls stands at a, n of them, below block B -/
def Ls (w : World) (B : Nat) (a : Option Addr) (n : Nat) (ls : List Ld) : Prop :=
  ls.length = n ∧ (n = 0 ∨ ∃ b off, a = some ⟨b, off, none⟩ ∧ b < B ∧ ∀ (j : Nat) (x : Ld), ls[j]? = some x →
    w.cell? ⟨b, off + j * 4, none⟩ = some (.int .i64 x.a) ∧ w.cell? ⟨b, off + j * 4 + 1, none⟩ = some (.int .i64 x.b) ∧ w.cell? ⟨b, off + j * 4 + 2, none⟩ = some (.int .i64 x.l) ∧ w.cell? ⟨b, off + j * 4 + 3, none⟩ = some (.bool x.t))
theorem Ls.below {w w' : World} {B C : Nat} {a : Option Addr} {n : Nat} {ls : List Ld} (h : Ls w B a n ls) (hb : Below C w w') (hB : B ≤ C) : Ls w' B a n ls := by
  refine ⟨h.1, h.2.imp id ?_⟩
  rintro ⟨b, off, ha, hbl, hc⟩
  refine ⟨b, off, ha, hbl, fun j x hx => ?_⟩
  have hl : b < C := by omega
  have e : ∀ o, w'.cell? ⟨b, o, none⟩ = w.cell? ⟨b, o, none⟩ := fun o => hb.cell (p := ⟨b, o, none⟩) hl
  rw [e, e, e, e]
  exact hc j x hx
theorem Ls.mono {w : World} {B C : Nat} {a : Option Addr} {n : Nat} {ls : List Ld} (h : Ls w B a n ls) (hB : B ≤ C) : Ls w C a n ls := by
  refine ⟨h.1, h.2.imp id ?_⟩
  rintro ⟨b, off, ha, hbl, hc⟩
  exact ⟨b, off, ha, by omega, hc⟩
theorem Ls.up {w w' : World} {a : Option Addr} {n : Nat} {ls : List Ld} (h : Ls w w.heap.size a n ls) (hb : Below w.heap.size w w') : Ls w' w'.heap.size a n ls :=
  (h.below hb (Nat.le_refl _)).mono hb.size
/-- the cells of one -/
def lcell (x : Ld) : List Value := [.int .i64 x.a, .int .i64 x.b, .int .i64 x.l, .bool x.t]
def lcells (ls : List Ld) : List Value := ls.flatMap lcell
theorem lcells_length (ls : List Ld) : (lcells ls).length = ls.length * 4 := by
  induction ls with
  | nil => rfl
  | cons f fs ih => simp only [lcells, List.flatMap_cons, List.length_append, List.length_cons] at ih ⊢; rw [ih]; simp [lcell]; omega
theorem lcells_at (ls : List Ld) (j : Nat) (x : Ld) (h : ls[j]? = some x) :
    (lcells ls)[j * 4]? = some (.int .i64 x.a) ∧ (lcells ls)[j * 4 + 1]? = some (.int .i64 x.b) ∧ (lcells ls)[j * 4 + 2]? = some (.int .i64 x.l) ∧ (lcells ls)[j * 4 + 3]? = some (.bool x.t) := by
  induction ls generalizing j with
  | nil => simp at h
  | cons g fs ih =>
    cases j with
    | zero => simp at h; subst h; simp [lcells, lcell]
    | succ j =>
      have h2 := ih j (by simpa using h)
      have e : ∀ m, (lcells (g :: fs))[m + 4]? = (lcells fs)[m]? := fun m => by simp [lcells, lcell]
      refine ⟨?_, ?_, ?_, ?_⟩
      · rw [show (j + 1) * 4 = j * 4 + 4 by omega, e]; exact h2.1
      · rw [show (j + 1) * 4 + 1 = j * 4 + 1 + 4 by omega, e]; exact h2.2.1
      · rw [show (j + 1) * 4 + 2 = j * 4 + 2 + 4 by omega, e]; exact h2.2.2.1
      · rw [show (j + 1) * 4 + 3 = j * 4 + 3 + 4 by omega, e]; exact h2.2.2.2
theorem lcells_snoc (ls : List Ld) (x : Ld) : lcells (ls ++ [x]) = lcells ls ++ [.int .i64 x.a, .int .i64 x.b, .int .i64 x.l, .bool x.t] := by simp [lcells, lcell]
theorem lcells_append (fs gs : List Ld) : lcells (fs ++ gs) = lcells fs ++ lcells gs := by simp [lcells]
theorem infoIL : (Tryz.prog.info? 52).map (fun i => (i.zero, i.size, i.bytes)) = some (some (.agg #[.int .i64 0, .int .i64 0, .int .i64 0, .bool false]), 4, 32) := by kernel_rfl
/-- a list of one's own reads as its edges -/
theorem Ls_of_own {w : World} {B n c : Nat} {a : Option Addr} {ls : List Ld} (h : w.ownsRow B 52 4 (.slice a n c) n (lcells ls)) : Ls w w.heap.size a n ls := by
  have hl := h.1
  rw [lcells_length] at hl
  refine ⟨by omega, ?_⟩
  rcases h.2 with ⟨hv, h0⟩ | ⟨g, cap, cur, hv, hrest⟩
  · exact .inl h0
  · simp at hv
    obtain ⟨rfl, rfl⟩ := hv
    by_cases h0 : n = 0
    · exact .inl h0
    · refine .inr ⟨g, 0, rfl, (h.lt g rfl).2, fun j x hx => ?_⟩
      have hj : j < ls.length := (List.getElem?_eq_some_iff.1 hx).1
      obtain ⟨c0, c1, c2, c3⟩ := lcells_at ls j x hx
      rw [Nat.zero_add]
      exact ⟨by rw [h.cellAt (j * 4) (by omega)]; exact c0, by rw [h.cellAt (j * 4 + 1) (by omega)]; exact c1, by rw [h.cellAt (j * 4 + 2) (by omega)]; exact c2, by rw [h.cellAt (j * 4 + 3) (by omega)]; exact c3⟩
/-- one of them, as a walk reads it -/
structure LdAt (w : World) (b o : Nat) (x : Ld) : Prop where
  ca : w.cell? ⟨b, o, none⟩ = some (.int .i64 x.a)
  cb : w.cell? ⟨b, o + 1, none⟩ = some (.int .i64 x.b)
  cl : w.cell? ⟨b, o + 2, none⟩ = some (.int .i64 x.l)
  ct : w.cell? ⟨b, o + 3, none⟩ = some (.bool x.t)
theorem LdAt.below {w u : World} {b o C : Nat} {x : Ld} (h : LdAt w b o x) (hb : Below C w u) (hC : b < C) : LdAt u b o x := by
  have e : ∀ o, u.cell? ⟨b, o, none⟩ = w.cell? ⟨b, o, none⟩ := fun o => hb.cell (p := ⟨b, o, none⟩) hC
  exact ⟨by rw [e]; exact h.ca, by rw [e]; exact h.cb, by rw [e]; exact h.cl, by rw [e]; exact h.ct⟩
theorem Ls.at {w : World} {B : Nat} {a : Option Addr} {n : Nat} {ls : List Ld} (h : Ls w B a n ls) {k : Nat} (hk : k < n) : ∃ b off x, a = some ⟨b, off, none⟩ ∧ b < B ∧ ls[k]? = some x ∧ LdAt w b (off + k * 4) x := by
  rcases h.2 with hz | ⟨b, off, ha, hb, hc⟩
  · omega
  · have hl := h.1
    have hx : ls[k]? = some (ls[k]'(by omega)) := List.getElem?_eq_getElem (by omega)
    obtain ⟨h0, h1, h2, h3⟩ := hc k _ hx
    exact ⟨b, off, _, ha, hb, hx, h0, h1, h2, h3⟩
/-- the world behind a web's box -/
def wW (w : World) (N : Int) (a : Option Addr) (n c : Nat) : World := w.alloc (.cells #[.int .i64 N, .slice a n c] 26)
theorem wW_size (w : World) (N : Int) (a : Option Addr) (n c : Nat) : (wW w N a n c).heap.size = w.heap.size + 1 := by simp [wW]
theorem wW_good (w : World) (N : Int) (a : Option Addr) (n c : Nat) : Good w (wW w N a n c) := (Good.refl w).alloc _
theorem wW_cells {w : World} {N : Int} {a : Option Addr} {n c : Nat} {u : World} (h : Below (w.heap.size + 1) (wW w N a n c) u) : u.cell? ⟨w.heap.size, 0, none⟩ = some (.int .i64 N) ∧ u.cell? ⟨w.heap.size, 1, none⟩ = some (.slice a n c) := by
  refine ⟨?_, ?_⟩
  · rw [h.cell (p := ⟨w.heap.size, 0, none⟩) (by show w.heap.size < _; omega)]; simp [wW]
  · rw [h.cell (p := ⟨w.heap.size, 1, none⟩) (by show w.heap.size < _; omega)]; simp [wW]
theorem ledgeEdge_any (x : Ld) (w : World) : Calls Tryz.prog 67 #[.agg #[.int .i64 x.a, .int .i64 x.b, .int .i64 x.l, .bool x.t]] w fun e w' => e = .returned (.agg #[.int .i64 x.a, .int .i64 x.b]) ∧ Below w.heap.size w w' := by
  obtain ⟨a, b, l, t⟩ := x
  dsimp only
  go_enter Tryz.func67, Tryz.ntmps67
  go_wp2
  exact bodyPost_ret (v := .agg #[.int .i64 a, .int .i64 b]) (by simp [results, Tryz.results67, go_sem]) rfl ⟨rfl, ((Below.refl w.heap.size w).alloc (Nat.le_refl _) _).alloc (by simp) _⟩
end Go.Proofs.YtkkplppcgnikoaaGreat
namespace Go.Proofs.YtkkplppcgnikoaaGreat
open Go.RowKit

theorem GrowL_zero (w : World) : Calls Tryz.prog 153 #[.slice none 0 0, .int .i64 0] w fun e w' => e = .returned (.slice none 0 0) ∧ w' = w := by
  go_enter Tryz.func153, Tryz.ntmps153
  go_wp2
  go_ret
  exact ⟨rfl, rfl⟩
theorem GrowL_some (n : Nat) (hn0 : 0 < n) (hn : n ≤ 10000000) (w : World) :
    Calls Tryz.prog 153 #[.slice none 0 0, .int .i64 (n : Int)] w fun e w' => ∃ a' c', e = .returned (.slice a' 0 c') ∧ w'.ownsRow w.heap.size 52 4 (.slice a' 0 c') 0 [] ∧ Below w.heap.size w w' := by
  obtain ⟨i0, hi, hz0, hz1, hz2⟩ := info_parts infoIL
  have hold : (Builtin.firstCells i0.size 0 (.slice none 0 0)).run Tryz.prog w.drew = .ok ([] : List Value).toArray w.drew := run_firstCells_none w.drew i0.size 0 0 0
  have hrz : ∀ ty, (Builtin.append_ #[24, 3] ty #[.slice none 0 0, .int .i64 (n : Int)]).run Tryz.prog w = _ := fun ty =>
    Lib.run_append_grow_zeros w 24 3 ty 52 i0 _ .i64 .i64 Tryz.underlying24 Tryz.underlying3 hi hz0 none 0 0 [] hold n hn0 (by rw [hz1]; omega) (by omega) (by omega)
      (by rw [hz2]; omega) (by rw [Nat.zero_add]; exact growslice_fits (by omega) (by rw [hz2]; omega))
  have hGn : 0 + n ≤ grownCap w (0 + n) 0 52 := grownCap_ge w _ _ _
  have hGm : grownCap w (0 + n) 0 52 ≤ maxLen := grownCap_le_maxLen w (0 + n) 0 52 (by unfold maxLen; omega)
  obtain ⟨G, hG⟩ : ∃ G, G = grownCap w (0 + n) 0 52 := ⟨_, rfl⟩
  rw [← hG] at hGn hGm
  have hrz2 : ∀ ty, (Builtin.append_ #[24, 3] ty #[.slice none 0 0, .int .i64 (n : Int)]).run Tryz.prog w = .ok (.slice (some ⟨w.heap.size, 0, none⟩) n G) (w.drew.alloc (.cells (Builtin.zeroCells #[.int .i64 0, .int .i64 0, .int .i64 0, .bool false] n ++ Builtin.zeroCells #[.int .i64 0, .int .i64 0, .int .i64 0, .bool false] (G - n)) 52)) := fun ty => by
    rw [hrz ty, ← hG]
    simp [Value.cells]
  have hsz : (Builtin.zeroCells #[.int .i64 0, .int .i64 0, .int .i64 0, .bool false] n ++ Builtin.zeroCells #[.int .i64 0, .int .i64 0, .int .i64 0, .bool false] (G - n)).size = G * 4 := by
    simp [Builtin.zeroCells]
    omega
  have HO := hideIt (show (w.drew.alloc (.cells (Builtin.zeroCells #[.int .i64 0, .int .i64 0, .int .i64 0, .bool false] n ++ Builtin.zeroCells #[.int .i64 0, .int .i64 0, .int .i64 0, .bool false] (G - n)) 52)).ownsRow w.heap.size 52 4 (.slice (some ⟨w.heap.size, 0, none⟩) 0 G) 0 [] from
    ⟨rfl, .inr ⟨w.heap.size, G, _, rfl, Nat.le_refl _, heap_alloc_new w.drew _, by omega, hGm, hsz, rfl⟩⟩)
  have HB := hideIt (show Below w.heap.size w (w.drew.alloc (.cells (Builtin.zeroCells #[.int .i64 0, .int .i64 0, .int .i64 0, .bool false] n ++ Builtin.zeroCells #[.int .i64 0, .int .i64 0, .int .i64 0, .bool false] (G - n)) 52)) from (Below.refl _ _).drew.alloc (Nat.le_refl _) _)
  generalize (w.drew.alloc (.cells (Builtin.zeroCells #[.int .i64 0, .int .i64 0, .int .i64 0, .bool false] n ++ Builtin.zeroCells #[.int .i64 0, .int .i64 0, .int .i64 0, .bool false] (G - n)) 52)) = W at hrz2 HO HB
  have g1 : (0 : Int) ≤ (G : Int) := by omega
  have d0 : decide ((0 : Int) < (n : Int)) = true := decide_eq_true (by omega)
  have d1 : decide ((n : Int) < 0) = false := decide_eq_false (by omega)
  unfold maxLen at hGm
  clear hrz hold hG hsz
  go_enter Tryz.func153, Tryz.ntmps153
  go_wp2_with (at_builtin; refine Lib.wpList_append_run _ rfl _ _ _ _ rfl _ _ rfl rfl _ _ (hrz2 _) ?_)
  all_goals
    go_ret
    exact ⟨_, _, rfl, HO.out, HB.out⟩
/-- one of the lists that are put together -/
structure PartL where
  a : Option Addr
  m : Nat
  c : Nat
  es : List Ld
/-- the lists stand in block b -/
def PartsL (w : World) (b : Nat) (ps : List PartL) : Prop :=
  b < w.heap.size ∧ ∀ (j : Nat) (p : PartL), ps[j]? = some p → w.cell? ⟨b, j, none⟩ = some (.slice p.a p.m p.c) ∧ Ls w w.heap.size p.a p.m p.es ∧ (p.a = none → p.m = 0 ∧ p.c = 0)
def pLenL (ps : List PartL) : Nat := (ps.map fun p => p.m).sum
def pAllL (ps : List PartL) : List Ld := ps.flatMap fun p => p.es
theorem pLenL_snoc (ps : List PartL) (p : PartL) : pLenL (ps ++ [p]) = pLenL ps + p.m := by simp [pLenL]
theorem pAllL_snoc (ps : List PartL) (p : PartL) : pAllL (ps ++ [p]) = pAllL ps ++ p.es := by simp [pAllL]
theorem pLenL_take (ps : List PartL) (k : Nat) : pLenL (ps.take k) ≤ pLenL ps := by
  have h := congrArg pLenL (List.take_append_drop k ps)
  have e : ∀ a b : List PartL, pLenL (a ++ b) = pLenL a + pLenL b := fun a b => by simp [pLenL]
  rw [e] at h
  omega
theorem Ls.news {w : World} {B b off n : Nat} {ls : List Ld} (h : Ls w B (some ⟨b, off, none⟩) n ls) : ∀ j u, (lcells ls)[j]? = some u → w.cell? ((⟨b, off, none⟩ : Addr).add j) = some u := by
  intro j u hj
  have hl : j < ls.length * 4 := by have := (List.getElem?_eq_some_iff.1 hj).1; rw [lcells_length] at this; exact this
  have hn := h.1
  rcases h.2 with h0 | ⟨b', off', hb, _, hc⟩
  · omega
  · simp at hb
    obtain ⟨rfl, rfl⟩ := hb
    obtain ⟨f, hf⟩ : ∃ f, ls[j / 4]? = some f := ⟨ls[j / 4]'(by omega), List.getElem?_eq_getElem (by omega)⟩
    obtain ⟨c0, c1, c2, c3⟩ := hc _ f hf
    obtain ⟨d0, d1, d2, d3⟩ := lcells_at ls _ f hf
    rw [show ((⟨b, off, none⟩ : Addr).add j) = ⟨b, off + j, none⟩ by by_cases h0 : j = 0 <;> simp [Addr.add, h0]]
    rcases (show j = j / 4 * 4 ∨ j = j / 4 * 4 + 1 ∨ j = j / 4 * 4 + 2 ∨ j = j / 4 * 4 + 3 by omega) with e | e | e | e
    · rw [← e] at d0 c0
      rw [d0] at hj
      rw [c0]
      exact hj
    · rw [← e] at d1
      rw [Nat.add_assoc, ← e] at c1
      rw [d1] at hj
      rw [c1]
      exact hj
    · rw [← e] at d2
      rw [Nat.add_assoc, ← e] at c2
      rw [d2] at hj
      rw [c2]
      exact hj
    · rw [← e] at d3
      rw [Nat.add_assoc, ← e] at c3
      rw [d3] at hj
      rw [c3]
      exact hj
theorem lcells_one {ls : List Ld} : ∀ u ∈ lcells ls, u.oneCell' = true := by
  intro u hu
  simp only [lcells, List.mem_flatMap] at hu
  obtain ⟨e, _, he⟩ := hu
  simp [lcell] at he
  rcases he with rfl | rfl | rfl | rfl <;> rfl
theorem Ls.take {w : World} {B : Nat} {a : Option Addr} {n : Nat} {ls : List Ld} (h : Ls w B a n ls) {k : Nat} (hk : k ≤ n) : Ls w B a k (ls.take k) := by
  have hl := h.1
  refine ⟨by rw [List.length_take]; omega, ?_⟩
  rcases h.2 with h0 | ⟨b, off, ha, hb, hc⟩
  · exact .inl (by omega)
  · refine .inr ⟨b, off, ha, hb, fun j e he => hc j e ?_⟩
    have hj : j < k := by have := (List.getElem?_eq_some_iff.1 he).1; rw [List.length_take] at this; omega
    rw [List.getElem?_take_of_lt hj] at he
    exact he
theorem Ls.drop {w : World} {B b off n : Nat} {ls : List Ld} (h : Ls w B (some ⟨b, off, none⟩) n ls) (k : Nat) (hk : k ≤ n) : Ls w B (some ⟨b, off + k * 4, none⟩) (n - k) (ls.drop k) := by
  have hl := h.1
  refine ⟨by rw [List.length_drop]; omega, ?_⟩
  rcases h.2 with h0 | ⟨b', off', hb, hbl, hc⟩
  · exact .inl (by omega)
  · simp at hb
    obtain ⟨rfl, rfl⟩ := hb
    refine .inr ⟨b, _, rfl, hbl, fun j e he => ?_⟩
    rw [List.getElem?_drop] at he
    have := hc (k + j) e he
    rw [show off + k * 4 + j * 4 = off + (k + j) * 4 by omega]
    exact this
theorem Ls.single {w u : World} {x : Ld} (hu : u = w.alloc (.cells #[.int .i64 x.a, .int .i64 x.b, .int .i64 x.l, .bool x.t] 52)) : Ls u u.heap.size (some ⟨w.heap.size, 0, none⟩) 1 [x] := by
  subst hu
  refine ⟨rfl, .inr ⟨w.heap.size, 0, rfl, by simp, fun j e he => ?_⟩⟩
  rcases j with _ | j
  · simp at he
    subst he
    exact ⟨by simp, by simp, by simp, by simp⟩
  · simp at he
set_option maxRecDepth 100000 in
set_option maxHeartbeats 2000000 in
theorem ConcatL_any (ps : List PartL) (b k0 : Nat) (hk0 : ps.length = k0) (hsm : k0 ≤ 10) (w : World) (h : PartsL w b ps) (hlen : pLenL ps ≤ 3000000) :
    Calls Tryz.prog 70 #[.slice (some ⟨b, 0, none⟩) k0 k0] w fun e w' => ∃ a m c, e = .returned (.slice a m c) ∧ w'.ownsRow w.heap.size 52 4 (.slice a m c) m (lcells (pAllL ps)) ∧ Below w.heap.size w w' := by
  obtain ⟨i0, hi, hz0, hz1, hz2⟩ := info_parts infoIL
  have HP := hideIt h
  have HL := hideIt hlen
  have HK := hideIt hk0
  have hbw := h.1
  clear h hlen hk0
  have HG : Hid (∀ n : Nat, n ≤ 3000000 → Calls Tryz.prog 153 #[.slice none 0 0, .int .i64 (n : Int)] w fun e w' => ∃ a' c', e = .returned (.slice a' 0 c') ∧ w'.ownsRow w.heap.size 52 4 (.slice a' 0 c') 0 [] ∧ Below w.heap.size w w') := fun n hn => by
    by_cases h0 : n = 0
    · subst h0
      exact (GrowL_zero w).mono fun _ _ ⟨he, hw⟩ => ⟨_, _, he, by rw [hw]; exact World.ownsRow_nil _ _ _ _, by rw [hw]; exact Below.refl _ _⟩
    · exact GrowL_some n (by omega) (by omega) w
  go_enter Tryz.func70, Tryz.ntmps70
  go_wp2
  go_loopw [3, 11] (fun s i wr => ∃ (k q : Nat), k ≤ k0 ∧ i = .int .i64 (k : Int) ∧ s = .int .i64 (q : Int) ∧ Hid (q = pLenL (ps.take k)) ∧ q ≤ 3000000 ∧ wr = w) (fun _ i _ => k0 - (intOf i).toNat)
  case atStart => exact ⟨0, 0, by omega, rfl, rfl, by show _ = _; simp [pLenL], by omega, rfl⟩
  case round =>
    obtain ⟨k, q, hk, rfl, rfl, hq, hq1, hw⟩ := hrel
    have hw' := hw.symm
    subst hw'
    clear hw
    by_cases hlt : k < k0
    · obtain ⟨p, hp⟩ : ∃ p, ps[k]? = some p := ⟨ps[k]'(by have := HK.out; omega), List.getElem?_eq_getElem _⟩
      obtain ⟨c0, _, _⟩ := HP.out.2 k p hp
      have HQ : Hid (q + p.m = pLenL (ps.take (k + 1))) := by show _ = _; rw [take_snocF ps k p hp, pLenL_snoc, hq.out]
      have hqm : q + p.m ≤ 3000000 := by have := HQ.out; have := pLenL_take ps (k + 1); have := HL.out; omega
      have b1 : (0 : Int) ≤ (k : Int) := by omega
      have b2 : (k : Int) < (k0 : Int) := by omega
      clear hq hp
      go_wp2
      exact ⟨⟨k + 1, q + p.m, by omega, by go_num, by go_num, HQ, hqm, by first | trivial | rfl⟩, by simp [intOf]; omega⟩
    · obtain rfl : k = k0 := by omega
      have HQ : Hid (q = pLenL ps) := by show _ = _; rw [hq.out, List.take_of_length_le (by have := HK.out; omega)]
      clear hq
      have HG1 := hideIt (HG.out q hq1)
      clear HG
      go_wp2_with (go_at_call 153; refine HG1.out.mono ?_; rintro e w1 ⟨a1, c1, rfl, hown1, hb1⟩; refine Hid.out ?_)
      refine (show ∀ {p : Prop}, p → Hid p from fun h => h) ?_
      clear HG1
      have HO1 := hideIt hown1
      clear hown1
      go_wp2
      go_loopw [6, 27] (fun v i wr => ∃ (j m : Nat) (a' : Option Addr) (c' : Nat), j ≤ k ∧ i = .int .i64 (j : Int) ∧ v = .slice a' m c' ∧ Hid (m = pLenL (ps.take j)) ∧ wr.ownsRow w.heap.size 52 4 (.slice a' m c') m (lcells (pAllL (ps.take j))) ∧ Below w.heap.size w wr) (fun _ i _ => k - (intOf i).toNat)
      case atStart => exact ⟨0, 0, a1, c1, by omega, rfl, rfl, by show _ = _; simp [pLenL], by simpa [pAllL, lcells] using HO1.out, hb1⟩
      case round =>
        obtain ⟨j, m, a', c', hj, rfl, rfl, hm, hown, hb⟩ := hrel
        by_cases hlt2 : j < k
        · obtain ⟨p, hp⟩ : ∃ p, ps[j]? = some p := ⟨ps[j]'(by have := HK.out; omega), List.getElem?_eq_getElem _⟩
          obtain ⟨c0, hes, hnil⟩ := HP.out.2 j p hp
          have c1 : wr.cell? ⟨b, j, none⟩ = some (.slice p.a p.m p.c) := by rw [hb.cell hbw]; exact c0
          have HM : Hid (m + p.m = pLenL (ps.take (j + 1))) := by show _ = _; rw [take_snocF ps j p hp, pLenL_snoc, hm.out]
          have HA : Hid (lcells (pAllL (ps.take (j + 1))) = lcells (pAllL (ps.take j)) ++ lcells p.es) := by show _ = _; rw [take_snocF ps j p hp, pAllL_snoc, lcells_append]
          have hmp : m + p.m ≤ 3000000 := by have := HM.out; have := pLenL_take ps (j + 1); have := HL.out; omega
          have b1 : (0 : Int) ≤ (j : Int) := by omega
          have b2 : (j : Int) < (k : Int) := by omega
          have hesw := (hes.below hb (Nat.le_refl _)).mono hb.size
          have hl2 : (lcells p.es).length = p.m * 4 := by rw [lcells_length, hes.1]
          obtain ⟨pa, pm, pc, pes⟩ := p
          dsimp only at *
          clear hm hp c0 hes
          cases pa with
          | none =>
            obtain ⟨rfl, rfl⟩ := hnil rfl
            have HO2 : Hid (wr.ownsRow w.heap.size 52 4 (.slice a' m c') m (lcells (pAllL (ps.take (j + 1))))) := by
              have e0 : pes = [] := List.length_eq_zero_iff.1 hesw.1
              show World.ownsRow _ _ _ _ _ _ _
              rw [HA.out, e0]
              simpa [lcells] using hown
            clear hnil
            go_wp2_with (at_builtin; refine wpList_append_own_none rfl _ _ 24 rfl w.heap.size 52 i0 4 Tryz.underlying24 hi _ _ _ rfl hown rfl ?_)
            exact ⟨⟨j + 1, m, a', c', by omega, by go_num, rfl, HM, HO2.out, hb⟩, by simp [intOf]; omega⟩
          | some ad =>
            have hnews : ∀ q u, (lcells pes)[q]? = some u → wr.cell? (ad.add q) = some u := by
              rcases hesw.2 with h0 | ⟨bb, oo, hbb, _⟩
              · intro q u hq
                have e0 : pes = [] := List.length_eq_zero_iff.1 (by rw [hesw.1]; exact h0)
                rw [e0] at hq
                simp [lcells] at hq
              · simp at hbb
                subst hbb
                exact hesw.news
            clear hnil
            go_wp2_with (at_builtin; refine wpList_append_own _ rfl _ _ 24 rfl w.heap.size 52 i0 _ 4 32 Tryz.underlying24 hi hz0 hz1 hz2 rfl (by decide) _ _ _ rfl hown ad pm pc (lcells pes) rfl hl2 hnews lcells_one (by unfold maxLen; omega) (by omega) hb.size ?_)
            intro v1 w1 hown1 hg1 hn1
            have hb1 : Below w.heap.size w w1 := hb.grown hg1 hb.size (fun q hq => (hown.lt q hq).1)
            rw [← HA.out] at hown1
            obtain ⟨a2, c2, rfl⟩ := own_form hown1
            have HO2 := hideIt hown1
            clear hown1 hown hg1 hn1 hnews
            go_wp2
            exact ⟨⟨j + 1, m + pm, a2, c2, by omega, by go_num, rfl, HM, HO2.out, hb1⟩, by simp [intOf]; omega⟩
        · obtain rfl : j = k := by omega
          have e : ps.take j = ps := List.take_of_length_le (by have := HK.out; omega)
          rw [e] at hown
          have HO2 := hideIt hown
          clear hown e hm
          go_wp2
          go_ret
          exact ⟨a', m, c', rfl, HO2.out, hb⟩
end Go.Proofs.YtkkplppcgnikoaaGreat
namespace Go.Proofs.YtkkplppcgnikoaaGreat
open Go.RowKit

/-- one more edge in its place -/
def putL (ls : List Ld) (x : Ld) : List Ld := ls.filter (fun d => lt d.e x.e) ++ [x] ++ ls.filter (fun d => lt x.e d.e)
/-- the world behind the edge's box -/
def wX (w : World) (x : Ld) : World := w.alloc (.cells #[.int .i64 x.a, .int .i64 x.b, .int .i64 x.l, .bool x.t] 52)
theorem wX_size (w : World) (x : Ld) : (wX w x).heap.size = w.heap.size + 1 := by simp [wX]
structure PutL (w : World) (x : Ld) (a : Option Addr) (m c : Nat) (gs : List Ld) (u : World) : Prop where
  own : u.ownsRow (w.heap.size + 1) 52 4 (.slice a m c) m (lcells gs)
  bel : Below (w.heap.size + 1) (wX w x) u
theorem PutL.size {w : World} {x : Ld} {a : Option Addr} {m c : Nat} {gs : List Ld} {u : World} (h : PutL w x a m c gs u) : w.heap.size + 1 ≤ u.heap.size := by have := h.bel.size; rw [wX_size] at this; exact this
theorem PutL.below {w : World} {x : Ld} {a : Option Addr} {m c : Nat} {gs : List Ld} {u : World} (h : PutL w x a m c gs u) : Below w.heap.size w u :=
  ((Below.refl w.heap.size w).alloc (Nat.le_refl _) _).trans (h.bel.mono (by omega))
theorem PutL.up {w : World} {x : Ld} {a : Option Addr} {m c : Nat} {gs : List Ld} {u v : World} (h : PutL w x a m c gs u) (hb : Below u.heap.size u v) : PutL w x a m c gs v := ⟨own_up h.own hb, h.bel.trans (hb.mono h.size)⟩
theorem PutL.box {w : World} {x : Ld} {a : Option Addr} {m c : Nat} {gs : List Ld} {u : World} (h : PutL w x a m c gs u) : LdAt u w.heap.size 0 x := by
  have h0 : LdAt (wX w x) w.heap.size 0 x := ⟨by simp [wX], by simp [wX], by simp [wX], by simp [wX]⟩
  exact h0.below h.bel (by omega)
theorem PutL.app {w : World} {x : Ld} {a : Option Addr} {m c : Nat} {gs : List Ld} {u : World} (h : PutL w x a m c gs u) {y : Ld} {o : Obj} {v : Value} {u' : World}
    (ho : u'.ownsRow (w.heap.size + 1) 52 4 v (m + 1) (lcells gs ++ [.int .i64 y.a, .int .i64 y.b, .int .i64 y.l, .bool y.t])) (hg : (u.alloc o).grownBy u' (Value.slice a m c).ownBlock) :
    ∃ a' c', v = .slice a' (m + 1) c' ∧ PutL w x a' (m + 1) c' (gs ++ [y]) u' := by
  obtain ⟨a', c', rfl⟩ := own_form ho
  rw [← lcells_snoc] at ho
  refine ⟨a', c', rfl, ho, ?_⟩
  exact (h.bel.alloc h.size _).grown hg (by have := h.size; simp; omega) (fun j hj => (h.own.lt j hj).1)
theorem newsL (w : World) (y : Ld) : ∀ j u, ([Value.int .i64 y.a, Value.int .i64 y.b, Value.int .i64 y.l, Value.bool y.t] : List Value)[j]? = some u → (w.alloc (.cells #[.int .i64 y.a, .int .i64 y.b, .int .i64 y.l, .bool y.t] 52)).cell? ((⟨w.heap.size, 0, none⟩ : Addr).add j) = some u := by
  intro j u hj
  rcases j with _ | _ | _ | _ | j
  · simp at hj; subst hj; simp [Addr.add]
  · simp at hj; subst hj; simp [Addr.add]
  · simp at hj; subst hj; simp [Addr.add]
  · simp at hj; subst hj; simp [Addr.add]
  · simp at hj
theorem lt_cases (d e : EdgeV) : (d.1 < e.1 ∧ lt d e = true) ∨ (¬ d.1 < e.1 ∧ d.1 = e.1 ∧ d.2 < e.2 ∧ lt d e = true) ∨ (¬ d.1 < e.1 ∧ d.1 = e.1 ∧ ¬ d.2 < e.2 ∧ lt d e = false) ∨ (¬ d.1 < e.1 ∧ d.1 ≠ e.1 ∧ lt d e = false) := by
  have hf : ¬ (d.1 < e.1 ∨ d.1 = e.1 ∧ d.2 < e.2) → lt d e = false := fun h => by
    cases h2 : lt d e with
    | false => rfl
    | true => exact absurd ((lt_iff d e).1 h2) h
  by_cases h1 : d.1 < e.1
  · exact .inl ⟨h1, (lt_iff d e).2 (.inl h1)⟩
  · by_cases h2 : d.1 = e.1
    · by_cases h3 : d.2 < e.2
      · exact .inr (.inl ⟨h1, h2, h3, (lt_iff d e).2 (.inr ⟨h2, h3⟩)⟩)
      · exact .inr (.inr (.inl ⟨h1, h2, h3, hf (by omega)⟩))
    · exact .inr (.inr (.inr ⟨h1, h2, hf (by omega)⟩))

set_option maxRecDepth 100000 in
set_option maxHeartbeats 8000000 in
theorem l08Put_any (ls : List Ld) (x : Ld) (n : Nat) (a : Option Addr) (c : Nat) (hn : n ≤ 1048576) (w : World) (h : Ls w w.heap.size a n ls) :
    Calls Tryz.prog 186 #[.slice a n c, .agg #[.int .i64 x.a, .int .i64 x.b, .int .i64 x.l, .bool x.t]] w fun e w' => ∃ a' m' c', e = .returned (.slice a' m' c') ∧ w'.ownsRow w.heap.size 52 4 (.slice a' m' c') m' (lcells (putL ls x)) ∧ Below w.heap.size w w' := by
  obtain ⟨i0, hi, hz0, hz1, hz2⟩ := info_parts infoIL
  have HR := hideIt h
  have hlen := h.1
  clear h
  go_enter Tryz.func186, Tryz.ntmps186
  go_wp2
  go_loopw [5, 6] (fun v i wr => ∃ (k m' : Nat) (a' : Option Addr) (c' : Nat) (gs : List Ld), k ≤ n ∧ i = .int .i64 (k : Int) ∧ v = .slice a' m' c' ∧ m' ≤ k ∧ Hid (gs = (ls.take k).filter (fun d => lt d.e x.e)) ∧ PutL w x a' m' c' gs wr) (fun _ i _ => n - (intOf i).toNat)
  case atStart =>
    refine ⟨0, 0, _, _, [], by omega, rfl, rfl, by omega, by show _ = _; simp, ?_, ?_⟩
    · have h0 := World.ownsRow_lit (base := w.heap.size + 1) (e := 52) (size := 4) (wX w x) #[] 0 (by rw [wX_size]; omega) (by unfold maxLen; omega) (by simp)
      rw [wX_size] at h0
      simpa [lcells, wX] using h0
    · have h1 := (Below.refl (w.heap.size + 1) (wX w x)).alloc (by rw [wX_size]; omega) (.cells #[] 52)
      simpa [wX] using h1
  case round =>
    obtain ⟨k, m', a', c', gs, hk, rfl, rfl, hm, hgs, hst⟩ := hrel
    by_cases hlt : k < n
    · obtain ⟨b, off, f, rfl, hbl, hfk, hat⟩ := (HR.out.below hst.below (Nat.le_refl _)).at hlt
      have e0 := hat.ca
      have e1 := hat.cb
      have e2 := hat.cl
      have e3 := hat.ct
      have x0 := hst.box.ca
      have x1 := hst.box.cb
      rw [Nat.zero_add] at x1
      have b1 : (0 : Int) ≤ (k : Int) := by omega
      have b2 : (k : Int) < (n : Int) := by omega
      have HTk := hideIt (take_snocF ls k f hfk)
      have z1 := hst.size
      have HST := hideIt hst
      clear hfk hat hst
      rcases lt_cases f.e x.e with ⟨p1, hL⟩ | ⟨p1, p2, p3, hL⟩ | ⟨p1, p2, p3, hL⟩ | ⟨p1, p2, hL⟩
      · simp only [Ld.e] at p1
        have d1 : decide (f.a < x.a) = true := decide_eq_true p1
        have HG2 : Hid (gs ++ [f] = (ls.take (k + 1)).filter (fun d => lt d.e x.e)) := by
          show _ = _
          rw [HTk.out, List.filter_append, hgs.out]
          simp [hL]
        clear hL hgs
        go_wp2
        go_quiet (fail)
        go_wp2_with (at_builtin; refine wpList_append_own _ rfl _ _ 24 rfl (w.heap.size + 1) 52 i0 _ 4 32 Tryz.underlying24 hi hz0 hz1 hz2 rfl (by decide) _ _ _ rfl ((HST.out.up (below_drewN (Below.refl _ _) _)).own.alloc _) ⟨_, 0, none⟩ 1 1 [.int .i64 f.a, .int .i64 f.b, .int .i64 f.l, .bool f.t] rfl rfl (newsL _ _) (by intro u hu; simp at hu; rcases hu with rfl | rfl | rfl | rfl <;> rfl) (by unfold maxLen; omega) (by omega) (by simp; omega) ?_)
        intro v2 w2 hown2 hg2 hn2
        obtain ⟨a2, c2, rfl, hst2⟩ := (HST.out.up (below_drewN (Below.refl _ _) _)).app hown2 hg2
        have HS2 := hideIt hst2
        clear hown2 hg2 hn2 hst2
        go_wp2
        exact ⟨⟨k + 1, m' + 1, a2, c2, gs ++ [f], by omega, by go_num, rfl, by omega, HG2, HS2.out⟩, by simp [intOf]; omega⟩
      · simp only [Ld.e] at p1 p2 p3
        have d1 : decide (f.a < x.a) = false := decide_eq_false p1
        have d2 : (f.a == x.a) = true := by simpa using p2
        have d3 : decide (f.b < x.b) = true := decide_eq_true p3
        have HP := hideIt p2
        clear p2
        have HG2 : Hid (gs ++ [f] = (ls.take (k + 1)).filter (fun d => lt d.e x.e)) := by
          show _ = _
          rw [HTk.out, List.filter_append, hgs.out]
          simp [hL]
        clear hL hgs
        go_wp2
        go_quiet (fail)
        go_wp2_with (at_builtin; refine wpList_append_own _ rfl _ _ 24 rfl (w.heap.size + 1) 52 i0 _ 4 32 Tryz.underlying24 hi hz0 hz1 hz2 rfl (by decide) _ _ _ rfl ((HST.out.up (below_drewN (Below.refl _ _) _)).own.alloc _) ⟨_, 0, none⟩ 1 1 [.int .i64 f.a, .int .i64 f.b, .int .i64 f.l, .bool f.t] rfl rfl (newsL _ _) (by intro u hu; simp at hu; rcases hu with rfl | rfl | rfl | rfl <;> rfl) (by unfold maxLen; omega) (by omega) (by simp; omega) ?_)
        intro v2 w2 hown2 hg2 hn2
        obtain ⟨a2, c2, rfl, hst2⟩ := (HST.out.up (below_drewN (Below.refl _ _) _)).app hown2 hg2
        have HS2 := hideIt hst2
        clear hown2 hg2 hn2 hst2
        go_wp2
        exact ⟨⟨k + 1, m' + 1, a2, c2, gs ++ [f], by omega, by go_num, rfl, by omega, HG2, HS2.out⟩, by simp [intOf]; omega⟩
      · simp only [Ld.e] at p1 p2 p3
        have d1 : decide (f.a < x.a) = false := decide_eq_false p1
        have d2 : (f.a == x.a) = true := by simpa using p2
        have d3 : decide (f.b < x.b) = false := decide_eq_false p3
        have HP := hideIt p2
        clear p2
        have HG2 : Hid (gs = (ls.take (k + 1)).filter (fun d => lt d.e x.e)) := by
          show _ = _
          rw [HTk.out, List.filter_append, hgs.out]
          simp [hL]
        clear hL hgs
        go_wp2
        go_quiet (fail)
        go_wp2
        exact ⟨⟨k + 1, m', a', c', gs, by omega, by go_num, rfl, by omega, HG2, HST.out.up (below_drewN (Below.refl _ _) _)⟩, by simp [intOf]; omega⟩
      · simp only [Ld.e] at p1 p2
        have d1 : decide (f.a < x.a) = false := decide_eq_false p1
        have d2 : (f.a == x.a) = false := by simpa using p2
        have HG2 : Hid (gs = (ls.take (k + 1)).filter (fun d => lt d.e x.e)) := by
          show _ = _
          rw [HTk.out, List.filter_append, hgs.out]
          simp [hL]
        clear hL hgs
        go_wp2
        go_quiet (fail)
        go_wp2
        exact ⟨⟨k + 1, m', a', c', gs, by omega, by go_num, rfl, by omega, HG2, HST.out.up (below_drewN (Below.refl _ _) _)⟩, by simp [intOf]; omega⟩
    · obtain rfl : k = n := by omega
      have HG : Hid (gs ++ [x] = ls.filter (fun d => lt d.e x.e) ++ [x]) := by show _ = _; rw [hgs.out, List.take_of_length_le (by omega)]
      have x0 := hst.box.ca
      have x1 := hst.box.cb
      have x2 := hst.box.cl
      have x3 := hst.box.ct
      rw [Nat.zero_add] at x1 x2 x3
      have z1 := hst.size
      have HST := hideIt hst
      clear hgs hst
      go_wp2_with (at_builtin; refine wpList_append_own _ rfl _ _ 24 rfl (w.heap.size + 1) 52 i0 _ 4 32 Tryz.underlying24 hi hz0 hz1 hz2 rfl (by decide) _ _ _ rfl (HST.out.own.alloc _) ⟨wr.heap.size, 0, none⟩ 1 1 [.int .i64 x.a, .int .i64 x.b, .int .i64 x.l, .bool x.t] rfl rfl (newsL _ _) (by intro u hu; simp at hu; rcases hu with rfl | rfl | rfl | rfl <;> rfl) (by unfold maxLen; omega) (by omega) (by simp; omega) ?_)
      intro v2 w2 hown2 hg2 hn2
      obtain ⟨a2, c2, rfl, hst2⟩ := HST.out.app hown2 hg2
      have hmk : m' + 1 ≤ k + 1 := by omega
      generalize m' + 1 = m3 at hst2 hmk
      generalize gs ++ [x] = g0 at HG hst2
      have HST2 := hideIt hst2
      clear hown2 hg2 hn2 x0 x1 x2 x3 HST hst2
      go_wp2
      go_loopw [5, 7] (fun v i wr => ∃ (q m' : Nat) (a' : Option Addr) (c' : Nat) (gs : List Ld), q ≤ k ∧ i = .int .i64 (q : Int) ∧ v = .slice a' m' c' ∧ m' ≤ k + 1 + q ∧ Hid (gs = g0 ++ (ls.take q).filter (fun d => lt x.e d.e)) ∧ PutL w x a' m' c' gs wr) (fun _ i _ => k - (intOf i).toNat)
      case atStart => exact ⟨0, m3, a2, c2, g0, by omega, rfl, rfl, by omega, by show _ = _; simp, HST2.out⟩
      case round =>
        obtain ⟨q, m', a', c', gs, hq, rfl, rfl, hm, hgs, hst⟩ := hrel
        clear HST2
        by_cases hlt : q < k
        · obtain ⟨b, off, f, rfl, hbl, hfk, hat⟩ := (HR.out.below hst.below (Nat.le_refl _)).at (show q < k from hlt)
          have e0 := hat.ca
          have e1 := hat.cb
          have e2 := hat.cl
          have e3 := hat.ct
          have x0 := hst.box.ca
          have x1 := hst.box.cb
          rw [Nat.zero_add] at x1
          have b1 : (0 : Int) ≤ (q : Int) := by omega
          have b2 : (q : Int) < (k : Int) := by omega
          have HTk := hideIt (take_snocF ls q f hfk)
          have z1 := hst.size
          have HST := hideIt hst
          clear hfk hat hst
          rcases lt_cases x.e f.e with ⟨p1, hL⟩ | ⟨p1, p2, p3, hL⟩ | ⟨p1, p2, p3, hL⟩ | ⟨p1, p2, hL⟩
          · simp only [Ld.e] at p1
            have d1 : decide (x.a < f.a) = true := decide_eq_true p1
            have HG2 : Hid (gs ++ [f] = g0 ++ (ls.take (q + 1)).filter (fun d => lt x.e d.e)) := by
              show _ = _
              rw [HTk.out, List.filter_append, hgs.out]
              simp [hL]
            clear hL hgs
            go_wp2
            go_quiet (fail)
            go_wp2_with (at_builtin; refine wpList_append_own _ rfl _ _ 24 rfl (w.heap.size + 1) 52 i0 _ 4 32 Tryz.underlying24 hi hz0 hz1 hz2 rfl (by decide) _ _ _ rfl ((HST.out.up (below_drewN (Below.refl _ _) _)).own.alloc _) ⟨_, 0, none⟩ 1 1 [.int .i64 f.a, .int .i64 f.b, .int .i64 f.l, .bool f.t] rfl rfl (newsL _ _) (by intro u hu; simp at hu; rcases hu with rfl | rfl | rfl | rfl <;> rfl) (by unfold maxLen; omega) (by omega) (by simp; omega) ?_)
            intro v2 w2 hown2 hg2 hn2
            obtain ⟨a2, c2, rfl, hst2⟩ := (HST.out.up (below_drewN (Below.refl _ _) _)).app hown2 hg2
            have HS2 := hideIt hst2
            clear hown2 hg2 hn2 hst2
            go_wp2
            exact ⟨⟨q + 1, m' + 1, a2, c2, gs ++ [f], by omega, by go_num, rfl, by omega, HG2, HS2.out⟩, by simp [intOf]; omega⟩
          · simp only [Ld.e] at p1 p2 p3
            have d1 : decide (x.a < f.a) = false := decide_eq_false p1
            have d2 : (f.a == x.a) = true := by simpa using p2.symm
            have d3 : decide (x.b < f.b) = true := decide_eq_true p3
            have HP := hideIt p2
            clear p2
            have HG2 : Hid (gs ++ [f] = g0 ++ (ls.take (q + 1)).filter (fun d => lt x.e d.e)) := by
              show _ = _
              rw [HTk.out, List.filter_append, hgs.out]
              simp [hL]
            clear hL hgs
            go_wp2
            go_quiet (fail)
            go_wp2_with (at_builtin; refine wpList_append_own _ rfl _ _ 24 rfl (w.heap.size + 1) 52 i0 _ 4 32 Tryz.underlying24 hi hz0 hz1 hz2 rfl (by decide) _ _ _ rfl ((HST.out.up (below_drewN (Below.refl _ _) _)).own.alloc _) ⟨_, 0, none⟩ 1 1 [.int .i64 f.a, .int .i64 f.b, .int .i64 f.l, .bool f.t] rfl rfl (newsL _ _) (by intro u hu; simp at hu; rcases hu with rfl | rfl | rfl | rfl <;> rfl) (by unfold maxLen; omega) (by omega) (by simp; omega) ?_)
            intro v2 w2 hown2 hg2 hn2
            obtain ⟨a2, c2, rfl, hst2⟩ := (HST.out.up (below_drewN (Below.refl _ _) _)).app hown2 hg2
            have HS2 := hideIt hst2
            clear hown2 hg2 hn2 hst2
            go_wp2
            exact ⟨⟨q + 1, m' + 1, a2, c2, gs ++ [f], by omega, by go_num, rfl, by omega, HG2, HS2.out⟩, by simp [intOf]; omega⟩
          · simp only [Ld.e] at p1 p2 p3
            have d1 : decide (x.a < f.a) = false := decide_eq_false p1
            have d2 : (f.a == x.a) = true := by simpa using p2.symm
            have d3 : decide (x.b < f.b) = false := decide_eq_false p3
            have HP := hideIt p2
            clear p2
            have HG2 : Hid (gs = g0 ++ (ls.take (q + 1)).filter (fun d => lt x.e d.e)) := by
              show _ = _
              rw [HTk.out, List.filter_append, hgs.out]
              simp [hL]
            clear hL hgs
            go_wp2
            go_quiet (fail)
            go_wp2
            exact ⟨⟨q + 1, m', a', c', gs, by omega, by go_num, rfl, by omega, HG2, HST.out.up (below_drewN (Below.refl _ _) _)⟩, by simp [intOf]; omega⟩
          · simp only [Ld.e] at p1 p2
            have d1 : decide (x.a < f.a) = false := decide_eq_false p1
            have d2 : (f.a == x.a) = false := by simpa using fun h => p2 h.symm
            have HG2 : Hid (gs = g0 ++ (ls.take (q + 1)).filter (fun d => lt x.e d.e)) := by
              show _ = _
              rw [HTk.out, List.filter_append, hgs.out]
              simp [hL]
            clear hL hgs
            go_wp2
            go_quiet (fail)
            go_wp2
            exact ⟨⟨q + 1, m', a', c', gs, by omega, by go_num, rfl, by omega, HG2, HST.out.up (below_drewN (Below.refl _ _) _)⟩, by simp [intOf]; omega⟩
        · obtain rfl : q = k := by omega
          have HF : Hid (gs = putL ls x) := by show _ = _; unfold putL; rw [hgs.out, HG.out, List.take_of_length_le (by omega)]
          have HST := hideIt hst
          clear hgs hst
          go_wp2
          go_ret
          exact ⟨a', m', c', rfl, by rw [← HF.out]; exact own_mono HST.out.own (by omega), HST.out.below⟩
end Go.Proofs.YtkkplppcgnikoaaGreat
