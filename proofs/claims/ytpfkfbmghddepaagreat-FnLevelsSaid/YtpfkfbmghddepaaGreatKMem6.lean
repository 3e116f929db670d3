/- Lists of edges with their levels in memory. A struct of two fields in a block of its own. The program's GraphOf and forestEdges. What hangs together by edges; parents of members: pure. The library's comparisons; the program's compareEdges. The program's members: least and join. -/
import Derived.Test.YtpfkfbmghddepaaGreatKLd9
import Derived.Deep.AppendLies
namespace Go.Proofs.YtpfkfbmghddepaaGreat
open Go.RowKit

/-- the list ls stands at a, n of them, below block B -/
def Ls (w : World) (B : Nat) (a : Option Addr) (n : Nat) (ls : List Ld) : Prop :=
  ls.length = n ∧ (n = 0 ∨ ∃ b off, a = some ⟨b, off, none⟩ ∧ b < B ∧ ∀ (j : Nat) (x : Ld), ls[j]? = some x →
    w.cell? ⟨b, off + j * 4, none⟩ = some (.int .i64 x.a) ∧ w.cell? ⟨b, off + j * 4 + 1, none⟩ = some (.int .i64 x.b) ∧ w.cell? ⟨b, off + j * 4 + 2, none⟩ = some (.int .i64 x.l) ∧ w.cell? ⟨b, off + j * 4 + 3, none⟩ = some (.bool x.t))
theorem Ls.below {w w' : World} {B C : Nat} {a : Option Addr} {n : Nat} {ls : List Ld} (h : Ls w B a n ls) (hb : Below C w w') (hB : B ≤ C) : Ls w' B a n ls := by
  refine ⟨h.1, h.2.imp id ?_⟩
  rintro ⟨b, off, ha, hbl, hc⟩
  refine ⟨b, off, ha, hbl, fun j x hx => ?_⟩
  have hl : b < C := by omega
  have e : ∀ o, w'.cell? ⟨b, o, none⟩ = w.cell? ⟨b, o, none⟩ := fun o => hb.cell (p := ⟨b, o, none⟩) hl
  rw [e, e, e, e]
  exact hc j x hx
theorem Ls.mono {w : World} {B C : Nat} {a : Option Addr} {n : Nat} {ls : List Ld} (h : Ls w B a n ls) (hB : B ≤ C) : Ls w C a n ls := by
  refine ⟨h.1, h.2.imp id ?_⟩
  rintro ⟨b, off, ha, hbl, hc⟩
  exact ⟨b, off, ha, by omega, hc⟩
theorem Ls.up {w w' : World} {a : Option Addr} {n : Nat} {ls : List Ld} (h : Ls w w.heap.size a n ls) (hb : Below w.heap.size w w') : Ls w' w'.heap.size a n ls :=
  (h.below hb (Nat.le_refl _)).mono hb.size
/-- the cells of one -/
def lcell (x : Ld) : List Value := [.int .i64 x.a, .int .i64 x.b, .int .i64 x.l, .bool x.t]
def lcells (ls : List Ld) : List Value := ls.flatMap lcell
theorem lcells_length (ls : List Ld) : (lcells ls).length = ls.length * 4 := by
  induction ls with
  | nil => rfl
  | cons f fs ih => simp only [lcells, List.flatMap_cons, List.length_append, List.length_cons] at ih ⊢; rw [ih]; simp [lcell]; omega
theorem lcells_at (ls : List Ld) (j : Nat) (x : Ld) (h : ls[j]? = some x) :
    (lcells ls)[j * 4]? = some (.int .i64 x.a) ∧ (lcells ls)[j * 4 + 1]? = some (.int .i64 x.b) ∧ (lcells ls)[j * 4 + 2]? = some (.int .i64 x.l) ∧ (lcells ls)[j * 4 + 3]? = some (.bool x.t) := by
  induction ls generalizing j with
  | nil => simp at h
  | cons g fs ih =>
    cases j with
    | zero => simp at h; subst h; simp [lcells, lcell]
    | succ j =>
      have h2 := ih j (by simpa using h)
      have e : ∀ m, (lcells (g :: fs))[m + 4]? = (lcells fs)[m]? := fun m => by simp [lcells, lcell]
      refine ⟨?_, ?_, ?_, ?_⟩
      · rw [show (j + 1) * 4 = j * 4 + 4 by omega, e]; exact h2.1
      · rw [show (j + 1) * 4 + 1 = j * 4 + 1 + 4 by omega, e]; exact h2.2.1
      · rw [show (j + 1) * 4 + 2 = j * 4 + 2 + 4 by omega, e]; exact h2.2.2.1
      · rw [show (j + 1) * 4 + 3 = j * 4 + 3 + 4 by omega, e]; exact h2.2.2.2
theorem lcells_snoc (ls : List Ld) (x : Ld) : lcells (ls ++ [x]) = lcells ls ++ [.int .i64 x.a, .int .i64 x.b, .int .i64 x.l, .bool x.t] := by simp [lcells, lcell]
theorem lcells_append (fs gs : List Ld) : lcells (fs ++ gs) = lcells fs ++ lcells gs := by simp [lcells]
theorem infoIL : (Tryz.prog.info? 52).map (fun i => (i.zero, i.size, i.bytes)) = some (some (.agg #[.int .i64 0, .int .i64 0, .int .i64 0, .bool false]), 4, 32) := by kernel_rfl
/-- a list of one's own reads as its edges -/
theorem Ls_of_own {w : World} {B n c : Nat} {a : Option Addr} {ls : List Ld} (h : w.ownsRow B 52 4 (.slice a n c) n (lcells ls)) : Ls w w.heap.size a n ls := by
  have hl := h.1
  rw [lcells_length] at hl
  refine ⟨by omega, ?_⟩
  rcases h.2 with ⟨hv, h0⟩ | ⟨g, cap, cur, hv, hrest⟩
  · exact .inl h0
  · simp at hv
    obtain ⟨rfl, rfl⟩ := hv
    by_cases h0 : n = 0
    · exact .inl h0
    · refine .inr ⟨g, 0, rfl, (h.lt g rfl).2, fun j x hx => ?_⟩
      have hj : j < ls.length := (List.getElem?_eq_some_iff.1 hx).1
      obtain ⟨c0, c1, c2, c3⟩ := lcells_at ls j x hx
      rw [Nat.zero_add]
      exact ⟨by rw [h.cellAt (j * 4) (by omega)]; exact c0, by rw [h.cellAt (j * 4 + 1) (by omega)]; exact c1, by rw [h.cellAt (j * 4 + 2) (by omega)]; exact c2, by rw [h.cellAt (j * 4 + 3) (by omega)]; exact c3⟩
/-- one of them, as a walk reads it -/
structure LdAt (w : World) (b o : Nat) (x : Ld) : Prop where
  ca : w.cell? ⟨b, o, none⟩ = some (.int .i64 x.a)
  cb : w.cell? ⟨b, o + 1, none⟩ = some (.int .i64 x.b)
  cl : w.cell? ⟨b, o + 2, none⟩ = some (.int .i64 x.l)
  ct : w.cell? ⟨b, o + 3, none⟩ = some (.bool x.t)
theorem LdAt.below {w u : World} {b o C : Nat} {x : Ld} (h : LdAt w b o x) (hb : Below C w u) (hC : b < C) : LdAt u b o x := by
  have e : ∀ o, u.cell? ⟨b, o, none⟩ = w.cell? ⟨b, o, none⟩ := fun o => hb.cell (p := ⟨b, o, none⟩) hC
  exact ⟨by rw [e]; exact h.ca, by rw [e]; exact h.cb, by rw [e]; exact h.cl, by rw [e]; exact h.ct⟩
theorem Ls.at {w : World} {B : Nat} {a : Option Addr} {n : Nat} {ls : List Ld} (h : Ls w B a n ls) {k : Nat} (hk : k < n) : ∃ b off x, a = some ⟨b, off, none⟩ ∧ b < B ∧ ls[k]? = some x ∧ LdAt w b (off + k * 4) x := by
  rcases h.2 with hz | ⟨b, off, ha, hb, hc⟩
  · omega
  · have hl := h.1
    have hx : ls[k]? = some (ls[k]'(by omega)) := List.getElem?_eq_getElem (by omega)
    obtain ⟨h0, h1, h2, h3⟩ := hc k _ hx
    exact ⟨b, off, _, ha, hb, hx, h0, h1, h2, h3⟩
/-- the world behind a web's box -/
def wW (w : World) (N : Int) (a : Option Addr) (n c : Nat) : World := w.alloc (.cells #[.int .i64 N, .slice a n c] 26)
theorem wW_size (w : World) (N : Int) (a : Option Addr) (n c : Nat) : (wW w N a n c).heap.size = w.heap.size + 1 := by simp [wW]
theorem wW_good (w : World) (N : Int) (a : Option Addr) (n c : Nat) : Good w (wW w N a n c) := (Good.refl w).alloc _
theorem wW_cells {w : World} {N : Int} {a : Option Addr} {n c : Nat} {u : World} (h : Below (w.heap.size + 1) (wW w N a n c) u) : u.cell? ⟨w.heap.size, 0, none⟩ = some (.int .i64 N) ∧ u.cell? ⟨w.heap.size, 1, none⟩ = some (.slice a n c) := by
  refine ⟨?_, ?_⟩
  · rw [h.cell (p := ⟨w.heap.size, 0, none⟩) (by show w.heap.size < _; omega)]; simp [wW]
  · rw [h.cell (p := ⟨w.heap.size, 1, none⟩) (by show w.heap.size < _; omega)]; simp [wW]
theorem ledgeEdge_any (x : Ld) (w : World) : Calls Tryz.prog 66 #[.agg #[.int .i64 x.a, .int .i64 x.b, .int .i64 x.l, .bool x.t]] w fun e w' => e = .returned (.agg #[.int .i64 x.a, .int .i64 x.b]) ∧ Below w.heap.size w w' := by
  obtain ⟨a, b, l, t⟩ := x
  dsimp only
  go_enter Tryz.func66, Tryz.ntmps66
  go_wp2
  exact bodyPost_ret (v := .agg #[.int .i64 a, .int .i64 b]) (by simp [results, Tryz.results66, go_sem]) rfl ⟨rfl, ((Below.refl w.heap.size w).alloc (Nat.le_refl _) _).alloc (by simp) _⟩
theorem levelAbove_any (l : Int) (hl : 0 ≤ l) (hl2 : l ≤ 4) (w : World) : Calls Tryz.prog 138 #[.int .i64 l] w fun e w' => e = .returned (.int .i64 (if l < 4 then l + 1 else 4)) ∧ w' = w := by
  by_cases h : l < 4
  · rw [if_pos h]
    go_enter Tryz.func138, Tryz.ntmps138
    go_wp2
    go_ret
    exact ⟨by congr 2, rfl⟩
  · rw [if_neg h]
    go_enter Tryz.func138, Tryz.ntmps138
    go_wp2
    go_ret
    exact ⟨by congr 2, rfl⟩
end Go.Proofs.YtpfkfbmghddepaaGreat
namespace Go.Proofs.YtpfkfbmghddepaaGreat
open Go.RowKit

/-- a forest in a block of its own -/
def Box7 (w : World) (b : Nat) (t : TypeId) (v0 v1 : Value) : Prop := w.heap[b]? = some (.cells #[v0, v1] t (0, 0))
theorem Box7.cell0 {w : World} {b : Nat} {t : TypeId} {v0 v1 : Value} (h : Box7 w b t v0 v1) : w.cell? ⟨b, 0, none⟩ = some v0 := by rw [cell_of_row w b 0 _ _ _ h]; rfl
theorem Box7.cell1 {w : World} {b : Nat} {t : TypeId} {v0 v1 : Value} (h : Box7 w b t v0 v1) : w.cell? ⟨b, 1, none⟩ = some v1 := by rw [cell_of_row w b 1 _ _ _ h]; rfl
theorem Box7.frozen {w : World} {b : Nat} {t : TypeId} {v0 v1 : Value} (h : Box7 w b t v0 v1) (j : Nat) : w.frozen? ⟨b, j, none⟩ = false := frozen_of_row w b j _ _ h
theorem Box7.lt {w : World} {b : Nat} {t : TypeId} {v0 v1 : Value} (h : Box7 w b t v0 v1) : b < w.heap.size := (Array.getElem?_eq_some_iff.1 h).1
theorem Box7.new (w : World) (t : TypeId) (v0 v1 : Value) (b : Nat) (hb : w.heap.size = b) : Box7 (w.alloc (.cells #[v0, v1] t)) b t v0 v1 := by subst hb; exact heap_alloc_new w _
theorem Box7.below {w w' : World} {b C : Nat} {t : TypeId} {v0 v1 : Value} (h : Box7 w b t v0 v1) (hb : Below C w w') (hC : b < C) : Box7 w' b t v0 v1 := by
  unfold Box7; rw [hb.block b hC]; exact h
theorem Box7.up {w w' : World} {b : Nat} {t : TypeId} {v0 v1 : Value} (h : Box7 w b t v0 v1) (hb : Below w.heap.size w w') : Box7 w' b t v0 v1 := h.below hb h.lt
theorem Box7.grown {w w' : World} {b : Nat} {t : TypeId} {v0 v1 : Value} {row : Option Nat} (h : Box7 w b t v0 v1) (hg : w.grownBy w' row) (hr : some b ≠ row) : Box7 w' b t v0 v1 := by
  unfold Box7; rw [hg.block b h.lt hr]; exact h
theorem Box7.alloc {w : World} {b : Nat} {t : TypeId} {v0 v1 : Value} (h : Box7 w b t v0 v1) (o : Obj) : Box7 (w.alloc o) b t v0 v1 := by
  unfold Box7; rw [Below.heap_alloc w o b h.lt]; exact h
theorem Box7.set1 {w : World} {b : Nat} {t : TypeId} {v0 v1 : Value} (h : Box7 w b t v0 v1) (u1 : Value) : Box7 (w.setCell ⟨b, 1, none⟩ u1) b t v0 u1 := by
  unfold Box7
  rw [heap_setCell_same _ b 1 _ t u1 h]; rfl
theorem Box7.setOther {w : World} {b x j : Nat} {t : TypeId} {v0 v1 : Value} (h : Box7 w b t v0 v1) (v : Value) (hx : b ≠ x) : Box7 (w.setCell ⟨x, j, none⟩ v) b t v0 v1 := by
  unfold Box7
  rw [heap_setCell_other w ⟨x, j, none⟩ b v hx]; exact h

theorem Box7.set2 {w : World} {b : Nat} {t : TypeId} {v0 v1 : Value} (h : Box7 w b t v0 v1) (u0 u1 : Value) : Box7 ((w.setCell ⟨b, 0, none⟩ u0).setCell ⟨b, 1, none⟩ u1) b t u0 u1 := by
  have h1 : (w.setCell ⟨b, 0, none⟩ u0).heap[b]? = some (.cells #[u0, v1] t (0, 0)) := by rw [heap_setCell_same w b 0 _ t u0 h]; rfl
  unfold Box7
  rw [heap_setCell_same _ b 1 _ t u1 h1]; rfl
end Go.Proofs.YtpfkfbmghddepaaGreat
namespace Go.Proofs.YtpfkfbmghddepaaGreat
open Go.RowKit

theorem take_set2' (xs : List Value) (k : Nat) (x y : Value) (h : k + 2 ≤ xs.length) : ((xs.set k x).set (k + 1) y).take (k + 2) = xs.take k ++ [x, y] := by
  apply List.ext_getElem?
  intro i
  by_cases h1 : i < k
  · rw [List.getElem?_take_of_lt (by omega), List.getElem?_set_ne (by omega), List.getElem?_set_ne (by omega), List.getElem?_append_left (by simp; omega), List.getElem?_take_of_lt h1]
  · by_cases h2 : i = k
    · subst h2
      rw [List.getElem?_take_of_lt (by omega), List.getElem?_set_ne (by omega), List.getElem?_set_self (by omega), List.getElem?_append_right (by simp; omega)]
      have e : i - (xs.take i).length = 0 := by simp; omega
      rw [e]; rfl
    · by_cases h3 : i = k + 1
      · subst h3
        rw [List.getElem?_take_of_lt (by omega), List.getElem?_set_self (by simp; omega), List.getElem?_append_right (by simp; omega)]
        have e : k + 1 - (xs.take k).length = 1 := by simp; omega
        rw [e]; rfl
      · rw [List.getElem?_take_eq_none (by omega), List.getElem?_eq_none (by simp; omega)]
/-- behind the web's box and the answer's -/
def wg2 (w : World) (N : Int) (a : Option Addr) (n c : Nat) : World := (wW w N a n c).alloc (.cells #[.int .i64 0, .slice none 0 0] 33)
theorem wg2_size (w : World) (N : Int) (a : Option Addr) (n c : Nat) : (wg2 w N a n c).heap.size = w.heap.size + 2 := by simp [wg2, wW]
theorem wg2_good (w : World) (N : Int) (a : Option Addr) (n c : Nat) : Good w (wg2 w N a n c) := (wW_good w N a n c).alloc _
theorem wg2_cells {w : World} {N : Int} {a : Option Addr} {n c : Nat} {u : World} (h : Below (w.heap.size + 2) (wg2 w N a n c) u) : (u.cell? ⟨w.heap.size, 0, none⟩ = some (.int .i64 N) ∧ u.cell? ⟨w.heap.size, 1, none⟩ = some (.slice a n c)) ∧ Box7 u (w.heap.size + 1) 33 (.int .i64 0) (.slice none 0 0) := by
  have b1 : Box7 (wg2 w N a n c) w.heap.size 26 (.int .i64 N) (.slice a n c) := (Box7.new w _ _ _ _ rfl).alloc _
  have b2 : Box7 (wg2 w N a n c) (w.heap.size + 1) 33 (.int .i64 0) (.slice none 0 0) := Box7.new _ _ _ _ _ (by simp [wW])
  have c1 := b1.below h (by omega)
  exact ⟨⟨c1.cell0, c1.cell1⟩, b2.below h (by omega)⟩

set_option maxRecDepth 100000 in
set_option maxHeartbeats 4000000 in
theorem iGraphOf_any (N : Int) (ls : List Ld) (n : Nat) (a : Option Addr) (c : Nat) (hn : n ≤ 1048576) (w : World) (h : Ls w w.heap.size a n ls) :
    Calls Tryz.prog 13 #[.agg #[.int .i64 N, .slice a n c]] w fun e w' => ∃ g, e = .returned (.agg #[.int .i64 N, .slice (some ⟨g, 0, none⟩) n n]) ∧ w'.ownsRow w.heap.size 28 2 (.slice (some ⟨g, 0, none⟩) n n) n (ecells (gE ls)) ∧ Below w.heap.size w w' := by
  obtain ⟨i0, hi, hz0, hz1, hz2⟩ := info_parts infoIE
  have hmk : ∀ u : World, (Instr.makeSlice 31 (.int .i64 (n : Int)) (.int .i64 (n : Int))).run Tryz.prog u =
      .ok (.slice (some ⟨u.heap.size, 0, none⟩) n n) (u.alloc (.cells (madeCells #[.int .i64 0, .int .i64 0] (n * 2)) 28)) := fun u => by
    have h := run_make (P := Tryz.prog) u 31 28 i0 _ Tryz.underlying31 hi hz0 .i64 .i64 (n : Int) (n : Int) (by omega) (by omega) (by rw [hz2]; omega) (by omega)
    rw [Int.toNat_natCast] at h
    simpa [hz1, Value.cells] using h
  have HR := hideIt h
  have hlen := h.1
  have o0 := World.ownsRow_lit (base := w.heap.size + 2) (e := 28) (size := 2) (wg2 w N a n c) (madeCells #[.int .i64 0, .int .i64 0] (n * 2)) n (by rw [wg2_size]; omega) (by unfold maxLen; omega) (by simp [madeCells])
  rw [wg2_size] at o0
  have HO0 := hideIt o0
  have HB0 : Hid (Below (w.heap.size + 2) (wg2 w N a n c) ((wg2 w N a n c).alloc (.cells (madeCells #[.int .i64 0, .int .i64 0] (n * 2)) 28))) := (Below.refl _ _).alloc (by rw [wg2_size]; omega) _
  clear h o0
  go_enter Tryz.func13, Tryz.ntmps13
  go_wp2
  go_loopw [13] (fun i wr => ∃ (k : Nat) (xs : List Value), k ≤ n ∧ i = .int .i64 (k : Int) ∧ Hid (xs.take (k * 2) = ecells (gE (ls.take k))) ∧ wr.ownsRow (w.heap.size + 2) 28 2 (.slice (some ⟨w.heap.size + 2, 0, none⟩) n n) n xs ∧ Below (w.heap.size + 2) (wg2 w N a n c) wr) (fun i _ => n - (intOf i).toNat)
  case atStart => exact ⟨0, _, by omega, rfl, by show _ = _; simp [ecells, gE], HO0.out, HB0.out⟩
  case round =>
    obtain ⟨k, xs, hk, rfl, hx, hown, hb⟩ := hrel
    clear HO0 HB0
    obtain ⟨⟨cw0, cw1⟩, bx⟩ := wg2_cells hb
    have hz := hb.size
    rw [wg2_size] at hz
    by_cases hlt : k < n
    · have hgb : Good w wr := (wg2_good w N a n c).trans (hb.mono (by omega))
      obtain ⟨b, off, x, rfl, hbl, hxk, hat⟩ := (HR.out.below hgb (Nat.le_refl _)).at hlt
      have e0 := hat.ca
      have e1 := hat.cb
      have e2 := hat.cl
      have e3 := hat.ct
      have b1 : (0 : Int) ≤ (k : Int) := by omega
      have b2 : (k : Int) < (n : Int) := by omega
      have HT := hideIt (ledgeEdge_any x)
      have HTk : Hid (ecells (gE (ls.take (k + 1))) = ecells (gE (ls.take k)) ++ [.int .i64 x.a, .int .i64 x.b]) := by
        show _ = _
        rw [take_snocF ls k x hxk]
        simp [gE, Ld.e, ecells, ecell]
      have hba : Below wr.heap.size wr (wr.alloc (.cells #[.int .i64 x.a, .int .i64 x.b, .int .i64 x.l, .bool x.t] 52)) := (Below.refl _ _).alloc (Nat.le_refl _) _
      have HU : Hid (∀ u, Below (wr.alloc (.cells #[.int .i64 x.a, .int .i64 x.b, .int .i64 x.l, .bool x.t] 52)).heap.size (wr.alloc (.cells #[.int .i64 x.a, .int .i64 x.b, .int .i64 x.l, .bool x.t] 52)) u → u.ownsRow (w.heap.size + 2) 28 2 (.slice (some ⟨w.heap.size + 2, 0, none⟩) n n) n xs ∧ Below (w.heap.size + 2) (wg2 w N (some ⟨b, off, none⟩) n c) u) := fun u hu =>
        ⟨own_up (own_up hown hba) hu, (hb.trans (hba.mono hz)).trans (hu.mono (by simp; omega))⟩
      clear hxk hat hown hb hba
      go_wp2_with (go_at_call 66; refine (HT.out _).mono ?_; rintro e w1 ⟨rfl, hb1⟩; refine Hid.out ?_)
      refine (show ∀ {p : Prop}, p → Hid p from fun h => h) ?_
      obtain ⟨hown1, hb2⟩ := HU.out _ hb1
      have hl3 : xs.length = n * 2 := hown1.1
      have f0 := hown1.frozenAt (k * 2)
      have f1 := hown1.frozenAt (k * 2 + 1)
      have x0 : w1.cell? ⟨w.heap.size + 2, k * 2, none⟩ = some (xs[k * 2]'(by omega)) := by rw [hown1.cellAt (k * 2) (by omega)]; exact List.getElem?_eq_getElem (by omega)
      have x1 : w1.cell? ⟨w.heap.size + 2, k * 2 + 1, none⟩ = some (xs[k * 2 + 1]'(by omega)) := by rw [hown1.cellAt (k * 2 + 1) (by omega)]; exact List.getElem?_eq_getElem (by omega)
      clear e0 e1 e2 e3 HT HU
      go_wp2
      refine ⟨⟨k + 1, (xs.set (k * 2) (.int .i64 x.a)).set (k * 2 + 1) (.int .i64 x.b), by omega, by go_num, ?_, ?_, ?_⟩, by simp [intOf]; omega⟩
      · show _ = _
        rw [show (k + 1) * 2 = k * 2 + 2 by omega, take_set2' _ _ _ _ (by omega), hx.out, HTk.out]
      · exact ((hown1.stored (k * 2) _).1.stored (k * 2 + 1) _).1
      · exact (hb2.setCell (p := ⟨w.heap.size + 2, _, none⟩) (Nat.le_refl _) _).setCell (p := ⟨w.heap.size + 2, _, none⟩) (Nat.le_refl _) _
    · have e : ls.take k = ls := List.take_of_length_le (by omega)
      have hl3 : xs.length = n * 2 := hown.1
      have HX : Hid (xs = ecells (gE ls)) := by
        show _ = _
        have := hx.out
        rw [e, List.take_of_length_le (by omega)] at this
        exact this
      have HO := hideIt hown
      have HB := hideIt hb
      have r0 := bx.cell0
      have r1 := bx.cell1
      have q0 := bx.frozen 0
      have q1 := bx.frozen 1
      clear hx e hown hl3 hb
      go_wp2
      have HG : Good w wr := (wg2_good w N a n c).trans (HB.out.mono (by omega))
      refine bodyPost_ret (v := .agg #[.int .i64 N, .slice (some ⟨w.heap.size + 2, 0, none⟩) n n]) (by simp [results, Tryz.results13, go_sem, r0, r1]) rfl ⟨w.heap.size + 2, rfl, ?_, ?_⟩
      · rw [← HX.out]
        exact own_mono (own_setOther (own_setOther HO.out (w.heap.size + 1) 0 _ (by omega)) (w.heap.size + 1) 1 _ (by omega)) (by omega)
      · exact (HG.setCell (p := ⟨w.heap.size + 1, 0, none⟩) (by show _ ≤ w.heap.size + 1; omega) _).setCell (p := ⟨w.heap.size + 1, 1, none⟩) (by show _ ≤ w.heap.size + 1; omega) _

/-- edges of a list in the making, a web's box ahead of them -/
structure FSt (w : World) (N : Int) (a : Option Addr) (n c : Nat) (g m c' : Nat) (es : List EdgeV) (u : World) : Prop where
  own : u.ownsRow (w.heap.size + 1) 28 2 (.slice (some ⟨g, 0, none⟩) m c') m (ecells es)
  bel : Below (w.heap.size + 1) (wW w N a n c) u
theorem FSt.size {w : World} {N : Int} {a : Option Addr} {n c g m c' : Nat} {es : List EdgeV} {u : World} (h : FSt w N a n c g m c' es u) : w.heap.size + 1 ≤ u.heap.size := by have := h.bel.size; rw [wW_size] at this; exact this
theorem FSt.up {w : World} {N : Int} {a : Option Addr} {n c g m c' : Nat} {es : List EdgeV} {u v : World} (h : FSt w N a n c g m c' es u) (hb : Below u.heap.size u v) : FSt w N a n c g m c' es v := ⟨own_up h.own hb, h.bel.trans (hb.mono h.size)⟩
theorem FSt.good {w : World} {N : Int} {a : Option Addr} {n c g m c' : Nat} {es : List EdgeV} {u : World} (h : FSt w N a n c g m c' es u) : Good w u := (wW_good w N a n c).trans (h.bel.mono (by omega))
theorem FSt.app {w : World} {N : Int} {a : Option Addr} {n c g m c' : Nat} {es : List EdgeV} {u : World} (h : FSt w N a n c g m c' es u) {e : EdgeV} {o : Obj} {v : Value} {u' : World}
    (ho : u'.ownsRow (w.heap.size + 1) 28 2 v (m + 1) (ecells es ++ [.int .i64 e.1, .int .i64 e.2])) (hg : (u.alloc o).grownBy u' (some g)) : ∃ g2 c2, v = .slice (some ⟨g2, 0, none⟩) (m + 1) c2 ∧ FSt w N a n c g2 (m + 1) c2 (es ++ [e]) u' := by
  obtain ⟨g2, c2, rfl, _⟩ := ho.form (by omega)
  rw [← ecells_snoc] at ho
  refine ⟨g2, c2, rfl, ho, ?_⟩
  exact (h.bel.alloc h.size _).grown hg (by have := h.size; simp; omega) (fun j hj => by cases hj; exact (h.own.lt g rfl).1)
theorem newsE9 (w : World) (g : EdgeV) : ∀ j u, ([Value.int .i64 g.1, Value.int .i64 g.2] : List Value)[j]? = some u → (w.alloc (.cells #[.int .i64 g.1, .int .i64 g.2] 28)).cell? ((⟨w.heap.size, 0, none⟩ : Addr).add j) = some u := by
  intro j u hj
  rcases j with _ | _ | j
  · simp at hj; subst hj; simp [Addr.add]
  · simp at hj; subst hj; simp [Addr.add]
  · simp at hj
theorem FSt.start (w : World) (N : Int) (a : Option Addr) (n c : Nat) : FSt w N a n c (w.heap.size + 1) 0 0 [] ((wW w N a n c).alloc (.cells #[] 28)) := by
  refine ⟨?_, (Below.refl _ _).alloc (by rw [wW_size]; omega) _⟩
  have h0 := World.ownsRow_lit (base := w.heap.size + 1) (e := 28) (size := 2) (wW w N a n c) #[] 0 (by rw [wW_size]; omega) (by unfold maxLen; omega) (by simp)
  rw [wW_size] at h0
  simpa [ecells] using h0
set_option maxRecDepth 100000 in
set_option maxHeartbeats 4000000 in
theorem forestEdges_any (N : Int) (ls : List Ld) (lv : Int) (n : Nat) (a : Option Addr) (c : Nat) (hn : n ≤ 1048576) (w : World) (h : Ls w w.heap.size a n ls) :
    Calls Tryz.prog 88 #[.agg #[.int .i64 N, .slice a n c], .int .i64 lv] w fun e w' => ∃ g m c', e = .returned (.slice (some ⟨g, 0, none⟩) m c') ∧ w'.ownsRow w.heap.size 28 2 (.slice (some ⟨g, 0, none⟩) m c') m (ecells (fE ls lv)) ∧ Below w.heap.size w w' := by
  obtain ⟨i0, hi, hz0, hz1, hz2⟩ := info_parts infoIE
  have HR := hideIt h
  have hlen := h.1
  have HS0 := hideIt (FSt.start w N a n c)
  clear h
  go_enter Tryz.func88, Tryz.ntmps88
  go_wp2
  go_loopw [5, 12] (fun r i wr => ∃ (k g m c' : Nat), k ≤ n ∧ m ≤ k ∧ i = .int .i64 (k : Int) ∧ r = .slice (some ⟨g, 0, none⟩) m c' ∧ FSt w N a n c g m c' (fE (ls.take k) lv) wr) (fun _ i _ => n - (intOf i).toNat)
  case atStart => exact ⟨0, _, 0, 0, by omega, by omega, rfl, rfl, HS0.out⟩
  case round =>
    obtain ⟨k, g, m, c', hk, hm, rfl, rfl, hst⟩ := hrel
    clear HS0
    have hz := hst.size
    by_cases hlt : k < n
    · obtain ⟨b, off, x, rfl, hbl, hxk, hat⟩ := (HR.out.below hst.good (Nat.le_refl _)).at hlt
      have e0 := hat.ca
      have e1 := hat.cb
      have e2 := hat.cl
      have e3 := hat.ct
      have b1 : (0 : Int) ≤ (k : Int) := by omega
      have b2 : (k : Int) < (n : Int) := by omega
      have hba : Below wr.heap.size wr (wr.alloc (.cells #[.int .i64 x.a, .int .i64 x.b, .int .i64 x.l, .bool x.t] 52)) := (Below.refl _ _).alloc (Nat.le_refl _) _
      have HS1 := hideIt (hst.up hba)
      have HT := hideIt (ledgeEdge_any x)
      cases hp : fP lv x with
      | true =>
        have HF := hideIt (fE_take_yes hxk hp)
        unfold fP at hp
        rw [Bool.and_eq_true, decide_eq_true_eq] at hp
        obtain ⟨ht, hle⟩ := hp
        rw [ht] at e3 HT HS1
        clear hxk hat hba hst
        go_wp2_with (go_at_call 66; refine (HT.out _).mono ?_; rintro e w1 ⟨rfl, hb1⟩; refine Hid.out ?_)
        refine (show ∀ {p : Prop}, p → Hid p from fun h => h) ?_
        have HS2 := hideIt (HS1.out.up hb1)
        have z2 := HS2.out.size
        clear e0 e1 e2 e3 HT HS1 hb1
        go_wp2_with (at_builtin; refine wpList_append_own _ rfl _ _ 31 rfl (w.heap.size + 1) 28 i0 _ 2 16 Tryz.underlying31 hi hz0 hz1 hz2 rfl (by decide) _ _ _ rfl (HS2.out.own.alloc _) ⟨w1.heap.size, 0, none⟩ 1 1 [.int .i64 x.a, .int .i64 x.b] rfl rfl (newsE9 w1 (x.a, x.b)) (by intro u hu; simp at hu; rcases hu with rfl | rfl <;> rfl) (by unfold maxLen; omega) (by omega) (by simp; omega) ?_)
        intro v2 w2 hown2 hg2 hn2
        obtain ⟨g2, c2, rfl, hst2⟩ := HS2.out.app (e := (x.a, x.b)) hown2 hg2
        have HS3 := hideIt hst2
        clear hown2 hg2 hn2 hst2 HS2
        go_wp2
        exact ⟨⟨k + 1, g2, m + 1, c2, by omega, by omega, by go_num, rfl, by rw [HF.out]; exact HS3.out⟩, by simp [intOf]; omega⟩
      | false =>
        have HF := hideIt (fE_take_no hxk hp)
        clear hxk hat hba hst HT
        cases ht : x.t with
        | false =>
          rw [ht] at e3 HS1
          clear hp
          go_wp2
          exact ⟨⟨k + 1, g, m, c', by omega, by omega, by go_num, rfl, by rw [HF.out]; exact HS1.out⟩, by simp [intOf]; omega⟩
        | true =>
          rw [ht] at e3 HS1
          have hle : ¬ lv ≤ x.l := fun h2 => by unfold fP at hp; rw [ht, decide_eq_true h2] at hp; cases hp
          clear hp
          go_wp2
          exact ⟨⟨k + 1, g, m, c', by omega, by omega, by go_num, rfl, by rw [HF.out]; exact HS1.out⟩, by simp [intOf]; omega⟩
    · have e : ls.take k = ls := List.take_of_length_le (by omega)
      rw [e] at hst
      have HST := hideIt hst
      clear hst e
      go_wp2
      go_ret
      exact ⟨g, m, c', rfl, own_mono HST.out.own (by omega), HST.out.good⟩
end Go.Proofs.YtpfkfbmghddepaaGreat
namespace Go.Proofs.YtpfkfbmghddepaaGreat
open Go.RowKit

/-- edges between n vertices -/
def EsIn (es : List EdgeV) (n : Nat) : Prop := ∀ e ∈ es, 0 ≤ e.1 ∧ e.1 < e.2 ∧ e.2 < (n : Int)

/-- they hang together -/
def Conn (es : List EdgeV) (u v : Int) : Prop := ∀ S : Int → Prop, (∀ e ∈ es, S e.1 ↔ S e.2) → S u → S v

theorem Conn.refl (es : List EdgeV) (u : Int) : Conn es u u := fun _ _ h => h

theorem Conn.trans {es : List EdgeV} {u v x : Int} (h : Conn es u v) (k : Conn es v x) : Conn es u x := fun S hS hu => k S hS (h S hS hu)

theorem Conn.symm {es : List EdgeV} {u v : Int} (h : Conn es u v) : Conn es v u := fun S hS hv => Classical.byContradiction fun hu =>
  h (fun x => ¬ S x) (fun e he => not_congr (hS e he)) hu hv

theorem Conn.edge {es : List EdgeV} {e : EdgeV} (h : e ∈ es) : Conn es e.1 e.2 := fun _ hS h1 => (hS e h).1 h1

theorem Conn.more {es fs : List EdgeV} {u v : Int} (h : Conn es u v) (hs : ∀ e ∈ es, e ∈ fs) : Conn fs u v := fun S hS hu => h S (fun e he => hS e (hs e he)) hu

/-- parents, and where they end -/
structure Uf (es : List EdgeV) (n : Nat) (P : Nat → Option Nat) (R : Nat → Nat) : Prop where
  root : ∀ i, i < n → P i = none → R i = i
  par : ∀ i j, i < n → P i = some j → j < i ∧ R i = R j
  le : ∀ i, i < n → R i ≤ i
  idem : ∀ i, i < n → R (R i) = R i
  conn : ∀ i, i < n → Conn es (i : Int) (R i : Int)
  same : ∀ e ∈ es, R e.1.toNat = R e.2.toNat

theorem Uf.start (n : Nat) : Uf [] n (fun _ => none) (fun i => i) :=
  { root := fun _ _ _ => rfl
    par := fun _ _ _ h => nomatch h
    le := fun _ _ => Nat.le_refl _
    idem := fun _ _ => rfl
    conn := fun _ _ => Conn.refl _ _
    same := fun _ h => absurd h List.not_mem_nil }

/-- the root b gets the parent a -/
def updP (P : Nat → Option Nat) (b a : Nat) : Nat → Option Nat := fun i => if i = b then some a else P i

def updR (R : Nat → Nat) (b a : Nat) : Nat → Nat := fun i => if R i = b then a else R i

theorem Uf.same_more {es : List EdgeV} {n : Nat} {P : Nat → Option Nat} {R : Nat → Nat} (h : Uf es n P R) {e : EdgeV} (he : R e.1.toNat = R e.2.toNat) : Uf (es ++ [e]) n P R :=
  ⟨h.root, h.par, h.le, h.idem, fun i hi => (h.conn i hi).more fun d hd => by simp [hd], fun d hd => by
    rcases List.mem_append.1 hd with h1 | h1
    · exact h.same d h1
    · simp at h1; subst h1; exact he⟩

theorem Uf.join {es : List EdgeV} {n : Nat} {P : Nat → Option Nat} {R : Nat → Nat} (h : Uf es n P R) {e : EdgeV} (hi : 0 ≤ e.1 ∧ e.1 < e.2 ∧ e.2 < (n : Int)) {a b : Nat} (hab : a < b)
    (hx : (R e.1.toNat = a ∧ R e.2.toNat = b) ∨ (R e.1.toNat = b ∧ R e.2.toNat = a)) : Uf (es ++ [e]) n (updP P b a) (updR R b a) := by
  have hbn : b < n := by
    rcases hx with ⟨_, h2⟩ | ⟨h2, _⟩
    · have := h.le e.2.toNat (by omega); omega
    · have := h.le e.1.toNat (by omega); omega
  have ra : R a = a := by
    rcases hx with ⟨h1, _⟩ | ⟨_, h1⟩
    · rw [← h1]; exact h.idem _ (by omega)
    · rw [← h1]; exact h.idem _ (by omega)
  have rb : R b = b := by
    rcases hx with ⟨_, h1⟩ | ⟨h1, _⟩
    · rw [← h1]; exact h.idem _ (by omega)
    · rw [← h1]; exact h.idem _ (by omega)
  have hmore : ∀ {u v : Int}, Conn es u v → Conn (es ++ [e]) u v := fun hc => hc.more fun d hd => by simp [hd]
  have hcab : Conn (es ++ [e]) (b : Int) (a : Int) := by
    have hee : Conn (es ++ [e]) e.1 e.2 := Conn.edge (by simp)
    have c1 := hmore (h.conn e.1.toNat (by omega))
    have c2 := hmore (h.conn e.2.toNat (by omega))
    rw [show ((e.1.toNat : Nat) : Int) = e.1 by omega] at c1
    rw [show ((e.2.toNat : Nat) : Int) = e.2 by omega] at c2
    rcases hx with ⟨h1, h2⟩ | ⟨h1, h2⟩
    · rw [h1] at c1; rw [h2] at c2; exact c2.symm.trans (hee.symm.trans c1)
    · rw [h1] at c1; rw [h2] at c2; exact c1.symm.trans (hee.trans c2)
  refine ⟨?_, ?_, ?_, ?_, ?_, ?_⟩
  · intro i hi hp
    unfold updP at hp
    split at hp
    · cases hp
    · rename_i hib
      have := h.root i hi hp
      unfold updR
      rw [this, if_neg hib]
  · intro i j hi hp
    unfold updP at hp
    split at hp
    · rename_i hib
      simp at hp
      subst hib hp
      refine ⟨hab, ?_⟩
      unfold updR
      rw [rb, if_pos rfl, ra, if_neg (by omega)]
    · have := h.par i j hi hp
      refine ⟨this.1, ?_⟩
      unfold updR
      rw [this.2]
  · intro i hi
    have := h.le i hi
    unfold updR
    split
    · omega
    · exact this
  · intro i hi
    unfold updR
    by_cases h1 : R i = b
    · rw [if_pos h1, ra, if_neg (by omega)]
    · rw [if_neg h1, h.idem i hi, if_neg h1]
  · intro i hi
    have hc := hmore (h.conn i hi)
    unfold updR
    split
    · rename_i h1
      rw [h1] at hc
      exact hc.trans hcab
    · exact hc
  · intro d hd
    unfold updR
    rcases List.mem_append.1 hd with h1 | h1
    · rw [h.same d h1]
    · simp at h1
      subst h1
      rcases hx with ⟨h2, h3⟩ | ⟨h2, h3⟩
      · rw [h2, h3, if_pos rfl, if_neg (by omega)]
      · rw [h2, h3, if_pos rfl, if_neg (by omega)]

end Go.Proofs.YtpfkfbmghddepaaGreat
namespace Go.Proofs.YtpfkfbmghddepaaGreat
open Go.RowKit

/-- -1, 0 or 1 -/
def cmpI (x y : Int) : Int := if x < y then -1 else if y < x then 1 else 0
/-- the comparison of two edges -/
def cmpE (d e : EdgeV) : Int := if cmpI d.1 e.1 ≠ 0 then cmpI d.1 e.1 else cmpI d.2 e.2

theorem cmpI_zero (x y : Int) : cmpI x y = 0 ↔ x = y := by unfold cmpI; split <;> (try split) <;> omega
theorem cmpI_neg (x y : Int) : cmpI x y < 0 ↔ x < y := by unfold cmpI; split <;> (try split) <;> omega
theorem cmpE_neg (d e : EdgeV) : cmpE d e < 0 ↔ lt d e = true := by
  unfold cmpE lt
  rw [decide_eq_true_iff]
  by_cases h : cmpI d.1 e.1 = 0
  · rw [if_neg (by simpa using h), cmpI_neg]
    have := (cmpI_zero d.1 e.1).1 h
    omega
  · rw [if_pos h, cmpI_neg]
    have := mt (cmpI_zero d.1 e.1).2 h
    omega
theorem cmpE_zero (d e : EdgeV) : cmpE d e = 0 ↔ d = e := by
  unfold cmpE
  by_cases h : cmpI d.1 e.1 = 0
  · rw [if_neg (by simpa using h), cmpI_zero]
    exact ⟨fun h2 => Prod.ext ((cmpI_zero _ _).1 h) h2, fun h2 => by rw [h2]⟩
  · rw [if_pos h]
    exact ⟨fun h2 => absurd h2 h, fun h2 => absurd ((cmpI_zero _ _).2 (by rw [h2])) h⟩

theorem cmpCompare_any (x y : Int) (w : World) : Calls Tryz.prog 176 #[.int .i64 x, .int .i64 y] w fun e w' => e = .returned (.int .i64 (cmpI x y)) ∧ w' = w := by
  unfold cmpI
  by_cases h1 : x < y
  · rw [if_pos h1]
    have d1 : decide (x < y) = true := decide_eq_true h1
    go_enter Tryz.func176, Tryz.ntmps176
    go_wp2
    go_ret
    exact ⟨rfl, rfl⟩
  · rw [if_neg h1]
    have d1 : decide (x < y) = false := decide_eq_false h1
    by_cases h2 : y < x
    · rw [if_pos h2]
      have d2 : decide (y < x) = true := decide_eq_true h2
      go_enter Tryz.func176, Tryz.ntmps176
      go_wp2
      go_ret
      exact ⟨rfl, rfl⟩
    · rw [if_neg h2]
      have d2 : decide (y < x) = false := decide_eq_false h2
      go_enter Tryz.func176, Tryz.ntmps176
      go_wp2
      go_ret
      exact ⟨rfl, rfl⟩

theorem cmpOr_any (x y : Int) (b : Nat) (w : World) (h0 : w.cell? ⟨b, 0, none⟩ = some (.int .i64 x)) (h1 : w.cell? ⟨b, 1, none⟩ = some (.int .i64 y)) :
    Calls Tryz.prog 175 #[.slice (some ⟨b, 0, none⟩) 2 2] w fun e w' => e = .returned (.int .i64 (if x ≠ 0 then x else y)) ∧ w' = w := by
  go_enter Tryz.func175, Tryz.ntmps175
  go_wp2
  go_loopw [8] (fun i wr => ∃ k : Nat, k ≤ 2 ∧ i = .int .i64 (k : Int) ∧ wr = w ∧ Hid (1 ≤ k → x = 0) ∧ Hid (2 ≤ k → y = 0)) (fun i _ => 2 - (intOf i).toNat)
  case atStart => exact ⟨0, by omega, rfl, rfl, fun h => by omega, fun h => by omega⟩
  case round =>
    obtain ⟨k, hk, rfl, rfl, hx, hy⟩ := hrel
    rcases k with _ | _ | k
    · by_cases g : x = 0
      · subst g
        go_wp2
        exact ⟨⟨1, by omega, by go_num, by first | trivial | rfl, by first | exact fun _ => True.intro | exact fun _ => rfl, by first | exact True.intro | exact fun h => by omega⟩, by simp [intOf]⟩
      · have d : (x != 0) = true := by simpa using g
        go_wp2
        go_ret
        exact ⟨rfl, rfl⟩
    · have g := hx.out (by omega)
      subst g
      clear hx hy
      by_cases g : y = 0
      · subst g
        go_wp2
        exact ⟨⟨2, by omega, by go_num, by first | trivial | rfl, by first | exact fun _ => True.intro | exact fun _ => rfl, by first | exact fun _ => True.intro | exact fun _ => rfl⟩, by simp [intOf]⟩
      · have d : (y != 0) = true := by simpa using g
        go_wp2
        go_ret
        exact ⟨rfl, rfl⟩
    · obtain rfl : k = 0 := by omega
      have g := hx.out (by omega)
      have g2 := hy.out (by omega)
      subst g g2
      clear hx hy
      go_wp2
      go_ret
      exact ⟨rfl, rfl⟩

set_option maxHeartbeats 1000000 in
theorem compareEdges_any (d e : EdgeV) (w : World) :
    Calls Tryz.prog 111 #[.agg #[.int .i64 d.1, .int .i64 d.2], .agg #[.int .i64 e.1, .int .i64 e.2]] w fun x w' => x = .returned (.int .i64 (cmpE d e)) ∧ Below w.heap.size w w' := by
  obtain ⟨a, b⟩ := d
  obtain ⟨c, f⟩ := e
  dsimp only
  have HC := hideIt cmpCompare_any
  have HO : Hid (Calls Tryz.prog 175 #[.slice (some ⟨w.heap.size + 1 + 1, 0, none⟩) 2 2] (((w.alloc (.cells #[.int .i64 a, .int .i64 b] 28)).alloc (.cells #[.int .i64 c, .int .i64 f] 28)).alloc (.cells #[.int .i64 (cmpI a c), .int .i64 (cmpI b f)] 3)).drew
      fun e w' => e = .returned (.int .i64 (cmpE (a, b) (c, f))) ∧ w' = (((w.alloc (.cells #[.int .i64 a, .int .i64 b] 28)).alloc (.cells #[.int .i64 c, .int .i64 f] 28)).alloc (.cells #[.int .i64 (cmpI a c), .int .i64 (cmpI b f)] 3)).drew) :=
    cmpOr_any (cmpI a c) (cmpI b f) (w.heap.size + 1 + 1) _ (by simp [go_sem]) (by simp [go_sem])
  go_enter Tryz.func111, Tryz.ntmps111
  go_wp2
  go_region_held3 (fun u => (u.cell? ⟨w.heap.size, 0, none⟩ = some (.int .i64 a) ∧ u.cell? ⟨w.heap.size, 1, none⟩ = some (.int .i64 b)) ∧ u.cell? ⟨w.heap.size + 1, 0, none⟩ = some (.int .i64 c) ∧ u.cell? ⟨w.heap.size + 1, 1, none⟩ = some (.int .i64 f))
    (go_keep)
    (first
      | (go_at_call 176; refine (HC.out _ _ _).mono ?_; rintro e w1 ⟨rfl, rfl⟩)
      | (go_at_call 175; refine HO.out.mono ?_; rintro e w1 ⟨rfl, rfl⟩))
  all_goals
    go_wp2
    go_ret
    exact ⟨rfl, ((((Below.refl _ _).alloc (Nat.le_refl _) _).alloc (by simp) _).alloc (by simp; omega) _).drew⟩
end Go.Proofs.YtpfkfbmghddepaaGreat
namespace Go.Proofs.YtpfkfbmghddepaaGreat
open Go.RowKit

/-- the pointer to a member -/
def ptrP (g : Nat) : Option Nat → Option Addr
  | none => none
  | some j => some ⟨g, j * 2, none⟩
/-- the members stand in block g, with these parents -/
structure MSt (B g n : Nat) (P : Nat → Option Nat) (u : World) : Prop where
  own : ∃ xs, u.ownsRow B 223 2 (.slice (some ⟨g, 0, none⟩) n n) n xs
  cell : ∀ i, i < n → u.cell? ⟨g, i * 2, none⟩ = some (.int .i64 (i : Int)) ∧ u.cell? ⟨g, i * 2 + 1, none⟩ = some (.pointer (ptrP g (P i)))
/-- where a pointer points to -/
def offOf : Value → Nat
  | .pointer (some a) => a.off
  | _ => 0

set_option maxHeartbeats 1000000 in
theorem mLeast_any {B g n : Nat} {es : List EdgeV} {P : Nat → Option Nat} {R : Nat → Nat} (hu : Uf es n P R) (u : World) (hst : MSt B g n P u) (i : Nat) (hi : i < n) :
    Calls Tryz.prog 194 #[.pointer (some ⟨g, i * 2, none⟩)] u fun e w' => e = .returned (.pointer (some ⟨g, R i * 2, none⟩)) ∧ w' = u := by
  have HU := hideIt hu
  have HS := hideIt hst
  clear hu hst
  go_enter Tryz.func194, Tryz.ntmps194
  go_wp2
  go_loopw [0] (fun p wr => ∃ k : Nat, k < n ∧ p = .pointer (some ⟨g, k * 2, none⟩) ∧ Hid (R k = R i) ∧ wr = u) (fun p _ => offOf p)
  case atStart => exact ⟨i, hi, rfl, rfl, rfl⟩
  case round =>
    obtain ⟨k, hk, rfl, hR, hw⟩ := hrel
    have hw' := hw.symm
    subst hw'
    clear hw
    obtain ⟨c0, c1⟩ := HS.out.cell k hk
    cases hP : P k with
    | none =>
      rw [hP] at c1
      have HE : Hid (k = R i) := (HU.out.root k hk hP).symm.trans hR.out
      clear hR hP c0
      have c1' : u.cell? ⟨g, k * 2 + 1, none⟩ = some (.pointer none) := c1
      clear c1
      go_wp2
      go_ret
      exact ⟨by rw [← HE.out]; rfl, rfl⟩
    | some j =>
      rw [hP] at c1
      obtain ⟨hjk, hRj⟩ := HU.out.par k j hk hP
      have HE : Hid (R j = R i) := hRj.symm.trans hR.out
      clear hR hP hRj c0
      have c1' : u.cell? ⟨g, k * 2 + 1, none⟩ = some (.pointer (some ⟨g, j * 2, none⟩)) := c1
      clear c1
      go_wp2
      exact ⟨⟨j, by omega, rfl, HE, by first | trivial | rfl⟩, by simp [offOf]; omega⟩

theorem MSt.drew {B g n : Nat} {P : Nat → Option Nat} {u : World} (h : MSt B g n P u) : MSt B g n P u.drew := by
  obtain ⟨xs, ho⟩ := h.own
  exact ⟨⟨xs, ho.drew⟩, h.cell⟩
/-- the member b gets the parent a -/
theorem MSt.set {B g n : Nat} {P : Nat → Option Nat} {u : World} (h : MSt B g n P u) {a b : Nat} (hb : b < n) : MSt B g n (updP P b a) (u.setCell ⟨g, b * 2 + 1, none⟩ (.pointer (some ⟨g, a * 2, none⟩))) := by
  obtain ⟨xs, ho⟩ := h.own
  have hst := ho.stored (b * 2 + 1) (.pointer (some ⟨g, a * 2, none⟩))
  refine ⟨⟨_, hst.1⟩, fun i hi => ?_⟩
  obtain ⟨c0, c1⟩ := h.cell i hi
  refine ⟨?_, ?_⟩
  · rw [World.cell?_setCell_other _ _ _ _ (by intro e; simp at e <;> omega)]; exact c0
  · unfold updP
    split
    · rename_i hib
      subst hib
      rw [World.cell?_setCell_same _ _ _ c1]; rfl
    · rename_i hib
      rw [World.cell?_setCell_other _ _ _ _ (by intro e; simp at e <;> omega)]; exact c1
theorem MSt.grown {B g n : Nat} {P : Nat → Option Nat} {u : World} (b a : Nat) (_h : MSt B g n P u) : u.grownBy (u.setCell ⟨g, b * 2 + 1, none⟩ (.pointer (some ⟨g, a * 2, none⟩))) (some g) := grownSet u g _ _
theorem MSt.frozen {B g n : Nat} {P : Nat → Option Nat} {u : World} (h : MSt B g n P u) (j : Nat) : u.frozen? ⟨g, j, none⟩ = false := by
  obtain ⟨xs, ho⟩ := h.own
  exact ho.frozenAt j

set_option maxRecDepth 100000 in
set_option maxHeartbeats 2000000 in
theorem mJoin_any {B g n : Nat} {es : List EdgeV} {P : Nat → Option Nat} {R : Nat → Nat} (hu : Uf es n P R) (e : EdgeV) (he : 0 ≤ e.1 ∧ e.1 < e.2 ∧ e.2 < (n : Int)) (u : World) (hst : MSt B g n P u) :
    Calls Tryz.prog 195 #[.pointer (some ⟨g, e.1.toNat * 2, none⟩), .pointer (some ⟨g, e.2.toNat * 2, none⟩)] u fun x w' => x = .returned (.tuple #[]) ∧ ∃ P' R', Uf (es ++ [e]) n P' R' ∧ MSt B g n P' w' ∧ u.grownBy w' (some g) := by
  obtain ⟨i, hi⟩ : ∃ i, i = e.1.toNat := ⟨_, rfl⟩
  obtain ⟨j, hj⟩ : ∃ j, j = e.2.toNat := ⟨_, rfl⟩
  have hin : i < n := by omega
  have hjn : j < n := by omega
  have HL1 := hideIt (mLeast_any hu u hst i hin)
  have HL2 := hideIt (mLeast_any hu u hst j hjn)
  obtain ⟨a, ha⟩ : ∃ a, a = R i := ⟨_, rfl⟩
  obtain ⟨b, hb⟩ : ∃ b, b = R j := ⟨_, rfl⟩
  have han : a < n := by have := hu.le i hin; omega
  have hbn : b < n := by have := hu.le j hjn; omega
  rw [← ha] at HL1
  rw [← hb] at HL2
  obtain ⟨c0, c1⟩ := hst.cell a han
  obtain ⟨c2, c3⟩ := hst.cell b hbn
  have f1 := hst.frozen (a * 2 + 1)
  have f2 := hst.frozen (b * 2 + 1)
  have HC := hideIt cmpCompare_any
  have hk : u.drew.cell? ⟨g, a * 2, none⟩ = some (.int .i64 (a : Int)) ∧ u.drew.cell? ⟨g, b * 2, none⟩ = some (.int .i64 (b : Int)) := ⟨c0, c2⟩
  rw [← hi, ← hj]
  by_cases h1 : a < b
  · have HU := hideIt (hu.join he h1 (.inl ⟨by rw [← hi, ha], by rw [← hj, hb]⟩))
    have HM := hideIt (hst.set (a := a) hbn).drew
    have HG := hideIt (show u.grownBy (u.setCell ⟨g, b * 2 + 1, none⟩ (.pointer (some ⟨g, a * 2, none⟩))).drew (some g) from ⟨rfl, rfl, rfl, (MSt.grown b a hst).size, (MSt.grown b a hst).block⟩)
    have hcm : cmpI (a : Int) (b : Int) = -1 := by unfold cmpI; rw [if_pos (by omega)]
    clear hst hu ha hb he hi hj
    go_enter Tryz.func195, Tryz.ntmps195
    go_wp2_with (go_at_call 194; refine HL1.out.mono ?_; rintro e w1 ⟨rfl, rfl⟩; refine Hid.out ?_)
    refine (show ∀ {p : Prop}, p → Hid p from fun h => h) ?_
    go_wp2_with (go_at_call 194; refine HL2.out.mono ?_; rintro e w1 ⟨rfl, rfl⟩)
    go_region_held3 (fun v => v.cell? ⟨g, a * 2, none⟩ = some (.int .i64 (a : Int)) ∧ v.cell? ⟨g, b * 2, none⟩ = some (.int .i64 (b : Int))) (exact hk)
      ((go_at_call 176; refine (HC.out _ _ _).mono ?_; rw [hcm]; rintro e w1 ⟨rfl, rfl⟩))
    all_goals
      go_wp2
      exact bodyPost_end (v := .tuple #[]) (results_none rfl _ _ _) rfl ⟨rfl, _, _, HU.out, HM.out, HG.out⟩
  · by_cases h2 : b < a
    · have HU := hideIt (hu.join he h2 (.inr ⟨by rw [← hi, ha], by rw [← hj, hb]⟩))
      have HM := hideIt (hst.set (a := b) han).drew
      have HG := hideIt (show u.grownBy (u.setCell ⟨g, a * 2 + 1, none⟩ (.pointer (some ⟨g, b * 2, none⟩))).drew (some g) from ⟨rfl, rfl, rfl, (MSt.grown a b hst).size, (MSt.grown a b hst).block⟩)
      have hcm : cmpI (a : Int) (b : Int) = 1 := by unfold cmpI; rw [if_neg (by omega), if_pos (by omega)]
      clear hst hu ha hb he hi hj
      go_enter Tryz.func195, Tryz.ntmps195
      go_wp2_with (go_at_call 194; refine HL1.out.mono ?_; rintro e w1 ⟨rfl, rfl⟩; refine Hid.out ?_)
      refine (show ∀ {p : Prop}, p → Hid p from fun h => h) ?_
      go_wp2_with (go_at_call 194; refine HL2.out.mono ?_; rintro e w1 ⟨rfl, rfl⟩)
      go_region_held3 (fun v => v.cell? ⟨g, a * 2, none⟩ = some (.int .i64 (a : Int)) ∧ v.cell? ⟨g, b * 2, none⟩ = some (.int .i64 (b : Int))) (exact hk)
        ((go_at_call 176; refine (HC.out _ _ _).mono ?_; rw [hcm]; rintro e w1 ⟨rfl, rfl⟩))
      all_goals
        go_wp2
        exact bodyPost_end (v := .tuple #[]) (results_none rfl _ _ _) rfl ⟨rfl, _, _, HU.out, HM.out, HG.out⟩
    · have HU := hideIt (hu.same_more (e := e) (by rw [← hi, ← hj, ← ha, ← hb]; omega))
      have HM := hideIt hst.drew
      have HG := hideIt (show u.grownBy u.drew (some g) from ⟨rfl, rfl, rfl, Nat.le_refl _, fun _ _ _ => rfl⟩)
      have hcm : cmpI (a : Int) (b : Int) = 0 := by unfold cmpI; rw [if_neg (by omega), if_neg (by omega)]
      clear hst hu ha hb he hi hj
      go_enter Tryz.func195, Tryz.ntmps195
      go_wp2_with (go_at_call 194; refine HL1.out.mono ?_; rintro e w1 ⟨rfl, rfl⟩; refine Hid.out ?_)
      refine (show ∀ {p : Prop}, p → Hid p from fun h => h) ?_
      go_wp2_with (go_at_call 194; refine HL2.out.mono ?_; rintro e w1 ⟨rfl, rfl⟩)
      go_region_held3 (fun v => v.cell? ⟨g, a * 2, none⟩ = some (.int .i64 (a : Int)) ∧ v.cell? ⟨g, b * 2, none⟩ = some (.int .i64 (b : Int))) (exact hk)
        ((go_at_call 176; refine (HC.out _ _ _).mono ?_; rw [hcm]; rintro e w1 ⟨rfl, rfl⟩))
      all_goals
        go_wp2
        exact bodyPost_end (v := .tuple #[]) (results_none rfl _ _ _) rfl ⟨rfl, _, _, HU.out, HM.out, HG.out⟩

theorem MSt.lt {B g n : Nat} {P : Nat → Option Nat} {u : World} (h : MSt B g n P u) : B ≤ g ∧ g < u.heap.size := by
  obtain ⟨xs, ho⟩ := h.own
  exact ho.lt g rfl

theorem MSt.up {B g n : Nat} {P : Nat → Option Nat} {u v : World} (h : MSt B g n P u) (hb : Below u.heap.size u v) : MSt B g n P v := by
  have hl := h.lt
  obtain ⟨xs, ho⟩ := h.own
  refine ⟨⟨xs, own_up ho hb⟩, fun i hi => ?_⟩
  obtain ⟨c0, c1⟩ := h.cell i hi
  exact ⟨by rw [hb.cell (p := ⟨g, _, none⟩) hl.2]; exact c0, by rw [hb.cell (p := ⟨g, _, none⟩) hl.2]; exact c1⟩

theorem MSt.setOther {B g n : Nat} {P : Nat → Option Nat} {u : World} (h : MSt B g n P u) (G j : Nat) (v : Value) (hG : g ≠ G) : MSt B g n P (u.setCell ⟨G, j, none⟩ v) := by
  obtain ⟨xs, ho⟩ := h.own
  refine ⟨⟨xs, own_setOther ho G j v hG⟩, fun i hi => ?_⟩
  obtain ⟨c0, c1⟩ := h.cell i hi
  exact ⟨by rw [set_other hG]; exact c0, by rw [set_other hG]; exact c1⟩

theorem infoMem : (Tryz.prog.info? 223).map (fun i => (i.zero, i.size, i.bytes)) = some (some (.agg #[.int .i64 0, .pointer none]), 2, 16) := by kernel_rfl

theorem made2 (n j : Nat) (hj : j < n) : (madeCells #[.int .i64 0, .pointer none] (n * 2)).toList[j * 2 + 1]? = some (.pointer none) := by
  rw [Array.getElem?_toList]
  unfold madeCells
  rw [Array.getElem?_map, Array.getElem?_eq_getElem (by simp; omega), Array.getElem_range]
  have : (j * 2 + 1) % 2 = 1 := by omega
  simp [this]

end Go.Proofs.YtpfkfbmghddepaaGreat
