/- WebTake: pure, and what its boxes hold. The specification's l08Search: one Level. The specification's WebTake. A right web stays right, whatever comes and goes: pure. -/
import Derived.Test.YtkkplppcgnikoaaGreatKTq9
import Derived.Test.YtkkplppcgnikoaaGreatKITrees
import Derived.Test.YtkkplppcgnikoaaGreatKSAdd9
import Derived.Test.YtkkplppcgnikoaaGreatKSWa9
import Derived.Test.YtkkplppcgnikoaaGreatKIRo9
import Derived.Test.YtkkplppcgnikoaaGreatKMk7
namespace Go.Proofs.YtkkplppcgnikoaaGreat
open Go.RowKit

/-- where the edge stands that goes -/
theorem take_at {N : Int} {ls : List Ld} {f : EdgeV} (h : WOk N ls) (hh : hasB (gE ls) f = true) : ∃ (k : Nat) (x : Ld), ls[k]? = some x ∧ x.e = f ∧ idxE (gE ls) f = (k : Int) ∧ ls.take k ++ ls.drop (k + 1) = ouL ls f ∧ ls.find? (fun x => decide (x.e = f)) = some x := by
  have hm : f ∈ gE ls := by unfold hasB at hh; simpa using hh
  obtain ⟨y, hy, hye⟩ := List.mem_map.1 hm
  have hp := gE_asc h.1
  obtain ⟨k, hk⟩ := List.mem_iff_getElem?.1 hy
  have hkl : k < ls.length := (List.getElem?_eq_some_iff.1 hk).1
  have hky : ls[k] = y := (List.getElem?_eq_some_iff.1 hk).2
  have huniq : ∀ (j : Nat) (z : Ld), ls[j]? = some z → z.e = f → j = k := fun j z hj hz => by
    have hjl : j < ls.length := (List.getElem?_eq_some_iff.1 hj).1
    have hjz : ls[j] = z := (List.getElem?_eq_some_iff.1 hj).2
    rw [List.pairwise_iff_getElem] at hp
    rcases Nat.lt_trichotomy j k with h1 | h1 | h1
    · have := hp j k hjl hkl h1
      rw [hjz, hky, hz, hye, lt_irrefl'] at this
      cases this
    · exact h1
    · have := hp k j hkl hjl h1
      rw [hjz, hky, hz, hye, lt_irrefl'] at this
      cases this
  refine ⟨k, y, hk, hye, idxE_yes (by rw [gE_at hk, hye]) (fun j hj hjf => ?_), ?_, ?_⟩
  · unfold gE at hjf
    rw [List.getElem?_map] at hjf
    obtain ⟨z, hz, hze⟩ := Option.map_eq_some_iff.1 hjf
    have := huniq j z hz hze
    omega
  · unfold ouL
    conv => rhs; rw [← List.take_append_drop k ls, List.drop_eq_getElem_cons hkl]
    rw [List.filter_append, List.filter_cons_of_neg (by rw [hky]; simpa using hye)]
    congr 1
    · rw [List.filter_eq_self.2]
      intro z hz
      obtain ⟨j, hj⟩ := List.mem_iff_getElem?.1 hz
      have hjk : j < k := by have := (List.getElem?_eq_some_iff.1 hj).1; simp at this; omega
      rw [List.getElem?_take_of_lt hjk] at hj
      simp
      intro hze
      have := huniq j z hj hze
      omega
    · rw [List.filter_eq_self.2]
      intro z hz
      obtain ⟨j, hj⟩ := List.mem_iff_getElem?.1 hz
      rw [List.getElem?_drop] at hj
      simp
      intro hze
      have := huniq _ z hj hze
      omega
  · rw [List.find?_eq_some_iff_getElem]
    refine ⟨by simpa using hye, k, hkl, hky, fun j hj => ?_⟩
    simp
    intro hze
    have := huniq j _ (List.getElem?_eq_getElem (by omega)) hze
    omega
/-- WebTake's edges, what takes the place, whether something does -/
def wtL (o : Option (List Ld × Option EdgeV)) : List Ld := match o with | some r => r.1 | none => []
def wtE (o : Option (List Ld × Option EdgeV)) : EdgeV := match o with | some r => r.2.getD (0, 0) | none => (0, 0)
def wtF (o : Option (List Ld × Option EdgeV)) : Bool := match o with | some r => r.2.isSome | none => false
/-- the answer of WebTake -/
def WtA (w : World) (N : Int) (o : Option (List Ld × Option EdgeV)) (e : Ending) (w' : World) : Prop :=
  ∃ a m c, e = .returned (.tuple #[.agg #[.int .i64 (if o.isSome then N else 0), .slice a m c], .agg #[.int .i64 (wtE o).1, .int .i64 (wtE o).2], .bool (wtF o), .bool o.isSome]) ∧ w'.ownsRow w.heap.size 52 4 (.slice a m c) m (lcells (wtL o)) ∧ Below w.heap.size w w'
theorem wtO_yes {nn : Nat} {ls : List Ld} {f : EdgeV} {x : Ld} (h1 : WOk (nn : Int) ls) (h2 : hasB (gE ls) f = true) (h3 : ls.find? (fun x => decide (x.e = f)) = some x) :
    wtO (nn : Int) ls f = some (if x.t then tkO nn f (x.l.toNat + 1) (ouL ls f) else (ouL ls f, none)) := by
  unfold wtO
  rw [if_pos ⟨h1, h2⟩, h3]
  simp
theorem wtO_no {N : Int} {ls : List Ld} {f : EdgeV} (h : ¬ (WOk N ls ∧ hasB (gE ls) f = true)) : wtO N ls f = none := by unfold wtO; rw [if_neg h]
/-- the world behind the boxes -/
def w4w (w : World) (N : Int) (a : Option Addr) (n c : Nat) (f : EdgeV) : World :=
  (((w.alloc (.cells #[.int .i64 N, .slice a n c] 26)).alloc (.cells #[.int .i64 f.1, .int .i64 f.2] 28)).alloc (.cells #[.int .i64 0, .slice none 0 0] 26)).alloc (.cells #[.int .i64 0, .int .i64 0] 28)
theorem w4w_size (w : World) (N : Int) (a : Option Addr) (n c : Nat) (f : EdgeV) : (w4w w N a n c f).heap.size = w.heap.size + 4 := by simp [w4w]
theorem w4w_good (w : World) (N : Int) (a : Option Addr) (n c : Nat) (f : EdgeV) : Good w (w4w w N a n c f) := ((((Good.refl w).alloc _).alloc _).alloc _).alloc _
/-- what the boxes hold, whatever has come since -/
structure In4 (w : World) (N : Int) (a : Option Addr) (n c : Nat) (f : EdgeV) (u : World) : Prop where
  good : Good (w4w w N a n c f) u
section
variable {w : World} {N : Int} {a : Option Addr} {n c : Nat} {f : EdgeV} {u v : World}
theorem In4.web (h : In4 w N a n c f u) : Box7 u w.heap.size 26 (.int .i64 N) (.slice a n c) := Box7.up ((((Box7.new w _ _ _ _ rfl).alloc _).alloc _).alloc _) h.good
theorem In4.edge (h : In4 w N a n c f u) : Box7 u (w.heap.size + 1) 28 (.int .i64 f.1) (.int .i64 f.2) := Box7.up (((Box7.new _ _ _ _ _ (by simp)).alloc _).alloc _) h.good
theorem In4.rw (h : In4 w N a n c f u) : Box7 u (w.heap.size + 1 + 1) 26 (.int .i64 0) (.slice none 0 0) := Box7.up ((Box7.new _ _ _ _ _ (by simp)).alloc _) h.good
theorem In4.re (h : In4 w N a n c f u) : Box7 u (w.heap.size + 1 + 1 + 1) 28 (.int .i64 0) (.int .i64 0) := Box7.up (Box7.new _ _ _ _ _ (by simp)) h.good
theorem In4.cells (h : In4 w N a n c f u) : (u.cell? ⟨w.heap.size, 0, none⟩ = some (.int .i64 N) ∧ u.cell? ⟨w.heap.size, 1, none⟩ = some (.slice a n c)) ∧ (u.cell? ⟨w.heap.size + 1, 0, none⟩ = some (.int .i64 f.1) ∧ u.cell? ⟨w.heap.size + 1, 1, none⟩ = some (.int .i64 f.2)) := ⟨⟨h.web.cell0, h.web.cell1⟩, h.edge.cell0, h.edge.cell1⟩
theorem In4.up (h : In4 w N a n c f u) (hb : Below u.heap.size u v) : In4 w N a n c f v := ⟨h.good.up hb⟩
theorem In4.start (w : World) (N : Int) (a : Option Addr) (n c : Nat) (f : EdgeV) : In4 w N a n c f (w4w w N a n c f) := ⟨Good.refl _⟩
theorem In4.below (h : In4 w N a n c f u) : Below w.heap.size w u := (w4w_good w N a n c f).up h.good
theorem In4.size (h : In4 w N a n c f u) : w.heap.size + 4 ≤ u.heap.size := by have := h.good.size; rw [w4w_size] at this; exact this
theorem In4.drew (h : In4 w N a n c f u) : In4 w N a n c f u.drew := ⟨h.good.drew⟩
/-- the results are laid into their boxes -/
def putR (w u : World) (N : Int) (a' : Option Addr) (m' c' : Nat) (d : EdgeV) : World :=
  (((u.setCell ⟨w.heap.size + 1 + 1, 0, none⟩ (.int .i64 N)).setCell ⟨w.heap.size + 1 + 1, 1, none⟩ (.slice a' m' c')).setCell ⟨w.heap.size + 1 + 1 + 1, 0, none⟩ (.int .i64 d.1)).setCell ⟨w.heap.size + 1 + 1 + 1, 1, none⟩ (.int .i64 d.2)
theorem putR_cells {M : Int} {a' : Option Addr} {m' c' : Nat} {d : EdgeV} {v0 v1 x0 x1 : Value} (h1 : Box7 u (w.heap.size + 1 + 1) 26 v0 v1) (h2 : Box7 u (w.heap.size + 1 + 1 + 1) 28 x0 x1) :
    ((putR w u M a' m' c' d).cell? ⟨w.heap.size + 1 + 1, 0, none⟩ = some (.int .i64 M) ∧ (putR w u M a' m' c' d).cell? ⟨w.heap.size + 1 + 1, 1, none⟩ = some (.slice a' m' c')) ∧
      ((putR w u M a' m' c' d).cell? ⟨w.heap.size + 1 + 1 + 1, 0, none⟩ = some (.int .i64 d.1) ∧ (putR w u M a' m' c' d).cell? ⟨w.heap.size + 1 + 1 + 1, 1, none⟩ = some (.int .i64 d.2)) := by
  have s1 := ((h1.set2 (.int .i64 M) (.slice a' m' c')).setOther (x := w.heap.size + 1 + 1 + 1) (j := 0) (.int .i64 d.1) (by omega)).setOther (x := w.heap.size + 1 + 1 + 1) (j := 1) (.int .i64 d.2) (by omega)
  have s2 := ((h2.setOther (x := w.heap.size + 1 + 1) (j := 0) (.int .i64 M) (by omega)).setOther (x := w.heap.size + 1 + 1) (j := 1) (.slice a' m' c') (by omega)).set2 (.int .i64 d.1) (.int .i64 d.2)
  exact ⟨⟨s1.cell0, s1.cell1⟩, s2.cell0, s2.cell1⟩
theorem putR_below {M : Int} {a' : Option Addr} {m' c' : Nat} {d : EdgeV} (h : Below w.heap.size w u) : Below w.heap.size w (putR w u M a' m' c' d) :=
  (((h.setCell (by show _ ≤ w.heap.size + 1 + 1; omega) _).setCell (by show _ ≤ w.heap.size + 1 + 1; omega) _).setCell (by show _ ≤ w.heap.size + 1 + 1 + 1; omega) _).setCell (by show _ ≤ w.heap.size + 1 + 1 + 1; omega) _
theorem putR_own {M : Int} {a' : Option Addr} {m' c' B : Nat} {d : EdgeV} {gs : List Ld} (hB : w.heap.size + 4 ≤ B) (h : u.ownsRow B 52 4 (.slice a' m' c') m' (lcells gs)) : (putR w u M a' m' c' d).ownsRow w.heap.size 52 4 (.slice a' m' c') m' (lcells gs) :=
  own_mono (own_setLow (own_setLow (own_setLow (own_setLow h _ 0 _ (by omega)) _ 1 _ (by omega)) _ 0 _ (by omega)) _ 1 _ (by omega)) (by omega)
theorem wta_no {o : Option (List Ld × Option EdgeV)} (ho : o = none) (h : Below w.heap.size w u) :
    WtA w N o (.returned (.tuple #[.agg #[.int .i64 0, .slice none 0 0], .agg #[.int .i64 0, .int .i64 0], .bool false, .bool false])) (putR w u 0 none 0 0 (0, 0)) := by
  subst ho
  exact ⟨none, 0, 0, rfl, World.ownsRow_nil _ _ _ _, putR_below h⟩
theorem wta_yes {o : Option (List Ld × Option EdgeV)} {r : List Ld × Option EdgeV} (ho : o = some r) {a' : Option Addr} {m' c' B : Nat} (hB : w.heap.size + 4 ≤ B) (h : Below w.heap.size w u) (hown : u.ownsRow B 52 4 (.slice a' m' c') m' (lcells r.1)) {d : EdgeV} (hd : d = r.2.getD (0, 0)) {t : Bool} (ht : t = r.2.isSome) :
    WtA w N o (.returned (.tuple #[.agg #[.int .i64 N, .slice a' m' c'], .agg #[.int .i64 d.1, .int .i64 d.2], .bool t, .bool true])) (putR w u N a' m' c' d) := by
  subst ho hd ht
  exact ⟨a', m', c', rfl, putR_own hB hown, putR_below h⟩
end
/-- behind the lost edge and the web without it: each in its box, the edges ours -/
structure Tk5 (W wx : World) (b9 b10 : Nat) (x : Ld) (N : Int) (a' : Option Addr) (m' c' : Nat) (L : List Ld) : Prop where
  good : Good W wx
  bx : Box4 wx b9 x
  bw : Box7 wx b10 26 (.int .i64 N) (.slice a' m' c')
  own : wx.ownsRow W.heap.size 52 4 (.slice a' m' c') m' (lcells L)
  l9 : W.heap.size ≤ b9
  l10 : W.heap.size ≤ b10
  ne : ∀ g, a' = some ⟨g, 0, none⟩ → g ≠ b9 ∧ g ≠ b10
section
variable {W w8 : World} {b9 b10 B : Nat} {x : Ld} {N : Int} {a' : Option Addr} {m' c' : Nat} {L : List Ld} {v0 v1 : Value} {y : Ld}
theorem Good.set2 {w u : World} (h : Good w u) (b : Nat) (v0 v1 : Value) (hb : w.heap.size ≤ b) : Good w ((u.setCell ⟨b, 0, none⟩ v0).setCell ⟨b, 1, none⟩ v1) := Below.setCell (Below.setCell h hb _) hb _
theorem Box4.setOther {w : World} {b G j : Nat} (h : Box4 w b x) (v : Value) (hb : b ≠ G) : Box4 (w.setCell ⟨G, j, none⟩ v) b x := by
  unfold Box4; rw [heap_setCell_other w ⟨G, j, none⟩ b v hb]; exact h
theorem own_lo {g : Nat} (h : w8.ownsRow B 52 4 (.slice a' m' c') m' (lcells L)) (ha : a' = some ⟨g, 0, none⟩) : B ≤ g ∧ g < w8.heap.size := by subst ha; exact h.lt g rfl
theorem Box4.z (u : World) (b : Nat) (hb : u.heap.size = b) : Box4 (u.alloc (.cells #[.int .i64 0, .int .i64 0, .int .i64 0, .bool false] 52)) b ⟨0, 0, 0, false⟩ := Box4.new u ⟨0, 0, 0, false⟩ b hb
theorem Box7.z (u : World) (b : Nat) (hb : u.heap.size = b) : Box7 (u.alloc (.cells #[.int .i64 0, .slice none 0 0] 26)) b 26 (.int .i64 0) (.slice none 0 0) := Box7.new u _ _ _ b hb
end
end Go.Proofs.YtkkplppcgnikoaaGreat
namespace Go.Proofs.YtkkplppcgnikoaaGreat
open Go.RowKit

/-- the answer of l08Search: the edges, and the place of what takes the place -/
def SeA (w : World) (r : List Ld × Option EdgeV) (e : Ending) (w' : World) : Prop :=
  ∃ a m c p, e = .returned (.tuple #[.slice a m c, .int .i64 p]) ∧ w'.ownsRow w.heap.size 52 4 (.slice a m c) m (lcells r.1) ∧ Below w.heap.size w w' ∧ ((r.2 = none ∧ p = -1) ∨ ∃ (k : Nat) (y : Ld), r.2 = some y.e ∧ p = (k : Int) ∧ r.1[k]? = some y)
theorem good_grown2 {W u v : World} {row : Option Nat} (h : Good W u) (hg : u.grownBy v row) (hr : ∀ g, row = some g → W.heap.size ≤ g) : Good W v :=
  ⟨hg.os.trans h.os, hg.tape.trans h.tape, hg.output.trans h.output, Nat.le_trans h.size hg.size, fun k hk => (hg.block k (Nat.lt_of_lt_of_le hk h.size) (fun e => by have := hr k e.symm; omega)).trans (h.block k hk)⟩
theorem is_row {u v : World} {n : Nat} {a : Option Addr} {ls : List Int} {row : Option Nat} (h : Is u u.heap.size a n ls) (hg : u.grownBy v row) (hx : ∀ b off s, a = some ⟨b, off, s⟩ → row ≠ some b) : Is v v.heap.size a n ls := by
  cases row with
  | none => exact h.up ⟨hg.os, hg.tape, hg.output, hg.size, fun k hk => hg.block k hk (by simp)⟩
  | some G => exact is_mono (h.grown (Nat.le_refl _) hg fun b off s ha e => hx b off s ha (by rw [e])) hg.size
theorem ft_lnS2 {es : List EdgeV} {nn : Nat} {ts : List (List Int)} (h : FtAll es nn ts) : ts.length + lnS ts ≤ 1048576 := by
  have h1 : ts.length ≤ 12 := h.fp.2.2.1
  have h2 : ∀ l : List (List Int), (∀ t ∈ l, t.length ≤ 23) → lnS l ≤ 23 * l.length := fun l => by
    induction l with
    | nil => intro _; simp [lnS]
    | cons t l ih =>
      intro hl
      have a := hl t (by simp)
      have b := ih fun s hs => hl s (by simp [hs])
      simp only [lnS, List.map_cons, List.sum_cons, List.length_cons] at b ⊢
      omega
  have := h2 ts fun t ht => (tB_len (h.fp.q.1 t ht).1).2
  omega
theorem rs_t {i : Int} {t : List Int} (x : Ld) : (rsL i t x).t = x.t ∧ (rsL i t x).a = x.a ∧ (rsL i t x).b = x.b ∧ (x.t = false → (rsL i t x).l = x.l) := by
  unfold rsL
  split
  · exact ⟨rfl, rfl, rfl, fun h => by rename_i h2; rw [h] at h2; cases h2.1⟩
  · exact ⟨rfl, rfl, rfl, fun _ => rfl⟩

set_option maxRecDepth 100000 in
set_option maxHeartbeats 8000000 in
theorem l08Search_any (nn : Nat) (ls : List Ld) (e : EdgeV) (j : Nat) (n : Nat) (a : Option Addr) (c : Nat) (hS : Stg nn ls) (hj4 : (j : Int) ≤ 4) (he1 : 0 ≤ e.1 ∧ e.1 < (nn : Int)) (he2 : 0 ≤ e.2 ∧ e.2 < (nn : Int)) (hn : n ≤ 1048576) (hnil : a = none → n = 0 ∧ c = 0) (w : World) (h : Ls w w.heap.size a n ls) :
    Calls Tryz.prog 87 #[.agg #[.int .i64 (nn : Int), .slice a n c], .agg #[.int .i64 e.1, .int .i64 e.2], .int .i64 (j : Int)] w (SeA w (lvO nn e (j : Int) ls)) := by
  obtain ⟨i0, hi, hz0, hz1, hz2⟩ := info_parts infoIL
  obtain ⟨m0, hm0, hn1, hn12⟩ := gB_n hS.g
  have hm0 : m0 = nn := by omega
  subst hm0
  have hj0 : (0 : Int) ≤ (j : Int) := by omega
  obtain ⟨hts, hA⟩ := hS.trees (i := (j : Int)) hj0
  have hlen := h.1
  obtain ⟨W2, hW2⟩ : ∃ W2, W2 = (w.alloc (.cells #[.int .i64 (m0 : Int), .slice a n c] 26)).alloc (.cells #[.int .i64 e.1, .int .i64 e.2] 28) := ⟨_, rfl⟩
  have G2 : Good w W2 := by rw [hW2]; exact ((Good.refl w).alloc _).alloc _
  have X2 : Box7 W2 w.heap.size 26 (.int .i64 (m0 : Int)) (.slice a n c) := by rw [hW2]; exact (Box7.new w _ _ _ _ rfl).alloc _
  have E2 : Box7 W2 (w.heap.size + 1) 28 (.int .i64 e.1) (.int .i64 e.2) := by rw [hW2]; exact Box7.new _ _ _ _ _ (by simp)
  have hz2' : W2.heap.size = w.heap.size + 2 := by rw [hW2]; simp
  have HG2 := hideIt G2
  have HLs : Hid (∀ u, Good W2 u → Ls u u.heap.size a n ls) := fun u hu => (h.up G2).up hu
  have HX : Hid (∀ u, Good W2 u → Box7 u w.heap.size 26 (.int .i64 (m0 : Int)) (.slice a n c) ∧ Box7 u (w.heap.size + 1) 28 (.int .i64 e.1) (.int .i64 e.2)) := fun u hu => ⟨X2.up hu, E2.up hu⟩
  have HF : Hid (∀ u, Good W2 u → Calls Tryz.prog 82 #[.agg #[.int .i64 (m0 : Int), .slice a n c], .int .i64 (j : Int)] u (FAn9 u (m0 : Int) (some (lvT m0 ls (j : Int))))) := fun u hu => by
    have := sForestAt_any m0 ls (j : Int) n a c hn1 hn12 hS.g u (HLs.out u hu)
    rw [hts] at this
    exact this
  have q1 := X2.cell1
  have HZ2 := hideIt hz2'
  have HAll := hideIt hA
  have Hls := hideIt h
  clear h X2 E2 G2 hz2' hts hA
  go_enter Tryz.func87, Tryz.ntmps87
  go_upto_region 1 with fail
  rw [← hW2]
  clear hW2
  go_cut [8] (fun v wx => ∃ a' c', v = .slice a' n c' ∧ Hid (Good W2 wx) ∧ Hid (wx.ownsRow W2.heap.size 52 4 (.slice a' n c') n (lcells ls)))
  case first =>
    have h0 := World.ownsRow_lit (base := W2.heap.size) (e := 52) (size := 4) W2 #[] 0 (Nat.le_refl _) (by unfold maxLen; omega) (by simp)
    obtain ⟨W3, hW3⟩ : ∃ W3, W3 = W2.alloc (.cells #[] 52) := ⟨_, rfl⟩
    have G3 : Good W2 W3 := by rw [hW3]; exact (Good.refl _).alloc _
    have hlt2 : w.heap.size < W2.heap.size := by have := HZ2.out; omega
    cases a with
    | none =>
      obtain ⟨rfl, rfl⟩ := hnil rfl
      have e0 : ls = [] := List.length_eq_zero_iff.1 hlen
      subst e0
      have HO0 := hideIt h0
      clear hW3 h0
      go_wp2_with (at_builtin; refine wpList_append_own_none rfl _ _ 24 rfl W2.heap.size 52 i0 4 Tryz.underlying24 hi _ _ _ rfl HO0.out rfl ?_)
      go_meet
      exact ⟨_, _, rfl, (Good.refl _).alloc _, hideIt (by simpa [lcells] using HO0.out)⟩
    | some ad =>
      have hl2 : (lcells ls).length = n * 4 := by rw [lcells_length, hlen]
      have hnews : ∀ q u, (lcells ls)[q]? = some u → (W2.alloc (.cells #[] 52)).cell? (ad.add q) = some u := by
        rw [← hW3]
        have h3 := HLs.out W3 G3
        rcases h3.2 with h4 | ⟨bb, oo, hbb, _⟩
        · intro q u hq
          have e0 : ls = [] := List.length_eq_zero_iff.1 (by omega)
          rw [e0] at hq
          simp [lcells] at hq
        · simp at hbb
          subst hbb
          exact h3.news
      have HO0 := hideIt h0
      have HNw := hideIt hnews
      clear hW3 h0 hnews
      go_wp2_with (at_builtin; refine wpList_append_own _ rfl _ _ 24 rfl W2.heap.size 52 i0 _ 4 32 Tryz.underlying24 hi hz0 hz1 hz2 rfl (by decide) _ _ _ rfl HO0.out ad n c (lcells ls) rfl hl2 HNw.out lcells_one (by unfold maxLen; omega) (by omega) (by simp) ?_)
      intro v1 w1 hown1 hg1 hn1
      obtain ⟨a2, c2, rfl⟩ := own_form hown1
      have HGo : Hid (Good W2 w1) := ((Below.refl _ W2).alloc (Nat.le_refl _) _).grown hg1 (by simp) (fun q hq => (HO0.out.lt q hq).1)
      have HOw := hideIt hown1
      clear hown1 hg1 hn1 HO0 HNw
      go_wp2
      go_meet
      exact ⟨_, _, rfl, HGo, HOw⟩
  case rest =>
    obtain ⟨al, cl, rfl, HGc, HOc⟩ := hcut
    obtain ⟨x2, _⟩ := HX.out _ HGc.out
    have y0 := x2.cell0
    have y1 := x2.cell1
    have HFc := hideIt (HF.out _ HGc.out)
    obtain ⟨k1, t1, hk1, i1, o1, _⟩ := HAll.out.at he1.1 he1.2
    obtain ⟨k2, t2, hk2, i2, o2, _⟩ := HAll.out.at he2.1 he2.2
    have hsm : smT (lvT m0 ls (j : Int)) e = if (vsL t2).length < (vsL t1).length then t2 else t1 := by
      unfold smT
      rw [i1, i2, Int.toNat_natCast, Int.toNat_natCast]
      simp only [List.getD_eq_getElem?_getD, hk1, hk2, Option.getD_some]
    obtain ⟨TT, hTT⟩ : ∃ TT, TT = lvT m0 ls (j : Int) := ⟨_, rfl⟩
    rw [← hTT] at HFc hk1 hk2 o1 o2 hsm
    have hlnS : lnS TT + TT.length ≤ 1048576 := by rw [hTT]; have h1 := ft_lnS2 HAll.out; have h2 := HAll.out.fp.2.2.1; omega
    have HTB : Hid (tB t1 = true ∧ tB t2 = true) := by
      rw [hTT] at hk1 hk2
      exact ⟨(HAll.out.fp.2.2.2.1 k1 t1 hk1).1, (HAll.out.fp.2.2.2.1 k2 t2 hk2).1⟩
    have HTT := hideIt hTT
    clear x2 HF hTT HAll i1 i2
    go_wp2_with (go_at_call 82; refine HFc.out.mono ?_; rintro x w4 ⟨a3, m3, c3, R, rfl, hFB, hR, hb4⟩; refine Hid.out ?_)
    refine (show ∀ {p : Prop}, p → Hid p from fun h => h) ?_
    simp only [Option.getD_some] at hR
    subst hR
    have hFt : ∀ (k : Nat) (t : List Int), (rts R)[k]? = some t → ∃ r, R[k]? = some r ∧ r.t = t := fun k t hk => by
      have hkl : k < R.length := by rw [← rts_len]; exact (List.getElem?_eq_some_iff.1 hk).1
      have hr : R[k]? = some R[k] := List.getElem?_eq_getElem hkl
      exact ⟨_, hr, Option.some.inj ((rts_at hr).symm.trans hk)⟩
    obtain ⟨r1, hr1, rfl⟩ := hFt k1 t1 hk1
    obtain ⟨r2, hr2, rfl⟩ := hFt k2 t2 hk2
    have hkm1 : k1 < m3 := by have := (List.getElem?_eq_some_iff.1 hr1).1; have := hFB.len; omega
    have hkm2 : k2 < m3 := by have := (List.getElem?_eq_some_iff.1 hr2).1; have := hFB.len; omega
    obtain ⟨gR, rfl⟩ : ∃ gR, a3 = some ⟨gR, 0, none⟩ := by
      rcases hFB.own.2 with ⟨_, h0⟩ | ⟨g, cap, cur, hv, _⟩
      · omega
      · simp at hv
        exact ⟨g, hv.1⟩
    obtain ⟨W5, hW5⟩ : ∃ W5, W5 = w4.alloc (.cells #[.int .i64 (m0 : Int), .slice (some ⟨gR, 0, none⟩) m3 c3] 127) := ⟨_, rfl⟩
    have g45 : Good w4 W5 := by rw [hW5]; exact (Good.refl w4).alloc _
    have F5 : Box7 W5 w4.heap.size 127 (.int .i64 (m0 : Int)) (.slice (some ⟨gR, 0, none⟩) m3 c3) := by rw [hW5]; exact Box7.new _ _ _ _ _ rfl
    have Gc5 : Good wc W5 := Good.up hb4 g45
    have E5 := (HX.out _ (HGc.out.up Gc5)).2
    have hFB5 := hFB.up g45
    have hln : m3 + lnS (rts R) ≤ 1048576 := by have := hFB.len; have h2 := rts_len R; omega
    have HTr : Hid (∀ v u, Good W5 u → Calls Tryz.prog 84 #[.agg #[.int .i64 (m0 : Int), .slice (some ⟨gR, 0, none⟩) m3 c3], .int .i64 v] u fun x v' => x = .returned (.int .i64 (treeO (m0 : Int) (rts R) v)) ∧ Good W5 v') := fun v u hu => (sTreeOf_any _ (rts R) v m3 (some ⟨gR, 0, none⟩) c3 hln u (hFB5.ts.up hu)).mono fun _ _ ⟨hx, hb⟩ => ⟨hx, hu.up hb⟩
    have c1 : W5.cell? ⟨gR, k1, none⟩ = some (.slice (some ⟨r1.g, 0, none⟩) r1.t.length r1.cp) := by rw [hFB5.own.cellAt k1 (by omega)]; exact rhs_at hr1
    have c2 : W5.cell? ⟨gR, k2, none⟩ = some (.slice (some ⟨r2.g, 0, none⟩) r2.t.length r2.cp) := by rw [hFB5.own.cellAt k2 (by omega)]; exact rhs_at hr2
    have hgl : gR < W5.heap.size := (hFB5.own.lt gR rfl).2
    have HC : Hid (∀ u, Good W5 u → ((u.cell? ⟨w4.heap.size, 0, none⟩ = some (.int .i64 (m0 : Int)) ∧ u.cell? ⟨w4.heap.size, 1, none⟩ = some (.slice (some ⟨gR, 0, none⟩) m3 c3)) ∧ (u.cell? ⟨w.heap.size + 1, 0, none⟩ = some (.int .i64 e.1) ∧ u.cell? ⟨w.heap.size + 1, 1, none⟩ = some (.int .i64 e.2)) ∧ (u.cell? ⟨gR, k1, none⟩ = some (.slice (some ⟨r1.g, 0, none⟩) r1.t.length r1.cp) ∧ u.cell? ⟨gR, k2, none⟩ = some (.slice (some ⟨r2.g, 0, none⟩) r2.t.length r2.cp))) ∧ Good W5 u) := fun u hu => ⟨⟨⟨(F5.up hu).cell0, (F5.up hu).cell1⟩, ⟨(E5.up hu).cell0, (E5.up hu).cell1⟩, by rw [hu.cell hgl]; exact c1, by rw [hu.cell hgl]; exact c2⟩, hu⟩
    have HV1 : Hid (∀ u, Good W5 u → Calls Tryz.prog 83 #[.slice (some ⟨r1.g, 0, none⟩) r1.t.length r1.cp] u fun x v' => ∃ a' m c', x = .returned (.slice a' m c') ∧ Hid (v'.ownsRow W5.heap.size 3 1 (.slice a' m c') m (ic (vsL r1.t))) ∧ Good W5 v') := fun u hu => (sVertsOf_any r1.t r1.t.length (some ⟨r1.g, 0, none⟩) r1.cp (by have := len_le (List.mem_of_getElem? hk1) (B := 1048576) (by omega); omega) u ((hFB5.ins r1 (List.mem_of_getElem? hr1)).1.is.up hu)).mono fun _ _ ⟨a', m, c', hx, ho, hb⟩ => ⟨a', m, c', hx, own_mono ho hu.size, hu.up hb⟩
    have HV2 : Hid (∀ u, Good W5 u → Calls Tryz.prog 83 #[.slice (some ⟨r2.g, 0, none⟩) r2.t.length r2.cp] u fun x v' => ∃ a' m c', x = .returned (.slice a' m c') ∧ Hid (v'.ownsRow W5.heap.size 3 1 (.slice a' m c') m (ic (vsL r2.t))) ∧ Below u.heap.size u v') := fun u hu => (sVertsOf_any r2.t r2.t.length (some ⟨r2.g, 0, none⟩) r2.cp (by have := len_le (List.mem_of_getElem? hk2) (B := 1048576) (by omega); omega) u ((hFB5.ins r2 (List.mem_of_getElem? hr2)).1.is.up hu)).mono fun _ _ ⟨a', m, c', hx, ho, hb⟩ => ⟨a', m, c', hx, own_mono ho hu.size, hb⟩
    have HO1 := hideIt o1
    have HO2 := hideIt o2
    have HT1 : Hid (∀ u, Good W5 u → Calls Tryz.prog 84 #[.agg #[.int .i64 (m0 : Int), .slice (some ⟨gR, 0, none⟩) m3 c3], .int .i64 e.1] u fun x v' => x = .returned (.int .i64 (k1 : Int)) ∧ Good W5 v') := fun u hu => (HTr.out _ u hu).mono fun _ _ ⟨hx, hb⟩ => ⟨by rw [hx, HO1.out], hb⟩
    have HT2 : Hid (∀ u, Good W5 u → Calls Tryz.prog 84 #[.agg #[.int .i64 (m0 : Int), .slice (some ⟨gR, 0, none⟩) m3 c3], .int .i64 e.2] u fun x v' => x = .returned (.int .i64 (k2 : Int)) ∧ Below u.heap.size u v') := fun u hu => (sTreeOf_any _ (rts R) _ m3 (some ⟨gR, 0, none⟩) c3 hln u (hFB5.ts.up hu)).mono fun _ _ ⟨hx, hb⟩ => ⟨by rw [hx, HO2.out], hb⟩
    have b1 : (0 : Int) ≤ (k1 : Int) := by omega
    have b2 : (k1 : Int) < (m3 : Int) := by omega
    have b3 : (0 : Int) ≤ (k2 : Int) := by omega
    have b4 : (k2 : Int) < (m3 : Int) := by omega
    have HSm := hideIt hsm
    have HGc5 := hideIt Gc5
    clear HFc hFB hb4 y0 y1 g45 Gc5 E5 hFB5 hFt hk1 hk2 hr1 hr2 o1 o2 hsm c1 c2 hgl F5 hln HTr hlnS HO1 HO2
    go_upto_region 3 with fail
    rw [← hW5]
    clear hW5
    have hS0 := HC.out _ (Good.refl W5).drew
    go_region_held3 (fun u => ((u.cell? ⟨w4.heap.size, 0, none⟩ = some (.int .i64 (m0 : Int)) ∧ u.cell? ⟨w4.heap.size, 1, none⟩ = some (.slice (some ⟨gR, 0, none⟩) m3 c3)) ∧ (u.cell? ⟨w.heap.size + 1, 0, none⟩ = some (.int .i64 e.1) ∧ u.cell? ⟨w.heap.size + 1, 1, none⟩ = some (.int .i64 e.2)) ∧ (u.cell? ⟨gR, k1, none⟩ = some (.slice (some ⟨r1.g, 0, none⟩) r1.t.length r1.cp) ∧ u.cell? ⟨gR, k2, none⟩ = some (.slice (some ⟨r2.g, 0, none⟩) r2.t.length r2.cp))) ∧ Good W5 u)
      (first | with_reducible assumption)
      (first
        | (go_at_call 84; refine (HT1.out _ (And.right (by assumption))).mono ?_; rintro x w6 ⟨rfl, hg6⟩; have hS6 := HC.out _ hg6)
        | (go_at_call 83; refine (HV1.out _ (And.right (by assumption))).mono ?_; rintro x w7 ⟨a7, m7, c7, rfl, ho7, hg7⟩; have hS7 := HC.out _ hg7))
    have HC7 : Hid (∀ u, Good w7 u → ((u.cell? ⟨w4.heap.size, 0, none⟩ = some (.int .i64 (m0 : Int)) ∧ u.cell? ⟨w4.heap.size, 1, none⟩ = some (.slice (some ⟨gR, 0, none⟩) m3 c3)) ∧ (u.cell? ⟨w.heap.size + 1, 0, none⟩ = some (.int .i64 e.1) ∧ u.cell? ⟨w.heap.size + 1, 1, none⟩ = some (.int .i64 e.2)) ∧ (u.cell? ⟨gR, k1, none⟩ = some (.slice (some ⟨r1.g, 0, none⟩) r1.t.length r1.cp) ∧ u.cell? ⟨gR, k2, none⟩ = some (.slice (some ⟨r2.g, 0, none⟩) r2.t.length r2.cp))) ∧ Good w7 u) := fun u hu => ⟨(HC.out u (hg7.up hu)).1, hu⟩
    have HG7 := hideIt hg7
    have hS8 := HC7.out _ (Good.refl w7).drew
    clear hS0 hS6 hS7 hg6 HV1 HT1 HC hg7
    go_upto_region 4 with fail
    go_region_held3 (fun u => ((u.cell? ⟨w4.heap.size, 0, none⟩ = some (.int .i64 (m0 : Int)) ∧ u.cell? ⟨w4.heap.size, 1, none⟩ = some (.slice (some ⟨gR, 0, none⟩) m3 c3)) ∧ (u.cell? ⟨w.heap.size + 1, 0, none⟩ = some (.int .i64 e.1) ∧ u.cell? ⟨w.heap.size + 1, 1, none⟩ = some (.int .i64 e.2)) ∧ (u.cell? ⟨gR, k1, none⟩ = some (.slice (some ⟨r1.g, 0, none⟩) r1.t.length r1.cp) ∧ u.cell? ⟨gR, k2, none⟩ = some (.slice (some ⟨r2.g, 0, none⟩) r2.t.length r2.cp))) ∧ Good w7 u)
      (first | with_reducible assumption)
      (first
        | (go_at_call 84; refine (HT2.out _ (HG7.out.up (And.right (by assumption)))).mono ?_; rintro x w8 ⟨rfl, hb8⟩; have hg8 := Good.up (And.right (by assumption)) hb8; have hS9 := HC7.out _ hg8)
        | (go_at_call 83; refine (HV2.out _ (HG7.out.up (And.right (by assumption)))).mono ?_; rintro x w9 ⟨a9, m9, c9, rfl, ho9, hb9⟩; have hg9 := Good.up (And.right (by assumption)) hb9; have hS10 := HC7.out _ hg9))
    have hm7 : (vsL r1.t).length = m7 := by have := ho7.out.1; rw [ic_len] at this; omega
    have hm9 : (vsL r2.t).length = m9 := by have := ho9.out.1; rw [ic_len] at this; omega
    have HM7 : Hid (m7 ≤ 12) := by show _ ≤ _; rw [← hm7]; exact vsL_len r1.t
    have HM9 : Hid (m9 ≤ 12) := by show _ ≤ _; rw [← hm9]; exact vsL_len r2.t
    have HI7 := hideIt ((Is_of_own ho7.out).up hg9)
    have HI9 := hideIt (Is_of_own ho9.out)
    have HGs := hideIt (HG7.out.up hg9)
    have hlo : ∀ (b : Nat), (Value.slice al n cl).ownBlock = some b → b < W5.heap.size := fun b hb => by
      have h1 := (HOc.out.lt b hb).2
      have h2 := HGc5.out.size
      omega
    have HL7 : Hid (∀ b off s, a7 = some ⟨b, off, s⟩ → (Value.slice al n cl).ownBlock ≠ some b) := fun b off s ha hb => by
      have h1 := (ho7.out.lt b (by rw [ha]; rfl)).1
      have h2 := hlo b hb
      omega
    have HL9 : Hid (∀ b off s, a9 = some ⟨b, off, s⟩ → (Value.slice al n cl).ownBlock ≠ some b) := fun b off s ha hb => by
      have h1 := (ho9.out.lt b (by rw [ha]; rfl)).1
      have h2 := hlo b hb
      omega
    clear hlo
    rw [hm7, hm9] at HSm
    clear hS8 hS9 hS10 hg8 hg9 hb8 hb9 HC7 HV2 HT2 hm7 hm9 ho7 ho9 HG7
    by_cases hlt : m9 < m7
    · have Ht : Hid (smT (lvT m0 ls (j : Int)) e = r2.t) := by
        show _ = _
        rw [← HTT.out, HSm.out, if_pos hlt]
      have HIn : Hid (∀ u v, w9.grownBy u (Value.slice al n cl).ownBlock → Calls Tryz.prog 171 #[.slice a9 m9 c9, .int .i64 v] u fun e w' => e = .returned (.bool (decide (v ∈ r2.t))) ∧ w' = u) := fun u v hu => (l05In_any (vsL r2.t) v m9 a9 c9 (by have := HM9.out; omega) u (is_row HI9.out hu HL9.out)).mono fun _ _ ⟨h1, h2⟩ => ⟨by rw [h1]; exact bret (vs_mem_of HTB.out.2), h2⟩
      obtain ⟨t, ht⟩ : ∃ t, t = r2.t := ⟨_, rfl⟩
      rw [← ht] at Ht HIn
      clear HSm HTT HI7 HI9 HM7 HM9 HL7 HL9 HTB ht
      have HOl := hideIt (own_up HOc.out (Good.up HGc5.out HGs.out))
      have HGw := hideIt ((HGc.out.up HGc5.out).up HGs.out)
      clear HGs HOc HGc HGc5

      by_cases hj : 4 < (j : Int) + 1
      · have hup : Hid (upL (j : Int) = 4) := by show _ = _; unfold upL; rw [if_pos hj]
        go_wp2
        clear hj hlt
        go_loopw [14] (fun q wr => ∃ d : Nat, d ≤ n ∧ q = .int .i64 (d : Int) ∧ Hid (wr.ownsRow W2.heap.size 52 4 (.slice al n cl) n (lcells ((ls.take d).map (rsL (j : Int) t) ++ ls.drop d))) ∧ Hid (w9.grownBy wr (Value.slice al n cl).ownBlock)) (fun q _ => n - (intOf q).toNat)
        case atStart => exact ⟨0, by omega, rfl, hideIt (by simpa using HOl.out), World.grownBy.refl _ _⟩
        case round =>
          obtain ⟨d, hd, rfl, HOz, HGz⟩ := hrel
          clear HOl
          by_cases hlt : d < n
          · obtain ⟨gl, rfl⟩ : ∃ gl, al = some ⟨gl, 0, none⟩ := by
              rcases HOz.out.2 with ⟨_, h0⟩ | ⟨g, cap, cur, hv, _⟩
              · omega
              · simp at hv
                exact ⟨g, hv.1⟩
            obtain ⟨y, hy⟩ : ∃ y, ls[d]? = some y := ⟨ls[d]'(by omega), List.getElem?_eq_getElem (by omega)⟩
            have hya := turn_at (f := rsL (j : Int) t) hy
            have b1 : (0 : Int) ≤ (d : Int) := by omega
            have b2 : (d : Int) < (n : Int) := by omega
            obtain ⟨p0, p1, p2, p3⟩ := lcells_at _ d y hya
            have hl4 : (lcells ((ls.take d).map (rsL (j : Int) t) ++ ls.drop d)).length = n * 4 := HOz.out.1
            have e0 : wr.cell? ⟨gl, d * 4, none⟩ = some (.int .i64 y.a) := by rw [HOz.out.cellAt (d * 4) (by omega)]; exact p0
            have e2 : wr.cell? ⟨gl, d * 4 + 2, none⟩ = some (.int .i64 y.l) := by rw [HOz.out.cellAt (d * 4 + 2) (by omega)]; exact p2
            have e3 : wr.cell? ⟨gl, d * 4 + 3, none⟩ = some (.bool y.t) := by rw [HOz.out.cellAt (d * 4 + 3) (by omega)]; exact p3
            have f2 := HOz.out.frozenAt (d * 4 + 2)
            have hst := HOz.out.stored (d * 4 + 2) (.int .i64 (4))
            rw [lcells_setL hya] at hst
            have HSt := hideIt hst
            have hq := hideIt (HIn.out wr y.a HGz.out)
            have HY := hideIt hy
            clear p0 p1 p2 p3 hl4 hst hy hya
            by_cases ht1 : y.t = true
            · rw [ht1] at e3
              by_cases hl1 : y.l = (j : Int)
              · have d1 : (y.l == (j : Int)) = true := by simp [hl1]
                by_cases ha1 : y.a ∈ t
                · have HN := hideIt (turn_step (f := rsL (j : Int) t) HY.out)
                  rw [rsL_yes (i := (j : Int)) (t := t) ⟨ht1, hl1, ha1⟩, hup.out] at HN
                  rw [decide_eq_true ha1] at hq
                  clear ht1 hl1 ha1
                  go_wp2_with (go_at_call 171; refine hq.out.mono ?_; rintro x w1 ⟨rfl, hw1⟩; have hw1' := hw1.symm; subst hw1'; refine Hid.out ?_)
                  refine (show ∀ {p : Prop}, p → Hid p from fun h => h) ?_
                  go_wp2
                  exact ⟨⟨d + 1, by omega, by go_num, hideIt (by rw [← HN.out]; exact HSt.out.1), hideIt (grown_trans HGz.out HSt.out.2)⟩, by simp [intOf]; omega⟩
                · have HN := hideIt (turn_skip HY.out (rsL_no (i := (j : Int)) (t := t) fun h => ha1 h.2.2))
                  rw [decide_eq_false ha1] at hq
                  clear ht1 hl1 ha1
                  go_wp2_with (go_at_call 171; refine hq.out.mono ?_; rintro x w1 ⟨rfl, hw1⟩; have hw1' := hw1.symm; subst hw1'; refine Hid.out ?_)
                  refine (show ∀ {p : Prop}, p → Hid p from fun h => h) ?_
                  go_wp2
                  exact ⟨⟨d + 1, by omega, by go_num, hideIt (by rw [HN.out]; exact HOz.out), HGz⟩, by simp [intOf]; omega⟩
              · have d1 : (y.l == (j : Int)) = false := by simp [hl1]
                have HN := hideIt (turn_skip HY.out (rsL_no (i := (j : Int)) (t := t) fun h => hl1 h.2.1))
                clear ht1 hl1
                go_wp2
                exact ⟨⟨d + 1, by omega, by go_num, hideIt (by rw [HN.out]; exact HOz.out), HGz⟩, by simp [intOf]; omega⟩
            · have HN := hideIt (turn_skip HY.out (rsL_no (i := (j : Int)) (t := t) fun h => ht1 h.1))
              rw [show y.t = false by simpa using ht1] at e3
              clear ht1
              go_wp2
              exact ⟨⟨d + 1, by omega, by go_num, hideIt (by rw [HN.out]; exact HOz.out), HGz⟩, by simp [intOf]; omega⟩
          · obtain rfl : d = n := by omega
            obtain ⟨L1, hL1⟩ : ∃ L1, L1 = ls.map (rsL (j : Int) t) := ⟨_, rfl⟩
            have HO1 : Hid (wr.ownsRow W2.heap.size 52 4 (.slice al d cl) d (lcells L1)) := by
              have h1 := HOz.out
              rw [List.take_of_length_le (by omega), List.drop_eq_nil_of_le (by omega), List.append_nil, ← hL1] at h1
              exact h1
            have HL1 := hideIt hL1
            have hlen1 : Hid (L1.length = d) := by show _ = _; rw [hL1]; simp [hlen]
            clear HOz hL1 hlt
            go_wp2
            go_loopw [15] (fun q wr => ∃ k : Nat, k ≤ d ∧ q = .int .i64 (k : Int) ∧ Hid (wr.ownsRow W2.heap.size 52 4 (.slice al d cl) d (lcells ((L1.take k).map (srL (j : Int) t) ++ L1.drop k))) ∧ Hid (w9.grownBy wr (Value.slice al d cl).ownBlock) ∧ Hid (∀ y ∈ L1.take k, ¬ hitL (j : Int) t y)) (fun q _ => d - (intOf q).toNat)
            case atStart => exact ⟨0, by omega, rfl, hideIt (by simpa using HO1.out), HGz, fun y hy => by simp at hy⟩
            case round =>
              obtain ⟨k, hk, rfl, HOz, HGy, HNz⟩ := hrel
              clear HO1
              have GW : Good W2 wr := good_grown2 HGw.out HGy.out (fun g hg => (HOz.out.lt g hg).1)
              by_cases hlt : k < d
              · obtain ⟨gl, rfl⟩ : ∃ gl, al = some ⟨gl, 0, none⟩ := by
                  rcases HOz.out.2 with ⟨_, h0⟩ | ⟨g, cap, cur, hv, _⟩
                  · omega
                  · simp at hv
                    exact ⟨g, hv.1⟩
                obtain ⟨ba, off, y, rfl, hbl, hy, hat⟩ := (HLs.out wr GW).at hlt
                have hy1 : L1[k]? = some (rsL (j : Int) t y) := by rw [HL1.out, List.getElem?_map, hy]; rfl
                obtain ⟨q1, q2, q3, q4⟩ := rs_t (i := (j : Int)) (t := t) y
                have hya := turn_at (f := srL (j : Int) t) hy1
                have b1 : (0 : Int) ≤ (k : Int) := by omega
                have b2 : (k : Int) < (d : Int) := by omega
                obtain ⟨p0, p1, p2, p3⟩ := lcells_at _ k _ hya
                have hl4 : (lcells ((L1.take k).map (srL (j : Int) t) ++ L1.drop k)).length = d * 4 := HOz.out.1
                have e0 : wr.cell? ⟨gl, k * 4, none⟩ = some (.int .i64 y.a) := by rw [HOz.out.cellAt (k * 4) (by omega), ← q2]; exact p0
                have e1 : wr.cell? ⟨gl, k * 4 + 1, none⟩ = some (.int .i64 y.b) := by rw [HOz.out.cellAt (k * 4 + 1) (by omega), ← q3]; exact p1
                have e2 : wr.cell? ⟨gl, k * 4 + 2, none⟩ = some (.int .i64 (rsL (j : Int) t y).l) := by rw [HOz.out.cellAt (k * 4 + 2) (by omega)]; exact p2
                have e3 : wr.cell? ⟨gl, k * 4 + 3, none⟩ = some (.bool y.t) := by rw [HOz.out.cellAt (k * 4 + 3) (by omega), ← q1]; exact p3
                have o2 := hat.cl
                have o3 := hat.ct
                have cw := (HX.out wr GW).1.cell1
                have hqa := hideIt (HIn.out wr y.a HGy.out)
                have hqb := hideIt (HIn.out wr y.b HGy.out)
                have HY := hideIt hy1
                have HYa := hideIt hya
                clear p0 p1 p2 p3 hl4 hy hya hat hy1 hbl
                by_cases ht1 : y.t = true
                · have ht2 : (rsL (j : Int) t y).t = true := by rw [q1, ht1]
                  have HN := hideIt (turn_skip HY.out (srL_no (i := (j : Int)) (t := t) fun h => by have h1 : (rsL (j : Int) t y).t = false := h.1; rw [ht2] at h1; cases h1))
                  have HN2 := hideIt (nohit_step HY.out HNz.out fun h => by have h1 : (rsL (j : Int) t y).t = false := h.1; rw [ht2] at h1; cases h1)
                  rw [ht1] at o3
                  generalize decide (y.a ∈ t) = va at hqa
                  generalize decide (y.b ∈ t) = vb at hqb
                  clear ht1 ht2 q1 q2 q3 q4 e2 e3 o2 GW
                  go_wp2_with (first | (go_at_call 171; refine hqa.out.mono ?_; rintro x w1 ⟨rfl, hw1⟩; have hw1' := hw1.symm; subst hw1'; clear hqa) | (go_at_call 171; refine hqb.out.mono ?_; rintro x w1 ⟨rfl, hw1⟩; have hw1' := hw1.symm; subst hw1'; clear hqb))
                  exact ⟨⟨k + 1, by omega, by go_num, hideIt (by rw [HN.out]; exact HOz.out), HGy, HN2⟩, by simp [intOf]; omega⟩
                · have ht0 : y.t = false := by simpa using ht1
                  have hrs : rsL (j : Int) t y = y := rsL_no fun h => ht1 h.1
                  rw [hrs] at HY HYa e2
                  rw [ht0] at o3 e3
                  clear q1 q2 q3 q4 hrs ht1
                  by_cases hl1 : y.l = (j : Int)
                  · have d1 : (y.l != (j : Int)) = false := by simp [hl1]
                    by_cases ha : y.a ∈ t
                    · rw [decide_eq_true ha] at hqa
                      by_cases hb : y.b ∈ t
                      · rw [decide_eq_true hb] at hqb
                        have HN2 := hideIt (nohit_step HY.out HNz.out fun h => h.2.2.1 ⟨ha, hb⟩)
                        have HN := hideIt (turn_step (f := srL (j : Int) t) HY.out)
                        rw [srL_yes (i := (j : Int)) (t := t) ⟨ht0, hl1, ha, hb⟩, hup.out] at HN
                        have f2 := HOz.out.frozenAt (k * 4 + 2)
                        have hst := HOz.out.stored (k * 4 + 2) (.int .i64 (4))
                        rw [lcells_setL HYa.out] at hst
                        have HSt := hideIt hst
                        clear hst ha hb hl1 ht0 GW
                        go_wp2_with (first | (go_at_call 171; refine hqa.out.mono ?_; rintro x w1 ⟨rfl, hw1⟩; have hw1' := hw1.symm; subst hw1'; clear hqa) | (go_at_call 171; refine hqb.out.mono ?_; rintro x w1 ⟨rfl, hw1⟩; have hw1' := hw1.symm; subst hw1'; clear hqb))
                        exact ⟨⟨k + 1, by omega, by go_num, hideIt (by rw [← HN.out]; exact HSt.out.1), hideIt (grown_trans HGy.out HSt.out.2), HN2⟩, by simp [intOf]; omega⟩
                      · rw [decide_eq_false hb] at hqb
                        have HV : Hid (lvO m0 e (j : Int) ls = ((L1.take k).map (srL (j : Int) t) ++ ⟨y.a, y.b, y.l, true⟩ :: L1.drop (k + 1), some y.e)) := by
                          show _ = _
                          rw [← srO_hit HY.out ⟨ht0, hl1, fun h => hb h.2, .inl ha⟩ HNz.out, HL1.out, ← Ht.out]
                          rfl
                        have f3 := HOz.out.frozenAt (k * 4 + 3)
                        have hst := HOz.out.stored (k * 4 + 3) (.bool true)
                        rw [lcells_setT HYa.out, turn_put HY.out] at hst
                        have HF : Hid (SeA w (lvO m0 e (j : Int) ls) (.returned (.tuple #[.slice (some ⟨gl, 0, none⟩) d cl, .int .i64 (k : Int)])) (wr.setCell ⟨gl, k * 4 + 3, none⟩ (.bool true))) := by
                          rw [HV.out]
                          exact ⟨_, d, cl, (k : Int), rfl, own_mono hst.1 (by have := HZ2.out; omega), HG2.out.up (good_grown2 GW hst.2 (fun g hg => by simp at hg; subst hg; exact (HOz.out.lt _ rfl).1)), .inr ⟨k, ⟨y.a, y.b, y.l, true⟩, rfl, rfl, turn_last HY.out _⟩⟩
                        clear hst ha hb hl1 ht0 GW HV
                        go_wp2_with (first | (go_at_call 171; refine hqa.out.mono ?_; rintro x w1 ⟨rfl, hw1⟩; have hw1' := hw1.symm; subst hw1'; clear hqa) | (go_at_call 171; refine hqb.out.mono ?_; rintro x w1 ⟨rfl, hw1⟩; have hw1' := hw1.symm; subst hw1'; clear hqb))
                        exact bodyPost_ret (v := .tuple #[.slice (some ⟨gl, 0, none⟩) d cl, .int .i64 (k : Int)]) (by simp [results, Tryz.results87, go_sem]) rfl HF.out
                    · rw [decide_eq_false ha] at hqa
                      by_cases hb : y.b ∈ t
                      · rw [decide_eq_true hb] at hqb
                        have HV : Hid (lvO m0 e (j : Int) ls = ((L1.take k).map (srL (j : Int) t) ++ ⟨y.a, y.b, y.l, true⟩ :: L1.drop (k + 1), some y.e)) := by
                          show _ = _
                          rw [← srO_hit HY.out ⟨ht0, hl1, fun h => ha h.1, .inr hb⟩ HNz.out, HL1.out, ← Ht.out]
                          rfl
                        have f3 := HOz.out.frozenAt (k * 4 + 3)
                        have hst := HOz.out.stored (k * 4 + 3) (.bool true)
                        rw [lcells_setT HYa.out, turn_put HY.out] at hst
                        have HF : Hid (SeA w (lvO m0 e (j : Int) ls) (.returned (.tuple #[.slice (some ⟨gl, 0, none⟩) d cl, .int .i64 (k : Int)])) (wr.setCell ⟨gl, k * 4 + 3, none⟩ (.bool true))) := by
                          rw [HV.out]
                          exact ⟨_, d, cl, (k : Int), rfl, own_mono hst.1 (by have := HZ2.out; omega), HG2.out.up (good_grown2 GW hst.2 (fun g hg => by simp at hg; subst hg; exact (HOz.out.lt _ rfl).1)), .inr ⟨k, ⟨y.a, y.b, y.l, true⟩, rfl, rfl, turn_last HY.out _⟩⟩
                        clear hst ha hb hl1 ht0 GW HV
                        go_wp2_with (first | (go_at_call 171; refine hqa.out.mono ?_; rintro x w1 ⟨rfl, hw1⟩; have hw1' := hw1.symm; subst hw1'; clear hqa) | (go_at_call 171; refine hqb.out.mono ?_; rintro x w1 ⟨rfl, hw1⟩; have hw1' := hw1.symm; subst hw1'; clear hqb))
                        exact bodyPost_ret (v := .tuple #[.slice (some ⟨gl, 0, none⟩) d cl, .int .i64 (k : Int)]) (by simp [results, Tryz.results87, go_sem]) rfl HF.out
                      · rw [decide_eq_false hb] at hqb
                        have HN := hideIt (turn_skip HY.out (srL_no (i := (j : Int)) (t := t) fun h => ha h.2.2.1))
                        have HN2 := hideIt (nohit_step HY.out HNz.out fun h => by rcases h.2.2.2 with h | h; exact ha h; exact hb h)
                        clear ha hb hl1 ht0 GW
                        go_wp2_with (first | (go_at_call 171; refine hqa.out.mono ?_; rintro x w1 ⟨rfl, hw1⟩; have hw1' := hw1.symm; subst hw1'; clear hqa) | (go_at_call 171; refine hqb.out.mono ?_; rintro x w1 ⟨rfl, hw1⟩; have hw1' := hw1.symm; subst hw1'; clear hqb))
                        exact ⟨⟨k + 1, by omega, by go_num, hideIt (by rw [HN.out]; exact HOz.out), HGy, HN2⟩, by simp [intOf]; omega⟩
                  · have d1 : (y.l != (j : Int)) = true := by simp [hl1]
                    have HN := hideIt (turn_skip HY.out (srL_no (i := (j : Int)) (t := t) fun h => hl1 h.2.1))
                    have HN2 := hideIt (nohit_step HY.out HNz.out fun h => hl1 h.2.1)
                    generalize decide (y.a ∈ t) = va at hqa
                    generalize decide (y.b ∈ t) = vb at hqb
                    clear hl1 ht0 e2 e3 GW
                    go_wp2_with (first | (go_at_call 171; refine hqa.out.mono ?_; rintro x w1 ⟨rfl, hw1⟩; have hw1' := hw1.symm; subst hw1'; clear hqa) | (go_at_call 171; refine hqb.out.mono ?_; rintro x w1 ⟨rfl, hw1⟩; have hw1' := hw1.symm; subst hw1'; clear hqb))
                    exact ⟨⟨k + 1, by omega, by go_num, hideIt (by rw [HN.out]; exact HOz.out), HGy, HN2⟩, by simp [intOf]; omega⟩
              · obtain rfl : k = d := by omega
                have HF : Hid (SeA w (lvO m0 e (j : Int) ls) (.returned (.tuple #[.slice al k cl, .int .i64 (-1)])) wr) := by
                  have h1 := HNz.out
                  rw [List.take_of_length_le (by have := hlen1.out; omega), HL1.out, ← Ht.out] at h1
                  rw [lvO_none h1]
                  have h2 := HOz.out
                  rw [List.take_of_length_le (by have := hlen1.out; omega), List.drop_eq_nil_of_le (by have := hlen1.out; omega), List.append_nil, HL1.out, ← Ht.out] at h2
                  exact ⟨al, k, cl, -1, rfl, own_mono h2 (by have := HZ2.out; omega), HG2.out.up GW, .inl ⟨rfl, rfl⟩⟩
                clear HNz HOz HGy GW
                go_wp2
                exact bodyPost_ret (v := .tuple #[.slice al k cl, .int .i64 (-1)]) (by simp [results, Tryz.results87, go_sem]) rfl HF.out
      · have hup : Hid (upL (j : Int) = (j : Int) + 1) := by show _ = _; unfold upL; rw [if_neg hj]
        go_wp2
        clear hj hlt
        go_loopw [14] (fun q wr => ∃ d : Nat, d ≤ n ∧ q = .int .i64 (d : Int) ∧ Hid (wr.ownsRow W2.heap.size 52 4 (.slice al n cl) n (lcells ((ls.take d).map (rsL (j : Int) t) ++ ls.drop d))) ∧ Hid (w9.grownBy wr (Value.slice al n cl).ownBlock)) (fun q _ => n - (intOf q).toNat)
        case atStart => exact ⟨0, by omega, rfl, hideIt (by simpa using HOl.out), World.grownBy.refl _ _⟩
        case round =>
          obtain ⟨d, hd, rfl, HOz, HGz⟩ := hrel
          clear HOl
          by_cases hlt : d < n
          · obtain ⟨gl, rfl⟩ : ∃ gl, al = some ⟨gl, 0, none⟩ := by
              rcases HOz.out.2 with ⟨_, h0⟩ | ⟨g, cap, cur, hv, _⟩
              · omega
              · simp at hv
                exact ⟨g, hv.1⟩
            obtain ⟨y, hy⟩ : ∃ y, ls[d]? = some y := ⟨ls[d]'(by omega), List.getElem?_eq_getElem (by omega)⟩
            have hya := turn_at (f := rsL (j : Int) t) hy
            have b1 : (0 : Int) ≤ (d : Int) := by omega
            have b2 : (d : Int) < (n : Int) := by omega
            obtain ⟨p0, p1, p2, p3⟩ := lcells_at _ d y hya
            have hl4 : (lcells ((ls.take d).map (rsL (j : Int) t) ++ ls.drop d)).length = n * 4 := HOz.out.1
            have e0 : wr.cell? ⟨gl, d * 4, none⟩ = some (.int .i64 y.a) := by rw [HOz.out.cellAt (d * 4) (by omega)]; exact p0
            have e2 : wr.cell? ⟨gl, d * 4 + 2, none⟩ = some (.int .i64 y.l) := by rw [HOz.out.cellAt (d * 4 + 2) (by omega)]; exact p2
            have e3 : wr.cell? ⟨gl, d * 4 + 3, none⟩ = some (.bool y.t) := by rw [HOz.out.cellAt (d * 4 + 3) (by omega)]; exact p3
            have f2 := HOz.out.frozenAt (d * 4 + 2)
            have hst := HOz.out.stored (d * 4 + 2) (.int .i64 ((j : Int) + 1))
            rw [lcells_setL hya] at hst
            have HSt := hideIt hst
            have hq := hideIt (HIn.out wr y.a HGz.out)
            have HY := hideIt hy
            clear p0 p1 p2 p3 hl4 hst hy hya
            by_cases ht1 : y.t = true
            · rw [ht1] at e3
              by_cases hl1 : y.l = (j : Int)
              · have d1 : (y.l == (j : Int)) = true := by simp [hl1]
                by_cases ha1 : y.a ∈ t
                · have HN := hideIt (turn_step (f := rsL (j : Int) t) HY.out)
                  rw [rsL_yes (i := (j : Int)) (t := t) ⟨ht1, hl1, ha1⟩, hup.out] at HN
                  rw [decide_eq_true ha1] at hq
                  clear ht1 hl1 ha1
                  go_wp2_with (go_at_call 171; refine hq.out.mono ?_; rintro x w1 ⟨rfl, hw1⟩; have hw1' := hw1.symm; subst hw1'; refine Hid.out ?_)
                  refine (show ∀ {p : Prop}, p → Hid p from fun h => h) ?_
                  go_wp2
                  exact ⟨⟨d + 1, by omega, by go_num, hideIt (by rw [← HN.out]; exact HSt.out.1), hideIt (grown_trans HGz.out HSt.out.2)⟩, by simp [intOf]; omega⟩
                · have HN := hideIt (turn_skip HY.out (rsL_no (i := (j : Int)) (t := t) fun h => ha1 h.2.2))
                  rw [decide_eq_false ha1] at hq
                  clear ht1 hl1 ha1
                  go_wp2_with (go_at_call 171; refine hq.out.mono ?_; rintro x w1 ⟨rfl, hw1⟩; have hw1' := hw1.symm; subst hw1'; refine Hid.out ?_)
                  refine (show ∀ {p : Prop}, p → Hid p from fun h => h) ?_
                  go_wp2
                  exact ⟨⟨d + 1, by omega, by go_num, hideIt (by rw [HN.out]; exact HOz.out), HGz⟩, by simp [intOf]; omega⟩
              · have d1 : (y.l == (j : Int)) = false := by simp [hl1]
                have HN := hideIt (turn_skip HY.out (rsL_no (i := (j : Int)) (t := t) fun h => hl1 h.2.1))
                clear ht1 hl1
                go_wp2
                exact ⟨⟨d + 1, by omega, by go_num, hideIt (by rw [HN.out]; exact HOz.out), HGz⟩, by simp [intOf]; omega⟩
            · have HN := hideIt (turn_skip HY.out (rsL_no (i := (j : Int)) (t := t) fun h => ht1 h.1))
              rw [show y.t = false by simpa using ht1] at e3
              clear ht1
              go_wp2
              exact ⟨⟨d + 1, by omega, by go_num, hideIt (by rw [HN.out]; exact HOz.out), HGz⟩, by simp [intOf]; omega⟩
          · obtain rfl : d = n := by omega
            obtain ⟨L1, hL1⟩ : ∃ L1, L1 = ls.map (rsL (j : Int) t) := ⟨_, rfl⟩
            have HO1 : Hid (wr.ownsRow W2.heap.size 52 4 (.slice al d cl) d (lcells L1)) := by
              have h1 := HOz.out
              rw [List.take_of_length_le (by omega), List.drop_eq_nil_of_le (by omega), List.append_nil, ← hL1] at h1
              exact h1
            have HL1 := hideIt hL1
            have hlen1 : Hid (L1.length = d) := by show _ = _; rw [hL1]; simp [hlen]
            clear HOz hL1 hlt
            go_wp2
            go_loopw [15] (fun q wr => ∃ k : Nat, k ≤ d ∧ q = .int .i64 (k : Int) ∧ Hid (wr.ownsRow W2.heap.size 52 4 (.slice al d cl) d (lcells ((L1.take k).map (srL (j : Int) t) ++ L1.drop k))) ∧ Hid (w9.grownBy wr (Value.slice al d cl).ownBlock) ∧ Hid (∀ y ∈ L1.take k, ¬ hitL (j : Int) t y)) (fun q _ => d - (intOf q).toNat)
            case atStart => exact ⟨0, by omega, rfl, hideIt (by simpa using HO1.out), HGz, fun y hy => by simp at hy⟩
            case round =>
              obtain ⟨k, hk, rfl, HOz, HGy, HNz⟩ := hrel
              clear HO1
              have GW : Good W2 wr := good_grown2 HGw.out HGy.out (fun g hg => (HOz.out.lt g hg).1)
              by_cases hlt : k < d
              · obtain ⟨gl, rfl⟩ : ∃ gl, al = some ⟨gl, 0, none⟩ := by
                  rcases HOz.out.2 with ⟨_, h0⟩ | ⟨g, cap, cur, hv, _⟩
                  · omega
                  · simp at hv
                    exact ⟨g, hv.1⟩
                obtain ⟨ba, off, y, rfl, hbl, hy, hat⟩ := (HLs.out wr GW).at hlt
                have hy1 : L1[k]? = some (rsL (j : Int) t y) := by rw [HL1.out, List.getElem?_map, hy]; rfl
                obtain ⟨q1, q2, q3, q4⟩ := rs_t (i := (j : Int)) (t := t) y
                have hya := turn_at (f := srL (j : Int) t) hy1
                have b1 : (0 : Int) ≤ (k : Int) := by omega
                have b2 : (k : Int) < (d : Int) := by omega
                obtain ⟨p0, p1, p2, p3⟩ := lcells_at _ k _ hya
                have hl4 : (lcells ((L1.take k).map (srL (j : Int) t) ++ L1.drop k)).length = d * 4 := HOz.out.1
                have e0 : wr.cell? ⟨gl, k * 4, none⟩ = some (.int .i64 y.a) := by rw [HOz.out.cellAt (k * 4) (by omega), ← q2]; exact p0
                have e1 : wr.cell? ⟨gl, k * 4 + 1, none⟩ = some (.int .i64 y.b) := by rw [HOz.out.cellAt (k * 4 + 1) (by omega), ← q3]; exact p1
                have e2 : wr.cell? ⟨gl, k * 4 + 2, none⟩ = some (.int .i64 (rsL (j : Int) t y).l) := by rw [HOz.out.cellAt (k * 4 + 2) (by omega)]; exact p2
                have e3 : wr.cell? ⟨gl, k * 4 + 3, none⟩ = some (.bool y.t) := by rw [HOz.out.cellAt (k * 4 + 3) (by omega), ← q1]; exact p3
                have o2 := hat.cl
                have o3 := hat.ct
                have cw := (HX.out wr GW).1.cell1
                have hqa := hideIt (HIn.out wr y.a HGy.out)
                have hqb := hideIt (HIn.out wr y.b HGy.out)
                have HY := hideIt hy1
                have HYa := hideIt hya
                clear p0 p1 p2 p3 hl4 hy hya hat hy1 hbl
                by_cases ht1 : y.t = true
                · have ht2 : (rsL (j : Int) t y).t = true := by rw [q1, ht1]
                  have HN := hideIt (turn_skip HY.out (srL_no (i := (j : Int)) (t := t) fun h => by have h1 : (rsL (j : Int) t y).t = false := h.1; rw [ht2] at h1; cases h1))
                  have HN2 := hideIt (nohit_step HY.out HNz.out fun h => by have h1 : (rsL (j : Int) t y).t = false := h.1; rw [ht2] at h1; cases h1)
                  rw [ht1] at o3
                  generalize decide (y.a ∈ t) = va at hqa
                  generalize decide (y.b ∈ t) = vb at hqb
                  clear ht1 ht2 q1 q2 q3 q4 e2 e3 o2 GW
                  go_wp2_with (first | (go_at_call 171; refine hqa.out.mono ?_; rintro x w1 ⟨rfl, hw1⟩; have hw1' := hw1.symm; subst hw1'; clear hqa) | (go_at_call 171; refine hqb.out.mono ?_; rintro x w1 ⟨rfl, hw1⟩; have hw1' := hw1.symm; subst hw1'; clear hqb))
                  exact ⟨⟨k + 1, by omega, by go_num, hideIt (by rw [HN.out]; exact HOz.out), HGy, HN2⟩, by simp [intOf]; omega⟩
                · have ht0 : y.t = false := by simpa using ht1
                  have hrs : rsL (j : Int) t y = y := rsL_no fun h => ht1 h.1
                  rw [hrs] at HY HYa e2
                  rw [ht0] at o3 e3
                  clear q1 q2 q3 q4 hrs ht1
                  by_cases hl1 : y.l = (j : Int)
                  · have d1 : (y.l != (j : Int)) = false := by simp [hl1]
                    by_cases ha : y.a ∈ t
                    · rw [decide_eq_true ha] at hqa
                      by_cases hb : y.b ∈ t
                      · rw [decide_eq_true hb] at hqb
                        have HN2 := hideIt (nohit_step HY.out HNz.out fun h => h.2.2.1 ⟨ha, hb⟩)
                        have HN := hideIt (turn_step (f := srL (j : Int) t) HY.out)
                        rw [srL_yes (i := (j : Int)) (t := t) ⟨ht0, hl1, ha, hb⟩, hup.out] at HN
                        have f2 := HOz.out.frozenAt (k * 4 + 2)
                        have hst := HOz.out.stored (k * 4 + 2) (.int .i64 ((j : Int) + 1))
                        rw [lcells_setL HYa.out] at hst
                        have HSt := hideIt hst
                        clear hst ha hb hl1 ht0 GW
                        go_wp2_with (first | (go_at_call 171; refine hqa.out.mono ?_; rintro x w1 ⟨rfl, hw1⟩; have hw1' := hw1.symm; subst hw1'; clear hqa) | (go_at_call 171; refine hqb.out.mono ?_; rintro x w1 ⟨rfl, hw1⟩; have hw1' := hw1.symm; subst hw1'; clear hqb))
                        exact ⟨⟨k + 1, by omega, by go_num, hideIt (by rw [← HN.out]; exact HSt.out.1), hideIt (grown_trans HGy.out HSt.out.2), HN2⟩, by simp [intOf]; omega⟩
                      · rw [decide_eq_false hb] at hqb
                        have HV : Hid (lvO m0 e (j : Int) ls = ((L1.take k).map (srL (j : Int) t) ++ ⟨y.a, y.b, y.l, true⟩ :: L1.drop (k + 1), some y.e)) := by
                          show _ = _
                          rw [← srO_hit HY.out ⟨ht0, hl1, fun h => hb h.2, .inl ha⟩ HNz.out, HL1.out, ← Ht.out]
                          rfl
                        have f3 := HOz.out.frozenAt (k * 4 + 3)
                        have hst := HOz.out.stored (k * 4 + 3) (.bool true)
                        rw [lcells_setT HYa.out, turn_put HY.out] at hst
                        have HF : Hid (SeA w (lvO m0 e (j : Int) ls) (.returned (.tuple #[.slice (some ⟨gl, 0, none⟩) d cl, .int .i64 (k : Int)])) (wr.setCell ⟨gl, k * 4 + 3, none⟩ (.bool true))) := by
                          rw [HV.out]
                          exact ⟨_, d, cl, (k : Int), rfl, own_mono hst.1 (by have := HZ2.out; omega), HG2.out.up (good_grown2 GW hst.2 (fun g hg => by simp at hg; subst hg; exact (HOz.out.lt _ rfl).1)), .inr ⟨k, ⟨y.a, y.b, y.l, true⟩, rfl, rfl, turn_last HY.out _⟩⟩
                        clear hst ha hb hl1 ht0 GW HV
                        go_wp2_with (first | (go_at_call 171; refine hqa.out.mono ?_; rintro x w1 ⟨rfl, hw1⟩; have hw1' := hw1.symm; subst hw1'; clear hqa) | (go_at_call 171; refine hqb.out.mono ?_; rintro x w1 ⟨rfl, hw1⟩; have hw1' := hw1.symm; subst hw1'; clear hqb))
                        exact bodyPost_ret (v := .tuple #[.slice (some ⟨gl, 0, none⟩) d cl, .int .i64 (k : Int)]) (by simp [results, Tryz.results87, go_sem]) rfl HF.out
                    · rw [decide_eq_false ha] at hqa
                      by_cases hb : y.b ∈ t
                      · rw [decide_eq_true hb] at hqb
                        have HV : Hid (lvO m0 e (j : Int) ls = ((L1.take k).map (srL (j : Int) t) ++ ⟨y.a, y.b, y.l, true⟩ :: L1.drop (k + 1), some y.e)) := by
                          show _ = _
                          rw [← srO_hit HY.out ⟨ht0, hl1, fun h => ha h.1, .inr hb⟩ HNz.out, HL1.out, ← Ht.out]
                          rfl
                        have f3 := HOz.out.frozenAt (k * 4 + 3)
                        have hst := HOz.out.stored (k * 4 + 3) (.bool true)
                        rw [lcells_setT HYa.out, turn_put HY.out] at hst
                        have HF : Hid (SeA w (lvO m0 e (j : Int) ls) (.returned (.tuple #[.slice (some ⟨gl, 0, none⟩) d cl, .int .i64 (k : Int)])) (wr.setCell ⟨gl, k * 4 + 3, none⟩ (.bool true))) := by
                          rw [HV.out]
                          exact ⟨_, d, cl, (k : Int), rfl, own_mono hst.1 (by have := HZ2.out; omega), HG2.out.up (good_grown2 GW hst.2 (fun g hg => by simp at hg; subst hg; exact (HOz.out.lt _ rfl).1)), .inr ⟨k, ⟨y.a, y.b, y.l, true⟩, rfl, rfl, turn_last HY.out _⟩⟩
                        clear hst ha hb hl1 ht0 GW HV
                        go_wp2_with (first | (go_at_call 171; refine hqa.out.mono ?_; rintro x w1 ⟨rfl, hw1⟩; have hw1' := hw1.symm; subst hw1'; clear hqa) | (go_at_call 171; refine hqb.out.mono ?_; rintro x w1 ⟨rfl, hw1⟩; have hw1' := hw1.symm; subst hw1'; clear hqb))
                        exact bodyPost_ret (v := .tuple #[.slice (some ⟨gl, 0, none⟩) d cl, .int .i64 (k : Int)]) (by simp [results, Tryz.results87, go_sem]) rfl HF.out
                      · rw [decide_eq_false hb] at hqb
                        have HN := hideIt (turn_skip HY.out (srL_no (i := (j : Int)) (t := t) fun h => ha h.2.2.1))
                        have HN2 := hideIt (nohit_step HY.out HNz.out fun h => by rcases h.2.2.2 with h | h; exact ha h; exact hb h)
                        clear ha hb hl1 ht0 GW
                        go_wp2_with (first | (go_at_call 171; refine hqa.out.mono ?_; rintro x w1 ⟨rfl, hw1⟩; have hw1' := hw1.symm; subst hw1'; clear hqa) | (go_at_call 171; refine hqb.out.mono ?_; rintro x w1 ⟨rfl, hw1⟩; have hw1' := hw1.symm; subst hw1'; clear hqb))
                        exact ⟨⟨k + 1, by omega, by go_num, hideIt (by rw [HN.out]; exact HOz.out), HGy, HN2⟩, by simp [intOf]; omega⟩
                  · have d1 : (y.l != (j : Int)) = true := by simp [hl1]
                    have HN := hideIt (turn_skip HY.out (srL_no (i := (j : Int)) (t := t) fun h => hl1 h.2.1))
                    have HN2 := hideIt (nohit_step HY.out HNz.out fun h => hl1 h.2.1)
                    generalize decide (y.a ∈ t) = va at hqa
                    generalize decide (y.b ∈ t) = vb at hqb
                    clear hl1 ht0 e2 e3 GW
                    go_wp2_with (first | (go_at_call 171; refine hqa.out.mono ?_; rintro x w1 ⟨rfl, hw1⟩; have hw1' := hw1.symm; subst hw1'; clear hqa) | (go_at_call 171; refine hqb.out.mono ?_; rintro x w1 ⟨rfl, hw1⟩; have hw1' := hw1.symm; subst hw1'; clear hqb))
                    exact ⟨⟨k + 1, by omega, by go_num, hideIt (by rw [HN.out]; exact HOz.out), HGy, HN2⟩, by simp [intOf]; omega⟩
              · obtain rfl : k = d := by omega
                have HF : Hid (SeA w (lvO m0 e (j : Int) ls) (.returned (.tuple #[.slice al k cl, .int .i64 (-1)])) wr) := by
                  have h1 := HNz.out
                  rw [List.take_of_length_le (by have := hlen1.out; omega), HL1.out, ← Ht.out] at h1
                  rw [lvO_none h1]
                  have h2 := HOz.out
                  rw [List.take_of_length_le (by have := hlen1.out; omega), List.drop_eq_nil_of_le (by have := hlen1.out; omega), List.append_nil, HL1.out, ← Ht.out] at h2
                  exact ⟨al, k, cl, -1, rfl, own_mono h2 (by have := HZ2.out; omega), HG2.out.up GW, .inl ⟨rfl, rfl⟩⟩
                clear HNz HOz HGy GW
                go_wp2
                exact bodyPost_ret (v := .tuple #[.slice al k cl, .int .i64 (-1)]) (by simp [results, Tryz.results87, go_sem]) rfl HF.out
    · have Ht : Hid (smT (lvT m0 ls (j : Int)) e = r1.t) := by
        show _ = _
        rw [← HTT.out, HSm.out, if_neg hlt]
      have HIn : Hid (∀ u v, w9.grownBy u (Value.slice al n cl).ownBlock → Calls Tryz.prog 171 #[.slice a7 m7 c7, .int .i64 v] u fun e w' => e = .returned (.bool (decide (v ∈ r1.t))) ∧ w' = u) := fun u v hu => (l05In_any (vsL r1.t) v m7 a7 c7 (by have := HM7.out; omega) u (is_row HI7.out hu HL7.out)).mono fun _ _ ⟨h1, h2⟩ => ⟨by rw [h1]; exact bret (vs_mem_of HTB.out.1), h2⟩
      obtain ⟨t, ht⟩ : ∃ t, t = r1.t := ⟨_, rfl⟩
      rw [← ht] at Ht HIn
      clear HSm HTT HI7 HI9 HM7 HM9 HL7 HL9 HTB ht
      have HOl := hideIt (own_up HOc.out (Good.up HGc5.out HGs.out))
      have HGw := hideIt ((HGc.out.up HGc5.out).up HGs.out)
      clear HGs HOc HGc HGc5

      by_cases hj : 4 < (j : Int) + 1
      · have hup : Hid (upL (j : Int) = 4) := by show _ = _; unfold upL; rw [if_pos hj]
        go_wp2
        clear hj hlt
        go_loopw [14] (fun q wr => ∃ d : Nat, d ≤ n ∧ q = .int .i64 (d : Int) ∧ Hid (wr.ownsRow W2.heap.size 52 4 (.slice al n cl) n (lcells ((ls.take d).map (rsL (j : Int) t) ++ ls.drop d))) ∧ Hid (w9.grownBy wr (Value.slice al n cl).ownBlock)) (fun q _ => n - (intOf q).toNat)
        case atStart => exact ⟨0, by omega, rfl, hideIt (by simpa using HOl.out), World.grownBy.refl _ _⟩
        case round =>
          obtain ⟨d, hd, rfl, HOz, HGz⟩ := hrel
          clear HOl
          by_cases hlt : d < n
          · obtain ⟨gl, rfl⟩ : ∃ gl, al = some ⟨gl, 0, none⟩ := by
              rcases HOz.out.2 with ⟨_, h0⟩ | ⟨g, cap, cur, hv, _⟩
              · omega
              · simp at hv
                exact ⟨g, hv.1⟩
            obtain ⟨y, hy⟩ : ∃ y, ls[d]? = some y := ⟨ls[d]'(by omega), List.getElem?_eq_getElem (by omega)⟩
            have hya := turn_at (f := rsL (j : Int) t) hy
            have b1 : (0 : Int) ≤ (d : Int) := by omega
            have b2 : (d : Int) < (n : Int) := by omega
            obtain ⟨p0, p1, p2, p3⟩ := lcells_at _ d y hya
            have hl4 : (lcells ((ls.take d).map (rsL (j : Int) t) ++ ls.drop d)).length = n * 4 := HOz.out.1
            have e0 : wr.cell? ⟨gl, d * 4, none⟩ = some (.int .i64 y.a) := by rw [HOz.out.cellAt (d * 4) (by omega)]; exact p0
            have e2 : wr.cell? ⟨gl, d * 4 + 2, none⟩ = some (.int .i64 y.l) := by rw [HOz.out.cellAt (d * 4 + 2) (by omega)]; exact p2
            have e3 : wr.cell? ⟨gl, d * 4 + 3, none⟩ = some (.bool y.t) := by rw [HOz.out.cellAt (d * 4 + 3) (by omega)]; exact p3
            have f2 := HOz.out.frozenAt (d * 4 + 2)
            have hst := HOz.out.stored (d * 4 + 2) (.int .i64 (4))
            rw [lcells_setL hya] at hst
            have HSt := hideIt hst
            have hq := hideIt (HIn.out wr y.a HGz.out)
            have HY := hideIt hy
            clear p0 p1 p2 p3 hl4 hst hy hya
            by_cases ht1 : y.t = true
            · rw [ht1] at e3
              by_cases hl1 : y.l = (j : Int)
              · have d1 : (y.l == (j : Int)) = true := by simp [hl1]
                by_cases ha1 : y.a ∈ t
                · have HN := hideIt (turn_step (f := rsL (j : Int) t) HY.out)
                  rw [rsL_yes (i := (j : Int)) (t := t) ⟨ht1, hl1, ha1⟩, hup.out] at HN
                  rw [decide_eq_true ha1] at hq
                  clear ht1 hl1 ha1
                  go_wp2_with (go_at_call 171; refine hq.out.mono ?_; rintro x w1 ⟨rfl, hw1⟩; have hw1' := hw1.symm; subst hw1'; refine Hid.out ?_)
                  refine (show ∀ {p : Prop}, p → Hid p from fun h => h) ?_
                  go_wp2
                  exact ⟨⟨d + 1, by omega, by go_num, hideIt (by rw [← HN.out]; exact HSt.out.1), hideIt (grown_trans HGz.out HSt.out.2)⟩, by simp [intOf]; omega⟩
                · have HN := hideIt (turn_skip HY.out (rsL_no (i := (j : Int)) (t := t) fun h => ha1 h.2.2))
                  rw [decide_eq_false ha1] at hq
                  clear ht1 hl1 ha1
                  go_wp2_with (go_at_call 171; refine hq.out.mono ?_; rintro x w1 ⟨rfl, hw1⟩; have hw1' := hw1.symm; subst hw1'; refine Hid.out ?_)
                  refine (show ∀ {p : Prop}, p → Hid p from fun h => h) ?_
                  go_wp2
                  exact ⟨⟨d + 1, by omega, by go_num, hideIt (by rw [HN.out]; exact HOz.out), HGz⟩, by simp [intOf]; omega⟩
              · have d1 : (y.l == (j : Int)) = false := by simp [hl1]
                have HN := hideIt (turn_skip HY.out (rsL_no (i := (j : Int)) (t := t) fun h => hl1 h.2.1))
                clear ht1 hl1
                go_wp2
                exact ⟨⟨d + 1, by omega, by go_num, hideIt (by rw [HN.out]; exact HOz.out), HGz⟩, by simp [intOf]; omega⟩
            · have HN := hideIt (turn_skip HY.out (rsL_no (i := (j : Int)) (t := t) fun h => ht1 h.1))
              rw [show y.t = false by simpa using ht1] at e3
              clear ht1
              go_wp2
              exact ⟨⟨d + 1, by omega, by go_num, hideIt (by rw [HN.out]; exact HOz.out), HGz⟩, by simp [intOf]; omega⟩
          · obtain rfl : d = n := by omega
            obtain ⟨L1, hL1⟩ : ∃ L1, L1 = ls.map (rsL (j : Int) t) := ⟨_, rfl⟩
            have HO1 : Hid (wr.ownsRow W2.heap.size 52 4 (.slice al d cl) d (lcells L1)) := by
              have h1 := HOz.out
              rw [List.take_of_length_le (by omega), List.drop_eq_nil_of_le (by omega), List.append_nil, ← hL1] at h1
              exact h1
            have HL1 := hideIt hL1
            have hlen1 : Hid (L1.length = d) := by show _ = _; rw [hL1]; simp [hlen]
            clear HOz hL1 hlt
            go_wp2
            go_loopw [15] (fun q wr => ∃ k : Nat, k ≤ d ∧ q = .int .i64 (k : Int) ∧ Hid (wr.ownsRow W2.heap.size 52 4 (.slice al d cl) d (lcells ((L1.take k).map (srL (j : Int) t) ++ L1.drop k))) ∧ Hid (w9.grownBy wr (Value.slice al d cl).ownBlock) ∧ Hid (∀ y ∈ L1.take k, ¬ hitL (j : Int) t y)) (fun q _ => d - (intOf q).toNat)
            case atStart => exact ⟨0, by omega, rfl, hideIt (by simpa using HO1.out), HGz, fun y hy => by simp at hy⟩
            case round =>
              obtain ⟨k, hk, rfl, HOz, HGy, HNz⟩ := hrel
              clear HO1
              have GW : Good W2 wr := good_grown2 HGw.out HGy.out (fun g hg => (HOz.out.lt g hg).1)
              by_cases hlt : k < d
              · obtain ⟨gl, rfl⟩ : ∃ gl, al = some ⟨gl, 0, none⟩ := by
                  rcases HOz.out.2 with ⟨_, h0⟩ | ⟨g, cap, cur, hv, _⟩
                  · omega
                  · simp at hv
                    exact ⟨g, hv.1⟩
                obtain ⟨ba, off, y, rfl, hbl, hy, hat⟩ := (HLs.out wr GW).at hlt
                have hy1 : L1[k]? = some (rsL (j : Int) t y) := by rw [HL1.out, List.getElem?_map, hy]; rfl
                obtain ⟨q1, q2, q3, q4⟩ := rs_t (i := (j : Int)) (t := t) y
                have hya := turn_at (f := srL (j : Int) t) hy1
                have b1 : (0 : Int) ≤ (k : Int) := by omega
                have b2 : (k : Int) < (d : Int) := by omega
                obtain ⟨p0, p1, p2, p3⟩ := lcells_at _ k _ hya
                have hl4 : (lcells ((L1.take k).map (srL (j : Int) t) ++ L1.drop k)).length = d * 4 := HOz.out.1
                have e0 : wr.cell? ⟨gl, k * 4, none⟩ = some (.int .i64 y.a) := by rw [HOz.out.cellAt (k * 4) (by omega), ← q2]; exact p0
                have e1 : wr.cell? ⟨gl, k * 4 + 1, none⟩ = some (.int .i64 y.b) := by rw [HOz.out.cellAt (k * 4 + 1) (by omega), ← q3]; exact p1
                have e2 : wr.cell? ⟨gl, k * 4 + 2, none⟩ = some (.int .i64 (rsL (j : Int) t y).l) := by rw [HOz.out.cellAt (k * 4 + 2) (by omega)]; exact p2
                have e3 : wr.cell? ⟨gl, k * 4 + 3, none⟩ = some (.bool y.t) := by rw [HOz.out.cellAt (k * 4 + 3) (by omega), ← q1]; exact p3
                have o2 := hat.cl
                have o3 := hat.ct
                have cw := (HX.out wr GW).1.cell1
                have hqa := hideIt (HIn.out wr y.a HGy.out)
                have hqb := hideIt (HIn.out wr y.b HGy.out)
                have HY := hideIt hy1
                have HYa := hideIt hya
                clear p0 p1 p2 p3 hl4 hy hya hat hy1 hbl
                by_cases ht1 : y.t = true
                · have ht2 : (rsL (j : Int) t y).t = true := by rw [q1, ht1]
                  have HN := hideIt (turn_skip HY.out (srL_no (i := (j : Int)) (t := t) fun h => by have h1 : (rsL (j : Int) t y).t = false := h.1; rw [ht2] at h1; cases h1))
                  have HN2 := hideIt (nohit_step HY.out HNz.out fun h => by have h1 : (rsL (j : Int) t y).t = false := h.1; rw [ht2] at h1; cases h1)
                  rw [ht1] at o3
                  generalize decide (y.a ∈ t) = va at hqa
                  generalize decide (y.b ∈ t) = vb at hqb
                  clear ht1 ht2 q1 q2 q3 q4 e2 e3 o2 GW
                  go_wp2_with (first | (go_at_call 171; refine hqa.out.mono ?_; rintro x w1 ⟨rfl, hw1⟩; have hw1' := hw1.symm; subst hw1'; clear hqa) | (go_at_call 171; refine hqb.out.mono ?_; rintro x w1 ⟨rfl, hw1⟩; have hw1' := hw1.symm; subst hw1'; clear hqb))
                  exact ⟨⟨k + 1, by omega, by go_num, hideIt (by rw [HN.out]; exact HOz.out), HGy, HN2⟩, by simp [intOf]; omega⟩
                · have ht0 : y.t = false := by simpa using ht1
                  have hrs : rsL (j : Int) t y = y := rsL_no fun h => ht1 h.1
                  rw [hrs] at HY HYa e2
                  rw [ht0] at o3 e3
                  clear q1 q2 q3 q4 hrs ht1
                  by_cases hl1 : y.l = (j : Int)
                  · have d1 : (y.l != (j : Int)) = false := by simp [hl1]
                    by_cases ha : y.a ∈ t
                    · rw [decide_eq_true ha] at hqa
                      by_cases hb : y.b ∈ t
                      · rw [decide_eq_true hb] at hqb
                        have HN2 := hideIt (nohit_step HY.out HNz.out fun h => h.2.2.1 ⟨ha, hb⟩)
                        have HN := hideIt (turn_step (f := srL (j : Int) t) HY.out)
                        rw [srL_yes (i := (j : Int)) (t := t) ⟨ht0, hl1, ha, hb⟩, hup.out] at HN
                        have f2 := HOz.out.frozenAt (k * 4 + 2)
                        have hst := HOz.out.stored (k * 4 + 2) (.int .i64 (4))
                        rw [lcells_setL HYa.out] at hst
                        have HSt := hideIt hst
                        clear hst ha hb hl1 ht0 GW
                        go_wp2_with (first | (go_at_call 171; refine hqa.out.mono ?_; rintro x w1 ⟨rfl, hw1⟩; have hw1' := hw1.symm; subst hw1'; clear hqa) | (go_at_call 171; refine hqb.out.mono ?_; rintro x w1 ⟨rfl, hw1⟩; have hw1' := hw1.symm; subst hw1'; clear hqb))
                        exact ⟨⟨k + 1, by omega, by go_num, hideIt (by rw [← HN.out]; exact HSt.out.1), hideIt (grown_trans HGy.out HSt.out.2), HN2⟩, by simp [intOf]; omega⟩
                      · rw [decide_eq_false hb] at hqb
                        have HV : Hid (lvO m0 e (j : Int) ls = ((L1.take k).map (srL (j : Int) t) ++ ⟨y.a, y.b, y.l, true⟩ :: L1.drop (k + 1), some y.e)) := by
                          show _ = _
                          rw [← srO_hit HY.out ⟨ht0, hl1, fun h => hb h.2, .inl ha⟩ HNz.out, HL1.out, ← Ht.out]
                          rfl
                        have f3 := HOz.out.frozenAt (k * 4 + 3)
                        have hst := HOz.out.stored (k * 4 + 3) (.bool true)
                        rw [lcells_setT HYa.out, turn_put HY.out] at hst
                        have HF : Hid (SeA w (lvO m0 e (j : Int) ls) (.returned (.tuple #[.slice (some ⟨gl, 0, none⟩) d cl, .int .i64 (k : Int)])) (wr.setCell ⟨gl, k * 4 + 3, none⟩ (.bool true))) := by
                          rw [HV.out]
                          exact ⟨_, d, cl, (k : Int), rfl, own_mono hst.1 (by have := HZ2.out; omega), HG2.out.up (good_grown2 GW hst.2 (fun g hg => by simp at hg; subst hg; exact (HOz.out.lt _ rfl).1)), .inr ⟨k, ⟨y.a, y.b, y.l, true⟩, rfl, rfl, turn_last HY.out _⟩⟩
                        clear hst ha hb hl1 ht0 GW HV
                        go_wp2_with (first | (go_at_call 171; refine hqa.out.mono ?_; rintro x w1 ⟨rfl, hw1⟩; have hw1' := hw1.symm; subst hw1'; clear hqa) | (go_at_call 171; refine hqb.out.mono ?_; rintro x w1 ⟨rfl, hw1⟩; have hw1' := hw1.symm; subst hw1'; clear hqb))
                        exact bodyPost_ret (v := .tuple #[.slice (some ⟨gl, 0, none⟩) d cl, .int .i64 (k : Int)]) (by simp [results, Tryz.results87, go_sem]) rfl HF.out
                    · rw [decide_eq_false ha] at hqa
                      by_cases hb : y.b ∈ t
                      · rw [decide_eq_true hb] at hqb
                        have HV : Hid (lvO m0 e (j : Int) ls = ((L1.take k).map (srL (j : Int) t) ++ ⟨y.a, y.b, y.l, true⟩ :: L1.drop (k + 1), some y.e)) := by
                          show _ = _
                          rw [← srO_hit HY.out ⟨ht0, hl1, fun h => ha h.1, .inr hb⟩ HNz.out, HL1.out, ← Ht.out]
                          rfl
                        have f3 := HOz.out.frozenAt (k * 4 + 3)
                        have hst := HOz.out.stored (k * 4 + 3) (.bool true)
                        rw [lcells_setT HYa.out, turn_put HY.out] at hst
                        have HF : Hid (SeA w (lvO m0 e (j : Int) ls) (.returned (.tuple #[.slice (some ⟨gl, 0, none⟩) d cl, .int .i64 (k : Int)])) (wr.setCell ⟨gl, k * 4 + 3, none⟩ (.bool true))) := by
                          rw [HV.out]
                          exact ⟨_, d, cl, (k : Int), rfl, own_mono hst.1 (by have := HZ2.out; omega), HG2.out.up (good_grown2 GW hst.2 (fun g hg => by simp at hg; subst hg; exact (HOz.out.lt _ rfl).1)), .inr ⟨k, ⟨y.a, y.b, y.l, true⟩, rfl, rfl, turn_last HY.out _⟩⟩
                        clear hst ha hb hl1 ht0 GW HV
                        go_wp2_with (first | (go_at_call 171; refine hqa.out.mono ?_; rintro x w1 ⟨rfl, hw1⟩; have hw1' := hw1.symm; subst hw1'; clear hqa) | (go_at_call 171; refine hqb.out.mono ?_; rintro x w1 ⟨rfl, hw1⟩; have hw1' := hw1.symm; subst hw1'; clear hqb))
                        exact bodyPost_ret (v := .tuple #[.slice (some ⟨gl, 0, none⟩) d cl, .int .i64 (k : Int)]) (by simp [results, Tryz.results87, go_sem]) rfl HF.out
                      · rw [decide_eq_false hb] at hqb
                        have HN := hideIt (turn_skip HY.out (srL_no (i := (j : Int)) (t := t) fun h => ha h.2.2.1))
                        have HN2 := hideIt (nohit_step HY.out HNz.out fun h => by rcases h.2.2.2 with h | h; exact ha h; exact hb h)
                        clear ha hb hl1 ht0 GW
                        go_wp2_with (first | (go_at_call 171; refine hqa.out.mono ?_; rintro x w1 ⟨rfl, hw1⟩; have hw1' := hw1.symm; subst hw1'; clear hqa) | (go_at_call 171; refine hqb.out.mono ?_; rintro x w1 ⟨rfl, hw1⟩; have hw1' := hw1.symm; subst hw1'; clear hqb))
                        exact ⟨⟨k + 1, by omega, by go_num, hideIt (by rw [HN.out]; exact HOz.out), HGy, HN2⟩, by simp [intOf]; omega⟩
                  · have d1 : (y.l != (j : Int)) = true := by simp [hl1]
                    have HN := hideIt (turn_skip HY.out (srL_no (i := (j : Int)) (t := t) fun h => hl1 h.2.1))
                    have HN2 := hideIt (nohit_step HY.out HNz.out fun h => hl1 h.2.1)
                    generalize decide (y.a ∈ t) = va at hqa
                    generalize decide (y.b ∈ t) = vb at hqb
                    clear hl1 ht0 e2 e3 GW
                    go_wp2_with (first | (go_at_call 171; refine hqa.out.mono ?_; rintro x w1 ⟨rfl, hw1⟩; have hw1' := hw1.symm; subst hw1'; clear hqa) | (go_at_call 171; refine hqb.out.mono ?_; rintro x w1 ⟨rfl, hw1⟩; have hw1' := hw1.symm; subst hw1'; clear hqb))
                    exact ⟨⟨k + 1, by omega, by go_num, hideIt (by rw [HN.out]; exact HOz.out), HGy, HN2⟩, by simp [intOf]; omega⟩
              · obtain rfl : k = d := by omega
                have HF : Hid (SeA w (lvO m0 e (j : Int) ls) (.returned (.tuple #[.slice al k cl, .int .i64 (-1)])) wr) := by
                  have h1 := HNz.out
                  rw [List.take_of_length_le (by have := hlen1.out; omega), HL1.out, ← Ht.out] at h1
                  rw [lvO_none h1]
                  have h2 := HOz.out
                  rw [List.take_of_length_le (by have := hlen1.out; omega), List.drop_eq_nil_of_le (by have := hlen1.out; omega), List.append_nil, HL1.out, ← Ht.out] at h2
                  exact ⟨al, k, cl, -1, rfl, own_mono h2 (by have := HZ2.out; omega), HG2.out.up GW, .inl ⟨rfl, rfl⟩⟩
                clear HNz HOz HGy GW
                go_wp2
                exact bodyPost_ret (v := .tuple #[.slice al k cl, .int .i64 (-1)]) (by simp [results, Tryz.results87, go_sem]) rfl HF.out
      · have hup : Hid (upL (j : Int) = (j : Int) + 1) := by show _ = _; unfold upL; rw [if_neg hj]
        go_wp2
        clear hj hlt
        go_loopw [14] (fun q wr => ∃ d : Nat, d ≤ n ∧ q = .int .i64 (d : Int) ∧ Hid (wr.ownsRow W2.heap.size 52 4 (.slice al n cl) n (lcells ((ls.take d).map (rsL (j : Int) t) ++ ls.drop d))) ∧ Hid (w9.grownBy wr (Value.slice al n cl).ownBlock)) (fun q _ => n - (intOf q).toNat)
        case atStart => exact ⟨0, by omega, rfl, hideIt (by simpa using HOl.out), World.grownBy.refl _ _⟩
        case round =>
          obtain ⟨d, hd, rfl, HOz, HGz⟩ := hrel
          clear HOl
          by_cases hlt : d < n
          · obtain ⟨gl, rfl⟩ : ∃ gl, al = some ⟨gl, 0, none⟩ := by
              rcases HOz.out.2 with ⟨_, h0⟩ | ⟨g, cap, cur, hv, _⟩
              · omega
              · simp at hv
                exact ⟨g, hv.1⟩
            obtain ⟨y, hy⟩ : ∃ y, ls[d]? = some y := ⟨ls[d]'(by omega), List.getElem?_eq_getElem (by omega)⟩
            have hya := turn_at (f := rsL (j : Int) t) hy
            have b1 : (0 : Int) ≤ (d : Int) := by omega
            have b2 : (d : Int) < (n : Int) := by omega
            obtain ⟨p0, p1, p2, p3⟩ := lcells_at _ d y hya
            have hl4 : (lcells ((ls.take d).map (rsL (j : Int) t) ++ ls.drop d)).length = n * 4 := HOz.out.1
            have e0 : wr.cell? ⟨gl, d * 4, none⟩ = some (.int .i64 y.a) := by rw [HOz.out.cellAt (d * 4) (by omega)]; exact p0
            have e2 : wr.cell? ⟨gl, d * 4 + 2, none⟩ = some (.int .i64 y.l) := by rw [HOz.out.cellAt (d * 4 + 2) (by omega)]; exact p2
            have e3 : wr.cell? ⟨gl, d * 4 + 3, none⟩ = some (.bool y.t) := by rw [HOz.out.cellAt (d * 4 + 3) (by omega)]; exact p3
            have f2 := HOz.out.frozenAt (d * 4 + 2)
            have hst := HOz.out.stored (d * 4 + 2) (.int .i64 ((j : Int) + 1))
            rw [lcells_setL hya] at hst
            have HSt := hideIt hst
            have hq := hideIt (HIn.out wr y.a HGz.out)
            have HY := hideIt hy
            clear p0 p1 p2 p3 hl4 hst hy hya
            by_cases ht1 : y.t = true
            · rw [ht1] at e3
              by_cases hl1 : y.l = (j : Int)
              · have d1 : (y.l == (j : Int)) = true := by simp [hl1]
                by_cases ha1 : y.a ∈ t
                · have HN := hideIt (turn_step (f := rsL (j : Int) t) HY.out)
                  rw [rsL_yes (i := (j : Int)) (t := t) ⟨ht1, hl1, ha1⟩, hup.out] at HN
                  rw [decide_eq_true ha1] at hq
                  clear ht1 hl1 ha1
                  go_wp2_with (go_at_call 171; refine hq.out.mono ?_; rintro x w1 ⟨rfl, hw1⟩; have hw1' := hw1.symm; subst hw1'; refine Hid.out ?_)
                  refine (show ∀ {p : Prop}, p → Hid p from fun h => h) ?_
                  go_wp2
                  exact ⟨⟨d + 1, by omega, by go_num, hideIt (by rw [← HN.out]; exact HSt.out.1), hideIt (grown_trans HGz.out HSt.out.2)⟩, by simp [intOf]; omega⟩
                · have HN := hideIt (turn_skip HY.out (rsL_no (i := (j : Int)) (t := t) fun h => ha1 h.2.2))
                  rw [decide_eq_false ha1] at hq
                  clear ht1 hl1 ha1
                  go_wp2_with (go_at_call 171; refine hq.out.mono ?_; rintro x w1 ⟨rfl, hw1⟩; have hw1' := hw1.symm; subst hw1'; refine Hid.out ?_)
                  refine (show ∀ {p : Prop}, p → Hid p from fun h => h) ?_
                  go_wp2
                  exact ⟨⟨d + 1, by omega, by go_num, hideIt (by rw [HN.out]; exact HOz.out), HGz⟩, by simp [intOf]; omega⟩
              · have d1 : (y.l == (j : Int)) = false := by simp [hl1]
                have HN := hideIt (turn_skip HY.out (rsL_no (i := (j : Int)) (t := t) fun h => hl1 h.2.1))
                clear ht1 hl1
                go_wp2
                exact ⟨⟨d + 1, by omega, by go_num, hideIt (by rw [HN.out]; exact HOz.out), HGz⟩, by simp [intOf]; omega⟩
            · have HN := hideIt (turn_skip HY.out (rsL_no (i := (j : Int)) (t := t) fun h => ht1 h.1))
              rw [show y.t = false by simpa using ht1] at e3
              clear ht1
              go_wp2
              exact ⟨⟨d + 1, by omega, by go_num, hideIt (by rw [HN.out]; exact HOz.out), HGz⟩, by simp [intOf]; omega⟩
          · obtain rfl : d = n := by omega
            obtain ⟨L1, hL1⟩ : ∃ L1, L1 = ls.map (rsL (j : Int) t) := ⟨_, rfl⟩
            have HO1 : Hid (wr.ownsRow W2.heap.size 52 4 (.slice al d cl) d (lcells L1)) := by
              have h1 := HOz.out
              rw [List.take_of_length_le (by omega), List.drop_eq_nil_of_le (by omega), List.append_nil, ← hL1] at h1
              exact h1
            have HL1 := hideIt hL1
            have hlen1 : Hid (L1.length = d) := by show _ = _; rw [hL1]; simp [hlen]
            clear HOz hL1 hlt
            go_wp2
            go_loopw [15] (fun q wr => ∃ k : Nat, k ≤ d ∧ q = .int .i64 (k : Int) ∧ Hid (wr.ownsRow W2.heap.size 52 4 (.slice al d cl) d (lcells ((L1.take k).map (srL (j : Int) t) ++ L1.drop k))) ∧ Hid (w9.grownBy wr (Value.slice al d cl).ownBlock) ∧ Hid (∀ y ∈ L1.take k, ¬ hitL (j : Int) t y)) (fun q _ => d - (intOf q).toNat)
            case atStart => exact ⟨0, by omega, rfl, hideIt (by simpa using HO1.out), HGz, fun y hy => by simp at hy⟩
            case round =>
              obtain ⟨k, hk, rfl, HOz, HGy, HNz⟩ := hrel
              clear HO1
              have GW : Good W2 wr := good_grown2 HGw.out HGy.out (fun g hg => (HOz.out.lt g hg).1)
              by_cases hlt : k < d
              · obtain ⟨gl, rfl⟩ : ∃ gl, al = some ⟨gl, 0, none⟩ := by
                  rcases HOz.out.2 with ⟨_, h0⟩ | ⟨g, cap, cur, hv, _⟩
                  · omega
                  · simp at hv
                    exact ⟨g, hv.1⟩
                obtain ⟨ba, off, y, rfl, hbl, hy, hat⟩ := (HLs.out wr GW).at hlt
                have hy1 : L1[k]? = some (rsL (j : Int) t y) := by rw [HL1.out, List.getElem?_map, hy]; rfl
                obtain ⟨q1, q2, q3, q4⟩ := rs_t (i := (j : Int)) (t := t) y
                have hya := turn_at (f := srL (j : Int) t) hy1
                have b1 : (0 : Int) ≤ (k : Int) := by omega
                have b2 : (k : Int) < (d : Int) := by omega
                obtain ⟨p0, p1, p2, p3⟩ := lcells_at _ k _ hya
                have hl4 : (lcells ((L1.take k).map (srL (j : Int) t) ++ L1.drop k)).length = d * 4 := HOz.out.1
                have e0 : wr.cell? ⟨gl, k * 4, none⟩ = some (.int .i64 y.a) := by rw [HOz.out.cellAt (k * 4) (by omega), ← q2]; exact p0
                have e1 : wr.cell? ⟨gl, k * 4 + 1, none⟩ = some (.int .i64 y.b) := by rw [HOz.out.cellAt (k * 4 + 1) (by omega), ← q3]; exact p1
                have e2 : wr.cell? ⟨gl, k * 4 + 2, none⟩ = some (.int .i64 (rsL (j : Int) t y).l) := by rw [HOz.out.cellAt (k * 4 + 2) (by omega)]; exact p2
                have e3 : wr.cell? ⟨gl, k * 4 + 3, none⟩ = some (.bool y.t) := by rw [HOz.out.cellAt (k * 4 + 3) (by omega), ← q1]; exact p3
                have o2 := hat.cl
                have o3 := hat.ct
                have cw := (HX.out wr GW).1.cell1
                have hqa := hideIt (HIn.out wr y.a HGy.out)
                have hqb := hideIt (HIn.out wr y.b HGy.out)
                have HY := hideIt hy1
                have HYa := hideIt hya
                clear p0 p1 p2 p3 hl4 hy hya hat hy1 hbl
                by_cases ht1 : y.t = true
                · have ht2 : (rsL (j : Int) t y).t = true := by rw [q1, ht1]
                  have HN := hideIt (turn_skip HY.out (srL_no (i := (j : Int)) (t := t) fun h => by have h1 : (rsL (j : Int) t y).t = false := h.1; rw [ht2] at h1; cases h1))
                  have HN2 := hideIt (nohit_step HY.out HNz.out fun h => by have h1 : (rsL (j : Int) t y).t = false := h.1; rw [ht2] at h1; cases h1)
                  rw [ht1] at o3
                  generalize decide (y.a ∈ t) = va at hqa
                  generalize decide (y.b ∈ t) = vb at hqb
                  clear ht1 ht2 q1 q2 q3 q4 e2 e3 o2 GW
                  go_wp2_with (first | (go_at_call 171; refine hqa.out.mono ?_; rintro x w1 ⟨rfl, hw1⟩; have hw1' := hw1.symm; subst hw1'; clear hqa) | (go_at_call 171; refine hqb.out.mono ?_; rintro x w1 ⟨rfl, hw1⟩; have hw1' := hw1.symm; subst hw1'; clear hqb))
                  exact ⟨⟨k + 1, by omega, by go_num, hideIt (by rw [HN.out]; exact HOz.out), HGy, HN2⟩, by simp [intOf]; omega⟩
                · have ht0 : y.t = false := by simpa using ht1
                  have hrs : rsL (j : Int) t y = y := rsL_no fun h => ht1 h.1
                  rw [hrs] at HY HYa e2
                  rw [ht0] at o3 e3
                  clear q1 q2 q3 q4 hrs ht1
                  by_cases hl1 : y.l = (j : Int)
                  · have d1 : (y.l != (j : Int)) = false := by simp [hl1]
                    by_cases ha : y.a ∈ t
                    · rw [decide_eq_true ha] at hqa
                      by_cases hb : y.b ∈ t
                      · rw [decide_eq_true hb] at hqb
                        have HN2 := hideIt (nohit_step HY.out HNz.out fun h => h.2.2.1 ⟨ha, hb⟩)
                        have HN := hideIt (turn_step (f := srL (j : Int) t) HY.out)
                        rw [srL_yes (i := (j : Int)) (t := t) ⟨ht0, hl1, ha, hb⟩, hup.out] at HN
                        have f2 := HOz.out.frozenAt (k * 4 + 2)
                        have hst := HOz.out.stored (k * 4 + 2) (.int .i64 ((j : Int) + 1))
                        rw [lcells_setL HYa.out] at hst
                        have HSt := hideIt hst
                        clear hst ha hb hl1 ht0 GW
                        go_wp2_with (first | (go_at_call 171; refine hqa.out.mono ?_; rintro x w1 ⟨rfl, hw1⟩; have hw1' := hw1.symm; subst hw1'; clear hqa) | (go_at_call 171; refine hqb.out.mono ?_; rintro x w1 ⟨rfl, hw1⟩; have hw1' := hw1.symm; subst hw1'; clear hqb))
                        exact ⟨⟨k + 1, by omega, by go_num, hideIt (by rw [← HN.out]; exact HSt.out.1), hideIt (grown_trans HGy.out HSt.out.2), HN2⟩, by simp [intOf]; omega⟩
                      · rw [decide_eq_false hb] at hqb
                        have HV : Hid (lvO m0 e (j : Int) ls = ((L1.take k).map (srL (j : Int) t) ++ ⟨y.a, y.b, y.l, true⟩ :: L1.drop (k + 1), some y.e)) := by
                          show _ = _
                          rw [← srO_hit HY.out ⟨ht0, hl1, fun h => hb h.2, .inl ha⟩ HNz.out, HL1.out, ← Ht.out]
                          rfl
                        have f3 := HOz.out.frozenAt (k * 4 + 3)
                        have hst := HOz.out.stored (k * 4 + 3) (.bool true)
                        rw [lcells_setT HYa.out, turn_put HY.out] at hst
                        have HF : Hid (SeA w (lvO m0 e (j : Int) ls) (.returned (.tuple #[.slice (some ⟨gl, 0, none⟩) d cl, .int .i64 (k : Int)])) (wr.setCell ⟨gl, k * 4 + 3, none⟩ (.bool true))) := by
                          rw [HV.out]
                          exact ⟨_, d, cl, (k : Int), rfl, own_mono hst.1 (by have := HZ2.out; omega), HG2.out.up (good_grown2 GW hst.2 (fun g hg => by simp at hg; subst hg; exact (HOz.out.lt _ rfl).1)), .inr ⟨k, ⟨y.a, y.b, y.l, true⟩, rfl, rfl, turn_last HY.out _⟩⟩
                        clear hst ha hb hl1 ht0 GW HV
                        go_wp2_with (first | (go_at_call 171; refine hqa.out.mono ?_; rintro x w1 ⟨rfl, hw1⟩; have hw1' := hw1.symm; subst hw1'; clear hqa) | (go_at_call 171; refine hqb.out.mono ?_; rintro x w1 ⟨rfl, hw1⟩; have hw1' := hw1.symm; subst hw1'; clear hqb))
                        exact bodyPost_ret (v := .tuple #[.slice (some ⟨gl, 0, none⟩) d cl, .int .i64 (k : Int)]) (by simp [results, Tryz.results87, go_sem]) rfl HF.out
                    · rw [decide_eq_false ha] at hqa
                      by_cases hb : y.b ∈ t
                      · rw [decide_eq_true hb] at hqb
                        have HV : Hid (lvO m0 e (j : Int) ls = ((L1.take k).map (srL (j : Int) t) ++ ⟨y.a, y.b, y.l, true⟩ :: L1.drop (k + 1), some y.e)) := by
                          show _ = _
                          rw [← srO_hit HY.out ⟨ht0, hl1, fun h => ha h.1, .inr hb⟩ HNz.out, HL1.out, ← Ht.out]
                          rfl
                        have f3 := HOz.out.frozenAt (k * 4 + 3)
                        have hst := HOz.out.stored (k * 4 + 3) (.bool true)
                        rw [lcells_setT HYa.out, turn_put HY.out] at hst
                        have HF : Hid (SeA w (lvO m0 e (j : Int) ls) (.returned (.tuple #[.slice (some ⟨gl, 0, none⟩) d cl, .int .i64 (k : Int)])) (wr.setCell ⟨gl, k * 4 + 3, none⟩ (.bool true))) := by
                          rw [HV.out]
                          exact ⟨_, d, cl, (k : Int), rfl, own_mono hst.1 (by have := HZ2.out; omega), HG2.out.up (good_grown2 GW hst.2 (fun g hg => by simp at hg; subst hg; exact (HOz.out.lt _ rfl).1)), .inr ⟨k, ⟨y.a, y.b, y.l, true⟩, rfl, rfl, turn_last HY.out _⟩⟩
                        clear hst ha hb hl1 ht0 GW HV
                        go_wp2_with (first | (go_at_call 171; refine hqa.out.mono ?_; rintro x w1 ⟨rfl, hw1⟩; have hw1' := hw1.symm; subst hw1'; clear hqa) | (go_at_call 171; refine hqb.out.mono ?_; rintro x w1 ⟨rfl, hw1⟩; have hw1' := hw1.symm; subst hw1'; clear hqb))
                        exact bodyPost_ret (v := .tuple #[.slice (some ⟨gl, 0, none⟩) d cl, .int .i64 (k : Int)]) (by simp [results, Tryz.results87, go_sem]) rfl HF.out
                      · rw [decide_eq_false hb] at hqb
                        have HN := hideIt (turn_skip HY.out (srL_no (i := (j : Int)) (t := t) fun h => ha h.2.2.1))
                        have HN2 := hideIt (nohit_step HY.out HNz.out fun h => by rcases h.2.2.2 with h | h; exact ha h; exact hb h)
                        clear ha hb hl1 ht0 GW
                        go_wp2_with (first | (go_at_call 171; refine hqa.out.mono ?_; rintro x w1 ⟨rfl, hw1⟩; have hw1' := hw1.symm; subst hw1'; clear hqa) | (go_at_call 171; refine hqb.out.mono ?_; rintro x w1 ⟨rfl, hw1⟩; have hw1' := hw1.symm; subst hw1'; clear hqb))
                        exact ⟨⟨k + 1, by omega, by go_num, hideIt (by rw [HN.out]; exact HOz.out), HGy, HN2⟩, by simp [intOf]; omega⟩
                  · have d1 : (y.l != (j : Int)) = true := by simp [hl1]
                    have HN := hideIt (turn_skip HY.out (srL_no (i := (j : Int)) (t := t) fun h => hl1 h.2.1))
                    have HN2 := hideIt (nohit_step HY.out HNz.out fun h => hl1 h.2.1)
                    generalize decide (y.a ∈ t) = va at hqa
                    generalize decide (y.b ∈ t) = vb at hqb
                    clear hl1 ht0 e2 e3 GW
                    go_wp2_with (first | (go_at_call 171; refine hqa.out.mono ?_; rintro x w1 ⟨rfl, hw1⟩; have hw1' := hw1.symm; subst hw1'; clear hqa) | (go_at_call 171; refine hqb.out.mono ?_; rintro x w1 ⟨rfl, hw1⟩; have hw1' := hw1.symm; subst hw1'; clear hqb))
                    exact ⟨⟨k + 1, by omega, by go_num, hideIt (by rw [HN.out]; exact HOz.out), HGy, HN2⟩, by simp [intOf]; omega⟩
              · obtain rfl : k = d := by omega
                have HF : Hid (SeA w (lvO m0 e (j : Int) ls) (.returned (.tuple #[.slice al k cl, .int .i64 (-1)])) wr) := by
                  have h1 := HNz.out
                  rw [List.take_of_length_le (by have := hlen1.out; omega), HL1.out, ← Ht.out] at h1
                  rw [lvO_none h1]
                  have h2 := HOz.out
                  rw [List.take_of_length_le (by have := hlen1.out; omega), List.drop_eq_nil_of_le (by have := hlen1.out; omega), List.append_nil, HL1.out, ← Ht.out] at h2
                  exact ⟨al, k, cl, -1, rfl, own_mono h2 (by have := HZ2.out; omega), HG2.out.up GW, .inl ⟨rfl, rfl⟩⟩
                clear HNz HOz HGy GW
                go_wp2
                exact bodyPost_ret (v := .tuple #[.slice al k cl, .int .i64 (-1)]) (by simp [results, Tryz.results87, go_sem]) rfl HF.out
end Go.Proofs.YtkkplppcgnikoaaGreat
namespace Go.Proofs.YtkkplppcgnikoaaGreat
open Go.RowKit

/-- the edges that stay and the lost one, in the making -/
structure TkS (w : World) (N : Int) (a : Option Addr) (n c : Nat) (f : EdgeV) (b8 : Nat) (lk : Ld) (a' : Option Addr) (m' c' : Nat) (gs : List Ld) (u : World) : Prop where
  in4 : In4 w N a n c f u
  lost : Box4 u (b8 + 1) lk
  now : Box7 u b8 26 (.int .i64 N) (.slice a' m' c')
  own : u.ownsRow (b8 + 2) 52 4 (.slice a' m' c') m' (lcells gs)
section
variable {w : World} {N : Int} {a : Option Addr} {n c : Nat} {f : EdgeV} {b8 : Nat} {lk : Ld} {a' : Option Addr} {m' c' : Nat} {gs : List Ld} {u v : World}
theorem TkS.up (h : TkS w N a n c f b8 lk a' m' c' gs u) (hb : Below u.heap.size u v) : TkS w N a n c f b8 lk a' m' c' gs v := ⟨h.in4.up hb, h.lost.up hb, h.now.up hb, own_up h.own hb⟩
theorem TkS.lostSet (h : TkS w N a n c f b8 lk a' m' c' gs u) (hb : w.heap.size + 4 ≤ b8) (x : Ld) :
    TkS w N a n c f b8 x a' m' c' gs ((((u.setCell ⟨b8 + 1, 0, none⟩ (.int .i64 x.a)).setCell ⟨b8 + 1, 1, none⟩ (.int .i64 x.b)).setCell ⟨b8 + 1, 2, none⟩ (.int .i64 x.l)).setCell ⟨b8 + 1, 3, none⟩ (.bool x.t)) :=
  ⟨⟨Good.set4 h.in4.good _ _ _ _ _ (by rw [w4w_size]; omega)⟩, h.lost.set4 x, (((h.now.setOther _ (by omega)).setOther _ (by omega)).setOther _ (by omega)).setOther _ (by omega), own_setLow (own_setLow (own_setLow (own_setLow h.own _ 0 _ (by omega)) _ 1 _ (by omega)) _ 2 _ (by omega)) _ 3 _ (by omega)⟩
/-- the row of the edges that stay is another one -/
theorem TkS.put (h : TkS w N a n c f b8 lk a' m' c' gs u) (hb : w.heap.size + 4 ≤ b8) {row : Option Nat} (hg : u.grownBy v row) (hr : ∀ g, row = some g → b8 + 2 ≤ g) {a2 : Option Addr} {m2 c2 : Nat} {hs : List Ld} (ho : v.ownsRow (b8 + 2) 52 4 (.slice a2 m2 c2) m2 (lcells hs)) :
    TkS w N a n c f b8 lk a2 m2 c2 hs (v.setCell ⟨b8, 1, none⟩ (.slice a2 m2 c2)) :=
  ⟨⟨Below.setCell (good_grown2 h.in4.good hg fun g e => by have := hr g e; rw [w4w_size]; omega) (p := ⟨b8, 1, none⟩) (by rw [w4w_size]; exact hb) _⟩, (h.lost.grown hg (fun e => by have := hr _ e.symm; omega)).setOther _ (by omega), (h.now.grown hg (fun e => by have := hr _ e.symm; omega)).set1 _, own_setLow ho _ 1 _ (by omega)⟩
end
theorem ouL_snoc {ls : List Ld} {f : EdgeV} {k : Nat} {y : Ld} (h : ls[k]? = some y) : ouL (ls.take (k + 1)) f = ouL (ls.take k) f ++ if y.e = f then [] else [y] := by
  unfold ouL
  rw [List.take_add_one, h, List.filter_append]
  by_cases e : y.e = f <;> simp [e]
theorem srO_fst {i : Int} {t : List Int} : ∀ {L : List Ld}, (srO i t L).2 = none → (srO i t L).1 = L.map (srL i t)
  | [], _ => rfl
  | x :: xs, h => by
    rw [srO] at h ⊢
    by_cases hh : hitL i t x
    · rw [if_pos hh] at h
      cases h
    · rw [if_neg hh] at h ⊢
      rw [List.map_cons, ← srO_fst (L := xs) h]
theorem wta_drew2 {w u : World} {N : Int} {o : Option (List Ld × Option EdgeV)} {e : Ending} (h : WtA w N o e u) : WtA w N o e u.drew := by
  obtain ⟨a, m, c, h1, h2, h3⟩ := h
  exact ⟨a, m, c, h1, h2, h3.drew⟩
theorem own_nil {u : World} {B e s n c : Nat} {a : Option Addr} {xs : List Value} (h : u.ownsRow B e s (.slice a n c) n xs) (ha : a = none) : n = 0 ∧ c = 0 := by
  subst ha
  rcases h.2 with ⟨h1, _⟩ | ⟨g, cap, cur, h1, _⟩
  · simp at h1
    exact h1
  · simp at h1

set_option maxRecDepth 100000 in
set_option maxHeartbeats 8000000 in
theorem sWebTake_any (N : Int) (ls : List Ld) (f : EdgeV) (n : Nat) (a : Option Addr) (c : Nat) (hn : n ≤ 1048576) (w : World) (h : Ls w w.heap.size a n ls) :
    Calls Tryz.prog 27 #[.agg #[.int .i64 N, .slice a n c], .agg #[.int .i64 f.1, .int .i64 f.2]] w fun e w' => WtA w N (wtO N ls f) e w' := by
  obtain ⟨i0, hi, hz0, hz1, hz2⟩ := info_parts infoIL
  have hA : Hid (∀ u, In4 w N a n c f u → Ls u u.heap.size a n ls) := fun u hu => h.up hu.below
  have HOk : Hid (∀ u, In4 w N a n c f u → Calls Tryz.prog 19 #[.agg #[.int .i64 N, .slice a n c]] u fun e v => e = .returned (.bool (wB N ls)) ∧ In4 w N a n c f v) := fun u hu =>
    (sWebOk_any N ls n a c hn u (hA.out u hu)).mono fun _ _ ⟨he, hb⟩ => ⟨he, hu.up hb⟩
  have HK : Hid (∀ u, In4 w N a n c f u → (((u.cell? ⟨w.heap.size, 0, none⟩ = some (.int .i64 N) ∧ u.cell? ⟨w.heap.size, 1, none⟩ = some (.slice a n c)) ∧ (u.cell? ⟨w.heap.size + 1, 0, none⟩ = some (.int .i64 f.1) ∧ u.cell? ⟨w.heap.size + 1, 1, none⟩ = some (.int .i64 f.2))) ∧ In4 w N a n c f u)) := fun u hu => ⟨hu.cells, hu⟩
  have S1 := In4.start w N a n c f
  have Hls := hideIt h
  clear h
  go_enter Tryz.func27, Tryz.ntmps27
  go_upto_region 1 with fail
  obtain ⟨W, hW⟩ : ∃ W, W = w4w w N a n c f := ⟨_, rfl⟩
  have hW' : ((((w.alloc (.cells #[.int .i64 N, .slice a n c] 26)).alloc (.cells #[.int .i64 f.1, .int .i64 f.2] 28)).alloc (.cells #[.int .i64 0, .slice none 0 0] 26)).alloc (.cells #[.int .i64 0, .int .i64 0] 28)) = W := hW.symm
  rw [hW']
  rw [← hW] at S1
  clear hW hW'
  have hS1 := HK.out _ S1.drew
  by_cases hW : WOk N ls
  · rw [wB_yes hW] at HOk
    obtain ⟨nn, rfl, hn1, hn12⟩ := gB_n hW.1
    have HGr : Hid (∀ u, In4 w (nn : Int) a n c f u → Calls Tryz.prog 26 #[.agg #[.int .i64 (nn : Int), .slice a n c]] u fun e v => ∃ ag cg, e = .returned (.agg #[.int .i64 (nn : Int), .slice ag n cg]) ∧ Hid (Es v v.heap.size ag n (gE ls)) ∧ In4 w (nn : Int) a n c f v) := fun u hu =>
      (sGraphOf_any (nn : Int) ls n a c hn u (hA.out u hu)).mono fun _ _ ⟨ag, cg, he, ho, hb⟩ => ⟨ag, cg, he, Es_of_own ho, hu.up hb⟩
    have HHa : Hid (∀ ag cg u, In4 w (nn : Int) a n c f u → Hid (Es u u.heap.size ag n (gE ls)) → Calls Tryz.prog 13 #[.agg #[.int .i64 (nn : Int), .slice ag n cg], .agg #[.int .i64 f.1, .int .i64 f.2]] u fun e v => e = .returned (.bool (hasB (gE ls) f)) ∧ In4 w (nn : Int) a n c f v) := fun ag cg u hu he =>
      (sHasEdge_any (nn : Int) (gE ls) f n ag cg hn u he.out).mono fun _ _ ⟨h1, h2⟩ => ⟨h1, hu.up h2⟩
    by_cases hh : hasB (gE ls) f = true
    · rw [hh] at HHa
      obtain ⟨p, x, hk, hxe, _, hou, hfi⟩ := take_at hW hh
      have HW := hideIt (wtO_yes hW hh hfi)
      have hlen : ls.length = n := Hls.out.1
      have hpn : p < n := by have := (List.getElem?_eq_some_iff.1 hk).1; omega
      have HS := hideIt (Stg.of hW)
      have Hxl : Hid (0 ≤ x.l ∧ x.l ≤ 4) := hW.2.1 x (List.mem_of_getElem? hk)
      have Hfe : Hid ((0 ≤ f.1 ∧ f.1 < (nn : Int)) ∧ 0 ≤ f.2 ∧ f.2 < (nn : Int)) := by
        have := chk_eB (gB_chk hW.1).2.1 (gE_mem (List.mem_of_getElem? hk))
        have h2 := (eB_iff7 _ _).1 this
        rw [hxe] at h2
        exact ⟨⟨h2.2.2.1, by omega⟩, by omega, h2.2.2.2.2⟩
      have Huq : Hid (∀ (k : Nat) (y : Ld), ls[k]? = some y → (y.e = f ↔ k = p)) := fun k y hy => by
        constructor
        · intro he
          have ha := asc_of_chk (gB_chk hW.1).2.1
          rcases Nat.lt_trichotomy k p with h1 | h1 | h1
          · have h2 := ha k p _ _ h1 (gE_at hy) (gE_at hk)
            rw [he, hxe, lt_irrefl'] at h2
            exact absurd h2 (by simp)
          · exact h1
          · have h2 := ha p k _ _ h1 (gE_at hk) (gE_at hy)
            rw [he, hxe, lt_irrefl'] at h2
            exact absurd h2 (by simp)
        · intro he
          subst he
          rw [hk] at hy
          rw [← Option.some.inj hy]
          exact hxe
      have HKx := hideIt hk
      have Hxe := hideIt hxe
      clear hW hh hfi hou hk hxe
      go_region_held3 (fun u => ((u.cell? ⟨w.heap.size, 0, none⟩ = some (.int .i64 (nn : Int)) ∧ u.cell? ⟨w.heap.size, 1, none⟩ = some (.slice a n c)) ∧ (u.cell? ⟨w.heap.size + 1, 0, none⟩ = some (.int .i64 f.1) ∧ u.cell? ⟨w.heap.size + 1, 1, none⟩ = some (.int .i64 f.2))) ∧ In4 w (nn : Int) a n c f u)
        (first | with_reducible assumption)
        (first
          | (go_at_call 19; refine (HOk.out _ (And.right (by assumption))).mono ?_; rintro e w3 ⟨rfl, hg3⟩; have hS3 := HK.out _ hg3)
          | (go_at_call 26; refine (HGr.out _ (And.right (by assumption))).mono ?_; rintro e w4 ⟨ag, cg, rfl, ho4, hg4⟩; have hS4 := HK.out _ hg4)
          | (go_at_call 13; refine (HHa.out _ _ _ (And.right (by assumption)) (by assumption)).mono ?_; rintro e w5 ⟨rfl, hg5⟩; have hS5 := HK.out _ hg5))
      obtain ⟨⟨⟨k0, k1⟩, k2, k3⟩, S5⟩ := hS5
      clear hS1 hS3 hS4 hg3 hg4 hg5 ho4 HOk HGr HHa S1
      have T7 : TkS w (nn : Int) a n c f w5.heap.size ⟨0, 0, 0, false⟩ none 0 0 [] ((w5.alloc (.cells #[.int .i64 (nn : Int), .slice none 0 0] 26)).alloc (.cells #[.int .i64 0, .int .i64 0, .int .i64 0, .bool false] 52)) :=
        ⟨S5.up (((Below.refl _ _).alloc (Nat.le_refl _) _).alloc (by simp) _), Box4.new _ ⟨0, 0, 0, false⟩ _ (by simp), (Box7.new _ _ _ _ _ rfl).alloc _, World.ownsRow_nil _ _ _ _⟩
      have HT7 := hideIt T7
      have Z8 : Hid (w.heap.size + 4 ≤ w5.heap.size) := S5.size
      clear T7 S5
      go_wp2
      clear k0 k1 k2 k3
      generalize ((w5.alloc (.cells #[.int .i64 (nn : Int), .slice none 0 0] 26)).alloc (.cells #[.int .i64 0, .int .i64 0, .int .i64 0, .bool false] 52)) = W7 at *
      generalize w5.heap.size = b8 at *
      have z8 := Z8.out
      clear Z8
      go_loopw [10] (fun q wr => ∃ (k m' c' : Nat) (a' : Option Addr), k ≤ n ∧ m' ≤ k ∧ q = .int .i64 (k : Int) ∧ Hid (TkS w (nn : Int) a n c f b8 (if p < k then x else ⟨0, 0, 0, false⟩) a' m' c' (ouL (ls.take k) f) wr)) (fun q _ => n - (intOf q).toNat)
      case atStart => exact ⟨0, 0, 0, none, by omega, by omega, rfl, HT7.out⟩
      case round =>
        obtain ⟨k, m', c', a', hk, hmk, rfl, HT⟩ := hrel
        clear HT7
        by_cases hlt : k < n
        · obtain ⟨ba, off, y, rfl, hbl, hy, hat⟩ := (hA.out wr HT.out.in4).at hlt
          have b1 : (0 : Int) ≤ (k : Int) := by omega
          have b2 : (k : Int) < (n : Int) := by omega
          have o0 := hat.ca
          have o1 := hat.cb
          have o2 := hat.cl
          have o3 := hat.ct
          obtain ⟨⟨k0, k1⟩, k2, k3⟩ := HT.out.in4.cells
          have hyf := Huq.out k y hy
          have Hsn := hideIt (ouL_snoc (f := f) hy)
          by_cases hkp : k = p
          · have hye : y.e = f := hyf.2 hkp
            have hyx : y = x := by have := HKx.out; rw [hkp, this] at hy; exact (Option.some.inj hy).symm
            have d1 : (y.a == f.1) = true := by rw [← hye]; simp [Ld.e]
            have d2 : (y.b == f.2) = true := by rw [← hye]; simp [Ld.e]
            have q0 := HT.out.lost.cells
            obtain ⟨l0, l1, l2, l3⟩ := q0
            have g0 := HT.out.lost.frozen 0
            have g1 := HT.out.lost.frozen 1
            have g2 := HT.out.lost.frozen 2
            have g3 := HT.out.lost.frozen 3
            have HT2 : Hid (∀ q, TkS w (nn : Int) (some ⟨ba, off, none⟩) n c f b8 (if p < k + 1 then x else ⟨0, 0, 0, false⟩) a' m' c' (ouL (ls.take (k + 1)) f) (((((wr.drewN q).setCell ⟨b8 + 1, 0, none⟩ (.int .i64 y.a)).setCell ⟨b8 + 1, 1, none⟩ (.int .i64 y.b)).setCell ⟨b8 + 1, 2, none⟩ (.int .i64 y.l)).setCell ⟨b8 + 1, 3, none⟩ (.bool y.t))) := fun q => by
              have h1 := (HT.out.up (below_drewN (Below.refl _ _) q)).lostSet z8 y
              rw [Hsn.out, if_pos hye, List.append_nil, if_pos (by omega), ← hyx]
              exact h1
            have HD := hideIt (And.intro d1 d2)
            clear hy hat hyf hye hyx hkp
            go_wp2
            go_quiet (fail)
            go_wp2
            exact ⟨⟨k + 1, m', c', a', by omega, by omega, by go_num, hideIt (HT2.out _)⟩, by simp [intOf]; omega⟩
          · have hye : ¬ y.e = f := fun h => hkp (hyf.1 h)
            have Hye := hideIt hye
            have Hkp := hideIt hkp
            have HBl := hideIt hbl
            have Hsz : Hid (∀ q, wr.heap.size ≤ (wr.drewN q).heap.size) := fun q => (below_drewN (Below.refl wr.heap.size wr) q).size
            by_cases ha : y.a = f.1
            · have d1 : (y.a == f.1) = true := by simp [ha]
              have d2 : (y.b == f.2) = false := by
                have : y.b ≠ f.2 := fun hb => hye (Prod.ext ha hb)
                simpa using this
              clear hy hyf hye hkp ha
              go_wp2
              go_quiet (fail)
              obtain ⟨W8, hW8⟩ : ∃ W8, W8 = wr.drewN nq := ⟨_, rfl⟩
              have HT8 : Hid (TkS w (nn : Int) (some ⟨ba, off, none⟩) n c f b8 (if p < k then x else ⟨0, 0, 0, false⟩) a' m' c' (ouL (ls.take k) f) W8) := by rw [hW8]; exact HT.out.up (below_drewN (Below.refl _ _) nq)
              have hb8 : Below wr.heap.size wr W8 := by rw [hW8]; exact below_drewN (Below.refl _ _) nq
              have hat8 := hat.below hb8 hbl
              have o0 := hat8.ca
              have o1 := hat8.cb
              have o2 := hat8.cl
              have o3 := hat8.ct
              obtain ⟨⟨k0, k1⟩, k2, k3⟩ := HT8.out.in4.cells
              have n1 := HT8.out.now.cell1
              have hown := HT8.out.own
              have zw : b8 + 2 ≤ W8.heap.size := by have := HT8.out.lost.lt; omega
              have lb8 : b8 < W8.heap.size := by omega
              have lw8 : w.heap.size < W8.heap.size := by omega
              have HW8e := hideIt hW8
              rw [← hW8]
              clear hW8 hat hat8 hb8 HT
              have hbw : ba < W8.heap.size := by have := HBl.out; have := Hsz.out nq; rw [HW8e.out]; omega
              have HKK : Hid (∀ w1 : World, ((W8.alloc (.cells #[.int .i64 y.a, .int .i64 y.b, .int .i64 y.l, .bool y.t] 52)).drew).grownBy w1 (Value.slice a' m' c').ownBlock → W8.grownBy w1 (Value.slice a' m' c').ownBlock ∧ Box7 w1 b8 26 (.int .i64 (nn : Int)) (.slice a' m' c')) := fun w1 hg => by
                have hg' : W8.grownBy w1 (Value.slice a' m' c').ownBlock := grown_trans (World.grownBy_alloc W8 _ _) (⟨hg.os, hg.tape, hg.output, hg.size, hg.block⟩ : (W8.alloc (.cells #[.int .i64 y.a, .int .i64 y.b, .int .i64 y.l, .bool y.t] 52)).grownBy w1 _)
                exact ⟨hg', HT8.out.now.grown hg' fun e => by have := (HT8.out.own.lt b8 e.symm).1; omega⟩
              go_wp2
              go_region_law (refine step_append_lies _ (by rfl) _ _ _ (by rfl) (b8 + 2) 52 i0 _ 4 32 Tryz.underlying24 hi hz0 hz1 hz2 rfl (by omega) _ m' _ (by rfl) ((hown.alloc _).drew) ⟨W8.heap.size, 0, none⟩ 1 1 [.int .i64 y.a, .int .i64 y.b, .int .i64 y.l, .bool y.t] (by rfl) (by rfl) (World.news_of_block (cs := #[.int .i64 y.a, .int .i64 y.b, .int .i64 y.l, .bool y.t]) (t := 52) (fr := (0, 0)) (heap_alloc_new W8 _)) (by simp [Value.oneCell']) (by omega) (by unfold maxLen; omega) (by omega) (by simp; omega) (W8.heap.size + 1) (by simp) ?_; intro g9 cap9 w9 hown9 hg9 hat9 hlt9; obtain ⟨hg9', y0⟩ := HKK.out _ hg9; have z9 := y0.cell1; have z10 := y0.frozen 1)
              all_goals
                have HT9 : Hid (TkS w (nn : Int) (some ⟨ba, off, none⟩) n c f b8 (if p < k + 1 then x else ⟨0, 0, 0, false⟩) (some ⟨g9, 0, none⟩) (m' + 1) cap9 (ouL (ls.take (k + 1)) f) (w9.setCell ⟨b8, 1, none⟩ (.slice (some ⟨g9, 0, none⟩) (m' + 1) cap9))) := by
                  have h1 : (if p < k + 1 then x else (⟨0, 0, 0, false⟩ : Ld)) = if p < k then x else ⟨0, 0, 0, false⟩ := by
                    have := Hkp.out
                    by_cases h2 : p < k
                    · rw [if_pos h2, if_pos (by omega)]
                    · rw [if_neg h2, if_neg (by omega)]
                  rw [h1, Hsn.out, if_neg Hye.out]
                  exact HT8.out.put z8 hg9' (fun g hg => (HT8.out.own.lt g hg).1) (by rw [lcells_snoc]; exact hown9)
                clear hown9 hg9 hg9' HKK HT8 hown
                go_wp2
                exact ⟨⟨k + 1, m' + 1, cap9, some ⟨g9, 0, none⟩, by omega, by omega, by go_num, HT9⟩, by simp [intOf]; omega⟩
            · have d1 : (y.a == f.1) = false := by simpa using ha
              clear hy hyf hye hkp ha
              go_wp2
              go_quiet (fail)
              obtain ⟨W8, hW8⟩ : ∃ W8, W8 = wr.drewN nq := ⟨_, rfl⟩
              have HT8 : Hid (TkS w (nn : Int) (some ⟨ba, off, none⟩) n c f b8 (if p < k then x else ⟨0, 0, 0, false⟩) a' m' c' (ouL (ls.take k) f) W8) := by rw [hW8]; exact HT.out.up (below_drewN (Below.refl _ _) nq)
              have hb8 : Below wr.heap.size wr W8 := by rw [hW8]; exact below_drewN (Below.refl _ _) nq
              have hat8 := hat.below hb8 hbl
              have o0 := hat8.ca
              have o1 := hat8.cb
              have o2 := hat8.cl
              have o3 := hat8.ct
              obtain ⟨⟨k0, k1⟩, k2, k3⟩ := HT8.out.in4.cells
              have n1 := HT8.out.now.cell1
              have hown := HT8.out.own
              have zw : b8 + 2 ≤ W8.heap.size := by have := HT8.out.lost.lt; omega
              have lb8 : b8 < W8.heap.size := by omega
              have lw8 : w.heap.size < W8.heap.size := by omega
              have HW8e := hideIt hW8
              rw [← hW8]
              clear hW8 hat hat8 hb8 HT
              have hbw : ba < W8.heap.size := by have := HBl.out; have := Hsz.out nq; rw [HW8e.out]; omega
              have HKK : Hid (∀ w1 : World, ((W8.alloc (.cells #[.int .i64 y.a, .int .i64 y.b, .int .i64 y.l, .bool y.t] 52)).drew).grownBy w1 (Value.slice a' m' c').ownBlock → W8.grownBy w1 (Value.slice a' m' c').ownBlock ∧ Box7 w1 b8 26 (.int .i64 (nn : Int)) (.slice a' m' c')) := fun w1 hg => by
                have hg' : W8.grownBy w1 (Value.slice a' m' c').ownBlock := grown_trans (World.grownBy_alloc W8 _ _) (⟨hg.os, hg.tape, hg.output, hg.size, hg.block⟩ : (W8.alloc (.cells #[.int .i64 y.a, .int .i64 y.b, .int .i64 y.l, .bool y.t] 52)).grownBy w1 _)
                exact ⟨hg', HT8.out.now.grown hg' fun e => by have := (HT8.out.own.lt b8 e.symm).1; omega⟩
              go_wp2
              go_region_law (refine step_append_lies _ (by rfl) _ _ _ (by rfl) (b8 + 2) 52 i0 _ 4 32 Tryz.underlying24 hi hz0 hz1 hz2 rfl (by omega) _ m' _ (by rfl) ((hown.alloc _).drew) ⟨W8.heap.size, 0, none⟩ 1 1 [.int .i64 y.a, .int .i64 y.b, .int .i64 y.l, .bool y.t] (by rfl) (by rfl) (World.news_of_block (cs := #[.int .i64 y.a, .int .i64 y.b, .int .i64 y.l, .bool y.t]) (t := 52) (fr := (0, 0)) (heap_alloc_new W8 _)) (by simp [Value.oneCell']) (by omega) (by unfold maxLen; omega) (by omega) (by simp; omega) (W8.heap.size + 1) (by simp) ?_; intro g9 cap9 w9 hown9 hg9 hat9 hlt9; obtain ⟨hg9', y0⟩ := HKK.out _ hg9; have z9 := y0.cell1; have z10 := y0.frozen 1)
              all_goals
                have HT9 : Hid (TkS w (nn : Int) (some ⟨ba, off, none⟩) n c f b8 (if p < k + 1 then x else ⟨0, 0, 0, false⟩) (some ⟨g9, 0, none⟩) (m' + 1) cap9 (ouL (ls.take (k + 1)) f) (w9.setCell ⟨b8, 1, none⟩ (.slice (some ⟨g9, 0, none⟩) (m' + 1) cap9))) := by
                  have h1 : (if p < k + 1 then x else (⟨0, 0, 0, false⟩ : Ld)) = if p < k then x else ⟨0, 0, 0, false⟩ := by
                    have := Hkp.out
                    by_cases h2 : p < k
                    · rw [if_pos h2, if_pos (by omega)]
                    · rw [if_neg h2, if_neg (by omega)]
                  rw [h1, Hsn.out, if_neg Hye.out]
                  exact HT8.out.put z8 hg9' (fun g hg => (HT8.out.own.lt g hg).1) (by rw [lcells_snoc]; exact hown9)
                clear hown9 hg9 hg9' HKK HT8 hown
                go_wp2
                exact ⟨⟨k + 1, m' + 1, cap9, some ⟨g9, 0, none⟩, by omega, by omega, by go_num, HT9⟩, by simp [intOf]; omega⟩
        · obtain rfl : k = n := by omega
          rw [List.take_of_length_le (by omega), if_pos hpn] at HT
          obtain ⟨_, _, l2, l3⟩ := HT.out.lost.cells
          obtain ⟨⟨c0, c1⟩, _⟩ := HT.out.in4.cells
          have n0 := HT.out.now.cell0
          have n1 := HT.out.now.cell1
          clear hlt
          by_cases hxt : x.t = true
          · rw [hxt] at l3
            have HT0 := hideIt HT.out
            obtain ⟨L0, hL0⟩ : ∃ L0, L0 = ouL ls f := ⟨_, rfl⟩
            have HL0 : Hid (Stg nn L0) := by rw [hL0]; exact HS.out.out f
            rw [← hL0] at HT0
            have Hx := hideIt hxt
            clear HT hmk HS
            go_wp2
            clear n0 n1 l2 l3 c0 c1
            go_loopw [11] (fun lev wr => ∃ (kq : Nat) (l : Int) (L : List Ld) (m' c' : Nat) (a' : Option Addr), Hid (l + 1 = (kq : Int) ∧ l ≤ 4) ∧ lev = .int .i64 l ∧ Hid (Stg nn L ∧ tkO nn f (x.l.toNat + 1) (ouL ls f) = tkO nn f kq L) ∧ Hid (TkS w (nn : Int) a k c f b8 x a' m' c' L wr)) (fun lev _ => (intOf lev + 1).toNat)
            case atStart => exact ⟨x.l.toNat + 1, x.l, L0, m', c', a', (by have := Hxl.out; show _ ∧ _; omega : _ ∧ _), rfl, ⟨HL0.out, by rw [hL0]⟩, HT0.out⟩
            case round =>
              clear HT0 HL0
              obtain ⟨kk, l, L, m', c', a', HKk, rfl, HL, HT⟩ := hrel
              obtain ⟨⟨k0, k1⟩, k2', k3⟩ := HT.out.in4.cells
              have n0 := HT.out.now.cell0
              have n1 := HT.out.now.cell1
              by_cases hl0 : 0 ≤ l
              · obtain ⟨j, rfl⟩ : ∃ j : Nat, l = (j : Int) := ⟨l.toNat, by omega⟩
                have hj4 : (j : Int) ≤ 4 := HKk.out.2
                have HKj : Hid (kk = j + 1) := by show _ = _; have := HKk.out.1; omega
                have hj0 : (0 : Int) ≤ (j : Int) := by omega
                clear HKk hl0
                have hm66 : m' ≤ 1048576 := by
                  have h1 := HT.out.own.1
                  rw [lcells_length] at h1
                  have h2 := (gB_chk HL.out.1.g).2.2
                  rw [gE_len] at h2
                  omega
                have HSe := hideIt (l08Search_any nn L f j m' a' c' HL.out.1 hj4 Hfe.out.1 Hfe.out.2 hm66 (own_nil HT.out.own) wr (Ls_of_own HT.out.own))
                have n2 := HT.out.now.frozen 1
                clear k0 k1 hm66
                go_wp2_with (go_at_call 87; refine HSe.out.mono ?_; rintro e w8 ⟨a2, m2, c2, p2, rfl, ho8, hb8, hp2⟩; refine Hid.out ?_)
                refine (show ∀ {p : Prop}, p → Hid p from fun h => h) ?_
                have q1 := (HT.out.now.up hb8).cell1
                have q2 := (HT.out.now.up hb8).frozen 1
                have HT9 : Hid (TkS w (nn : Int) a k c f b8 x a2 m2 c2 (lvO nn f (j : Int) L).1 (w8.setCell ⟨b8, 1, none⟩ (.slice a2 m2 c2))) := HT.out.put z8 (grown_of_below hb8 none) (fun g hg => by cases hg) (own_mono ho8 (by have := HT.out.lost.lt; omega))
                obtain ⟨W9, hW9⟩ : ∃ W9, W9 = w8.setCell ⟨b8, 1, none⟩ (.slice a2 m2 c2) := ⟨_, rfl⟩
                rw [← hW9] at HT9
                clear HT ho8 hb8 HSe n0 n1 n2
                rcases hp2 with ⟨hr2, rfl⟩ | ⟨k2, y, hr2, rfl, hy⟩
                · have HL9 : Hid (Stg nn (lvO nn f (j : Int) L).1 ∧ tkO nn f (x.l.toNat + 1) (ouL ls f) = tkO nn f j (lvO nn f (j : Int) L).1) := by
                    refine ⟨?_, by rw [HL.out.2, HKj.out, tkO_down hr2]⟩
                    have h1 : (lvO nn f (j : Int) L).1 = (L.map (rsL (j : Int) (smT (lvT nn L (j : Int)) f))).map (srL (j : Int) (smT (lvT nn L (j : Int)) f)) := srO_fst hr2
                    rw [h1]
                    exact HL.out.1.down ⟨hj0, hj4⟩ _ _
                  have HK7 : Hid ((j : Int) - 1 + 1 = (j : Int) ∧ (j : Int) - 1 ≤ 4) := by constructor <;> omega
                  clear HL HKj hr2
                  go_wp2
                  rw [← hW9]
                  exact ⟨⟨j, (j : Int) - 1, _, m2, c2, a2, HK7, rfl, HL9, HT9⟩, by simp [intOf]⟩
                · obtain ⟨m', rfl⟩ : ∃ m', m' = m2 := ⟨_, rfl⟩
                  obtain ⟨c', rfl⟩ : ∃ c', c' = c2 := ⟨_, rfl⟩
                  obtain ⟨a', rfl⟩ : ∃ a', a' = a2 := ⟨_, rfl⟩
                  have hk2 : k2 < m' := by
                    have h1 := HT9.out.own.1
                    rw [lcells_length] at h1
                    have h2 := (List.getElem?_eq_some_iff.1 hy).1
                    omega
                  obtain ⟨g2, rfl⟩ : ∃ g2, a' = some ⟨g2, 0, none⟩ := by
                    rcases HT9.out.own.2 with ⟨_, h0⟩ | ⟨g, cap, cur, hv, _⟩
                    · omega
                    · simp at hv
                      exact ⟨g, hv.1⟩
                  have hg2 := HT9.out.own.lt g2 rfl
                  obtain ⟨p0, p1, _, _⟩ := lcells_at _ k2 _ hy
                  have hl4 : (lcells (lvO nn f (j : Int) L).1).length = m' * 4 := HT9.out.own.1
                  have v0 := HT9.out.now.cell0
                  have v1 := HT9.out.now.cell1
                  have v2 : W9.cell? ⟨g2, k2 * 4, none⟩ = some (.int .i64 y.a) := by rw [HT9.out.own.cellAt (k2 * 4) (by omega)]; exact p0
                  have v3 : W9.cell? ⟨g2, k2 * 4 + 1, none⟩ = some (.int .i64 y.b) := by rw [HT9.out.own.cellAt (k2 * 4 + 1) (by omega)]; exact p1
                  have HWr : Hid (wtO (nn : Int) ls f = some ((lvO nn f (j : Int) L).1, some y.e)) := by
                    show _ = _
                    rw [HW.out, hxt, HL.out.2, HKj.out, tkO_found hr2]
                    simp only [if_true]
                    rw [← hr2]
                  have S9 := HT9.out.in4
                  have r0 := S9.rw.cell0
                  have r1 := S9.rw.cell1
                  have r2 := S9.rw.frozen 0
                  have r3 := S9.rw.frozen 1
                  have r4 := S9.re.cell0
                  have r5 := S9.re.cell1
                  have r6 := S9.re.frozen 0
                  have r7 := S9.re.frozen 1
                  obtain ⟨⟨t0, t1⟩, t2, t3⟩ := putR_cells (M := (nn : Int)) (a' := some ⟨g2, 0, none⟩) (m' := m') (c' := c') (d := (y.a, y.b)) S9.rw S9.re
                  have HA := hideIt (wta_yes (N := (nn : Int)) (r := ((lvO nn f (j : Int) L).1, some y.e)) HWr.out (show w.heap.size + 4 ≤ b8 + 2 by omega) S9.below HT9.out.own (d := (y.a, y.b)) rfl (t := true) rfl)
                  unfold putR at t0 t1 t2 t3 HA

                  have b1 : (0 : Int) ≤ (k2 : Int) := by omega
                  have b2 : (k2 : Int) < (m' : Int) := by omega
                  have HSet : Hid (∀ (u : World) (b j : Nat) (v : Value), b < w.heap.size + 4 → ((u.cell? ⟨b8, 0, none⟩ = some (.int .i64 (nn : Int)) ∧ u.cell? ⟨b8, 1, none⟩ = some (.slice (some ⟨g2, 0, none⟩) m' c')) ∧ (u.cell? ⟨g2, k2 * 4, none⟩ = some (.int .i64 y.a) ∧ u.cell? ⟨g2, k2 * 4 + 1, none⟩ = some (.int .i64 y.b))) → (((u.setCell ⟨b, j, none⟩ v).cell? ⟨b8, 0, none⟩ = some (.int .i64 (nn : Int)) ∧ (u.setCell ⟨b, j, none⟩ v).cell? ⟨b8, 1, none⟩ = some (.slice (some ⟨g2, 0, none⟩) m' c')) ∧ ((u.setCell ⟨b, j, none⟩ v).cell? ⟨g2, k2 * 4, none⟩ = some (.int .i64 y.a) ∧ (u.setCell ⟨b, j, none⟩ v).cell? ⟨g2, k2 * 4 + 1, none⟩ = some (.int .i64 y.b)))) := fun u b j v hb h => by
                    rw [set_other (by omega), set_other (by omega), set_other (by omega), set_other (by omega)]
                    exact h
                  have hS0 : (W9.drew.cell? ⟨b8, 0, none⟩ = some (.int .i64 (nn : Int)) ∧ W9.drew.cell? ⟨b8, 1, none⟩ = some (.slice (some ⟨g2, 0, none⟩) m' c')) ∧ (W9.drew.cell? ⟨g2, k2 * 4, none⟩ = some (.int .i64 y.a) ∧ W9.drew.cell? ⟨g2, k2 * 4 + 1, none⟩ = some (.int .i64 y.b)) := ⟨⟨v0, v1⟩, v2, v3⟩
                  have hS1 : (((W9.setCell ⟨w.heap.size + 1 + 1, 0, none⟩ (.int .i64 (nn : Int))).setCell ⟨w.heap.size + 1 + 1, 1, none⟩ (.slice (some ⟨g2, 0, none⟩) m' c')).drew.cell? ⟨b8, 0, none⟩ = some (.int .i64 (nn : Int)) ∧ ((W9.setCell ⟨w.heap.size + 1 + 1, 0, none⟩ (.int .i64 (nn : Int))).setCell ⟨w.heap.size + 1 + 1, 1, none⟩ (.slice (some ⟨g2, 0, none⟩) m' c')).drew.cell? ⟨b8, 1, none⟩ = some (.slice (some ⟨g2, 0, none⟩) m' c')) ∧ (((W9.setCell ⟨w.heap.size + 1 + 1, 0, none⟩ (.int .i64 (nn : Int))).setCell ⟨w.heap.size + 1 + 1, 1, none⟩ (.slice (some ⟨g2, 0, none⟩) m' c')).drew.cell? ⟨g2, k2 * 4, none⟩ = some (.int .i64 y.a) ∧ ((W9.setCell ⟨w.heap.size + 1 + 1, 0, none⟩ (.int .i64 (nn : Int))).setCell ⟨w.heap.size + 1 + 1, 1, none⟩ (.slice (some ⟨g2, 0, none⟩) m' c')).drew.cell? ⟨g2, k2 * 4 + 1, none⟩ = some (.int .i64 y.b)) := HSet.out _ _ _ _ (by omega) (HSet.out W9 _ _ _ (by omega) ⟨⟨v0, v1⟩, v2, v3⟩)
                  have hS2 : (((((W9.setCell ⟨w.heap.size + 1 + 1, 0, none⟩ (.int .i64 (nn : Int))).setCell ⟨w.heap.size + 1 + 1, 1, none⟩ (.slice (some ⟨g2, 0, none⟩) m' c')).setCell ⟨w.heap.size + 1 + 1 + 1, 0, none⟩ (.int .i64 y.a)).setCell ⟨w.heap.size + 1 + 1 + 1, 1, none⟩ (.int .i64 y.b)).drew.cell? ⟨b8, 0, none⟩ = some (.int .i64 (nn : Int)) ∧ ((((W9.setCell ⟨w.heap.size + 1 + 1, 0, none⟩ (.int .i64 (nn : Int))).setCell ⟨w.heap.size + 1 + 1, 1, none⟩ (.slice (some ⟨g2, 0, none⟩) m' c')).setCell ⟨w.heap.size + 1 + 1 + 1, 0, none⟩ (.int .i64 y.a)).setCell ⟨w.heap.size + 1 + 1 + 1, 1, none⟩ (.int .i64 y.b)).drew.cell? ⟨b8, 1, none⟩ = some (.slice (some ⟨g2, 0, none⟩) m' c')) ∧ (((((W9.setCell ⟨w.heap.size + 1 + 1, 0, none⟩ (.int .i64 (nn : Int))).setCell ⟨w.heap.size + 1 + 1, 1, none⟩ (.slice (some ⟨g2, 0, none⟩) m' c')).setCell ⟨w.heap.size + 1 + 1 + 1, 0, none⟩ (.int .i64 y.a)).setCell ⟨w.heap.size + 1 + 1 + 1, 1, none⟩ (.int .i64 y.b)).drew.cell? ⟨g2, k2 * 4, none⟩ = some (.int .i64 y.a) ∧ ((((W9.setCell ⟨w.heap.size + 1 + 1, 0, none⟩ (.int .i64 (nn : Int))).setCell ⟨w.heap.size + 1 + 1, 1, none⟩ (.slice (some ⟨g2, 0, none⟩) m' c')).setCell ⟨w.heap.size + 1 + 1 + 1, 0, none⟩ (.int .i64 y.a)).setCell ⟨w.heap.size + 1 + 1 + 1, 1, none⟩ (.int .i64 y.b)).drew.cell? ⟨g2, k2 * 4 + 1, none⟩ = some (.int .i64 y.b)) := HSet.out _ _ _ _ (by omega) (HSet.out _ _ _ _ (by omega) (HSet.out _ _ _ _ (by omega) (HSet.out W9 _ _ _ (by omega) ⟨⟨v0, v1⟩, v2, v3⟩)))
                  clear v0 v1 v2 v3 p0 p1 hl4 HT9 S9 hr2 hy HSet
                  go_upto_region 19 with fail
                  rw [← hW9]
                  clear hW9
                  go_region_held3 (fun u => (u.cell? ⟨b8, 0, none⟩ = some (.int .i64 (nn : Int)) ∧ u.cell? ⟨b8, 1, none⟩ = some (.slice (some ⟨g2, 0, none⟩) m' c')) ∧ (u.cell? ⟨g2, k2 * 4, none⟩ = some (.int .i64 y.a) ∧ u.cell? ⟨g2, k2 * 4 + 1, none⟩ = some (.int .i64 y.b)))
                    (first | with_reducible assumption)
                    (fail)
                  all_goals
                    go_wp2
                    exact bodyPost_ret (v := .tuple #[.agg #[.int .i64 (nn : Int), .slice (some ⟨g2, 0, none⟩) m' c'], .agg #[.int .i64 y.a, .int .i64 y.b], .bool true, .bool true]) (by simp [results, Tryz.results27, go_sem, t0, t1, t2, t3]) rfl (wta_drew2 HA.out)
              · have hk0 : kk = 0 := by have := HKk.out.1; omega
                have hl1 : l = -1 := by have := HKk.out.1; omega
                subst hk0 hl1
                have HWr : Hid (wtO (nn : Int) ls f = some (L, none)) := by
                  show _ = _
                  rw [HW.out, hxt, HL.out.2]
                  rfl
                have S9 := HT.out.in4
                have r0 := S9.rw.cell0
                have r1 := S9.rw.cell1
                have r2 := S9.rw.frozen 0
                have r3 := S9.rw.frozen 1
                have r4 := S9.re.cell0
                have r5 := S9.re.cell1
                have r6 := S9.re.frozen 0
                have r7 := S9.re.frozen 1
                obtain ⟨⟨t0, t1⟩, t2, t3⟩ := putR_cells (M := (nn : Int)) (a' := a') (m' := m') (c' := c') (d := (0, 0)) S9.rw S9.re
                have HA := hideIt (wta_yes (N := (nn : Int)) (r := (L, none)) HWr.out (show w.heap.size + 4 ≤ b8 + 2 by omega) S9.below HT.out.own (d := (0, 0)) rfl (t := false) rfl)
                unfold putR at t0 t1 t2 t3 HA
                clear HT S9 HL HKk hl0 k0 k1
                go_wp2
                exact bodyPost_ret (v := .tuple #[.agg #[.int .i64 (nn : Int), .slice a' m' c'], .agg #[.int .i64 0, .int .i64 0], .bool false, .bool true]) (by simp [results, Tryz.results27, go_sem, t0, t1, t2, t3]) rfl HA.out
          · rw [show x.t = false by simpa using hxt] at l3
            have HWr : Hid (wtO (nn : Int) ls f = some (ouL ls f, none)) := by
              show _ = _
              rw [HW.out, show x.t = false by simpa using hxt]
              rfl
            have S9 := HT.out.in4
            have r0 := S9.rw.cell0
            have r1 := S9.rw.cell1
            have r2 := S9.rw.frozen 0
            have r3 := S9.rw.frozen 1
            have r4 := S9.re.cell0
            have r5 := S9.re.cell1
            have r6 := S9.re.frozen 0
            have r7 := S9.re.frozen 1
            obtain ⟨⟨t0, t1⟩, t2, t3⟩ := putR_cells (M := (nn : Int)) (a' := a') (m' := m') (c' := c') (d := (0, 0)) S9.rw S9.re
            have HA := hideIt (wta_yes (N := (nn : Int)) (r := (ouL ls f, none)) HWr.out (show w.heap.size + 4 ≤ b8 + 2 by omega) S9.below HT.out.own (d := (0, 0)) rfl (t := false) rfl)
            unfold putR at t0 t1 t2 t3 HA
            clear HT S9 hxt
            go_wp2
            exact bodyPost_ret (v := .tuple #[.agg #[.int .i64 (nn : Int), .slice a' m' c'], .agg #[.int .i64 0, .int .i64 0], .bool false, .bool true]) (by simp [results, Tryz.results27, go_sem, t0, t1, t2, t3]) rfl HA.out
    · rw [show hasB (gE ls) f = false by simpa using hh] at HHa
      have HW := hideIt (wtO_no (N := (nn : Int)) (ls := ls) (f := f) (fun h => hh h.2))
      clear hW hh
      go_region_held3 (fun u => ((u.cell? ⟨w.heap.size, 0, none⟩ = some (.int .i64 (nn : Int)) ∧ u.cell? ⟨w.heap.size, 1, none⟩ = some (.slice a n c)) ∧ (u.cell? ⟨w.heap.size + 1, 0, none⟩ = some (.int .i64 f.1) ∧ u.cell? ⟨w.heap.size + 1, 1, none⟩ = some (.int .i64 f.2))) ∧ In4 w (nn : Int) a n c f u)
        (first | with_reducible assumption)
        (first
          | (go_at_call 19; refine (HOk.out _ (And.right (by assumption))).mono ?_; rintro e w3 ⟨rfl, hg3⟩; have hS3 := HK.out _ hg3)
          | (go_at_call 26; refine (HGr.out _ (And.right (by assumption))).mono ?_; rintro e w4 ⟨ag, cg, rfl, ho4, hg4⟩; have hS4 := HK.out _ hg4)
          | (go_at_call 13; refine (HHa.out _ _ _ (And.right (by assumption)) (by assumption)).mono ?_; rintro e w5 ⟨rfl, S5⟩; have hS5 := HK.out _ S5))
      have r0 := S5.rw.cell0
      have r1 := S5.rw.cell1
      have r2 := S5.rw.frozen 0
      have r3 := S5.rw.frozen 1
      have r4 := S5.re.cell0
      have r5 := S5.re.cell1
      have r6 := S5.re.frozen 0
      have r7 := S5.re.frozen 1
      obtain ⟨⟨t0, t1⟩, t2, t3⟩ := putR_cells (M := 0) (a' := none) (m' := 0) (c' := 0) (d := (0, 0)) S5.rw S5.re
      have HA := hideIt (wta_no (N := (nn : Int)) HW.out S5.below)
      unfold putR at t0 t1 t2 t3 HA
      clear hS1 hS3 hS4 hS5 hg3 hg4 ho4 HOk HGr HHa S1 S5
      go_wp2
      exact bodyPost_ret (v := .tuple #[.agg #[.int .i64 0, .slice none 0 0], .agg #[.int .i64 0, .int .i64 0], .bool false, .bool false]) (by simp [results, Tryz.results27, go_sem, t0, t1, t2, t3]) rfl HA.out
  · rw [wB_no hW] at HOk
    have HW := hideIt (wtO_no (N := N) (ls := ls) (f := f) (fun h => hW h.1))
    clear hW
    refine wp_region_held_drew (S := (fun u => ((u.cell? ⟨w.heap.size, 0, none⟩ = some (.int .i64 N) ∧ u.cell? ⟨w.heap.size, 1, none⟩ = some (.slice a n c)) ∧ (u.cell? ⟨w.heap.size + 1, 0, none⟩ = some (.int .i64 f.1) ∧ u.cell? ⟨w.heap.size + 1, 1, none⟩ = some (.int .i64 f.2))) ∧ In4 w N a n c f u)) (by kernel_rfl) hS1 (fun hHeld => ?_)
    refine wpAnyH_take (i := 0) (v := ?_) rfl (by kernel_rfl) (by kernel_rfl) (by kernel_rfl) (fun _ _ _ h => h) (Or.inl ⟨by rfl, ?_⟩) (by assumption) ?_
    rotate_left
    · intro w hSw; (try dsimp only at hSw); go_simp; try with_reducible rfl
    try simp only [Act.put, List.getElem_toArray, List.getElem_cons_zero, List.setIfInBounds_toArray, List.set_cons_zero, List.set_cons_succ]
    refine wpAnyH_ready (rs := [1]) (by kernel_rfl) (by simp) ?_
    refine AllReadyH.cons rfl (fun K hK => ?_) AllReadyH.nil
    rw [if_pos]
    rotate_left
    · kernel_rfl
    go_wp2_with (go_at_call 19; refine (HOk.out _ S1.drew).mono ?_; rintro e w5 ⟨rfl, S5⟩; refine Hid.out ?_)
    refine (show ∀ {p : Prop}, p → Hid p from fun h => h) ?_
    refine hK.out _ _ (HK.out _ S5) (fun hHeld => ?_)
    clear hK K
    try simp only [Act.put, List.getElem_toArray, List.getElem_cons_succ, List.getElem_cons_zero, List.setIfInBounds_toArray, List.set_cons_zero, List.set_cons_succ]
    refine wpAnyH_take (i := 2) (v := ?_) rfl (by kernel_rfl) (by kernel_rfl) (by kernel_rfl) (fun _ _ _ h => h) (Or.inl ⟨by rfl, ?_⟩) (by assumption) ?_
    rotate_left
    · intro w hSw; (try dsimp only at hSw); go_simp; try with_reducible rfl
    try simp only [Act.put, List.getElem_toArray, List.getElem_cons_succ, List.getElem_cons_zero, List.setIfInBounds_toArray, List.set_cons_zero, List.set_cons_succ]
    refine wpAnyH_take (i := 3) (v := ?_) rfl (by kernel_rfl) (by kernel_rfl) (by kernel_rfl) (fun _ _ _ h => h) (Or.inl ⟨by rfl, ?_⟩) (by assumption) ?_
    rotate_left
    · intro w hSw; (try dsimp only at hSw); go_simp; try with_reducible rfl
    try simp only [Act.put, List.getElem_toArray, List.getElem_cons_succ, List.getElem_cons_zero, List.setIfInBounds_toArray, List.set_cons_zero, List.set_cons_succ]
    refine wpAnyH_take (i := 4) rfl (by kernel_rfl) (by kernel_rfl) (by kernel_rfl) (fun _ _ _ h => h) (Or.inr ⟨by kernel_rfl, rfl⟩) (by assumption) ?_
    refine wpAnyH_take (i := 5) rfl (by kernel_rfl) (by kernel_rfl) (by kernel_rfl) (fun _ _ _ h => h) (Or.inr ⟨by kernel_rfl, rfl⟩) (by assumption) ?_
    refine wpAnyH_take (i := 6) rfl (by kernel_rfl) (by kernel_rfl) (by kernel_rfl) (fun _ _ _ h => h) (Or.inr ⟨by kernel_rfl, rfl⟩) (by assumption) ?_
    refine wpAnyH_take (i := 7) rfl (by kernel_rfl) (by kernel_rfl) (by kernel_rfl) (fun _ _ _ h => h) (Or.inr ⟨by kernel_rfl, rfl⟩) (by assumption) ?_
    refine wpAnyH_take (i := 8) rfl (by kernel_rfl) (by kernel_rfl) (by kernel_rfl) (fun _ _ _ h => h) (Or.inr ⟨by kernel_rfl, rfl⟩) (by assumption) ?_
    refine wpAnyH_ready (rs := [9]) (by kernel_rfl) (by simp) ?_
    refine AllReadyH.cons rfl (fun K hK => ?_) AllReadyH.nil
    go_simp
    refine hK.out _ _ (by assumption) (fun hHeld => ?_)
    clear hK K
    try simp only [Act.put, List.getElem_toArray, List.getElem_cons_succ, List.getElem_cons_zero, List.setIfInBounds_toArray, List.set_cons_zero, List.set_cons_succ]
    refine wpAnyH_done (by kernel_rfl) ?_ _
    have r0 := S5.rw.cell0
    have r1 := S5.rw.cell1
    have r2 := S5.rw.frozen 0
    have r3 := S5.rw.frozen 1
    have r4 := S5.re.cell0
    have r5 := S5.re.cell1
    have r6 := S5.re.frozen 0
    have r7 := S5.re.frozen 1
    obtain ⟨⟨t0, t1⟩, t2, t3⟩ := putR_cells (M := 0) (a' := none) (m' := 0) (c' := 0) (d := (0, 0)) S5.rw S5.re
    have HA := hideIt (wta_no (N := N) HW.out S5.below)
    unfold putR at t0 t1 t2 t3 HA
    clear hS1 HOk S1 S5
    go_wp2
    exact bodyPost_ret (v := .tuple #[.agg #[.int .i64 0, .slice none 0 0], .agg #[.int .i64 0, .int .i64 0], .bool false, .bool false]) (by simp [results, Tryz.results27, go_sem, t0, t1, t2, t3]) rfl HA.out
end Go.Proofs.YtkkplppcgnikoaaGreat
namespace Go.Proofs.YtkkplppcgnikoaaGreat

theorem nod_le {α : Type} [DecidableEq α] : ∀ {m l : List α}, m.Nodup → (∀ x ∈ m, x ∈ l) → m.length ≤ l.length
  | [], _, _, _ => Nat.zero_le _
  | x :: m, l, hn, hs => by
    have hn' := List.nodup_cons.1 hn
    have hx := hs x (by simp)
    have h1 := nod_le (m := m) (l := l.erase x) hn'.2 (fun y hy => by
      have hne : y ≠ x := fun e => hn'.1 (e ▸ hy)
      exact (List.mem_erase_of_ne hne).2 (hs y (by simp [hy])))
    have h2 := List.length_erase_of_mem hx
    have h3 : 0 < l.length := List.length_pos_of_mem hx
    simp only [List.length_cons]
    omega
theorem conn_sub {es fs : List EdgeV} {u v : Int} (h : Conn es u v) (hs : ∀ d ∈ es, Conn fs d.1 d.2) : Conn fs u v := fun S hS hu =>
  h S (fun d hd => ⟨fun h1 => hs d hd S hS h1, fun h1 => (hs d hd).symm S hS h1⟩) hu

/-- what hangs together is never more than m, if it is more than one -/
def Szb (es : List EdgeV) (n m : Nat) : Prop := ∀ L : List Int, L.Nodup → (∀ x ∈ L, 0 ≤ x ∧ x < (n : Int)) → (∀ x ∈ L, ∀ y ∈ L, Conn es x y) → 1 < L.length → L.length ≤ m
theorem Szb.sub {es fs : List EdgeV} {n m : Nat} (h : Szb es n m) (hs : ∀ d ∈ fs, Conn es d.1 d.2) : Szb fs n m := fun L h1 h2 h3 h4 => h L h1 h2 (fun x hx y hy => conn_sub (h3 x hx y hy) hs) h4
/-- the web is right, by what hangs together -/
structure WC (n : Nat) (ls : List Ld) : Prop where
  st : Stg n ls
  sz : ∀ i : Nat, i < 5 → Szb (fE ls (i : Int)) n (n / 2 ^ i)
  nt : ∀ x ∈ ls, x.t = false → Conn (fE ls x.l) x.a x.b

theorem Stg.n12 {n : Nat} {ls : List Ld} (h : Stg n ls) : 1 ≤ n ∧ n ≤ 12 := by
  obtain ⟨m, hm, h1, h2⟩ := gB_n h.g
  omega
theorem Stg.ends {n : Nat} {ls : List Ld} (h : Stg n ls) {x : Ld} (hx : x ∈ ls) : 0 ≤ x.a ∧ x.a < x.b ∧ x.b < (n : Int) := gB_ends h.g x.e (gE_mem hx)
theorem tour_vs {n : Nat} {es : List EdgeV} {ts : List (List Int)} (_h : FtAll es n ts) (hn : n ≤ 12) {t : List Int} (_ht : t ∈ ts) {x : Int} (hx : 0 ≤ x ∧ x < (n : Int)) : x ∈ vsL t ↔ x ∈ t := by
  rw [vsL_mem]
  refine ⟨fun h => h.2, fun h1 => ⟨?_, h1⟩⟩
  unfold vB
  exact decide_eq_true (by omega)
theorem tour_in {n : Nat} {es : List EdgeV} {ts : List (List Int)} (h : FtAll es n ts) {t : List Int} (ht : t ∈ ts) {x : Int} (hx : x ∈ vsL t) : x ∈ t ∧ 0 ≤ x ∧ x < (n : Int) := by
  obtain ⟨h1, h2⟩ := (vsL_mem t x).1 hx
  refine ⟨h2, by unfold vB at h1; have := of_decide_eq_true h1; omega, ?_⟩
  obtain ⟨k, hk⟩ := List.mem_iff_getElem?.1 ht
  exact (h.fp.2.2.2.1 k t hk).2.1 x h2
theorem vsL_nodup (t : List Int) : (vsL t).Nodup := (vsK_asc t 12).imp fun h => by omega

theorem WC.of {n : Nat} {ls : List Ld} (h : WOk (n : Int) ls) : WC n ls := by
  have st := Stg.of h
  have hn := st.n12
  refine ⟨st, fun i hi => ?_, fun x hx ht => ?_⟩
  · obtain ⟨ts, hts, hs, _⟩ := h.2.2 i hi
    rw [Int.toNat_natCast] at hts hs
    have hA := ft_all (fE_ends h.1 (i : Int)) hn.1 hn.2 hts
    intro L h1 h2 h3 h4
    cases L with
    | nil => simp at h4
    | cons y L =>
      have hy := h2 y (by simp)
      obtain ⟨t, ht, hyt⟩ := hA.cov y hy.1 hy.2
      have hall : ∀ x ∈ y :: L, x ∈ vsL t := fun x hx => (tour_vs hA hn.2 ht (h2 x hx)).2 ((hA.conn t ht y hyt x).2 (h3 y (by simp) x hx))
      have h5 := nod_le h1 hall
      exact Nat.le_trans h5 (hs t ht (by omega))
  · have hl := h.2.1 x hx
    obtain ⟨ts, hts, _, hnt⟩ := h.2.2 x.l.toNat (by omega)
    rw [Int.toNat_natCast] at hts
    rw [show ((x.l.toNat : Nat) : Int) = x.l by omega] at hts hnt
    have hA := ft_all (fE_ends h.1 x.l) hn.1 hn.2 hts
    have he := st.ends hx
    exact (tr_same hA ⟨by omega, by omega⟩ ⟨by omega, by omega⟩).1 (hnt x hx ht rfl)
theorem WC.ok {n : Nat} {ls : List Ld} (h : WC n ls) : WOk (n : Int) ls := by
  have hn := h.st.n12
  refine ⟨h.st.g, h.st.l, fun i hi => ?_⟩
  rw [Int.toNat_natCast]
  obtain ⟨hts, hA⟩ := h.st.trees (i := (i : Int)) (by omega)
  refine ⟨_, hts, fun t ht hl => ?_, fun x hx hxt hxl => ?_⟩
  · refine h.sz i hi (vsL t) (vsL_nodup t) (fun x hx => (tour_in hA ht hx).2) (fun x hx y hy => ?_) hl
    exact (hA.conn t ht x (tour_in hA ht hx).1 y).1 (tour_in hA ht hy).1
  · have he := h.st.ends hx
    have hc := h.nt x hx hxt
    rw [hxl] at hc
    exact (tr_same hA ⟨by omega, by omega⟩ ⟨by omega, by omega⟩).2 hc

/-- while a tree edge goes: Levels below k are still to be looked at -/
structure TS (n : Nat) (e : EdgeV) (k : Nat) (ls : List Ld) : Prop where
  st : Stg n ls
  no : ¬ Conn (fE ls 0) e.1 e.2
  ends : (0 ≤ e.1 ∧ e.1 < (n : Int)) ∧ 0 ≤ e.2 ∧ e.2 < (n : Int)
  szl : ∀ j : Nat, j < k → j < 5 → Szb (e :: fE ls (j : Int)) n (n / 2 ^ j)
  szh : ∀ j : Nat, k ≤ j → j < 5 → Szb (fE ls (j : Int)) n (n / 2 ^ j)
  ntl : ∀ x ∈ ls, x.t = false → x.l < (k : Int) → Conn (e :: fE ls x.l) x.a x.b
  nth : ∀ x ∈ ls, x.t = false → (k : Int) ≤ x.l → Conn (fE ls x.l) x.a x.b
theorem TS.done {n : Nat} {e : EdgeV} {ls : List Ld} (h : TS n e 0 ls) : WC n ls :=
  ⟨h.st, fun i hi => h.szh i (by omega) hi, fun x hx ht => h.nth x hx ht (by have := h.st.l x hx; omega)⟩

/-- the tree that is raised: what hangs together with one end of the edge, and not with the other -/
structure Sm (n : Nat) (e : EdgeV) (F : List EdgeV) (t : List Int) (q : Nat) : Prop where
  cmp : ∀ x ∈ t, ∀ y : Int, y ∈ t ↔ Conn F x y
  r : ∃ r p : Int, ((r = e.1 ∧ p = e.2) ∨ (r = e.2 ∧ p = e.1)) ∧ r ∈ t ∧ p ∉ t
  sz : ∀ L : List Int, L.Nodup → (∀ x ∈ L, 0 ≤ x ∧ x < (n : Int)) → (∀ x ∈ L, x ∈ t) → L.length ≤ q
theorem Sm.both {n : Nat} {e : EdgeV} {F : List EdgeV} {t : List Int} {q : Nat} (h : Sm n e F t q) {d : EdgeV} (hd : d ∈ F) : d.1 ∈ t ↔ d.2 ∈ t :=
  ⟨fun h1 => (h.cmp _ h1 _).2 (Conn.edge hd), fun h1 => (h.cmp _ h1 _).2 (Conn.edge hd).symm⟩

theorem trI_getD {es : List EdgeV} {n : Nat} {ts : List (List Int)} (h : FtAll es n ts) {v : Int} (hv : 0 ≤ v ∧ v < (n : Int)) : ts.getD (trI ts v).toNat [] ∈ ts ∧ v ∈ ts.getD (trI ts v).toNat [] := by
  rcases trI_cases ts v with ⟨k, t, hk, hvt, hi⟩ | ⟨hno, _⟩
  · rw [hi, Int.toNat_natCast, List.getD_eq_getElem?_getD, hk]
    exact ⟨List.mem_of_getElem? hk, hvt⟩
  · obtain ⟨t, ht, hvt⟩ := h.cov v hv.1 hv.2
    exact absurd hvt (hno t ht)
theorem half {n i a b : Nat} (h : a + b ≤ n / 2 ^ i) (hab : a ≤ b) : a ≤ n / 2 ^ (i + 1) := by
  rw [Nat.pow_succ, ← Nat.div_div_eq_div_mul]
  omega

theorem TS.sm {n : Nat} {e : EdgeV} {i : Nat} {ls : List Ld} (h : TS n e (i + 1) ls) (hi : i < 5) : Sm n e (fE ls (i : Int)) (smT (lvT n ls (i : Int)) e) (n / 2 ^ (i + 1)) := by
  have hn := h.st.n12
  obtain ⟨hts, hA⟩ := h.st.trees (i := (i : Int)) (by omega)
  generalize lvT n ls (i : Int) = ts at *
  obtain ⟨m1, v1⟩ := trI_getD hA h.ends.1
  obtain ⟨m2, v2⟩ := trI_getD hA h.ends.2
  unfold smT
  generalize ts.getD (trI ts e.1).toNat [] = t1 at *
  generalize ts.getD (trI ts e.2).toNat [] = t2 at *
  have hno : ¬ Conn (fE ls (i : Int)) e.1 e.2 := fun hc => h.no (hc.more fun d hd => fE_low (by omega) hd)
  have n1 : e.2 ∉ t1 := fun hm => hno ((hA.conn t1 m1 e.1 v1 e.2).1 hm)
  have n2 : e.1 ∉ t2 := fun hm => hno ((hA.conn t2 m2 e.2 v2 e.1).1 hm).symm
  have hdis : ∀ x, x ∈ t1 → x ∉ t2 := fun x h1 h2 => hno (((hA.conn t1 m1 e.1 v1 x).1 h1).trans ((hA.conn t2 m2 e.2 v2 x).1 h2).symm)
  have hsub : ∀ {u v : Int}, Conn (fE ls (i : Int)) u v → Conn (e :: fE ls (i : Int)) u v := fun hc => hc.more fun d hd => List.mem_cons_of_mem _ hd
  have hee : Conn (e :: fE ls (i : Int)) e.1 e.2 := Conn.edge (by simp)
  -- both trees together
  have hnd : (vsL t1 ++ vsL t2).Nodup := by
    refine List.nodup_append.2 ⟨vsL_nodup _, vsL_nodup _, fun a ha b hb hab => ?_⟩
    subst hab
    exact hdis a (tour_in hA m1 ha).1 (tour_in hA m2 hb).1
  have hto : ∀ x ∈ vsL t1 ++ vsL t2, (0 ≤ x ∧ x < (n : Int)) ∧ Conn (e :: fE ls (i : Int)) e.1 x := fun x hx => by
    rcases List.mem_append.1 hx with h1 | h1
    · obtain ⟨q1, q2⟩ := tour_in hA m1 h1
      exact ⟨q2, hsub ((hA.conn t1 m1 e.1 v1 x).1 q1)⟩
    · obtain ⟨q1, q2⟩ := tour_in hA m2 h1
      exact ⟨q2, hee.trans (hsub ((hA.conn t2 m2 e.2 v2 x).1 q1))⟩
  have p1 : 1 ≤ (vsL t1).length := List.length_pos_of_mem ((tour_vs hA hn.2 m1 h.ends.1).2 v1)
  have p2 : 1 ≤ (vsL t2).length := List.length_pos_of_mem ((tour_vs hA hn.2 m2 h.ends.2).2 v2)
  have hsum : (vsL t1).length + (vsL t2).length ≤ n / 2 ^ i := by
    have := h.szl i (by omega) hi _ hnd (fun x hx => (hto x hx).1) (fun x hx y hy => (hto x hx).2.symm.trans (hto y hy).2) (by rw [List.length_append]; omega)
    rw [List.length_append] at this
    exact this
  by_cases hlt : (vsL t2).length < (vsL t1).length
  · rw [if_pos hlt]
    refine ⟨fun x hx y => ?_, ⟨e.2, e.1, .inr ⟨rfl, rfl⟩, v2, n2⟩, fun L h1 h2 h3 => ?_⟩
    · exact hA.conn t2 m2 x hx y
    · have := nod_le h1 (fun x hx => (tour_vs hA hn.2 m2 (h2 x hx)).2 (h3 x hx))
      exact Nat.le_trans this (half (b := (vsL t1).length) (by omega) (by omega))
  · rw [if_neg hlt]
    refine ⟨fun x hx y => ?_, ⟨e.1, e.2, .inl ⟨rfl, rfl⟩, v1, n1⟩, fun L h1 h2 h3 => ?_⟩
    · exact hA.conn t1 m1 x hx y
    · have := nod_le h1 (fun x hx => (tour_vs hA hn.2 m1 (h2 x hx)).2 (h3 x hx))
      exact Nat.le_trans this (half (b := (vsL t2).length) (by omega) (by omega))
end Go.Proofs.YtkkplppcgnikoaaGreat
