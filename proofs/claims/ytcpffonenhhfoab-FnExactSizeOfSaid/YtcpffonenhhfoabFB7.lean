/- A list of tours in memory, each in a block of its own. -/
import Derived.Test.YtcpffonenhhfoabF7
namespace Go.Proofs.Ytcpffonenhhfoab
open Go.RowKit

/-- a row: its block, its room, its numbers -/
structure Rw where
  g : Nat
  cp : Nat
  t : List Int
def Rw.hdr (r : Rw) : Value := .slice (some ⟨r.g, 0, none⟩) r.t.length r.cp
def rts (R : List Rw) : List (List Int) := R.map Rw.t
def rhs (R : List Rw) : List Value := R.map Rw.hdr
theorem rts_len (R : List Rw) : (rts R).length = R.length := by simp [rts]
theorem rhs_len (R : List Rw) : (rhs R).length = R.length := by simp [rhs]
theorem rts_at {R : List Rw} {j : Nat} {r : Rw} (h : R[j]? = some r) : (rts R)[j]? = some r.t := by simp [rts, h]
theorem rhs_at {R : List Rw} {j : Nat} {r : Rw} (h : R[j]? = some r) : (rhs R)[j]? = some r.hdr := by simp [rhs, h]
theorem rhs_snoc (R : List Rw) (r : Rw) : rhs (R ++ [r]) = rhs R ++ [r.hdr] := by simp [rhs]
theorem rts_snoc (R : List Rw) (r : Rw) : rts (R ++ [r]) = rts R ++ [r.t] := by simp [rts]

/-- a row that is ours -/
abbrev RwB (u : World) (r : Rw) : Prop := RBox u r.g (r.g + 1) (some ⟨r.g, 0, none⟩) r.t.length r.cp r.t
theorem RwB.of_own {u : World} {B g m c : Nat} {t : List Int} (h : u.ownsRow B 3 1 (.slice (some ⟨g, 0, none⟩) m c) m (ic t)) : RwB u ⟨g, c, t⟩ := by
  have hl := h.1
  rw [ic_len] at hl
  have hm : m = t.length := by omega
  subst hm
  have hlt := h.lt g rfl
  refine ⟨⟨h.1, ?_⟩, fun x hx => by simp [Value.ownBlock] at hx; show x < g + 1; omega, by show g + 1 ≤ _; omega⟩
  rcases h.2 with ⟨hv, _⟩ | ⟨g2, cap, cur, hv, hb, hrest⟩
  · simp at hv
  · simp at hv
    obtain ⟨rfl, rfl⟩ := hv
    exact .inr ⟨g, c, cur, rfl, Nat.le_refl _, hrest⟩
theorem RwB.cap {u : World} {r : Rw} (h : RwB u r) : r.t.length ≤ r.cp := by
  rcases h.own.2 with ⟨hv, _⟩ | ⟨g2, cap, cur, hv, hb, hg, hnc, _⟩
  · simp at hv
  · simp only [Value.slice.injEq, Option.some.injEq, Addr.mk.injEq, and_true, true_and] at hv
    obtain ⟨rfl, rfl⟩ := hv
    exact hnc
theorem RwB.lt {u : World} {r : Rw} (h : RwB u r) : r.g < u.heap.size := (h.own.lt r.g rfl).2
theorem RwB.blk {u : World} {r : Rw} (h : RwB u r) : ∃ cur, u.heap[r.g]? = some (.cells cur 3 (0, 0)) := by
  rcases h.own.2 with ⟨hv, _⟩ | ⟨g2, cap, cur, hv, hb, hg, hnc, _⟩
  · simp at hv
  · simp only [Value.slice.injEq, Option.some.injEq, Addr.mk.injEq, and_true, true_and] at hv
    obtain ⟨rfl, rfl⟩ := hv
    exact ⟨cur, hg⟩
theorem RwB.grown {u v : World} {r : Rw} {row : Option Nat} (h : RwB u r) (hg : u.grownBy v row) (hr : row ≠ some r.g) : RwB v r :=
  ⟨h.own.kept hg (.inr (by simp [Value.ownBlock]; exact fun e => hr e.symm)), h.row, Nat.le_trans h.there hg.size⟩

/-- rows that are ours, in blocks lo .. hi, each in a block of its own -/
structure FB (u : World) (lo hi : Nat) (a : Option Addr) (n c : Nat) (R : List Rw) : Prop where
  len : R.length = n
  own : u.ownsRow lo 45 1 (.slice a n c) n (rhs R)
  row : ∀ g, (Value.slice a n c).ownBlock = some g → g < hi
  there : hi ≤ u.heap.size
  ins : ∀ r ∈ R, RwB u r ∧ lo ≤ r.g ∧ r.g < hi
  nod : R.Pairwise fun r s => r.g ≠ s.g

theorem own_blk {u : World} {lo e s g n c : Nat} {xs : List Value} (h : u.ownsRow lo e s (.slice (some ⟨g, 0, none⟩) n c) n xs) : ∃ cur, u.heap[g]? = some (.cells cur e (0, 0)) := by
  rcases h.2 with ⟨hv, _⟩ | ⟨g2, cap, cur, hv, hb, hg, hnc, _⟩
  · simp at hv
  · simp only [Value.slice.injEq, Option.some.injEq, Addr.mk.injEq, and_true, true_and] at hv
    obtain ⟨rfl, rfl⟩ := hv
    exact ⟨cur, hg⟩
/-- a row of rows is no row of numbers -/
theorem own_ne {u : World} {lo s g n c : Nat} {xs : List Value} {r : Rw} (h : u.ownsRow lo 45 s (.slice (some ⟨g, 0, none⟩) n c) n xs) (hr : RwB u r) : g ≠ r.g := by
  obtain ⟨c1, h1⟩ := own_blk h
  obtain ⟨c2, h2⟩ := hr.blk
  intro e
  rw [e, h2] at h1
  simp at h1
theorem own_ne' {u : World} {lo s n : Nat} {v : Value} {xs : List Value} {r : Rw} (h : u.ownsRow lo 45 s v n xs) (hr : RwB u r) : v.ownBlock ≠ some r.g := by
  rcases h.2 with ⟨rfl, _⟩ | ⟨g, cap, cur, rfl, _⟩
  · simp [Value.ownBlock]
  · intro e
    simp [Value.ownBlock] at e
    exact own_ne h hr e
theorem own_rng {u v : World} {lo e s l2 h2 n : Nat} {x : Value} {xs : List Value} (h : u.ownsRow lo e s x n xs) (hr : Rng l2 h2 u v) (ho : ∀ g, x.ownBlock = some g → g < l2 ∨ h2 ≤ g) : v.ownsRow lo e s x n xs := by
  refine ⟨h.1, ?_⟩
  rcases h.2 with h3 | ⟨g, cap, cur, hv, hg, hcur, hrest⟩
  · exact .inl h3
  · have hgl := h.lt g (by rw [hv]; rfl)
    refine .inr ⟨g, cap, cur, hv, hg, ?_, hrest⟩
    rw [hr.block g (by omega) (ho g (by rw [hv]; rfl))]
    exact hcur
theorem FB.rng {u v : World} {lo hi l2 h2 : Nat} {a : Option Addr} {n c : Nat} {R : List Rw} (h : FB u lo hi a n c R) (hr : Rng l2 h2 u v) (ho : hi ≤ l2 ∨ h2 ≤ lo) : FB v lo hi a n c R := by
  refine ⟨h.len, own_rng h.own hr (fun g hg => by have := h.row g hg; have := (h.own.lt g hg).1; omega), h.row, Nat.le_trans h.there hr.size, fun r hr2 => ?_, h.nod⟩
  have hb := h.ins r hr2
  exact ⟨hb.1.rng hr (by omega), hb.2⟩
theorem FB.up {u v : World} {lo hi : Nat} {a : Option Addr} {n c : Nat} {R : List Rw} (h : FB u lo hi a n c R) (hb : Below u.heap.size u v) : FB v lo hi a n c R :=
  h.rng (l2 := hi) (h2 := hi) (Rng.of_below hb) (.inl (Nat.le_refl _))
theorem FB.hi {u : World} {lo hi hi' : Nat} {a : Option Addr} {n c : Nat} {R : List Rw} (h : FB u lo hi a n c R) (h1 : hi ≤ hi') (h2 : hi' ≤ u.heap.size) : FB u lo hi' a n c R :=
  ⟨h.len, h.own, fun g hg => Nat.lt_of_lt_of_le (h.row g hg) h1, h2, fun r hr => ⟨(h.ins r hr).1, (h.ins r hr).2.1, Nat.lt_of_lt_of_le (h.ins r hr).2.2 h1⟩, h.nod⟩
theorem FB.lo {u : World} {lo lo' hi : Nat} {a : Option Addr} {n c : Nat} {R : List Rw} (h : FB u lo hi a n c R) (h1 : lo' ≤ lo) : FB u lo' hi a n c R :=
  ⟨h.len, own_mono h.own h1, h.row, h.there, fun r hr => ⟨(h.ins r hr).1, Nat.le_trans h1 (h.ins r hr).2.1, (h.ins r hr).2.2⟩, h.nod⟩
theorem FB.ts {u : World} {lo hi : Nat} {a : Option Addr} {n c : Nat} {R : List Rw} (h : FB u lo hi a n c R) : Ts u u.heap.size a n (rts R) := by
  refine ⟨by rw [rts_len]; exact h.len, ?_⟩
  rcases h.own.2 with ⟨_, h0⟩ | ⟨g, cap, cur, hv, hg, hcur, hrest⟩
  · exact .inl h0
  · simp at hv
    obtain ⟨rfl, rfl⟩ := hv
    refine .inr ⟨g, 0, rfl, (h.own.lt g rfl).2, fun j t ht => ?_⟩
    have hj : j < R.length := by rw [← rts_len]; exact (List.getElem?_eq_some_iff.1 ht).1
    have hr : R[j]? = some R[j] := List.getElem?_eq_getElem hj
    have e := rts_at hr
    rw [ht] at e
    obtain rfl := Option.some.inj e
    have hi2 := h.ins _ (List.mem_of_getElem? hr)
    refine ⟨some ⟨R[j].g, 0, none⟩, R[j].cp, ?_, hi2.1.is, hi2.1.cap⟩
    rw [Nat.zero_add, h.own.cellAt j (by have := h.len; omega)]
    exact rhs_at hr
/-- one row turned -/
theorem FB.turn {u v : World} {lo hi : Nat} {a : Option Addr} {n c : Nat} {P S : List Rw} {r : Rw} (h : FB u lo hi a n c (P ++ r :: S)) {s : List Int} (hl : s.length = r.t.length)
    (hr : Rng r.g (r.g + 1) u v) (hs : RBox v r.g (r.g + 1) (some ⟨r.g, 0, none⟩) r.t.length r.cp s) : FB v lo hi a n c (P ++ ⟨r.g, r.cp, s⟩ :: S) := by
  have hn := List.pairwise_append.1 h.nod
  have hn2 := List.pairwise_cons.1 hn.2.1
  have hri := h.ins r (by simp)
  refine ⟨by have := h.len; simp at this ⊢; omega, ?_, h.row, Nat.le_trans h.there hr.size, fun x hx => ?_, ?_⟩
  · have e : rhs (P ++ ⟨r.g, r.cp, s⟩ :: S) = rhs (P ++ r :: S) := by simp [rhs, Rw.hdr, hl]
    rw [e]
    exact own_rng h.own hr (fun g hg => by have := own_ne' h.own hri.1; rw [hg] at this; simp at this; omega)
  · rcases List.mem_append.1 hx with hx | hx
    · have hne := hn.2.2 x hx r (by simp)
      have hi2 := h.ins x (by simp [hx])
      exact ⟨hi2.1.rng hr (by omega), hi2.2⟩
    · rcases List.mem_cons.1 hx with rfl | hx
      · refine ⟨?_, hri.2⟩
        show RBox v r.g (r.g + 1) _ s.length r.cp s
        rw [hl]
        exact hs
      · have hne := hn2.1 x hx
        have hi2 := h.ins x (by simp [hx])
        exact ⟨hi2.1.rng hr (by omega), hi2.2⟩
  · rw [List.pairwise_append, List.pairwise_cons]
    refine ⟨hn.1, ⟨fun x hx => hn2.1 x hx, hn2.2⟩, fun x hx y hy => ?_⟩
    rcases List.mem_cons.1 hy with rfl | hy
    · exact hn.2.2 x hx r (by simp)
    · exact hn.2.2 x hx y (by simp [hy])
/-- one row more behind them -/
theorem FB.app {u u' : World} {lo : Nat} {a : Option Addr} {n c : Nat} {R : List Rw} (h : FB u lo u.heap.size a n c R) {r : Rw} (hr : RwB u r) (hl : lo ≤ r.g) (hne : ∀ x ∈ R, x.g ≠ r.g) {o : Obj} {v : Value}
    (ho : u'.ownsRow lo 45 1 v (n + 1) (rhs R ++ [r.hdr])) (hg : (u.alloc o).grownBy u' (Value.slice a n c).ownBlock) : ∃ a' c', v = .slice a' (n + 1) c' ∧ FB u' lo u'.heap.size a' (n + 1) c' (R ++ [r]) := by
  obtain ⟨a', c', rfl⟩ := own_form ho
  have hsz := hg.size
  have hkeep : ∀ x, RwB u x → RwB u' x := fun x hx => by
    have hx2 : RwB (u.alloc o) x := hx.rng (l2 := x.g + 1) (h2 := x.g + 1) (Rng.of_below ((Below.refl _ _).alloc (Nat.le_refl _) _)) (.inl (Nat.le_refl _))
    exact hx2.grown hg (own_ne' h.own hx)
  refine ⟨a', c', rfl, by simp [h.len], by rw [rhs_snoc]; exact ho, fun g hg2 => (ho.lt g hg2).2, Nat.le_refl _, fun x hx => ?_, ?_⟩
  · rcases List.mem_append.1 hx with hx | hx
    · have := h.ins x hx
      have h2 := hkeep x this.1
      exact ⟨h2, this.2.1, h2.lt⟩
    · simp at hx
      subst hx
      have h2 := hkeep x hr
      exact ⟨h2, hl, h2.lt⟩
  · rw [List.pairwise_append]
    refine ⟨h.nod, by simp, fun x hx y hy => ?_⟩
    simp at hy
    subst hy
    exact hne x hx
theorem FB.setLow {u : World} {lo hi : Nat} {a : Option Addr} {n c : Nat} {R : List Rw} (h : FB u lo hi a n c R) {x : Nat} (hx : x < lo) (j : Nat) (v : Value) : FB (u.setCell ⟨x, j, none⟩ v) lo hi a n c R :=
  h.rng (l2 := x) (h2 := x + 1) ⟨rfl, rfl, rfl, by simp [World.setCell], fun k _ hk => heap_setCell_other u ⟨x, j, none⟩ k v (by show k ≠ x; omega)⟩ (.inr hx)
theorem FB.nil (u : World) (lo : Nat) : FB u lo u.heap.size none 0 0 [] := ⟨rfl, World.ownsRow_nil _ _ _ _, fun g hg => by simp [Value.ownBlock] at hg, Nat.le_refl _, by simp, List.Pairwise.nil⟩
theorem FB.start (wb : World) : FB (wb.alloc (.cells #[] 45)) wb.heap.size (wb.alloc (.cells #[] 45)).heap.size (some ⟨wb.heap.size, 0, none⟩) 0 0 [] := by
  have h0 := World.ownsRow_lit (base := wb.heap.size) (e := 45) (size := 1) wb #[] 0 (Nat.le_refl _) (by unfold maxLen; omega) (by simp)
  exact ⟨rfl, by simpa [rhs] using h0, fun g hg => (h0.lt g hg).2, Nat.le_refl _, by simp, List.Pairwise.nil⟩
theorem FB.keep {u v : World} {lo : Nat} {a : Option Addr} {n c : Nat} {R : List Rw} (h : FB u lo u.heap.size a n c R) (hb : Below u.heap.size u v) : FB v lo v.heap.size a n c R :=
  (h.up hb).hi hb.size (Nat.le_refl _)
end Go.Proofs.Ytcpffonenhhfoab
