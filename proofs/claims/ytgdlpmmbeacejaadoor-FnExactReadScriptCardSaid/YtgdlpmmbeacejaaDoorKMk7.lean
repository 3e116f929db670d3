/- The specification's TourOk. The specification's TourOk: the whole of it. The vertices of a list of numbers, ascending; a sorted list without its repetitions: pure. Lists of tours in memory; what a right forest is: pure. A list of tours in memory, each in a block of its own. Rows of numbers, marked one behind the other: pure. -/
import Derived.Test.YtgdlpmmbeacejaaDoorKFind6
import Derived.Lib.SlicesCompact
namespace Go.Proofs.YtgdlpmmbeacejaaDoor
open Go.RowKit

theorem own_cut {u : World} {B e g n m c : Nat} {xs : List Value} (h : u.ownsRow B e 1 (.slice (some ⟨g, 0, none⟩) n c) n xs) (hm : m ≤ n) : u.ownsRow B e 1 (.slice (some ⟨g, 0, none⟩) m c) m (xs.take m) := by
  obtain ⟨hl, h2⟩ := h
  refine ⟨by rw [List.length_take, hl]; omega, ?_⟩
  rcases h2 with ⟨hv, _⟩ | ⟨g', cap, cur, hv, hb, hg, hnc, hcm, hcs, htake⟩
  · simp at hv
  · simp only [Value.slice.injEq, Option.some.injEq, Addr.mk.injEq, and_true, true_and] at hv
    obtain ⟨rfl, rfl⟩ := hv
    refine .inr ⟨g, c, cur, rfl, hb, hg, by omega, hcm, hcs, ?_⟩
    rw [← htake, List.take_take]
    congr 1
    omega

/-- two rows of ints in the making, each in a block of its own; nothing of wb has turned -/
structure Two (wb : World) (g n c : Nat) (ls : List Int) (g' n' c' : Nat) (ls' : List Int) (u : World) : Prop where
  one : u.ownsRow wb.heap.size 3 1 (.slice (some ⟨g, 0, none⟩) n c) n (ic ls)
  two : u.ownsRow wb.heap.size 3 1 (.slice (some ⟨g', 0, none⟩) n' c') n' (ic ls')
  ne : g ≠ g'
  bel : Below wb.heap.size wb u
theorem Two.size {wb : World} {g n c g' n' c' : Nat} {ls ls' : List Int} {u : World} (h : Two wb g n c ls g' n' c' ls' u) : wb.heap.size ≤ u.heap.size := h.bel.size
theorem Two.len {wb : World} {g n c g' n' c' : Nat} {ls ls' : List Int} {u : World} (h : Two wb g n c ls g' n' c' ls' u) : ls.length = n ∧ ls'.length = n' := by
  have h1 := h.one.1
  have h2 := h.two.1
  rw [ic_len] at h1 h2
  omega
theorem Two.swap {wb : World} {g n c g' n' c' : Nat} {ls ls' : List Int} {u : World} (h : Two wb g n c ls g' n' c' ls' u) : Two wb g' n' c' ls' g n c ls u := ⟨h.two, h.one, h.ne.symm, h.bel⟩
theorem Two.up {wb : World} {g n c g' n' c' : Nat} {ls ls' : List Int} {u v : World} (h : Two wb g n c ls g' n' c' ls' u) (hb : Below u.heap.size u v) : Two wb g n c ls g' n' c' ls' v :=
  ⟨own_up h.one hb, own_up h.two hb, h.ne, h.bel.trans (hb.mono h.size)⟩
theorem Two.cut {wb : World} {g n c g' n' c' m : Nat} {ls ls' : List Int} {u : World} (h : Two wb g n c ls g' n' c' ls' u) (hm : m ≤ n) : Two wb g m c (ls.take m) g' n' c' ls' u :=
  ⟨by have := own_cut h.one hm; rw [ic, ← List.map_take] at this; exact this, h.two, h.ne, h.bel⟩
theorem Two.app {wb : World} {g n c g' n' c' : Nat} {ls ls' : List Int} {u : World} (h : Two wb g n c ls g' n' c' ls' u) {x : Int} {o : Obj} {G cap : Nat} {u' : World}
    (ho : u'.ownsRow wb.heap.size 3 1 (.slice (some ⟨G, 0, none⟩) (n + 1) cap) (n + 1) (ic ls ++ [.int .i64 x])) (hg : (u.alloc o).grownBy u' (some g)) (hG : (some g : Option Nat) = some G ∨ G = u.heap.size + 1) :
    Two wb G (n + 1) cap (ls ++ [x]) g' n' c' ls' u' := by
  have hl := (h.two.lt g' rfl).2
  refine ⟨by rw [ic_snoc]; exact ho, World.ownsRow.kept (h.two.alloc o) hg (.inr (by simp [Value.ownBlock]; exact fun e => h.ne e.symm)), ?_, ?_⟩
  · rcases hG with hG | hG
    · simp at hG; rw [← hG]; exact h.ne
    · omega
  · exact (h.bel.alloc h.size _).grown hg (by have := h.size; simp; omega) (fun j hj => by simp at hj; subst hj; exact (h.one.lt g rfl).1)
theorem Two.cell {wb : World} {g n c g' n' c' : Nat} {ls ls' : List Int} {u : World} (h : Two wb g n c ls g' n' c' ls' u) {j : Nat} {x : Int} (hx : ls[j]? = some x) : u.cell? ⟨g, j, none⟩ = some (.int .i64 x) := by
  have hj := (List.getElem?_eq_some_iff.1 hx).1
  have := h.len.1
  rw [h.one.cellAt j (by omega)]
  exact ic_at hx
theorem Two.cap {wb : World} {g n c g' n' c' : Nat} {ls ls' : List Int} {u : World} (h : Two wb g n c ls g' n' c' ls' u) : n ≤ c := by
  rcases h.one.2 with ⟨hv, _⟩ | ⟨g2, cap, cur, hv, hb, hg, hnc, _⟩
  · simp at hv
  · simp only [Value.slice.injEq, Option.some.injEq, Addr.mk.injEq, and_true, true_and] at hv
    obtain ⟨rfl, rfl⟩ := hv
    exact hnc
theorem Two.is {wb : World} {g n c g' n' c' : Nat} {ls ls' : List Int} {u : World} (h : Two wb g n c ls g' n' c' ls' u) : Is u u.heap.size (some ⟨g, 0, none⟩) n ls := Is_of_own h.one

theorem Two.snoc {wb : World} {g n c g' n' c' : Nat} {ls ls' wy sn : List Int} {f : Int} {u : World} (h : Two wb g n c (ls ++ [f]) g' n' c' (ls' ++ [f]) u) (h1 : ls = wy.reverse) (h2 : ls' = sn.reverse) : Two wb g n c (f :: wy).reverse g' n' c' (f :: sn).reverse u := by
  subst h1 h2
  rw [List.reverse_cons, List.reverse_cons]
  exact h

/-- the walk comes to its end at the root -/
def openB (t : List Int) : Bool := match trun [] [] t with | some x => x.1.length == 1 | none => false
theorem tB_eq (t : List Int) : tB t = (t.all vB && openB t) := rfl
theorem trun_none {t : List Int} {k : Nat} (h : trun [] [] (t.take k) = none) : openB t = false := by
  have : trun [] [] t = none := by
    rw [← List.take_append_drop k t, trun_append, h]; rfl
  unfold openB
  rw [this]
theorem trun_snoc (w s a : List Int) (v : Int) : trun w s (a ++ [v]) = (trun w s a).bind fun x => tstep x.1 x.2 v := by
  rw [trun_append]
  cases trun w s a with
  | none => rfl
  | some x =>
    show (match tstep x.1 x.2 v with | none => none | some y => trun y.1 y.2 []) = _
    cases h : tstep x.1 x.2 v with
    | none => simp [h]
    | some y => simp [h, trun]
theorem tstep_up {q s : List Int} {c p v : Int} (h : v = p) : tstep (c :: p :: q) s v = some (p :: q, s) := by simp [tstep, isUp, h]
theorem tstep_bad2 {q s : List Int} {c p v : Int} (h : v ≠ p) (hs : v ∈ s) : tstep (c :: p :: q) s v = none := by simp [tstep, isUp, Ne.symm h, hs]
theorem tstep_down2 {q s : List Int} {c p v : Int} (h : v ≠ p) (hs : v ∉ s) : tstep (c :: p :: q) s v = some (v :: c :: p :: q, v :: s) := by simp [tstep, isUp, Ne.symm h, hs]
theorem tstep_bad1 {w s : List Int} {v : Int} (h : w.length ≤ 1) (hs : v ∈ s) : tstep w s v = none := by
  match w, h with
  | [], _ => simp [tstep, isUp, hs]
  | [c], _ => simp [tstep, isUp, hs]
theorem tstep_down1 {w s : List Int} {v : Int} (h : w.length ≤ 1) (hs : v ∉ s) : tstep w s v = some (v :: w, v :: s) := by
  match w, h with
  | [], _ => simp [tstep, isUp, hs]
  | [c], _ => simp [tstep, isUp, hs]
theorem rev_at2 (q : List Int) (c p : Int) : (c :: p :: q).reverse[q.length]? = some p := by
  simp
theorem rev_take1 (q : List Int) (c p : Int) : (c :: p :: q).reverse.take (q.length + 1) = (p :: q).reverse := by
  rw [List.reverse_cons, List.take_append_of_le_length (by simp)]
  exact List.take_of_length_le (by simp)

end Go.Proofs.YtgdlpmmbeacejaaDoor
namespace Go.Proofs.YtgdlpmmbeacejaaDoor
open Go.RowKit

theorem tB_bad {t : List Int} {k : Nat} {f : Int} (hf : t[k]? = some f) (hv : vB f = false) : tB t = false := by
  cases h : tB t with
  | false => rfl
  | true =>
    have := ((tB_iff t).1 h).1 f (List.mem_of_getElem? hf)
    rw [hv] at this
    exact this.symm
theorem all_of_at {t : List Int} (h : ∀ (k : Nat) (f : Int), t[k]? = some f → vB f = true) : t.all vB = true := by
  rw [List.all_eq_true]
  intro x hx
  obtain ⟨k, hk⟩ := List.mem_iff_getElem?.1 hx
  exact h k x hk

end Go.Proofs.YtgdlpmmbeacejaaDoor
namespace Go.Proofs.YtgdlpmmbeacejaaDoor
open Go.Lib

/-- the vertices below k that stand in t, ascending -/
def vsK (t : List Int) (k : Nat) : List Int := ((List.range k).map fun j : Nat => (j : Int)).filter fun x => decide (x ∈ t)
/-- the vertices that stand in t, ascending -/
def vsL (t : List Int) : List Int := vsK t 12
theorem vsK_zero (t : List Int) : vsK t 0 = [] := by simp [vsK]
theorem vsK_yes {t : List Int} {k : Nat} (h : (k : Int) ∈ t) : vsK t (k + 1) = vsK t k ++ [(k : Int)] := by simp [vsK, List.range_succ, h]
theorem vsK_no {t : List Int} {k : Nat} (h : (k : Int) ∉ t) : vsK t (k + 1) = vsK t k := by simp [vsK, List.range_succ, h]
theorem vsK_len (t : List Int) (k : Nat) : (vsK t k).length ≤ k := by
  have := List.length_filter_le (fun x : Int => decide (x ∈ t)) ((List.range k).map fun j : Nat => (j : Int))
  simpa [vsK] using this
theorem vsL_len (t : List Int) : (vsL t).length ≤ 12 := vsK_len t 12
theorem vsL_mem (t : List Int) (x : Int) : x ∈ vsL t ↔ vB x = true ∧ x ∈ t := by
  simp only [vsL, vsK, List.mem_filter, List.mem_map, List.mem_range, vB, decide_eq_true_eq]
  constructor
  · rintro ⟨⟨j, hj, rfl⟩, h⟩
    exact ⟨by simp; omega, h⟩
  · rintro ⟨h1, h2⟩
    exact ⟨⟨x.toNat, by omega, by omega⟩, h2⟩
theorem vsK_asc (t : List Int) (k : Nat) : (vsK t k).Pairwise (· < ·) := by
  refine List.Pairwise.filter _ ?_
  rw [List.pairwise_map]
  exact List.Pairwise.imp (fun h => by omega) (List.pairwise_lt_range (n := k))
/-- two ascending lists with the same members are one -/
theorem asc_ext : ∀ {a b : List Int}, a.Pairwise (· < ·) → b.Pairwise (· < ·) → (∀ x, x ∈ a ↔ x ∈ b) → a = b
  | [], [], _, _, _ => rfl
  | [], y :: b, _, _, h => by have := (h y).2 (by simp); simp at this
  | x :: a, [], _, _, h => by have := (h x).1 (by simp); simp at this
  | x :: a, y :: b, ha, hb, h => by
    rw [List.pairwise_cons] at ha hb
    have hxy : x = y := by
      have h1 := (h x).1 (by simp)
      have h2 := (h y).2 (by simp)
      rcases List.mem_cons.1 h1 with h1 | h1
      · exact h1
      · rcases List.mem_cons.1 h2 with h2 | h2
        · exact h2.symm
        · have := hb.1 x h1; have := ha.1 y h2; omega
    subst hxy
    have : a = b := asc_ext ha.2 hb.2 fun z => by
      have hz := h z
      simp only [List.mem_cons] at hz
      constructor
      · intro h3
        rcases hz.1 (.inr h3) with h4 | h4
        · have := ha.1 z h3; omega
        · exact h4
      · intro h3
        rcases hz.2 (.inr h3) with h4 | h4
        · have := hb.1 z h3; omega
        · exact h4
    rw [this]
theorem comp_asc (d : Array Int) (hs : ∀ i j, i ≤ j → j < d.size → d[i]! ≤ d[j]!) : ∀ m, m ≤ d.size → (compactUpTo d m).Pairwise (· < ·) ∧ ∀ x, x ∈ compactUpTo d m ↔ ∃ j, j < m ∧ d[j]! = x
  | 0, _ => by simp [compactUpTo]
  | m + 1, hm => by
    obtain ⟨h1, h2⟩ := comp_asc d hs m (by omega)
    rw [compactUpTo_succ]
    by_cases hk : keeps d m = true
    · rw [if_pos hk]
      constructor
      · rw [List.pairwise_append]
        refine ⟨h1, by simp, fun x hx y hy => ?_⟩
        obtain ⟨j, hj, rfl⟩ := (h2 x).1 hx
        simp only [List.mem_singleton] at hy
        subst hy
        simp only [keeps, decide_eq_true_eq] at hk
        rcases hk with hk | hk
        · omega
        · have a1 := hs j (m - 1) (by omega) (by omega)
          have a2 := hs (m - 1) m (by omega) (by omega)
          omega
      · intro x
        simp only [List.mem_append, h2, List.mem_singleton]
        constructor
        · rintro (⟨j, hj, rfl⟩ | rfl)
          · exact ⟨j, by omega, rfl⟩
          · exact ⟨m, by omega, rfl⟩
        · rintro ⟨j, hj, rfl⟩
          by_cases e : j = m
          · exact .inr (by rw [e])
          · exact .inl ⟨j, by omega, rfl⟩
    · rw [if_neg hk, List.append_nil]
      refine ⟨h1, fun x => ?_⟩
      rw [h2]
      have hk' : m ≠ 0 ∧ d[m]! = d[m - 1]! := by
        simp only [keeps, decide_eq_true_eq] at hk
        exact ⟨fun e => hk (.inl e), Classical.not_not.1 (fun e => hk (.inr e))⟩
      constructor
      · rintro ⟨j, hj, rfl⟩; exact ⟨j, by omega, rfl⟩
      · rintro ⟨j, hj, rfl⟩
        by_cases e : j = m
        · exact ⟨m - 1, by omega, by rw [e, hk'.2]⟩
        · exact ⟨j, by omega, rfl⟩
/-- sorted, without repetitions, without what is no vertex -/
def vsI (t : List Int) : List Int := (compactUpTo (t.mergeSort fun x y => decide (x ≤ y)).toArray (t.mergeSort fun x y => decide (x ≤ y)).toArray.size).filter fun x => !(!vB x)
theorem vsI_eq (t : List Int) : vsI t = vsL t := by
  have hp : (t.mergeSort fun x y => decide (x ≤ y)).Pairwise (fun x y => decide (x ≤ y) = true) := List.pairwise_mergeSort (fun a b c h1 h2 => by simp at h1 h2 ⊢; omega) (fun a b => by simp; omega) t
  have hm := fun x => (List.mergeSort_perm t fun x y : Int => decide (x ≤ y)).mem_iff (a := x)
  unfold vsI
  generalize (t.mergeSort fun x y => decide (x ≤ y)) = s at hp hm ⊢
  have hs : ∀ i j, i ≤ j → j < s.toArray.size → s.toArray[i]! ≤ s.toArray[j]! := by
    intro i j hij hj
    have hj' : j < s.length := by simpa using hj
    by_cases e : i = j
    · rw [e]; exact Int.le_refl _
    · have := List.pairwise_iff_getElem.1 hp i j (by omega) hj' (by omega)
      simp at this
      simpa [getElem!_pos, hj', show i < s.length by omega] using this
  obtain ⟨h1, h2⟩ := comp_asc s.toArray hs s.toArray.size (Nat.le_refl _)
  refine asc_ext (List.Pairwise.filter _ h1) (vsK_asc t 12) fun x => ?_
  rw [vsL_mem, List.mem_filter, h2]
  have h3 : (∃ j, j < s.toArray.size ∧ s.toArray[j]! = x) ↔ x ∈ t := by
    rw [← hm x]
    constructor
    · rintro ⟨j, hj, rfl⟩
      have hj' : j < s.length := by simpa using hj
      simp [hj']
    · intro hx
      obtain ⟨j, hj, e⟩ := List.getElem_of_mem hx
      exact ⟨j, by simpa using hj, by simp [hj, e]⟩
  rw [h3]
  simp
  exact And.comm
end Go.Proofs.YtgdlpmmbeacejaaDoor
namespace Go.Proofs.YtgdlpmmbeacejaaDoor
open Go.RowKit

/-- a list of lists of numbers stands at a -/
def Ts (w : World) (B : Nat) (a : Option Addr) (n : Nat) (ts : List (List Int)) : Prop :=
  ts.length = n ∧ (n = 0 ∨ ∃ b off, a = some ⟨b, off, none⟩ ∧ b < B ∧ ∀ (j : Nat) (t : List Int), ts[j]? = some t →
    ∃ (a' : Option Addr) (c' : Nat), w.cell? ⟨b, off + j, none⟩ = some (.slice a' t.length c') ∧ Is w B a' t.length t ∧ t.length ≤ c')
theorem Ts.below {w w' : World} {B C : Nat} {a : Option Addr} {n : Nat} {ts : List (List Int)} (h : Ts w B a n ts) (hb : Below C w w') (hB : B ≤ C) : Ts w' B a n ts := by
  refine ⟨h.1, h.2.imp id ?_⟩
  rintro ⟨b, off, ha, hbl, hc⟩
  refine ⟨b, off, ha, hbl, fun j t ht => ?_⟩
  obtain ⟨a', c', h1, h2, h3⟩ := hc j t ht
  exact ⟨a', c', by rw [hb.cell (p := ⟨b, _, none⟩) (by show b < C; omega)]; exact h1, h2.below hb hB, h3⟩
theorem Ts.mono {w : World} {B C : Nat} {a : Option Addr} {n : Nat} {ts : List (List Int)} (h : Ts w B a n ts) (hB : B ≤ C) : Ts w C a n ts := by
  refine ⟨h.1, h.2.imp id ?_⟩
  rintro ⟨b, off, ha, hbl, hc⟩
  refine ⟨b, off, ha, by omega, fun j t ht => ?_⟩
  obtain ⟨a', c', h1, h2, h3⟩ := hc j t ht
  exact ⟨a', c', h1, h2.mono hB, h3⟩
theorem Ts.up {w w' : World} {a : Option Addr} {n : Nat} {ts : List (List Int)} (h : Ts w w.heap.size a n ts) (hb : Below w.heap.size w w') : Ts w' w'.heap.size a n ts := (h.below hb (Nat.le_refl _)).mono hb.size
theorem Ts.at {w : World} {B b off n : Nat} {ts : List (List Int)} (h : Ts w B (some ⟨b, off, none⟩) n ts) {j : Nat} {t : List Int} (ht : ts[j]? = some t) :
    ∃ (a' : Option Addr) (c' : Nat), w.cell? ⟨b, off + j, none⟩ = some (.slice a' t.length c') ∧ Is w B a' t.length t ∧ t.length ≤ c' := by
  have hj := (List.getElem?_eq_some_iff.1 ht).1
  have hn := h.1
  rcases h.2 with h0 | ⟨b', off', hb, _, hc⟩
  · omega
  · simp at hb
    obtain ⟨rfl, rfl⟩ := hb
    exact hc j t ht

/-- the least vertex of a tour -/
def mnV (t : List Int) : Int := (vsL t).headD 0
/-- the tour at i is right beside those before it -/
def FAt (N : Int) (ts : List (List Int)) (i : Nat) : Prop := ∀ t, ts[i]? = some t →
  tB t = true ∧ (∀ x ∈ t, x < N) ∧ (∀ j s, j + 1 = i → ts[j]? = some s → mnV s < mnV t) ∧ ∀ k s, k < i → ts[k]? = some s → ∀ x ∈ t, x ∉ s
/-- the vertices of the first k tours, counted -/
def cntV (ts : List (List Int)) (k : Nat) : Nat := ((ts.take k).map fun t => (vsL t).length).sum
/-- N vertices and these tours are a right forest -/
def FP (N : Int) (ts : List (List Int)) : Prop := 1 ≤ N ∧ N ≤ 12 ∧ ts.length ≤ 12 ∧ (∀ i, FAt N ts i) ∧ (cntV ts ts.length : Int) = N
theorem cntV_zero (ts : List (List Int)) : cntV ts 0 = 0 := by simp [cntV]
theorem cntV_succ {ts : List (List Int)} {k : Nat} {t : List Int} (h : ts[k]? = some t) : cntV ts (k + 1) = cntV ts k + (vsL t).length := by
  unfold cntV
  rw [List.take_add_one, h]
  simp
theorem cntV_le (ts : List (List Int)) (k : Nat) : cntV ts k ≤ 12 * k := by
  induction k with
  | zero => simp [cntV]
  | succ k ih =>
    cases h : ts[k]? with
    | none =>
      have : ts.take (k + 1) = ts.take k := by rw [List.take_add_one, h]; simp
      unfold cntV at ih ⊢
      rw [this]
      omega
    | some t =>
      rw [cntV_succ h]
      have := vsL_len t
      omega
theorem vs_mem_of {t : List Int} (hB : tB t = true) {x : Int} : x ∈ vsL t ↔ x ∈ t := by
  rw [vsL_mem]
  exact ⟨fun h => h.2, fun h => ⟨((tB_iff t).1 hB).1 x h, h⟩⟩
theorem tB_pos {t : List Int} (hB : tB t = true) : 0 < t.length := by
  obtain ⟨_, x, s, h⟩ := (tB_iff t).1 hB
  cases t with
  | nil => simp [trun] at h
  | cons a t => simp
theorem vs_pos {t : List Int} (hB : tB t = true) : 0 < (vsL t).length := by
  have := tB_pos hB
  exact List.length_pos_of_mem ((vs_mem_of hB).2 (List.getElem_mem this))
theorem vs_last {t : List Int} (hB : tB t = true) {N x : Int} (hx : (vsL t)[(vsL t).length - 1]? = some x) : (∀ y ∈ t, y < N) ↔ x < N := by
  constructor
  · exact fun h => h x ((vs_mem_of hB).1 (List.mem_of_getElem? hx))
  · intro h y hy
    obtain ⟨p, hp⟩ := List.mem_iff_getElem?.1 ((vs_mem_of hB).2 hy)
    obtain ⟨p0, p1⟩ := List.getElem?_eq_some_iff.1 hp
    obtain ⟨q0, q1⟩ := List.getElem?_eq_some_iff.1 hx
    by_cases e : p = (vsL t).length - 1
    · subst e
      rw [p1] at q1
      omega
    · have := List.pairwise_iff_getElem.1 (vsK_asc t 12) p ((vsL t).length - 1) p0 q0 (by omega)
      rw [show (vsK t 12)[p]'p0 = y from p1, show (vsK t 12)[(vsL t).length - 1]'q0 = x from q1] at this
      omega
theorem mn_first {t : List Int} {x : Int} (hx : (vsL t)[0]? = some x) : mnV t = x := by
  unfold mnV
  cases h : vsL t with
  | nil => rw [h] at hx; simp at hx
  | cons a l => rw [h] at hx; simp at hx; simpa using hx
end Go.Proofs.YtgdlpmmbeacejaaDoor
namespace Go.Proofs.YtgdlpmmbeacejaaDoor
open Go.RowKit

/-- a row: its block, its room, its numbers -/
structure Rw where
  g : Nat
  cp : Nat
  t : List Int
def Rw.hdr (r : Rw) : Value := .slice (some ⟨r.g, 0, none⟩) r.t.length r.cp
def rts (R : List Rw) : List (List Int) := R.map Rw.t
def rhs (R : List Rw) : List Value := R.map Rw.hdr
theorem rts_len (R : List Rw) : (rts R).length = R.length := by simp [rts]
theorem rhs_len (R : List Rw) : (rhs R).length = R.length := by simp [rhs]
theorem rts_at {R : List Rw} {j : Nat} {r : Rw} (h : R[j]? = some r) : (rts R)[j]? = some r.t := by simp [rts, h]
theorem rhs_at {R : List Rw} {j : Nat} {r : Rw} (h : R[j]? = some r) : (rhs R)[j]? = some r.hdr := by simp [rhs, h]
theorem rhs_snoc (R : List Rw) (r : Rw) : rhs (R ++ [r]) = rhs R ++ [r.hdr] := by simp [rhs]
theorem rts_snoc (R : List Rw) (r : Rw) : rts (R ++ [r]) = rts R ++ [r.t] := by simp [rts]

/-- a row that is ours -/
abbrev RwB (u : World) (r : Rw) : Prop := RBox u r.g (r.g + 1) (some ⟨r.g, 0, none⟩) r.t.length r.cp r.t
theorem RwB.of_own {u : World} {B g m c : Nat} {t : List Int} (h : u.ownsRow B 3 1 (.slice (some ⟨g, 0, none⟩) m c) m (ic t)) : RwB u ⟨g, c, t⟩ := by
  have hl := h.1
  rw [ic_len] at hl
  have hm : m = t.length := by omega
  subst hm
  have hlt := h.lt g rfl
  refine ⟨⟨h.1, ?_⟩, fun x hx => by simp [Value.ownBlock] at hx; show x < g + 1; omega, by show g + 1 ≤ _; omega⟩
  rcases h.2 with ⟨hv, _⟩ | ⟨g2, cap, cur, hv, hb, hrest⟩
  · simp at hv
  · simp at hv
    obtain ⟨rfl, rfl⟩ := hv
    exact .inr ⟨g, c, cur, rfl, Nat.le_refl _, hrest⟩
theorem RwB.cap {u : World} {r : Rw} (h : RwB u r) : r.t.length ≤ r.cp := by
  rcases h.own.2 with ⟨hv, _⟩ | ⟨g2, cap, cur, hv, hb, hg, hnc, _⟩
  · simp at hv
  · simp only [Value.slice.injEq, Option.some.injEq, Addr.mk.injEq, and_true, true_and] at hv
    obtain ⟨rfl, rfl⟩ := hv
    exact hnc
theorem RwB.lt {u : World} {r : Rw} (h : RwB u r) : r.g < u.heap.size := (h.own.lt r.g rfl).2
theorem RwB.blk {u : World} {r : Rw} (h : RwB u r) : ∃ cur, u.heap[r.g]? = some (.cells cur 3 (0, 0)) := by
  rcases h.own.2 with ⟨hv, _⟩ | ⟨g2, cap, cur, hv, hb, hg, hnc, _⟩
  · simp at hv
  · simp only [Value.slice.injEq, Option.some.injEq, Addr.mk.injEq, and_true, true_and] at hv
    obtain ⟨rfl, rfl⟩ := hv
    exact ⟨cur, hg⟩
theorem RwB.grown {u v : World} {r : Rw} {row : Option Nat} (h : RwB u r) (hg : u.grownBy v row) (hr : row ≠ some r.g) : RwB v r :=
  ⟨h.own.kept hg (.inr (by simp [Value.ownBlock]; exact fun e => hr e.symm)), h.row, Nat.le_trans h.there hg.size⟩

/-- rows that are ours, in blocks lo .. hi, each in a block of its own -/
structure FB (u : World) (lo hi : Nat) (a : Option Addr) (n c : Nat) (R : List Rw) : Prop where
  len : R.length = n
  own : u.ownsRow lo 32 1 (.slice a n c) n (rhs R)
  row : ∀ g, (Value.slice a n c).ownBlock = some g → g < hi
  there : hi ≤ u.heap.size
  ins : ∀ r ∈ R, RwB u r ∧ lo ≤ r.g ∧ r.g < hi
  nod : R.Pairwise fun r s => r.g ≠ s.g

theorem own_blk {u : World} {lo e s g n c : Nat} {xs : List Value} (h : u.ownsRow lo e s (.slice (some ⟨g, 0, none⟩) n c) n xs) : ∃ cur, u.heap[g]? = some (.cells cur e (0, 0)) := by
  rcases h.2 with ⟨hv, _⟩ | ⟨g2, cap, cur, hv, hb, hg, hnc, _⟩
  · simp at hv
  · simp only [Value.slice.injEq, Option.some.injEq, Addr.mk.injEq, and_true, true_and] at hv
    obtain ⟨rfl, rfl⟩ := hv
    exact ⟨cur, hg⟩
/-- a row of rows is no row of numbers -/
theorem own_ne {u : World} {lo s g n c : Nat} {xs : List Value} {r : Rw} (h : u.ownsRow lo 32 s (.slice (some ⟨g, 0, none⟩) n c) n xs) (hr : RwB u r) : g ≠ r.g := by
  obtain ⟨c1, h1⟩ := own_blk h
  obtain ⟨c2, h2⟩ := hr.blk
  intro e
  rw [e, h2] at h1
  simp at h1
theorem own_ne' {u : World} {lo s n : Nat} {v : Value} {xs : List Value} {r : Rw} (h : u.ownsRow lo 32 s v n xs) (hr : RwB u r) : v.ownBlock ≠ some r.g := by
  rcases h.2 with ⟨rfl, _⟩ | ⟨g, cap, cur, rfl, _⟩
  · simp [Value.ownBlock]
  · intro e
    simp [Value.ownBlock] at e
    exact own_ne h hr e
theorem own_rng {u v : World} {lo e s l2 h2 n : Nat} {x : Value} {xs : List Value} (h : u.ownsRow lo e s x n xs) (hr : Rng l2 h2 u v) (ho : ∀ g, x.ownBlock = some g → g < l2 ∨ h2 ≤ g) : v.ownsRow lo e s x n xs := by
  refine ⟨h.1, ?_⟩
  rcases h.2 with h3 | ⟨g, cap, cur, hv, hg, hcur, hrest⟩
  · exact .inl h3
  · have hgl := h.lt g (by rw [hv]; rfl)
    refine .inr ⟨g, cap, cur, hv, hg, ?_, hrest⟩
    rw [hr.block g (by omega) (ho g (by rw [hv]; rfl))]
    exact hcur
theorem FB.rng {u v : World} {lo hi l2 h2 : Nat} {a : Option Addr} {n c : Nat} {R : List Rw} (h : FB u lo hi a n c R) (hr : Rng l2 h2 u v) (ho : hi ≤ l2 ∨ h2 ≤ lo) : FB v lo hi a n c R := by
  refine ⟨h.len, own_rng h.own hr (fun g hg => by have := h.row g hg; have := (h.own.lt g hg).1; omega), h.row, Nat.le_trans h.there hr.size, fun r hr2 => ?_, h.nod⟩
  have hb := h.ins r hr2
  exact ⟨hb.1.rng hr (by omega), hb.2⟩
theorem FB.up {u v : World} {lo hi : Nat} {a : Option Addr} {n c : Nat} {R : List Rw} (h : FB u lo hi a n c R) (hb : Below u.heap.size u v) : FB v lo hi a n c R :=
  h.rng (l2 := hi) (h2 := hi) (Rng.of_below hb) (.inl (Nat.le_refl _))
theorem FB.hi {u : World} {lo hi hi' : Nat} {a : Option Addr} {n c : Nat} {R : List Rw} (h : FB u lo hi a n c R) (h1 : hi ≤ hi') (h2 : hi' ≤ u.heap.size) : FB u lo hi' a n c R :=
  ⟨h.len, h.own, fun g hg => Nat.lt_of_lt_of_le (h.row g hg) h1, h2, fun r hr => ⟨(h.ins r hr).1, (h.ins r hr).2.1, Nat.lt_of_lt_of_le (h.ins r hr).2.2 h1⟩, h.nod⟩
theorem FB.lo {u : World} {lo lo' hi : Nat} {a : Option Addr} {n c : Nat} {R : List Rw} (h : FB u lo hi a n c R) (h1 : lo' ≤ lo) : FB u lo' hi a n c R :=
  ⟨h.len, own_mono h.own h1, h.row, h.there, fun r hr => ⟨(h.ins r hr).1, Nat.le_trans h1 (h.ins r hr).2.1, (h.ins r hr).2.2⟩, h.nod⟩
theorem FB.ts {u : World} {lo hi : Nat} {a : Option Addr} {n c : Nat} {R : List Rw} (h : FB u lo hi a n c R) : Ts u u.heap.size a n (rts R) := by
  refine ⟨by rw [rts_len]; exact h.len, ?_⟩
  rcases h.own.2 with ⟨_, h0⟩ | ⟨g, cap, cur, hv, hg, hcur, hrest⟩
  · exact .inl h0
  · simp at hv
    obtain ⟨rfl, rfl⟩ := hv
    refine .inr ⟨g, 0, rfl, (h.own.lt g rfl).2, fun j t ht => ?_⟩
    have hj : j < R.length := by rw [← rts_len]; exact (List.getElem?_eq_some_iff.1 ht).1
    have hr : R[j]? = some R[j] := List.getElem?_eq_getElem hj
    have e := rts_at hr
    rw [ht] at e
    obtain rfl := Option.some.inj e
    have hi2 := h.ins _ (List.mem_of_getElem? hr)
    refine ⟨some ⟨R[j].g, 0, none⟩, R[j].cp, ?_, hi2.1.is, hi2.1.cap⟩
    rw [Nat.zero_add, h.own.cellAt j (by have := h.len; omega)]
    exact rhs_at hr
/-- one row turned -/
theorem FB.turn {u v : World} {lo hi : Nat} {a : Option Addr} {n c : Nat} {P S : List Rw} {r : Rw} (h : FB u lo hi a n c (P ++ r :: S)) {s : List Int} (hl : s.length = r.t.length)
    (hr : Rng r.g (r.g + 1) u v) (hs : RBox v r.g (r.g + 1) (some ⟨r.g, 0, none⟩) r.t.length r.cp s) : FB v lo hi a n c (P ++ ⟨r.g, r.cp, s⟩ :: S) := by
  have hn := List.pairwise_append.1 h.nod
  have hn2 := List.pairwise_cons.1 hn.2.1
  have hri := h.ins r (by simp)
  refine ⟨by have := h.len; simp at this ⊢; omega, ?_, h.row, Nat.le_trans h.there hr.size, fun x hx => ?_, ?_⟩
  · have e : rhs (P ++ ⟨r.g, r.cp, s⟩ :: S) = rhs (P ++ r :: S) := by simp [rhs, Rw.hdr, hl]
    rw [e]
    exact own_rng h.own hr (fun g hg => by have := own_ne' h.own hri.1; rw [hg] at this; simp at this; omega)
  · rcases List.mem_append.1 hx with hx | hx
    · have hne := hn.2.2 x hx r (by simp)
      have hi2 := h.ins x (by simp [hx])
      exact ⟨hi2.1.rng hr (by omega), hi2.2⟩
    · rcases List.mem_cons.1 hx with rfl | hx
      · refine ⟨?_, hri.2⟩
        show RBox v r.g (r.g + 1) _ s.length r.cp s
        rw [hl]
        exact hs
      · have hne := hn2.1 x hx
        have hi2 := h.ins x (by simp [hx])
        exact ⟨hi2.1.rng hr (by omega), hi2.2⟩
  · rw [List.pairwise_append, List.pairwise_cons]
    refine ⟨hn.1, ⟨fun x hx => hn2.1 x hx, hn2.2⟩, fun x hx y hy => ?_⟩
    rcases List.mem_cons.1 hy with rfl | hy
    · exact hn.2.2 x hx r (by simp)
    · exact hn.2.2 x hx y (by simp [hy])
/-- one row more behind them -/
theorem FB.app {u u' : World} {lo : Nat} {a : Option Addr} {n c : Nat} {R : List Rw} (h : FB u lo u.heap.size a n c R) {r : Rw} (hr : RwB u r) (hl : lo ≤ r.g) (hne : ∀ x ∈ R, x.g ≠ r.g) {o : Obj} {v : Value}
    (ho : u'.ownsRow lo 32 1 v (n + 1) (rhs R ++ [r.hdr])) (hg : (u.alloc o).grownBy u' (Value.slice a n c).ownBlock) : ∃ a' c', v = .slice a' (n + 1) c' ∧ FB u' lo u'.heap.size a' (n + 1) c' (R ++ [r]) := by
  obtain ⟨a', c', rfl⟩ := own_form ho
  have hsz := hg.size
  have hkeep : ∀ x, RwB u x → RwB u' x := fun x hx => by
    have hx2 : RwB (u.alloc o) x := hx.rng (l2 := x.g + 1) (h2 := x.g + 1) (Rng.of_below ((Below.refl _ _).alloc (Nat.le_refl _) _)) (.inl (Nat.le_refl _))
    exact hx2.grown hg (own_ne' h.own hx)
  refine ⟨a', c', rfl, by simp [h.len], by rw [rhs_snoc]; exact ho, fun g hg2 => (ho.lt g hg2).2, Nat.le_refl _, fun x hx => ?_, ?_⟩
  · rcases List.mem_append.1 hx with hx | hx
    · have := h.ins x hx
      have h2 := hkeep x this.1
      exact ⟨h2, this.2.1, h2.lt⟩
    · simp at hx
      subst hx
      have h2 := hkeep x hr
      exact ⟨h2, hl, h2.lt⟩
  · rw [List.pairwise_append]
    refine ⟨h.nod, by simp, fun x hx y hy => ?_⟩
    simp at hy
    subst hy
    exact hne x hx
theorem FB.setLow {u : World} {lo hi : Nat} {a : Option Addr} {n c : Nat} {R : List Rw} (h : FB u lo hi a n c R) {x : Nat} (hx : x < lo) (j : Nat) (v : Value) : FB (u.setCell ⟨x, j, none⟩ v) lo hi a n c R :=
  h.rng (l2 := x) (h2 := x + 1) ⟨rfl, rfl, rfl, by simp [World.setCell], fun k _ hk => heap_setCell_other u ⟨x, j, none⟩ k v (by show k ≠ x; omega)⟩ (.inr hx)
theorem FB.nil (u : World) (lo : Nat) : FB u lo u.heap.size none 0 0 [] := ⟨rfl, World.ownsRow_nil _ _ _ _, fun g hg => by simp [Value.ownBlock] at hg, Nat.le_refl _, by simp, List.Pairwise.nil⟩
theorem FB.start (wb : World) : FB (wb.alloc (.cells #[] 32)) wb.heap.size (wb.alloc (.cells #[] 32)).heap.size (some ⟨wb.heap.size, 0, none⟩) 0 0 [] := by
  have h0 := World.ownsRow_lit (base := wb.heap.size) (e := 32) (size := 1) wb #[] 0 (Nat.le_refl _) (by unfold maxLen; omega) (by simp)
  exact ⟨rfl, by simpa [rhs] using h0, fun g hg => (h0.lt g hg).2, Nat.le_refl _, by simp, List.Pairwise.nil⟩
theorem FB.keep {u v : World} {lo : Nat} {a : Option Addr} {n c : Nat} {R : List Rw} (h : FB u lo u.heap.size a n c R) (hb : Below u.heap.size u v) : FB v lo v.heap.size a n c R :=
  (h.up hb).hi hb.size (Nat.le_refl _)
end Go.Proofs.YtgdlpmmbeacejaaDoor
namespace Go.Proofs.YtgdlpmmbeacejaaDoor
open Go.RowKit

/-- how many numbers the rows have -/
def rn : List Rw → Nat
  | [] => 0
  | r :: R => r.t.length + rn R
theorem rn_app (P S : List Rw) : rn (P ++ S) = rn P + rn S := by
  induction P with
  | nil => simp [rn]
  | cons r P ih => simp only [List.cons_append, rn, ih]; omega
/-- the rows marked from k on -/
def mkR : Nat → List Rw → List Rw
  | _, [] => []
  | k, r :: R => ⟨r.g, r.cp, imarks k r.t.length⟩ :: mkR (k + r.t.length) R
theorem imarks_len (k n : Nat) : (imarks k n).length = n := by simp [imarks]
theorem mkR_len (k : Nat) (R : List Rw) : (mkR k R).length = R.length := by
  induction R generalizing k with
  | nil => rfl
  | cons r R ih => simp [mkR, ih]
theorem mkR_rn (k : Nat) (R : List Rw) : rn (mkR k R) = rn R := by
  induction R generalizing k with
  | nil => rfl
  | cons r R ih => simp [mkR, rn, ih, imarks_len]
theorem mkR_snoc (k : Nat) (P : List Rw) (r : Rw) : mkR k (P ++ [r]) = mkR k P ++ [⟨r.g, r.cp, imarks (k + rn P) r.t.length⟩] := by
  induction P generalizing k with
  | nil => simp [mkR, rn]
  | cons x P ih => simp only [List.cons_append, mkR, ih, rn, Nat.add_assoc]
theorem mkR_at {k j : Nat} {R : List Rw} {r : Rw} (h : R[j]? = some r) : (mkR k R)[j]? = some ⟨r.g, r.cp, imarks (k + rn (R.take j)) r.t.length⟩ := by
  induction R generalizing k j with
  | nil => simp at h
  | cons x R ih =>
    cases j with
    | zero => simp at h; subst h; simp [mkR, rn]
    | succ j =>
      simp at h
      simp only [mkR, List.getElem?_cons_succ, List.take_succ_cons, rn]
      rw [ih h, Nat.add_assoc]
theorem split_at {α : Type} {R : List α} {i : Nat} {r : α} (h : R[i]? = some r) : R.drop i = r :: R.drop (i + 1) := by
  obtain ⟨hi, rfl⟩ := List.getElem?_eq_some_iff.1 h
  exact List.drop_eq_getElem_cons hi
theorem rn_take {R : List Rw} {i : Nat} {r : Rw} (h : R[i]? = some r) : rn (R.take (i + 1)) = rn (R.take i) + r.t.length := by
  rw [take_snocF R i r h, rn_app]
  simp [rn]
theorem rn_take_le (R : List Rw) (i : Nat) : rn (R.take i) ≤ rn R := by
  have := rn_app (R.take i) (R.drop i)
  rw [List.take_append_drop] at this
  omega
theorem rn_at {R : List Rw} {i : Nat} {r : Rw} (h : R[i]? = some r) : rn (R.take i) + r.t.length ≤ rn R := by
  rw [← rn_take h]
  exact rn_take_le R (i + 1)
end Go.Proofs.YtgdlpmmbeacejaaDoor
