/- The place of a vertex's tour: pure. Webs as lists of edges with their levels: pure. What a right web's ground tells: labels, together, height: pure. WebAdd: pure, and what its boxes hold. Where a law over webs and an edge stands. What WebTake does, pure: an edge goes; level by level the tree with fewer vertices is raised, and its edges beside the forest are looked at. -/
import Derived.Test.YtgjnlhdgekfieaaGreatKLaid
import Derived.Test.YtgjnlhdgekfieaaGreatKFn7
import Derived.Test.YtgjnlhdgekfieaaGreatKBx7
import Derived.Test.YtgjnlhdgekfieaaGreatKGr6
import Derived.Test.YtgjnlhdgekfieaaGreatKIAdd9
namespace Go.Proofs.YtgjnlhdgekfieaaGreat
open Go.RowKit

def trP (ts : List (List Int)) (v : Int) (k : Nat) : Bool := match ts[k]? with | some t => decide (v ∈ t) | none => false
theorem trP_at {ts : List (List Int)} {v : Int} {k : Nat} {t : List Int} (h : ts[k]? = some t) : trP ts v k = decide (v ∈ t) := by simp [trP, h]
/-- the first place of a tour that v is in, or -1 -/
def trI (ts : List (List Int)) (v : Int) : Int := firstN (trP ts v) ts.length
theorem trI_cases (ts : List (List Int)) (v : Int) : (∃ (k : Nat) (t : List Int), ts[k]? = some t ∧ v ∈ t ∧ trI ts v = (k : Int)) ∨ ((∀ t ∈ ts, v ∉ t) ∧ trI ts v = -1) := by
  rcases firstN_cases (trP ts v) ts.length with ⟨k, hk, h, _, e⟩ | ⟨h, e⟩
  · refine .inl ⟨k, ts[k], List.getElem?_eq_getElem hk, ?_, e⟩
    rw [trP_at (List.getElem?_eq_getElem hk)] at h
    exact of_decide_eq_true h
  · refine .inr ⟨fun t ht hv => ?_, e⟩
    obtain ⟨k, hk⟩ := List.mem_iff_getElem?.1 ht
    have := h k (List.getElem?_eq_some_iff.1 hk).1
    rw [trP_at hk, decide_eq_true hv] at this
    cases this
theorem trI_of {N : Int} {ts : List (List Int)} (h : FQ N ts) {v : Int} {k : Nat} {t : List Int} (hk : ts[k]? = some t) (hv : v ∈ t) : trI ts v = (k : Int) := by
  rcases trI_cases ts v with ⟨j, s, hj, hs, e⟩ | ⟨hn, _⟩
  · rw [e, h.place hj hk hs hv]
  · exact absurd hv (hn t (List.mem_of_getElem? hk))
/-- what TreeOf answers -/
noncomputable def treeO (N : Int) (ts : List (List Int)) (v : Int) : Int := @ite _ (FP N ts) (Classical.propDecidable _) (trI ts v) (-1)
theorem treeO_yes {N : Int} {ts : List (List Int)} (h : FP N ts) (v : Int) : treeO N ts v = trI ts v := by unfold treeO; rw [if_pos h]
theorem treeO_no {N : Int} {ts : List (List Int)} (h : ¬ FP N ts) (v : Int) : treeO N ts v = -1 := by unfold treeO; rw [if_neg h]
theorem treeO_cases (N : Int) (ts : List (List Int)) (v : Int) : (∃ (k : Nat) (t : List Int), FP N ts ∧ ts[k]? = some t ∧ v ∈ t ∧ treeO N ts v = (k : Int)) ∨ ((FP N ts → ∀ t ∈ ts, v ∉ t) ∧ treeO N ts v = -1) := by
  by_cases h : FP N ts
  · rw [treeO_yes h]
    rcases trI_cases ts v with ⟨k, t, h1, h2, h3⟩ | ⟨h1, h2⟩
    · exact .inl ⟨k, t, h, h1, h2, h3⟩
    · exact .inr ⟨fun _ => h1, h2⟩
  · exact .inr ⟨fun h2 => absurd h2 h, treeO_no h v⟩
/-- what SizeOf answers -/
noncomputable def sizeO (N : Int) (ts : List (List Int)) (v : Int) : Int := if treeO N ts v < 0 then 0 else ((vsL ((ts[(treeO N ts v).toNat]?).getD [])).length : Int)
theorem sizeO_yes {N : Int} {ts : List (List Int)} {v : Int} {k : Nat} {t : List Int} (h : treeO N ts v = (k : Int)) (ht : ts[k]? = some t) : sizeO N ts v = ((vsL t).length : Int) := by
  unfold sizeO
  rw [h, if_neg (by omega), Int.toNat_natCast, ht]
  rfl
theorem sizeO_no {N : Int} {ts : List (List Int)} {v : Int} (h : treeO N ts v = -1) : sizeO N ts v = 0 := by
  unfold sizeO
  rw [h, if_pos (by omega)]
end Go.Proofs.YtgjnlhdgekfieaaGreat
namespace Go.Proofs.YtgjnlhdgekfieaaGreat
open Go.RowKit

/-- a right graph's edges: their ends, each once -/
theorem gB_ends {n : Nat} {es : List EdgeV} (h : gB (n : Int) es = true) : ∀ e ∈ es, 0 ≤ e.1 ∧ e.1 < e.2 ∧ e.2 < (n : Int) := fun e he => by
  have := chk_eB (gB_chk h).2.1 he
  unfold eB at this
  have := of_decide_eq_true this
  omega
theorem gB_nodup {N : Int} {es : List EdgeV} (h : gB N es = true) : es.Nodup := by
  rw [List.Nodup, List.pairwise_iff_getElem]
  intro i j hi hj hij e
  have := asc_of_chk (gB_chk h).2.1 i j _ _ hij (List.getElem?_eq_getElem hi) (List.getElem?_eq_getElem hj)
  rw [e, lt_irrefl'] at this
  cases this
theorem gB_n {N : Int} {es : List EdgeV} (h : gB N es = true) : ∃ n : Nat, N = (n : Int) ∧ 1 ≤ n ∧ n ≤ 12 := by
  have := (gB_chk h).1
  exact ⟨N.toNat, by omega, by omega, by omega⟩
theorem fE_nodup {ls : List Ld} (h : (gE ls).Nodup) (i : Int) : (fE ls i).Nodup := by
  unfold fE
  exact h.sublist ((List.filter_sublist).map _)
theorem fE_ends {n : Nat} {ls : List Ld} (h : gB (n : Int) (gE ls) = true) (i : Int) : ∀ e ∈ fE ls i, 0 ≤ e.1 ∧ e.1 < e.2 ∧ e.2 < (n : Int) := fun e he => gB_ends h e (fE_g he)
/-- all of the forest is of F(0) where no level is below 0 -/
theorem fE_all {ls : List Ld} (h : ∀ x ∈ ls, 0 ≤ x.l) {i : Int} (hi : i ≤ 0) : fE ls i = fE ls 0 := by
  unfold fE
  congr 1
  apply List.filter_congr
  intro x hx
  have := h x hx
  unfold fP
  rw [decide_eq_true (show i ≤ x.l by omega), decide_eq_true this]
/-- level i of a web is right -/
def LvOk (n : Nat) (ls : List Ld) (i : Nat) : Prop := ∃ ts, ftK (fE ls (i : Int)) n n = some ts ∧ (∀ t ∈ ts, 1 < (vsL t).length → (vsL t).length ≤ n / 2 ^ i) ∧ ∀ x ∈ ls, x.t = false → x.l = (i : Int) → trI ts x.a = trI ts x.b
/-- the web is right -/
def WOk (N : Int) (ls : List Ld) : Prop := gB N (gE ls) = true ∧ (∀ x ∈ ls, 0 ≤ x.l ∧ x.l ≤ 4) ∧ ∀ i, i < 5 → LvOk N.toNat ls i
noncomputable def wB (N : Int) (ls : List Ld) : Bool := @decide (WOk N ls) (Classical.propDecidable _)
theorem wB_yes {N : Int} {ls : List Ld} (h : WOk N ls) : wB N ls = true := by unfold wB; exact @decide_eq_true _ (Classical.propDecidable _) h
theorem wB_no {N : Int} {ls : List Ld} (h : ¬ WOk N ls) : wB N ls = false := by unfold wB; exact @decide_eq_false _ (Classical.propDecidable _) h
theorem wB_iff {N : Int} {ls : List Ld} : wB N ls = true ↔ WOk N ls := ⟨fun h => Classical.byContradiction fun hn => (by rw [wB_no hn] at h; cases h), wB_yes⟩
theorem WOk.bridge {n : Nat} {ls : List Ld} (h : WOk (n : Int) ls) : Bridge (fE ls 0) := by
  obtain ⟨ts, h1, _⟩ := h.2.2 0 (by omega)
  have hg := (gB_chk h.1).1
  rw [Int.toNat_natCast] at h1
  exact ft_bridge (fE_ends h.1 0) (by omega) (by omega) h1
/-- two vertices are in one tour, or not -/
theorem tr_same {es : List EdgeV} {n : Nat} {ts : List (List Int)} (h : FtAll es n ts) {u v : Int} (hu : 0 ≤ u ∧ u < (n : Int)) (hv : 0 ≤ v ∧ v < (n : Int)) : trI ts u = trI ts v ↔ Conn es u v := by
  have hq := h.fp.q
  obtain ⟨t, ht, hut⟩ := h.cov u hu.1 hu.2
  obtain ⟨s, hs, hvs⟩ := h.cov v hv.1 hv.2
  obtain ⟨i, hi⟩ := List.mem_iff_getElem?.1 ht
  obtain ⟨j, hj⟩ := List.mem_iff_getElem?.1 hs
  rw [trI_of hq hi hut, trI_of hq hj hvs]
  constructor
  · intro e
    obtain rfl : i = j := by omega
    rw [hi] at hj
    obtain rfl := Option.some.inj hj
    exact (h.conn t ht u hut v).1 hvs
  · intro hc
    have hvt := (h.conn t ht u hut v).2 hc
    have := trI_of hq hi hvt
    rw [trI_of hq hj hvs] at this
    omega
end Go.Proofs.YtgjnlhdgekfieaaGreat
namespace Go.Proofs.YtgjnlhdgekfieaaGreat
open Go.RowKit

/-- the least vertex of each vertex's tour -/
def labW (ts : List (List Int)) (nn : Nat) : List Int := (List.range nn).map fun v : Nat => mnV ((ts[(trI ts (v : Int)).toNat]?).getD [])
theorem labW_len (ts : List (List Int)) (nn : Nat) : (labW ts nn).length = nn := by simp [labW]
theorem labW_at {es : List EdgeV} {nn : Nat} {ts : List (List Int)} (h : FtAll es nn ts) {v : Nat} (hv : v < nn) {t : List Int} (ht : t ∈ ts) (hvt : (v : Int) ∈ t) : (labW ts nn)[v]? = some (mnV t) := by
  obtain ⟨k, hk⟩ := List.mem_iff_getElem?.1 ht
  have e := trI_of h.fp.q hk hvt
  simp [labW, hv, e, hk]
/-- a list that tells each tour's first number for each of its vertices is that of the labels -/
theorem labW_of {es : List EdgeV} {nn : Nat} {ts : List (List Int)} (h : FtAll es nn ts) {L : List Int} (hl : L.length = nn) (hL : ∀ t ∈ ts, ∀ v : Nat, (v : Int) ∈ t → L[v]? = t[0]?) : L = labW ts nn := by
  apply List.ext_getElem?
  intro v
  by_cases hv : v < nn
  · obtain ⟨t, ht, hvt⟩ := h.cov (v : Int) (by omega) (by omega)
    rw [hL t ht v hvt, labW_at h hv ht hvt, ← List.head?_eq_getElem?]
    exact h.mn t ht
  · rw [List.getElem?_eq_none (by omega), List.getElem?_eq_none (by rw [labW_len]; omega)]
/-- the ground's trees -/
def gndT (N : Int) (ls : List Ld) : List (List Int) := (ftK (fE ls 0) N.toNat N.toNat).getD []
noncomputable def lbO (N : Int) (ls : List Ld) : List Int := @ite _ (WOk N ls) (Classical.propDecidable _) (labW (gndT N ls) N.toNat) []
theorem lbO_yes {nn : Nat} {ls : List Ld} (h : WOk (nn : Int) ls) {ts : List (List Int)} (hts : ftK (fE ls 0) nn nn = some ts) : lbO (nn : Int) ls = labW ts nn := by
  unfold lbO gndT; rw [if_pos h, Int.toNat_natCast, hts]; rfl
theorem lbO_no {N : Int} {ls : List Ld} (h : ¬ WOk N ls) : lbO N ls = [] := by unfold lbO; rw [if_neg h]
theorem lbO_len (N : Int) (ls : List Ld) : (lbO N ls).length ≤ 12 := by
  by_cases h : WOk N ls
  · obtain ⟨nn, rfl, _, h12⟩ := gB_n h.1
    unfold lbO
    rw [if_pos h, labW_len, Int.toNat_natCast]
    exact h12
  · rw [lbO_no h]; simp
/-- both are in one tree -/
noncomputable def tgB (N : Int) (ls : List Ld) (x y : Int) : Bool := @decide (WOk N ls ∧ (0 ≤ x ∧ x < N) ∧ (0 ≤ y ∧ y < N) ∧ trI (gndT N ls) x = trI (gndT N ls) y) (Classical.propDecidable _)
theorem tgB_iff {N : Int} {ls : List Ld} {x y : Int} : tgB N ls x y = true ↔ (WOk N ls ∧ (0 ≤ x ∧ x < N) ∧ (0 ≤ y ∧ y < N) ∧ trI (gndT N ls) x = trI (gndT N ls) y) := by
  unfold tgB; exact @decide_eq_true_iff _ (Classical.propDecidable _)
theorem tgB_is {N : Int} {ls : List Ld} {x y : Int} {b : Bool} (h : b = true ↔ (WOk N ls ∧ (0 ≤ x ∧ x < N) ∧ (0 ≤ y ∧ y < N) ∧ trI (gndT N ls) x = trI (gndT N ls) y)) : b = tgB N ls x y := by
  rw [Bool.eq_iff_iff, h, tgB_iff]
theorem gndT_is {nn : Nat} {ls : List Ld} {ts : List (List Int)} (hts : ftK (fE ls 0) nn nn = some ts) : gndT (nn : Int) ls = ts := by unfold gndT; rw [Int.toNat_natCast, hts]; rfl
/-- a right web's trees -/
theorem WOk.trees {nn : Nat} {ls : List Ld} (h : WOk (nn : Int) ls) (i : Nat) (hi : i < 5) : ∃ ts, ftK (fE ls (i : Int)) nn nn = some ts ∧ FtAll (fE ls (i : Int)) nn ts := by
  obtain ⟨ts, h1, _⟩ := h.2.2 i hi
  rw [Int.toNat_natCast] at h1
  have hg := (gB_chk h.1).1
  exact ⟨ts, h1, ft_all (fE_ends h.1 _) (by omega) (by omega) h1⟩
/-- the greatest level -/
def htK : List Ld → Int → Int
  | [], m => m
  | x :: r, m => htK r (if m < x.l then x.l else m)
noncomputable def htO (N : Int) (ls : List Ld) : Int := @ite _ (WOk N ls) (Classical.propDecidable _) (htK ls (-1)) (-1)
theorem htO_yes {N : Int} {ls : List Ld} (h : WOk N ls) : htO N ls = htK ls (-1) := by unfold htO; rw [if_pos h]
theorem htO_no {N : Int} {ls : List Ld} (h : ¬ WOk N ls) : htO N ls = -1 := by unfold htO; rw [if_neg h]
theorem htK_drop {ls : List Ld} {k : Nat} {x : Ld} (h : ls[k]? = some x) (m : Int) : htK (ls.drop k) m = htK (ls.drop (k + 1)) (if m < x.l then x.l else m) := by
  obtain ⟨hk, e⟩ := List.getElem?_eq_some_iff.1 h
  rw [List.drop_eq_getElem_cons hk, htK, e]
end Go.Proofs.YtgjnlhdgekfieaaGreat
namespace Go.Proofs.YtgjnlhdgekfieaaGreat
open Go.RowKit

/-- the edge that comes -/
def cmL (N : Int) (ls : List Ld) (f : EdgeV) : Ld := ⟨f.1, f.2, 0, decide (trI (gndT N ls) f.1 ≠ trI (gndT N ls) f.2)⟩
/-- WebAdd -/
noncomputable def waO (N : Int) (ls : List Ld) (f : EdgeV) : Option (List Ld) := @ite _ (WOk N ls ∧ eB N f = true ∧ hasB (gE ls) f = false) (Classical.propDecidable _) (some (putL ls (cmL N ls f))) none
theorem waO_yes {N : Int} {ls : List Ld} {f : EdgeV} (h1 : WOk N ls) (h2 : eB N f = true) (h3 : hasB (gE ls) f = false) : waO N ls f = some (putL ls (cmL N ls f)) := by unfold waO; rw [if_pos ⟨h1, h2, h3⟩]
theorem waO_no {N : Int} {ls : List Ld} {f : EdgeV} (h : ¬ (WOk N ls ∧ eB N f = true ∧ hasB (gE ls) f = false)) : waO N ls f = none := by unfold waO; rw [if_neg h]
theorem addE_yes {N : Int} {ls : List Ld} {f : EdgeV} (h1 : WOk N ls) (h2 : eB N f = true) (h3 : hasB (gE ls) f = false) : addE N (gE ls) f = some (putE (gE ls) f) := by unfold addE; rw [if_pos ⟨h1.1, h2, h3⟩]
theorem addE_no {N : Int} {ls : List Ld} {f : EdgeV} (h1 : WOk N ls) (h : waO N ls f = none) : addE N (gE ls) f = none := by
  unfold addE
  rw [if_neg]
  rintro ⟨_, h2, h3⟩
  rw [waO_yes h1 h2 h3] at h
  cases h
/-- those ahead and those behind, of ascending ones -/
theorem part_asc (ls : List Ld) (e : EdgeV) (hp : ls.Pairwise fun x y => lt x.e y.e = true) (hn : ∀ x ∈ ls, x.e ≠ e) : ls.filter (fun d => lt d.e e) ++ ls.filter (fun d => lt e d.e) = ls := by
  induction ls with
  | nil => rfl
  | cons x t ih =>
    rw [List.pairwise_cons] at hp
    have ih := ih hp.2 (fun y hy => hn y (List.mem_cons_of_mem _ hy))
    cases hx : lt x.e e with
    | true =>
      rw [List.filter_cons_of_pos (by simpa using hx), List.filter_cons_of_neg (by rw [lt_asymm' hx]; simp), List.cons_append, ih]
    | false =>
      have h2 := lt_total' hx (hn x (List.mem_cons_self ..))
      have h3 : ∀ y ∈ t, lt e y.e = true := fun y hy => lt_trans' h2 (hp.1 y hy)
      rw [List.filter_cons_of_neg (by rw [hx]; simp), List.filter_cons_of_pos (by simpa using h2)]
      rw [List.filter_eq_nil_iff.2 (fun y hy => by rw [lt_asymm' (h3 y hy)]; simp), List.filter_eq_self.2 (fun y hy => by simpa using h3 y hy)]
      rfl
theorem gE_asc {N : Int} {ls : List Ld} (h : gB N (gE ls) = true) : ls.Pairwise fun x y => lt x.e y.e = true := by
  have ha := asc_of_chk (gB_chk h).2.1
  rw [List.pairwise_iff_getElem]
  intro i j hi hj hij
  exact ha i j _ _ hij (gE_at (List.getElem?_eq_getElem hi)) (gE_at (List.getElem?_eq_getElem hj))
/-- where the edge that comes stands -/
theorem put_at {N : Int} {ls : List Ld} {x : Ld} (h : gB N (gE ls) = true) (hn : hasB (gE ls) x.e = false) : ∃ k : Nat, k ≤ ls.length ∧ idxE (putE (gE ls) x.e) x.e = (k : Int) ∧ putL ls x = ls.take k ++ [x] ++ ls.drop k := by
  have hn' : ∀ y ∈ ls, y.e ≠ x.e := fun y hy he => by
    have : hasB (gE ls) x.e = true := by unfold hasB; simp; exact he ▸ gE_mem hy
    rw [this] at hn
    cases hn
  have hp := part_asc ls x.e (gE_asc h) hn'
  have e1 : (gE ls).filter (fun d => lt d x.e) = (ls.filter (fun d => lt d.e x.e)).map Ld.e := by unfold gE; rw [List.filter_map]; rfl
  have e2 : (gE ls).filter (fun d => lt x.e d) = (ls.filter (fun d => lt x.e d.e)).map Ld.e := by unfold gE; rw [List.filter_map]; rfl
  refine ⟨(ls.filter (fun d => lt d.e x.e)).length, List.length_filter_le _ _, ?_, ?_⟩
  · refine idxE_yes ?_ ?_
    · unfold putE
      rw [e1]
      simp
    · intro j hj hjx
      unfold putE at hjx
      rw [e1, List.append_assoc, List.getElem?_append_left (by simpa using hj)] at hjx
      obtain ⟨y, hy, he⟩ := List.mem_map.1 (List.mem_of_getElem? hjx)
      exact hn' y (List.mem_filter.1 hy).1 he
  · have t1 : ls.take (ls.filter (fun d => lt d.e x.e)).length = ls.filter (fun d => lt d.e x.e) := by
      conv => lhs; arg 2; rw [← hp]
      simp
    have t2 : ls.drop (ls.filter (fun d => lt d.e x.e)).length = ls.filter (fun d => lt x.e d.e) := by
      conv => lhs; arg 2; rw [← hp]
      simp
    rw [t1, t2]
    rfl
/-- the answer of WebAdd, WebTake: a web of the answer's own, or nothing -/
def WAns (w : World) (N : Int) (o : Option (List Ld)) (e : Ending) (w' : World) : Prop :=
  ∃ a m c, e = .returned (.tuple #[.agg #[.int .i64 (if o.isSome then N else 0), .slice a m c], .bool o.isSome]) ∧ w'.ownsRow w.heap.size 52 4 (.slice a m c) m (lcells (o.getD [])) ∧ Below w.heap.size w w'
/-- the world behind the boxes -/
def w3w (w : World) (N : Int) (a : Option Addr) (n c : Nat) (f : EdgeV) : World :=
  ((w.alloc (.cells #[.int .i64 N, .slice a n c] 26)).alloc (.cells #[.int .i64 f.1, .int .i64 f.2] 28)).alloc (.cells #[.int .i64 0, .slice none 0 0] 26)
theorem w3w_size (w : World) (N : Int) (a : Option Addr) (n c : Nat) (f : EdgeV) : (w3w w N a n c f).heap.size = w.heap.size + 3 := by simp [w3w]
theorem w3w_below (w : World) (N : Int) (a : Option Addr) (n c : Nat) (f : EdgeV) : Below w.heap.size w (w3w w N a n c f) := (((Below.refl _ _).alloc (Nat.le_refl _) _).alloc (by simp) _).alloc (by simp; omega) _
/-- what the boxes hold, whatever has come since -/
structure In3w (w : World) (N : Int) (a : Option Addr) (n c : Nat) (f : EdgeV) (u : World) : Prop where
  good : Good (w3w w N a n c f) u
theorem In3w.cells {w : World} {N : Int} {a : Option Addr} {n c : Nat} {f : EdgeV} {u : World} (h : In3w w N a n c f u) :
    (u.cell? ⟨w.heap.size, 0, none⟩ = some (.int .i64 N) ∧ u.cell? ⟨w.heap.size, 1, none⟩ = some (.slice a n c)) ∧ (u.cell? ⟨w.heap.size + 1, 0, none⟩ = some (.int .i64 f.1) ∧ u.cell? ⟨w.heap.size + 1, 1, none⟩ = some (.int .i64 f.2)) := by
  have hs := w3w_size w N a n c f
  refine ⟨⟨?_, ?_⟩, ?_, ?_⟩
  · rw [h.good.cell (by omega)]; simp [w3w, go_sem]
  · rw [h.good.cell (by omega)]; simp [w3w, go_sem]
  · rw [h.good.cell (by omega)]; simp [w3w, go_sem]
  · rw [h.good.cell (by omega)]; simp [w3w, go_sem]
theorem In3w.out {w : World} {N : Int} {a : Option Addr} {n c : Nat} {f : EdgeV} {u : World} (h : In3w w N a n c f u) :
    (u.cell? ⟨w.heap.size + 1 + 1, 0, none⟩ = some (.int .i64 0) ∧ u.cell? ⟨w.heap.size + 1 + 1, 1, none⟩ = some (.slice none 0 0)) ∧ (u.frozen? ⟨w.heap.size + 1 + 1, 0, none⟩ = false ∧ u.frozen? ⟨w.heap.size + 1 + 1, 1, none⟩ = false) := by
  have hs := w3w_size w N a n c f
  refine ⟨⟨?_, ?_⟩, ?_, ?_⟩
  · rw [h.good.cell (by omega)]; simp [w3w, go_sem]
  · rw [h.good.cell (by omega)]; simp [w3w, go_sem]
  · rw [Below.frozen h.good (by show w.heap.size + 1 + 1 < _; omega)]; simp [w3w, go_sem]
  · rw [Below.frozen h.good (by show w.heap.size + 1 + 1 < _; omega)]; simp [w3w, go_sem]
theorem In3w.up {w : World} {N : Int} {a : Option Addr} {n c : Nat} {f : EdgeV} {u v : World} (h : In3w w N a n c f u) (hb : Below u.heap.size u v) : In3w w N a n c f v := ⟨h.good.up hb⟩
theorem In3w.start (w : World) (N : Int) (a : Option Addr) (n c : Nat) (f : EdgeV) : In3w w N a n c f (w3w w N a n c f) := ⟨Good.refl _⟩
theorem In3w.below {w : World} {N : Int} {a : Option Addr} {n c : Nat} {f : EdgeV} {u : World} (h : In3w w N a n c f u) : Below w.heap.size w u := (w3w_below w N a n c f).trans (Below.mono h.good (by rw [w3w_size]; omega))
theorem In3w.size {w : World} {N : Int} {a : Option Addr} {n c : Nat} {f : EdgeV} {u : World} (h : In3w w N a n c f u) : w.heap.size + 3 ≤ u.heap.size := by have := h.good.size; rw [w3w_size] at this; exact this
theorem In3w.drew {w : World} {N : Int} {a : Option Addr} {n c : Nat} {f : EdgeV} {u : World} (h : In3w w N a n c f u) : In3w w N a n c f u.drew := ⟨h.good.drew⟩
theorem In3w.cellsSet {w : World} {N : Int} {a : Option Addr} {n c : Nat} {f : EdgeV} {u : World} (h : In3w w N a n c f u) (v0 v1 : Value) :
    ((((u.setCell ⟨w.heap.size + 1 + 1, 0, none⟩ v0).setCell ⟨w.heap.size + 1 + 1, 1, none⟩ v1)).cell? ⟨w.heap.size, 0, none⟩ = some (.int .i64 N) ∧ (((u.setCell ⟨w.heap.size + 1 + 1, 0, none⟩ v0).setCell ⟨w.heap.size + 1 + 1, 1, none⟩ v1)).cell? ⟨w.heap.size, 1, none⟩ = some (.slice a n c)) ∧
      ((((u.setCell ⟨w.heap.size + 1 + 1, 0, none⟩ v0).setCell ⟨w.heap.size + 1 + 1, 1, none⟩ v1)).cell? ⟨w.heap.size + 1, 0, none⟩ = some (.int .i64 f.1) ∧ (((u.setCell ⟨w.heap.size + 1 + 1, 0, none⟩ v0).setCell ⟨w.heap.size + 1 + 1, 1, none⟩ v1)).cell? ⟨w.heap.size + 1, 1, none⟩ = some (.int .i64 f.2)) := by
  obtain ⟨⟨k0, k1⟩, k2, k3⟩ := h.cells
  refine ⟨⟨?_, ?_⟩, ?_, ?_⟩
  · rw [set_other (by omega), set_other (by omega)]; exact k0
  · rw [set_other (by omega), set_other (by omega)]; exact k1
  · rw [set_other (by omega), set_other (by omega)]; exact k2
  · rw [set_other (by omega), set_other (by omega)]; exact k3
theorem wans_yes {w u : World} {N : Int} {a : Option Addr} {n c : Nat} {f : EdgeV} (h : In3w w N a n c f u) {o : Option (List Ld)} {gs : List Ld} (ho : o = some gs) {B : Nat} {a' : Option Addr} {m' c' : Nat}
    (hB : w.heap.size + 3 ≤ B) (hown : u.ownsRow B 52 4 (.slice a' m' c') m' (lcells gs)) :
    WAns w N o (.returned (.tuple #[.agg #[.int .i64 N, .slice a' m' c'], .bool true])) ((u.setCell ⟨w.heap.size + 1 + 1, 0, none⟩ (.int .i64 N)).setCell ⟨w.heap.size + 1 + 1, 1, none⟩ (.slice a' m' c')) := by
  subst ho
  exact ⟨a', m', c', rfl, own_mono (own_setLow (own_setLow hown _ 0 _ (by omega)) _ 1 _ (by omega)) (by omega), (h.below.setCell (by show _ ≤ w.heap.size + 1 + 1; omega) _).setCell (by show _ ≤ w.heap.size + 1 + 1; omega) _⟩
theorem wans_no {w u : World} {N : Int} {a : Option Addr} {n c : Nat} {f : EdgeV} (h : In3w w N a n c f u) {o : Option (List Ld)} (ho : o = none) :
    WAns w N o (.returned (.tuple #[.agg #[.int .i64 0, .slice none 0 0], .bool false])) ((u.setCell ⟨w.heap.size + 1 + 1, 0, none⟩ (.int .i64 0)).setCell ⟨w.heap.size + 1 + 1, 1, none⟩ (.slice none 0 0)) := by
  subst ho
  exact ⟨none, 0, 0, rfl, World.ownsRow_nil _ _ _ _, (h.below.setCell (by show _ ≤ w.heap.size + 1 + 1; omega) _).setCell (by show _ ≤ w.heap.size + 1 + 1; omega) _⟩
/-- a row stays where a block of another kind is turned -/
theorem own_kinds {u : World} {lo b j n t e s : Nat} {v x : Value} {xs : List Value} {cs : Array Value} {fr : Nat × Nat} (h : u.ownsRow lo e s v n xs) (hb : u.heap[b]? = some (.cells cs t fr)) (hte : t ≠ e) : (u.setCell ⟨b, j, none⟩ x).ownsRow lo e s v n xs := by
  refine ⟨h.1, ?_⟩
  rcases h.2 with h3 | ⟨g, cap, cur, hv, hg, hcur, hrest⟩
  · exact .inl h3
  · refine .inr ⟨g, cap, cur, hv, hg, ?_, hrest⟩
    rw [heap_setCell_other u ⟨b, j, none⟩ g x (fun e2 => by
      have e2 : g = b := e2
      subst e2
      rw [hcur] at hb
      simp at hb
      exact hte hb.2.1.symm)]
    exact hcur
theorem InW.set {w : World} {N : Int} {a : Option Addr} {n c : Nat} {f : EdgeV} {u : World} (h : In3w w N a n c f u) (b j : Nat) (v : Value) (hb : w.heap.size + 3 ≤ b) : In3w w N a n c f (u.setCell ⟨b, j, none⟩ v) := ⟨Below.setCell h.good (p := ⟨b, j, none⟩) (by rw [w3w_size]; exact hb) v⟩
theorem InW.alloc {w : World} {N : Int} {a : Option Addr} {n c : Nat} {f : EdgeV} {u : World} (h : In3w w N a n c f u) (o : Obj) : In3w w N a n c f (u.alloc o) := h.up ((Below.refl _ _).alloc (Nat.le_refl _) _)
/-- a graph in a box -/
structure EB (u : World) (lo b : Nat) (M : Int) (a : Option Addr) (m c : Nat) (es : List EdgeV) : Prop where
  box : Box7 u b 33 (.int .i64 M) (.slice a m c)
  row : Es u u.heap.size a m es
  least : lo ≤ b
theorem EB.up {u v : World} {lo b : Nat} {M : Int} {a : Option Addr} {m c : Nat} {es : List EdgeV} (h : EB u lo b M a m c es) (hb : Below u.heap.size u v) : EB v lo b M a m c es := ⟨h.box.up hb, h.row.up hb, h.least⟩
theorem EB.laid {u : World} {lo : Nat} {M : Int} {a : Option Addr} {m c : Nat} {es : List EdgeV} {B : Nat} (hl : lo ≤ u.heap.size) (h : u.ownsRow B 28 2 (.slice a m c) m (ecells es)) : EB (u.alloc (.cells #[.int .i64 M, .slice a m c] 33)) lo u.heap.size M a m c es :=
  ⟨Box7.new _ _ _ _ _ rfl, (Es_of_own h).up ((Below.refl _ _).alloc (Nat.le_refl _) _), hl⟩
theorem EB.stored {u : World} {lo b : Nat} {M : Int} {a : Option Addr} {m c : Nat} {es : List EdgeV} {B : Nat} {v0 v1 : Value} (bx : Box7 u b 33 v0 v1) (hl : lo ≤ b) (h : u.ownsRow B 28 2 (.slice a m c) m (ecells es)) : EB ((u.setCell ⟨b, 0, none⟩ (.int .i64 M)).setCell ⟨b, 1, none⟩ (.slice a m c)) lo b M a m c es :=
  ⟨bx.set2 _ _, Es_of_own (own_kinds (own_kinds h bx (by decide)) (show (u.setCell ⟨b, 0, none⟩ (.int .i64 M)).heap[b]? = some (.cells #[.int .i64 M, v1] 33 (0, 0)) by rw [heap_setCell_same u b 0 _ _ _ bx]; rfl) (by decide)), hl⟩
/-- an edge with its level in a block of its own -/
def Box4 (w : World) (b : Nat) (x : Ld) : Prop := w.heap[b]? = some (.cells #[.int .i64 x.a, .int .i64 x.b, .int .i64 x.l, .bool x.t] 52 (0, 0))
theorem Box4.lt {w : World} {b : Nat} {x : Ld} (h : Box4 w b x) : b < w.heap.size := (Array.getElem?_eq_some_iff.1 h).1
theorem Box4.up {w w' : World} {b : Nat} {x : Ld} (h : Box4 w b x) (hb : Below w.heap.size w w') : Box4 w' b x := by
  unfold Box4; rw [hb.block b h.lt]; exact h
theorem Box4.new (w : World) (x : Ld) (b : Nat) (hb : w.heap.size = b) : Box4 (w.alloc (.cells #[.int .i64 x.a, .int .i64 x.b, .int .i64 x.l, .bool x.t] 52)) b x := by subst hb; exact heap_alloc_new w _
theorem Box4.cells {w : World} {b : Nat} {x : Ld} (h : Box4 w b x) : w.cell? ⟨b, 0, none⟩ = some (.int .i64 x.a) ∧ w.cell? ⟨b, 1, none⟩ = some (.int .i64 x.b) ∧ w.cell? ⟨b, 2, none⟩ = some (.int .i64 x.l) ∧ w.cell? ⟨b, 3, none⟩ = some (.bool x.t) := by
  refine ⟨?_, ?_, ?_, ?_⟩
  · rw [cell_of_row w b 0 _ _ _ h]; rfl
  · rw [cell_of_row w b 1 _ _ _ h]; rfl
  · rw [cell_of_row w b 2 _ _ _ h]; rfl
  · rw [cell_of_row w b 3 _ _ _ h]; rfl
theorem Box4.frozen {w : World} {b : Nat} {x : Ld} (h : Box4 w b x) (j : Nat) : w.frozen? ⟨b, j, none⟩ = false := frozen_of_row w b j _ _ h
theorem Box4.set4 {w : World} {b : Nat} {y : Ld} (h : Box4 w b y) (x : Ld) : Box4 ((((w.setCell ⟨b, 0, none⟩ (.int .i64 x.a)).setCell ⟨b, 1, none⟩ (.int .i64 x.b)).setCell ⟨b, 2, none⟩ (.int .i64 x.l)).setCell ⟨b, 3, none⟩ (.bool x.t)) b x := by
  have h1 : (w.setCell ⟨b, 0, none⟩ (.int .i64 x.a)).heap[b]? = some (.cells #[.int .i64 x.a, .int .i64 y.b, .int .i64 y.l, .bool y.t] 52 (0, 0)) := by rw [heap_setCell_same w b 0 _ _ _ h]; rfl
  have h2 : ((w.setCell ⟨b, 0, none⟩ (.int .i64 x.a)).setCell ⟨b, 1, none⟩ (.int .i64 x.b)).heap[b]? = some (.cells #[.int .i64 x.a, .int .i64 x.b, .int .i64 y.l, .bool y.t] 52 (0, 0)) := by rw [heap_setCell_same _ b 1 _ _ _ h1]; rfl
  have h3 : (((w.setCell ⟨b, 0, none⟩ (.int .i64 x.a)).setCell ⟨b, 1, none⟩ (.int .i64 x.b)).setCell ⟨b, 2, none⟩ (.int .i64 x.l)).heap[b]? = some (.cells #[.int .i64 x.a, .int .i64 x.b, .int .i64 x.l, .bool y.t] 52 (0, 0)) := by rw [heap_setCell_same _ b 2 _ _ _ h2]; rfl
  unfold Box4
  rw [heap_setCell_same _ b 3 _ _ _ h3]; rfl
theorem heldW {w : World} {N : Int} {a : Option Addr} {n c : Nat} {f : EdgeV} {u : World} {b : Nat} {x : Ld} (h : In3w w N a n c f u) (hb : Box4 u b x) : (u.cell? ⟨w.heap.size, 0, none⟩ = some (.int .i64 N) ∧ u.cell? ⟨w.heap.size, 1, none⟩ = some (.slice a n c)) ∧ u.cell? ⟨b, 0, none⟩ = some (.int .i64 x.a) ∧ u.cell? ⟨b, 1, none⟩ = some (.int .i64 x.b) ∧ u.cell? ⟨b, 2, none⟩ = some (.int .i64 x.l) ∧ u.cell? ⟨b, 3, none⟩ = some (.bool x.t) := ⟨h.cells.1, hb.cells⟩
theorem heldWset {w : World} {N : Int} {a : Option Addr} {n c : Nat} {f : EdgeV} {u : World} {b : Nat} {x : Ld} (h : In3w w N a n c f u) (hb : Box4 u b x) (hl : w.heap.size + 3 ≤ b) (v0 v1 : Value) : (((u.setCell ⟨w.heap.size + 1 + 1, 0, none⟩ v0).setCell ⟨w.heap.size + 1 + 1, 1, none⟩ v1).cell? ⟨w.heap.size, 0, none⟩ = some (.int .i64 N) ∧ ((u.setCell ⟨w.heap.size + 1 + 1, 0, none⟩ v0).setCell ⟨w.heap.size + 1 + 1, 1, none⟩ v1).cell? ⟨w.heap.size, 1, none⟩ = some (.slice a n c)) ∧ ((u.setCell ⟨w.heap.size + 1 + 1, 0, none⟩ v0).setCell ⟨w.heap.size + 1 + 1, 1, none⟩ v1).cell? ⟨b, 0, none⟩ = some (.int .i64 x.a) ∧ ((u.setCell ⟨w.heap.size + 1 + 1, 0, none⟩ v0).setCell ⟨w.heap.size + 1 + 1, 1, none⟩ v1).cell? ⟨b, 1, none⟩ = some (.int .i64 x.b) ∧ ((u.setCell ⟨w.heap.size + 1 + 1, 0, none⟩ v0).setCell ⟨w.heap.size + 1 + 1, 1, none⟩ v1).cell? ⟨b, 2, none⟩ = some (.int .i64 x.l) ∧ ((u.setCell ⟨w.heap.size + 1 + 1, 0, none⟩ v0).setCell ⟨w.heap.size + 1 + 1, 1, none⟩ v1).cell? ⟨b, 3, none⟩ = some (.bool x.t) := by
  obtain ⟨b0, b1, b2, b3⟩ := hb.cells
  refine ⟨(h.cellsSet v0 v1).1, ?_, ?_, ?_, ?_⟩
  · rw [set_other (by omega), set_other (by omega)]; exact b0
  · rw [set_other (by omega), set_other (by omega)]; exact b1
  · rw [set_other (by omega), set_other (by omega)]; exact b2
  · rw [set_other (by omega), set_other (by omega)]; exact b3
theorem Good.set4 {w u : World} (h : Good w u) (b : Nat) (v0 v1 v2 v3 : Value) (hb : w.heap.size ≤ b) : Good w ((((u.setCell ⟨b, 0, none⟩ v0).setCell ⟨b, 1, none⟩ v1).setCell ⟨b, 2, none⟩ v2).setCell ⟨b, 3, none⟩ v3) :=
  Below.setCell (p := ⟨b, 3, none⟩) (Below.setCell (p := ⟨b, 2, none⟩) (Below.setCell (p := ⟨b, 1, none⟩) (Below.setCell (p := ⟨b, 0, none⟩) h hb v0) hb v1) hb v2) hb v3
theorem Box4.new0 (w : World) : Box4 (w.alloc (.cells #[.int .i64 0, .int .i64 0, .int .i64 0, .bool false] 52)) w.heap.size ⟨0, 0, 0, false⟩ := heap_alloc_new w _
theorem Box4.new0d (w : World) : Box4 (w.alloc (.cells #[.int .i64 0, .int .i64 0, .int .i64 0, .bool false] 52)).drew w.heap.size ⟨0, 0, 0, false⟩ := heap_alloc_new w _
end Go.Proofs.YtgjnlhdgekfieaaGreat
namespace Go.Proofs.YtgjnlhdgekfieaaGreat
open Go.RowKit

theorem PBox.len9 {u : World} {lo hi b : Nat} {M : Int} {a : Option Addr} {m c : Nat} {gs : List Ld} (h : PBox u lo hi b 26 52 4 M a m c (lcells gs)) : gs.length = m := by
  have := h.own.1
  rw [lcells_length] at this
  omega
/-- a struct that a call has made is laid into a box: the box came ahead of the call -/
theorem PBox.stored {u : World} {lo b t e s : Nat} {M : Int} {a : Option Addr} {m c : Nat} {xs : List Value} {v0 v1 : Value} (hte : t ≠ e) (bx : Box7 u b t v0 v1) (hl : lo ≤ b) (ho : u.ownsRow lo e s (.slice a m c) m xs) :
    PBox ((u.setCell ⟨b, 0, none⟩ (.int .i64 M)).setCell ⟨b, 1, none⟩ (.slice a m c)) lo ((u.setCell ⟨b, 0, none⟩ (.int .i64 M)).setCell ⟨b, 1, none⟩ (.slice a m c)).heap.size b t e s M a m c xs := by
  have ho' := own_kinds (j := 1) (x := .slice a m c) (own_kinds (j := 0) (x := .int .i64 M) ho bx hte) (show (u.setCell ⟨b, 0, none⟩ (.int .i64 M)).heap[b]? = some (.cells #[.int .i64 M, v1] t (0, 0)) by rw [heap_setCell_same u b 0 _ _ _ bx]; rfl) hte
  have hb' := bx.set2 (.int .i64 M) (.slice a m c)
  exact ⟨hb', ho', hl, hb'.lt, fun g hg => (ho'.lt g hg).2, Nat.le_refl _⟩
theorem Good.set9 {w u : World} (h : Good w u) (b j : Nat) (v : Value) (hb : w.heap.size ≤ b) : Good w (u.setCell ⟨b, j, none⟩ v) := Below.setCell h (p := ⟨b, j, none⟩) hb v
theorem toWeb_G (N : Int) (ls : List Ld) (n : Nat) (a : Option Addr) (c : Nat) (hn : n ≤ 1048576) {u0 u : World} (hf : Ls u0 u0.heap.size a n ls) (h : Good u0 u) :
    Calls Tryz.prog 50 #[.agg #[.int .i64 N, .slice a n c]] u fun e v => ∃ g, e = .returned (.agg #[.int .i64 N, .slice (some ⟨g, 0, none⟩) n n]) ∧ v.ownsRow u0.heap.size 52 4 (.slice (some ⟨g, 0, none⟩) n n) n (lcells ls) ∧ Good u0 v ∧ Below u.heap.size u v :=
  (toWeb_any N ls n a c hn u (hf.up h)).mono fun _ _ ⟨g, he, ho, hb⟩ => ⟨g, he, own_mono ho h.size, h.up hb, hb⟩
theorem toEdge9_any (f : EdgeV) (w : World) :
    Calls Tryz.prog 51 #[.agg #[.int .i64 f.1, .int .i64 f.2]] w fun e w' => e = .returned (.agg #[.int .i64 f.1, .int .i64 f.2]) ∧ Below w.heap.size w w' := by
  go_enter Tryz.func51, Tryz.ntmps51
  go_wp2
  exact bodyPost_ret (v := .agg #[.int .i64 f.1, .int .i64 f.2]) (by simp [results, Tryz.results51, go_sem]) rfl ⟨rfl, (((Below.refl _ _).alloc (Nat.le_refl _) _).alloc (by simp) _).alloc (by simp; omega) _⟩
theorem toEdge_G9 (x : EdgeV) {u0 u : World} (h : Good u0 u) {B m cc : Nat} {aa : Option Addr} {ds : List Ld} (ho : u.ownsRow B 52 4 (.slice aa m cc) m (lcells ds)) :
    Calls Tryz.prog 51 #[.agg #[.int .i64 x.1, .int .i64 x.2]] u fun e v => e = .returned (.agg #[.int .i64 x.1, .int .i64 x.2]) ∧ v.ownsRow B 52 4 (.slice aa m cc) m (lcells ds) ∧ Good u0 v ∧ Below u.heap.size u v :=
  (toEdge9_any x u).mono fun _ _ ⟨he, hb⟩ => ⟨he, own_up ho hb, h.up hb, hb⟩
/-- what is asked of either side -/
theorem ans_G9 {F : Nat} {N : Int} {ls : List Ld} {n : Nat} {x : EdgeV} {o : Option (List Ld)}
    (H : ∀ (g : Nat) (w : World) (_ : Ls w w.heap.size (some ⟨g, 0, none⟩) n ls), Calls Tryz.prog F #[.agg #[.int .i64 N, .slice (some ⟨g, 0, none⟩) n n], .agg #[.int .i64 x.1, .int .i64 x.2]] w (WAns w N o))
    {u0 u : World} (h : Good u0 u) {B g : Nat} (ho : u.ownsRow B 52 4 (.slice (some ⟨g, 0, none⟩) n n) n (lcells ls)) :
    Calls Tryz.prog F #[.agg #[.int .i64 N, .slice (some ⟨g, 0, none⟩) n n], .agg #[.int .i64 x.1, .int .i64 x.2]] u fun e v => ∃ aw mw cw, e = .returned (.tuple #[.agg #[.int .i64 (if o.isSome then N else 0), .slice aw mw cw], .bool o.isSome]) ∧ v.ownsRow u0.heap.size 52 4 (.slice aw mw cw) mw (lcells (o.getD [])) ∧ Good u0 v ∧ Below u.heap.size u v :=
  (H g u (Ls_of_own ho)).mono fun _ _ ⟨aw, mw, cw, he, hw, hb⟩ => ⟨aw, mw, cw, he, own_mono hw h.size, h.up hb, hb⟩
def FitE9 (f : EdgeV) : Prop := (Lit.int .i64 f.1).wf = true ∧ (Lit.int .i64 f.2).wf = true
/-- the world behind the law's two boxes -/
def lw9 (w : World) (N : Int) (a : Option Addr) (n c : Nat) (x : EdgeV) : World := (w.alloc (.cells #[.int .i64 N, .slice a n c] 84)).alloc (.cells #[.int .i64 x.1, .int .i64 x.2] 85)
theorem lw9_size (w : World) (N : Int) (a : Option Addr) (n c : Nat) (x : EdgeV) : (lw9 w N a n c x).heap.size = w.heap.size + 2 := by simp [lw9]
/-- nothing of these has turned -/
def LG9 (w : World) (N : Int) (a : Option Addr) (n c : Nat) (x : EdgeV) (u : World) : Prop := Below (w.heap.size + 2) (lw9 w N a n c x) u
theorem LG9.start (w : World) (N : Int) (a : Option Addr) (n c : Nat) (x : EdgeV) : LG9 w N a n c x (lw9 w N a n c x) := Below.refl _ _
theorem LG9.size {w : World} {N : Int} {a : Option Addr} {n c : Nat} {x : EdgeV} {u : World} (h : LG9 w N a n c x u) : w.heap.size + 2 ≤ u.heap.size := by have := Below.size h; rw [lw9_size] at this; exact this
theorem LG9.up {w : World} {N : Int} {a : Option Addr} {n c : Nat} {x : EdgeV} {u v : World} (h : LG9 w N a n c x u) (hb : Below u.heap.size u v) : LG9 w N a n c x v := Below.trans h (hb.mono h.size)
theorem LG9.good {w : World} {N : Int} {a : Option Addr} {n c : Nat} {x : EdgeV} {u v : World} (h : LG9 w N a n c x u) (hb : Good u v) : LG9 w N a n c x v := h.up hb
theorem LG9.rng {w : World} {N : Int} {a : Option Addr} {n c : Nat} {x : EdgeV} {u v : World} {lo hi : Nat} (h : LG9 w N a n c x u) (hr : Rng lo hi u v) (hl : w.heap.size + 2 ≤ lo) : LG9 w N a n c x v := Below.trans h (hr.below hl h.size)
theorem LG9.below {w : World} {N : Int} {a : Option Addr} {n c : Nat} {x : EdgeV} {u : World} (h : LG9 w N a n c x u) : Below w.heap.size w u :=
  (((Below.refl w.heap.size w).alloc (Nat.le_refl _) _).alloc (by simp) _).trans (Below.mono h (by omega))
theorem LG9.ls {w : World} {N : Int} {a : Option Addr} {n c : Nat} {x : EdgeV} {u : World} {fs : List Ld} (h : LG9 w N a n c x u) (hf : Ls w w.heap.size a n fs) : Ls u u.heap.size a n fs := hf.up h.below
theorem LG9.cells {w : World} {N : Int} {a : Option Addr} {n c : Nat} {x : EdgeV} {u : World} (h : LG9 w N a n c x u) :
    (u.cell? ⟨w.heap.size, 0, none⟩ = some (.int .i64 N) ∧ u.cell? ⟨w.heap.size, 1, none⟩ = some (.slice a n c)) ∧ u.cell? ⟨w.heap.size + 1, 0, none⟩ = some (.int .i64 x.1) ∧ u.cell? ⟨w.heap.size + 1, 1, none⟩ = some (.int .i64 x.2) := by
  refine ⟨⟨?_, ?_⟩, ?_, ?_⟩
  · rw [Below.cell h (by show w.heap.size < _; omega)]; simp [lw9, go_sem]
  · rw [Below.cell h (by show w.heap.size < _; omega)]; simp [lw9, go_sem]
  · rw [Below.cell h (by show w.heap.size + 1 < _; omega)]; simp [lw9, go_sem]
  · rw [Below.cell h (by show w.heap.size + 1 < _; omega)]; simp [lw9, go_sem]
end Go.Proofs.YtgjnlhdgekfieaaGreat
namespace Go.Proofs.YtgjnlhdgekfieaaGreat

/-- the next Level -/
def upL (i : Int) : Int := if 4 < i + 1 then 4 else i + 1
/-- an edge of the forest of this Level, in this tree, is raised -/
def rsL (i : Int) (t : List Int) (x : Ld) : Ld := if x.t = true ∧ x.l = i ∧ x.a ∈ t then ⟨x.a, x.b, upL i, x.t⟩ else x
/-- an edge beside the forest with both ends in the tree is raised -/
def srL (i : Int) (t : List Int) (x : Ld) : Ld := if x.t = false ∧ x.l = i ∧ x.a ∈ t ∧ x.b ∈ t then ⟨x.a, x.b, upL i, x.t⟩ else x
/-- an edge beside the forest with one end in the tree takes the place -/
def hitL (i : Int) (t : List Int) (x : Ld) : Prop := x.t = false ∧ x.l = i ∧ ¬ (x.a ∈ t ∧ x.b ∈ t) ∧ (x.a ∈ t ∨ x.b ∈ t)
instance (i : Int) (t : List Int) (x : Ld) : Decidable (hitL i t x) := by unfold hitL; infer_instance
/-- the search over the edges -/
def srO (i : Int) (t : List Int) : List Ld → List Ld × Option EdgeV
  | [] => ([], none)
  | x :: xs => if hitL i t x then (⟨x.a, x.b, x.l, true⟩ :: xs, some x.e) else (srL i t x :: (srO i t xs).1, (srO i t xs).2)

theorem srO_none {i : Int} {t : List Int} : ∀ {L : List Ld}, (∀ x ∈ L, ¬ hitL i t x) → srO i t L = (L.map (srL i t), none)
  | [], _ => rfl
  | x :: xs, h => by
    rw [srO, if_neg (h x (by simp)), srO_none fun y hy => h y (by simp [hy])]
    simp
theorem srO_hit {i : Int} {t : List Int} : ∀ {L : List Ld} {k : Nat} {x : Ld}, L[k]? = some x → hitL i t x → (∀ y ∈ L.take k, ¬ hitL i t y) →
    srO i t L = ((L.take k).map (srL i t) ++ ⟨x.a, x.b, x.l, true⟩ :: L.drop (k + 1), some x.e)
  | [], k, x, hx, _, _ => by simp at hx
  | y :: ys, 0, x, hx, hh, _ => by
    simp at hx
    subst hx
    rw [srO, if_pos hh]
    simp
  | y :: ys, k + 1, x, hx, hh, hn => by
    have hx' : ys[k]? = some x := by simpa using hx
    rw [srO, if_neg (hn y (by simp)), srO_hit hx' hh fun z hz => hn z (by simp [hz])]
    simp

/-- a list that is turned from its head on: one step -/
theorem turn_step {f : Ld → Ld} {L : List Ld} {k : Nat} {x : Ld} (h : L[k]? = some x) : ((L.take k).map f ++ L.drop k).set k (f x) = (L.take (k + 1)).map f ++ L.drop (k + 1) := by
  have hk : k < L.length := (List.getElem?_eq_some_iff.1 h).1
  have hx : L[k] = x := (List.getElem?_eq_some_iff.1 h).2
  apply List.ext_getElem?
  intro j
  by_cases hj : j = k
  · subst hj
    rw [List.getElem?_set_self (by simp; omega), List.getElem?_append_left (by simp; omega), List.getElem?_map, List.getElem?_take_of_lt (by omega), h]
    rfl
  · rw [List.getElem?_set_ne (by omega)]
    by_cases hl : j < k
    · rw [List.getElem?_append_left (by simp; omega), List.getElem?_append_left (by simp; omega), List.getElem?_map, List.getElem?_map, List.getElem?_take_of_lt (by omega), List.getElem?_take_of_lt (by omega)]
    · rw [List.getElem?_append_right (by simp; omega), List.getElem?_append_right (by simp; omega), List.getElem?_drop, List.getElem?_drop]
      congr 1
      simp
      omega
/-- the edge at the place where the turning stands -/
theorem turn_at {f : Ld → Ld} {L : List Ld} {k : Nat} {x : Ld} (h : L[k]? = some x) : ((L.take k).map f ++ L.drop k)[k]? = some x := by
  have hk : k < L.length := (List.getElem?_eq_some_iff.1 h).1
  rw [List.getElem?_append_right (by simp; omega), List.getElem?_drop]
  simp
  have : min k L.length = k := by omega
  rw [this]
  simpa using h

/-- of two tours the one with fewer vertices -/
def smT (ts : List (List Int)) (e : EdgeV) : List Int :=
  if (vsL (ts.getD (trI ts e.2).toNat [])).length < (vsL (ts.getD (trI ts e.1).toNat [])).length then ts.getD (trI ts e.2).toNat [] else ts.getD (trI ts e.1).toNat []
/-- the trees of a Level -/
def lvT (n : Nat) (ls : List Ld) (i : Int) : List (List Int) := (ftK (fE ls i) n n).getD []
/-- one Level -/
def lvO (n : Nat) (e : EdgeV) (i : Int) (ls : List Ld) : List Ld × Option EdgeV :=
  srO i (smT (lvT n ls i) e) (ls.map (rsL i (smT (lvT n ls i) e)))
/-- the Levels below k, downwards -/
def tkO (n : Nat) (e : EdgeV) : Nat → List Ld → List Ld × Option EdgeV
  | 0, ls => (ls, none)
  | k + 1, ls => if (lvO n e (k : Int) ls).2.isSome then lvO n e (k : Int) ls else tkO n e k (lvO n e (k : Int) ls).1
theorem tkO_found {n : Nat} {e : EdgeV} {k : Nat} {ls : List Ld} {f : EdgeV} (h : (lvO n e (k : Int) ls).2 = some f) : tkO n e (k + 1) ls = lvO n e (k : Int) ls := by rw [tkO, h]; rfl
theorem tkO_down {n : Nat} {e : EdgeV} {k : Nat} {ls : List Ld} (h : (lvO n e (k : Int) ls).2 = none) : tkO n e (k + 1) ls = tkO n e k (lvO n e (k : Int) ls).1 := by rw [tkO, h]; rfl
/-- the edges without one -/
def ouL (ls : List Ld) (e : EdgeV) : List Ld := ls.filter fun x => decide (x.e ≠ e)
/-- WebTake's edges and what takes the place, or nothing -/
noncomputable def wtO (N : Int) (ls : List Ld) (e : EdgeV) : Option (List Ld × Option EdgeV) :=
  @ite _ (WOk N ls ∧ hasB (gE ls) e = true) (Classical.propDecidable _) (some (match ls.find? (fun x => decide (x.e = e)) with
    | some x => if x.t then tkO N.toNat e (x.l.toNat + 1) (ouL ls e) else (ouL ls e, none)
    | none => (ouL ls e, none))) none

/-- what holds at each Level: right edges, Levels in their bounds, a forest without a ring -/
structure Stg (n : Nat) (ls : List Ld) : Prop where
  g : gB (n : Int) (gE ls) = true
  l : ∀ x ∈ ls, 0 ≤ x.l ∧ x.l ≤ 4
  br : Bridge (fE ls 0)
theorem upL_in {i : Int} (h : 0 ≤ i ∧ i ≤ 4) : 0 ≤ upL i ∧ upL i ≤ 4 := by unfold upL; split <;> omega
/-- turned edges stay the edges that they are -/
structure Keep (f : Ld → Ld) : Prop where
  e : ∀ x, (f x).e = x.e
  t : ∀ x, (f x).t = x.t
  l : ∀ x, (0 ≤ x.l ∧ x.l ≤ 4) → 0 ≤ (f x).l ∧ (f x).l ≤ 4
theorem keep_rs {i : Int} (h : 0 ≤ i ∧ i ≤ 4) (t : List Int) : Keep (rsL i t) :=
  ⟨fun x => by unfold rsL; split <;> rfl, fun x => by unfold rsL; split <;> rfl, fun x hx => by unfold rsL; split; exact upL_in h; exact hx⟩
theorem keep_sr {i : Int} (h : 0 ≤ i ∧ i ≤ 4) (t : List Int) : Keep (srL i t) :=
  ⟨fun x => by unfold srL; split <;> rfl, fun x => by unfold srL; split <;> rfl, fun x hx => by unfold srL; split; exact upL_in h; exact hx⟩
theorem Keep.gE {f : Ld → Ld} (h : Keep f) (ls : List Ld) : gE (ls.map f) = gE ls := by
  unfold Go.Proofs.YtgjnlhdgekfieaaGreat.gE
  rw [List.map_map]
  exact List.map_congr_left fun x _ => h.e x
theorem Keep.fE {f : Ld → Ld} (h : Keep f) : ∀ (ls : List Ld), (∀ x ∈ ls, 0 ≤ x.l ∧ x.l ≤ 4) → fE (ls.map f) 0 = fE ls 0
  | [], _ => rfl
  | x :: xs, hl => by
    have ih := Keep.fE h xs fun y hy => hl y (by simp [hy])
    have h1 := (hl x (by simp)).1
    have h2 := (h.l x (hl x (by simp))).1
    unfold Go.Proofs.YtgjnlhdgekfieaaGreat.fE at ih ⊢
    have hp : fP 0 (f x) = fP 0 x := by unfold fP; rw [h.t, decide_eq_true h1, decide_eq_true h2]
    simp only [List.map_cons, List.filter_cons, hp]
    split
    · simp only [List.map_cons, ih, h.e]
    · exact ih
theorem Stg.keep {n : Nat} {ls : List Ld} (h : Stg n ls) {f : Ld → Ld} (hf : Keep f) : Stg n (ls.map f) :=
  ⟨by rw [hf.gE]; exact h.g, fun x hx => by
    obtain ⟨y, hy, rfl⟩ := List.mem_map.1 hx
    exact hf.l y (h.l y hy), by rw [hf.fE ls h.l]; exact h.br⟩
end Go.Proofs.YtgjnlhdgekfieaaGreat
