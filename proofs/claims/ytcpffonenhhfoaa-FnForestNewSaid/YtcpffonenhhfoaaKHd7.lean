/- The edges of a forest, its parts, the place of a vertex: pure. A forest linked and cut again: pure. The place of a vertex's tour: pure. What Link and Cut answer: pure. A list of tours in memory, each in a block of its own. Headers of rows that are only read. -/
import Derived.Test.YtcpffonenhhfoaaKTourE
import Derived.Test.YtcpffonenhhfoaaKVerts
import Derived.Test.YtcpffonenhhfoaaKRer
namespace Go.Proofs.Ytcpffonenhhfoaa
open Go.RowKit

/-- the edges of all tours -/
def allE (ts : List (List Int)) : List EdgeV := ts.flatMap tE
theorem allE_mem (ts : List (List Int)) (e : EdgeV) : e ∈ allE ts ↔ ∃ t ∈ ts, e ∈ tE t := by simp [allE]
theorem allE_nodup {ts : List (List Int)} (h : ts.Pairwise Apart) : (allE ts).Nodup := by
  induction ts with
  | nil => simp [allE]
  | cons t r ih =>
    rw [List.pairwise_cons] at h
    show (tE t ++ allE r).Nodup
    rw [List.nodup_append]
    refine ⟨eK_nodup t _, ih h.2, fun e he f hf hef => ?_⟩
    subst hef
    obtain ⟨s, hs, hes⟩ := (allE_mem r e).1 hf
    exact h.1 s hs e.1 (tE_in e he).1 (tE_in e hes).1
theorem allE_len {ts : List (List Int)} (h : ∀ t ∈ ts, tB t = true) : 2 * (allE ts).length + ts.length = (ts.map List.length).sum := by
  induction ts with
  | nil => simp [allE]
  | cons t r ih =>
    have h1 := tE_count (h t (by simp))
    have h2 := ih fun s hs => h s (by simp [hs])
    have h3 : (allE (t :: r)).length = (tE t).length + (allE r).length := by
      show (tE t ++ allE r).length = _
      rw [List.length_append]
    simp only [List.map_cons, List.sum_cons, List.length_cons]
    omega
/-- two lists of the same edges, each told once, are of one length -/
theorem len_same {a b : List EdgeV} (ha : a.Nodup) (hb : b.Nodup) (h : ∀ e, e ∈ a ↔ e ∈ b) : a.length = b.length := by
  have h1 := nd_sub ha fun e he => (h e).1 he
  have h2 := nd_sub hb fun e he => (h e).2 he
  omega
/-- one edge more where two tours are joined -/
theorem allE_join {a b J : List Int} {u v : Int} {W : List (List Int)} (ha : tB a = true) (hb : tB b = true) (hW : ∀ t ∈ W, tB t = true) (hJ : JoIs a b u v J) : (allE (W ++ [J])).length = (allE (a :: b :: W)).length + 1 := by
  have h1 := allE_len (ts := a :: b :: W) fun t ht => by
    simp only [List.mem_cons] at ht
    rcases ht with rfl | rfl | ht
    · exact ha
    · exact hb
    · exact hW t ht
  have h2 := allE_len (ts := W ++ [J]) fun t ht => by
    simp only [List.mem_append, List.mem_singleton] at ht
    rcases ht with ht | rfl
    · exact hW t ht
    · exact hJ.ok
  have h3 := hJ.len
  simp only [List.map_cons, List.sum_cons, List.length_cons, List.map_append, List.sum_append, List.length_append, List.map_nil, List.sum_nil, List.length_nil] at h1 h2
  omega
theorem jo_edge {a b J : List Int} {u v : Int} (hJ : JoIs a b u v J) (hl : u < v) : (u, v) ∈ tE J := by
  obtain ⟨k, h1, h2⟩ := hJ.step
  exact (tE_mem J (u, v)).2 ⟨k, h1, h2, hl⟩

/-- a vertex is in one tour alone -/
theorem FQ.place {N : Int} {ts : List (List Int)} (h : FQ N ts) {i j : Nat} {s t : List Int} {x : Int} (hi : ts[i]? = some s) (hj : ts[j]? = some t) (hs : x ∈ s) (ht : x ∈ t) : i = j := by
  obtain ⟨i0, i1⟩ := List.getElem?_eq_some_iff.1 hi
  obtain ⟨j0, j1⟩ := List.getElem?_eq_some_iff.1 hj
  rcases Nat.lt_trichotomy i j with hlt | hlt | hlt
  · have := List.pairwise_iff_getElem.1 h.2.1 i j i0 j0 hlt
    rw [i1, j1] at this
    exact absurd ht (this x hs)
  · exact hlt
  · have := List.pairwise_iff_getElem.1 h.2.1 j i j0 i0 hlt
    rw [i1, j1] at this
    exact absurd hs (this x ht)
theorem FQ.one {N : Int} {ts : List (List Int)} (h : FQ N ts) {s t : List Int} {x : Int} (hs : s ∈ ts) (ht : t ∈ ts) (h1 : x ∈ s) (h2 : x ∈ t) : s = t := by
  obtain ⟨i, hi⟩ := List.mem_iff_getElem?.1 hs
  obtain ⟨j, hj⟩ := List.mem_iff_getElem?.1 ht
  have := h.place hi hj h1 h2
  subst this
  rw [hi] at hj
  exact Option.some.inj hj
theorem vs_alike {a b : List Int} (h : ∀ x, x ∈ a ↔ x ∈ b) : vsL a = vsL b := asc_ext (vsK_asc a 12) (vsK_asc b 12) fun x => by
  show x ∈ vsL a ↔ x ∈ vsL b
  rw [vsL_mem, vsL_mem, h]
theorem mn_alike {a b : List Int} (h : ∀ x, x ∈ a ↔ x ∈ b) : mnV a = mnV b := by unfold mnV; rw [vs_alike h]
/-- every vertex below N is in a tour -/
theorem FQ.cover {N : Nat} {ts : List (List Int)} (h : FQ (N : Int) ts) {x : Int} (h0 : 0 ≤ x) (h1 : x < (N : Int)) : ∃ t ∈ ts, x ∈ t := by
  have hall : ∀ (l : List (List Int)), (l.flatMap vsL).length = cnt l := fun l => by
    induction l with
    | nil => simp [cnt]
    | cons t r ih =>
      simp only [List.flatMap_cons, List.length_append, ih]
      simp [cnt]
  have hnd : ∀ (l : List (List Int)), l.Pairwise Apart → (l.flatMap vsL).Nodup := fun l hl => by
    induction l with
    | nil => simp
    | cons t r ih =>
      rw [List.pairwise_cons] at hl
      rw [List.flatMap_cons, List.nodup_append]
      refine ⟨vs_nodup t, ih hl.2, fun y hy z hz e => ?_⟩
      subst e
      obtain ⟨s, hs, hys⟩ := List.mem_flatMap.1 hz
      exact hl.1 s hs y ((vsL_mem t y).1 hy).2 ((vsL_mem s y).1 hys).2
  by_cases hx : x ∈ ts.flatMap vsL
  · obtain ⟨t, ht, hxt⟩ := List.mem_flatMap.1 hx
    exact ⟨t, ht, ((vsL_mem t x).1 hxt).2⟩
  · exfalso
    have h2 : (x :: ts.flatMap vsL).Nodup := List.nodup_cons.2 ⟨hx, hnd ts h.2.1⟩
    have h3 := nd_sub (b := (List.range N).map fun j : Nat => (j : Int)) h2 fun y hy => by
      have hy2 : 0 ≤ y ∧ y < (N : Int) := by
        rcases List.mem_cons.1 hy with rfl | hy
        · exact ⟨h0, h1⟩
        · obtain ⟨t, ht, hyt⟩ := List.mem_flatMap.1 hy
          obtain ⟨v1, v2⟩ := (vsL_mem t y).1 hyt
          have v1 := of_decide_eq_true (show decide (0 ≤ y ∧ y < 12) = true from v1)
          exact ⟨v1.1, (h.1 t ht).2 y v2⟩
      exact List.mem_map.2 ⟨y.toNat, List.mem_range.2 (by omega), by omega⟩
    have h4 := h.2.2
    rw [List.length_cons, hall, List.length_map, List.length_range] at h3
    omega
/-- the least vertex of the tree of x -/
def Prt (ts : List (List Int)) (x m : Int) : Prop := ∃ t ∈ ts, x ∈ t ∧ m = mnV t
theorem Prt.uniq {N : Int} {ts : List (List Int)} (h : FQ N ts) {x m m' : Int} (h1 : Prt ts x m) (h2 : Prt ts x m') : m = m' := by
  obtain ⟨s, a1, a2, rfl⟩ := h1
  obtain ⟨t, b1, b2, rfl⟩ := h2
  rw [h.one a1 b1 a2 b2]
theorem Prt.like {a b : List (List Int)} (h : ∀ t ∈ a, ∃ s ∈ b, ∀ x, x ∈ t ↔ x ∈ s) {x m : Int} (hp : Prt a x m) : Prt b x m := by
  obtain ⟨t, h1, h2, rfl⟩ := hp
  obtain ⟨s, h3, h4⟩ := h t h1
  exact ⟨s, h3, (h4 x).1 h2, mn_alike h4⟩
end Go.Proofs.Ytcpffonenhhfoaa
namespace Go.Proofs.Ytcpffonenhhfoaa
open Go.RowKit

theorem FP.q {N : Int} {ts : List (List Int)} (h : FP N ts) : FQ N ts := ((FP_iff N ts).1 h).2.2.1
theorem srt_perm {N : Nat} {l : List (List Int)} (h : FQ (N : Int) l) : (srtK l N).Perm l := srtK_perm fun t ht => mn_range (h.1 t ht).1 (h.1 t ht).2
/-- two trees linked by an edge -/
structure LkIs (N : Nat) (ts : List (List Int)) (i j : Nat) (a b : List Int) (u v : Int) (J : List Int) (g : List (List Int)) : Prop where
  jo : JoIs a b u v J
  eq : g = srtK (woK ts [i, j] ts.length ++ [J]) N
  ok : FP (N : Int) g
  len : g.length + 1 = ts.length
  perm : g.Perm (woK ts [i, j] ts.length ++ [J])
  old : ts.Perm (a :: b :: woK ts [i, j] ts.length)
  there : ∃ k : Nat, g[k]? = some J
theorem lk_is {N : Nat} {ts : List (List Int)} (h : FP (N : Int) ts) {i j : Nat} {a b : List Int} {u v : Int} (hi : ts[i]? = some a) (hj : ts[j]? = some b) (hij : i ≠ j) (hu : u ∈ a) (hv : v ∈ b) :
    ∃ J, joO a u b v = some J ∧ LkIs N ts i j a b u v J (srtK (woK ts [i, j] ts.length ++ [J]) N) := by
  have hq := h.q
  have hp := wo_two_all hi hj hij
  have hq2 := hq.perm hp.symm
  have ha := hq.1 a (List.mem_of_getElem? hi)
  have hb := hq.1 b (List.mem_of_getElem? hj)
  have hap : Apart a b := (List.pairwise_cons.1 hq2.2.1).1 b (by simp)
  obtain ⟨J, e, hJ⟩ := jo_two ha.1 hb.1 hap hu hv
  have hq3 := hq2.join hJ.ok hJ.mem
  have hps := srt_perm hq3
  refine ⟨J, e, hJ, rfl, FP_srt (by have := h.1; omega) (by have := h.2.1; omega) hq3, ?_, hps, hp.symm, ?_⟩
  · have h1 := hps.length_eq
    have h2 := hp.length_eq
    simp only [List.length_cons, List.length_append, List.length_nil] at h1 h2
    omega
  · exact List.mem_iff_getElem?.1 (hps.mem_iff.2 (by simp))
/-- and cut again there -/
theorem lk_cut {N : Nat} {ts : List (List Int)} {i j : Nat} {a b : List Int} {u v : Int} {J : List Int} {g : List (List Int)} (h : FP (N : Int) ts) (L : LkIs N ts i j a b u v J g) {k : Nat} (hk : g[k]? = some J) :
    ∃ r, spO J u v = (a, r, true) ∧ FP (N : Int) (srtK (woK g [k] g.length ++ [a, r]) N) ∧ ∀ x m, Prt (srtK (woK g [k] g.length ++ [a, r]) N) x m ↔ Prt ts x m := by
  obtain ⟨r, HR, hs⟩ := L.jo.back
  have hq := h.q
  have hqg := L.ok.q
  have hp1 := wo_one_all hk
  have hW : (woK g [k] g.length).Perm (woK ts [i, j] ts.length) := by
    have h2 : (J :: woK g [k] g.length).Perm (J :: woK ts [i, j] ts.length) := (hp1.trans L.perm).trans (List.perm_append_comm (l₂ := [J]))
    exact h2.cons_inv
  have hqo := hq.perm L.old
  have hap : Apart a b := (List.pairwise_cons.1 hqo.2.1).1 b (by simp)
  have hlike : ∀ x, x ∈ r ↔ x ∈ b := HR.mem
  have hq2 : FQ (N : Int) (woK g [k] g.length ++ [a, r]) := by
    obtain ⟨h1, h2, h3⟩ := hqo
    have hq3 : FQ (N : Int) (a :: r :: woK ts [i, j] ts.length) := by
      rw [List.pairwise_cons, List.pairwise_cons] at h2
      refine ⟨fun t ht => ?_, ?_, ?_⟩
      · simp only [List.mem_cons] at ht
        rcases ht with rfl | rfl | ht
        · exact h1 t (by simp)
        · exact ⟨HR.ok, fun x hx => (h1 b (by simp)).2 x ((hlike x).1 hx)⟩
        · exact h1 t (by simp [ht])
      · rw [List.pairwise_cons, List.pairwise_cons]
        refine ⟨fun t ht x hx hxt => ?_, fun t ht x hx => h2.2.1 t ht x ((hlike x).1 hx), h2.2.2⟩
        rcases List.mem_cons.1 ht with rfl | ht
        · exact hap x hx ((hlike x).1 hxt)
        · exact h2.1 t (by simp [ht]) x hx hxt
      · rw [← h3]
        simp only [cnt, List.map_cons, List.sum_cons]
        rw [vs_alike hlike]
    exact hq3.perm ((hW.symm.append_left [a, r]).trans List.perm_append_comm)
  refine ⟨r, hs, FP_srt (by have := h.1; omega) (by have := h.2.1; omega) hq2, fun x m => ?_⟩
  have hps := srt_perm hq2
  constructor
  · refine Prt.like fun t ht => ?_
    have ht2 := hps.mem_iff.1 ht
    simp only [List.mem_append, List.mem_cons, List.not_mem_nil, or_false] at ht2
    rcases ht2 with ht2 | rfl | rfl
    · exact ⟨t, L.old.mem_iff.2 (by simp [hW.mem_iff.1 ht2]), fun _ => Iff.rfl⟩
    · exact ⟨t, L.old.mem_iff.2 (by simp), fun _ => Iff.rfl⟩
    · exact ⟨b, L.old.mem_iff.2 (by simp), hlike⟩
  · refine Prt.like fun t ht => ?_
    have ht2 := L.old.mem_iff.1 ht
    simp only [List.mem_cons] at ht2
    rcases ht2 with rfl | rfl | ht2
    · exact ⟨t, hps.mem_iff.2 (by simp), fun _ => Iff.rfl⟩
    · exact ⟨r, hps.mem_iff.2 (by simp), fun x => (hlike x).symm⟩
    · exact ⟨t, hps.mem_iff.2 (by simp [hW.mem_iff.2 ht2]), fun _ => Iff.rfl⟩
end Go.Proofs.Ytcpffonenhhfoaa
namespace Go.Proofs.Ytcpffonenhhfoaa
open Go.RowKit

def trP (ts : List (List Int)) (v : Int) (k : Nat) : Bool := match ts[k]? with | some t => decide (v ∈ t) | none => false
theorem trP_at {ts : List (List Int)} {v : Int} {k : Nat} {t : List Int} (h : ts[k]? = some t) : trP ts v k = decide (v ∈ t) := by simp [trP, h]
/-- the first place of a tour that v is in, or -1 -/
def trI (ts : List (List Int)) (v : Int) : Int := firstN (trP ts v) ts.length
theorem trI_cases (ts : List (List Int)) (v : Int) : (∃ (k : Nat) (t : List Int), ts[k]? = some t ∧ v ∈ t ∧ trI ts v = (k : Int)) ∨ ((∀ t ∈ ts, v ∉ t) ∧ trI ts v = -1) := by
  rcases firstN_cases (trP ts v) ts.length with ⟨k, hk, h, _, e⟩ | ⟨h, e⟩
  · refine .inl ⟨k, ts[k], List.getElem?_eq_getElem hk, ?_, e⟩
    rw [trP_at (List.getElem?_eq_getElem hk)] at h
    exact of_decide_eq_true h
  · refine .inr ⟨fun t ht hv => ?_, e⟩
    obtain ⟨k, hk⟩ := List.mem_iff_getElem?.1 ht
    have := h k (List.getElem?_eq_some_iff.1 hk).1
    rw [trP_at hk, decide_eq_true hv] at this
    cases this
theorem trI_of {N : Int} {ts : List (List Int)} (h : FQ N ts) {v : Int} {k : Nat} {t : List Int} (hk : ts[k]? = some t) (hv : v ∈ t) : trI ts v = (k : Int) := by
  rcases trI_cases ts v with ⟨j, s, hj, hs, e⟩ | ⟨hn, _⟩
  · rw [e, h.place hj hk hs hv]
  · exact absurd hv (hn t (List.mem_of_getElem? hk))
/-- what TreeOf answers -/
noncomputable def treeO (N : Int) (ts : List (List Int)) (v : Int) : Int := @ite _ (FP N ts) (Classical.propDecidable _) (trI ts v) (-1)
theorem treeO_yes {N : Int} {ts : List (List Int)} (h : FP N ts) (v : Int) : treeO N ts v = trI ts v := by unfold treeO; rw [if_pos h]
theorem treeO_no {N : Int} {ts : List (List Int)} (h : ¬ FP N ts) (v : Int) : treeO N ts v = -1 := by unfold treeO; rw [if_neg h]
theorem treeO_cases (N : Int) (ts : List (List Int)) (v : Int) : (∃ (k : Nat) (t : List Int), FP N ts ∧ ts[k]? = some t ∧ v ∈ t ∧ treeO N ts v = (k : Int)) ∨ ((FP N ts → ∀ t ∈ ts, v ∉ t) ∧ treeO N ts v = -1) := by
  by_cases h : FP N ts
  · rw [treeO_yes h]
    rcases trI_cases ts v with ⟨k, t, h1, h2, h3⟩ | ⟨h1, h2⟩
    · exact .inl ⟨k, t, h, h1, h2, h3⟩
    · exact .inr ⟨fun _ => h1, h2⟩
  · exact .inr ⟨fun h2 => absurd h2 h, treeO_no h v⟩
/-- what SizeOf answers -/
noncomputable def sizeO (N : Int) (ts : List (List Int)) (v : Int) : Int := if treeO N ts v < 0 then 0 else ((vsL ((ts[(treeO N ts v).toNat]?).getD [])).length : Int)
theorem sizeO_yes {N : Int} {ts : List (List Int)} {v : Int} {k : Nat} {t : List Int} (h : treeO N ts v = (k : Int)) (ht : ts[k]? = some t) : sizeO N ts v = ((vsL t).length : Int) := by
  unfold sizeO
  rw [h, if_neg (by omega), Int.toNat_natCast, ht]
  rfl
theorem sizeO_no {N : Int} {ts : List (List Int)} {v : Int} (h : treeO N ts v = -1) : sizeO N ts v = 0 := by
  unfold sizeO
  rw [h, if_pos (by omega)]
end Go.Proofs.Ytcpffonenhhfoaa
namespace Go.Proofs.Ytcpffonenhhfoaa
open Go.RowKit

def tat (ts : List (List Int)) (i : Int) : List Int := (ts[i.toNat]?).getD []
theorem tat_at {ts : List (List Int)} {k : Nat} {t : List Int} (h : ts[k]? = some t) : tat ts (k : Int) = t := by
  unfold tat
  rw [Int.toNat_natCast, h]
  rfl
/-- what Link answers -/
noncomputable def linkO (N : Int) (ts : List (List Int)) (e : EdgeV) : Option (List (List Int)) :=
  @ite _ (FP N ts ∧ eB N e = true ∧ trI ts e.1 ≠ trI ts e.2) (Classical.propDecidable _)
    (some (srtK (woK ts [(trI ts e.1).toNat, (trI ts e.2).toNat] ts.length ++ [(joO (tat ts (trI ts e.1)) e.1 (tat ts (trI ts e.2)) e.2).getD []]) N.toNat)) none
/-- what Cut answers -/
noncomputable def cutO (N : Int) (ts : List (List Int)) (e : EdgeV) : Option (List (List Int)) :=
  @ite _ (FP N ts ∧ eB N e = true ∧ (spO (tat ts (trI ts e.1)) e.1 e.2).2.2 = true) (Classical.propDecidable _)
    (some (srtK (woK ts [(trI ts e.1).toNat] ts.length ++ [(spO (tat ts (trI ts e.1)) e.1 e.2).1, (spO (tat ts (trI ts e.1)) e.1 e.2).2.1]) N.toNat)) none
theorem linkO_yes {N : Nat} {ts : List (List Int)} {e : EdgeV} (hP : FP (N : Int) ts) (hE : eB (N : Int) e = true) {i j : Nat} {a b J : List Int} (hi : ts[i]? = some a) (hj : ts[j]? = some b) (hu : e.1 ∈ a) (hv : e.2 ∈ b) (hij : i ≠ j) (hJ : joO a e.1 b e.2 = some J) :
    linkO (N : Int) ts e = some (srtK (woK ts [i, j] ts.length ++ [J]) N) := by
  have e1 := trI_of hP.q hi hu
  have e2 := trI_of hP.q hj hv
  unfold linkO
  rw [if_pos ⟨hP, hE, by rw [e1, e2]; omega⟩, e1, e2, tat_at hi, tat_at hj, hJ]
  simp
theorem linkO_no {N : Int} {ts : List (List Int)} {e : EdgeV} (h : ¬ (FP N ts ∧ eB N e = true ∧ trI ts e.1 ≠ trI ts e.2)) : linkO N ts e = none := by unfold linkO; rw [if_neg h]
theorem cutO_yes {N : Nat} {ts : List (List Int)} {e : EdgeV} (hP : FP (N : Int) ts) (hE : eB (N : Int) e = true) {i : Nat} {t a b : List Int} (hi : ts[i]? = some t) (hu : e.1 ∈ t) (hS : spO t e.1 e.2 = (a, b, true)) :
    cutO (N : Int) ts e = some (srtK (woK ts [i] ts.length ++ [a, b]) N) := by
  have e1 := trI_of hP.q hi hu
  unfold cutO
  rw [if_pos ⟨hP, hE, by rw [e1, tat_at hi, hS]⟩, e1, tat_at hi, hS]
  simp
theorem cutO_no {N : Int} {ts : List (List Int)} {e : EdgeV} (h : ¬ (FP N ts ∧ eB N e = true ∧ (spO (tat ts (trI ts e.1)) e.1 e.2).2.2 = true)) : cutO N ts e = none := by unfold cutO; rw [if_neg h]
theorem eB_range {N : Int} {e : EdgeV} (h : eB N e = true) : 0 ≤ e.1 ∧ e.1 < e.2 ∧ e.2 < N := by
  unfold eB at h
  have := of_decide_eq_true h
  omega
/-- both ends of a right edge are in trees -/
theorem edge_at {N : Nat} {ts : List (List Int)} {e : EdgeV} (hP : FP (N : Int) ts) (hE : eB (N : Int) e = true) : ∃ (i j : Nat) (a b : List Int), ts[i]? = some a ∧ ts[j]? = some b ∧ e.1 ∈ a ∧ e.2 ∈ b := by
  have hr := eB_range hE
  obtain ⟨a, ha, hu⟩ := hP.q.cover (x := e.1) (by omega) (by omega)
  obtain ⟨b, hb, hv⟩ := hP.q.cover (x := e.2) (by omega) (by omega)
  obtain ⟨i, hi⟩ := List.mem_iff_getElem?.1 ha
  obtain ⟨j, hj⟩ := List.mem_iff_getElem?.1 hb
  exact ⟨i, j, a, b, hi, hj, hu, hv⟩
theorem FP_nat {N : Int} {ts : List (List Int)} (h : FP N ts) : ∃ M : Nat, N = (M : Int) ∧ 1 ≤ M ∧ M ≤ 12 := ⟨N.toNat, by have := h.1; omega, by have := h.1; omega, by have := h.2.1; omega⟩
/-- the tours whose places are left out are those that a test tells -/
theorem wo_filter {ts : List (List Int)} {outs : List Nat} {p : List Int → Bool} (h : ∀ k t, ts[k]? = some t → (k ∈ outs ↔ p t = false)) (k : Nat) : woK ts outs k = (ts.take k).filter p := by
  induction k with
  | zero => simp [woK]
  | succ k ih =>
    simp only [woK]
    cases hk : ts[k]? with
    | none =>
      have : ts.take (k + 1) = ts.take k := by rw [List.take_add_one, hk]; simp
      rw [this, ih]
      simp
    | some t =>
      rw [take_snocF ts k t hk, List.filter_append, ih]
      by_cases hm : k ∈ outs
      · rw [if_pos hm, List.append_nil]
        simp [(h k t hk).1 hm]
      · rw [if_neg hm]
        have : p t = true := by
          cases hp : p t with
          | true => rfl
          | false => exact absurd ((h k t hk).2 hp) hm
        simp [this]
theorem wo_stay {N : Int} {ts : List (List Int)} (hQ : FQ N ts) {i j : Nat} {a b : List Int} {u v : Int} (hi : ts[i]? = some a) (hj : ts[j]? = some b) (hu : u ∈ a) (hv : v ∈ b) : woK ts [i, j] ts.length = ts.filter fun t => !(t.any fun x => decide (x ∈ [u, v])) := by
  rw [wo_filter (p := fun t => !(t.any fun x => decide (x ∈ [u, v]))) (fun k t ht => ?_), List.take_length]
  simp only [Bool.not_eq_false', List.any_eq_true, decide_eq_true_eq, List.mem_cons, List.not_mem_nil, or_false]
  constructor
  · rintro (rfl | rfl)
    · rw [hi] at ht
      cases ht
      exact ⟨u, hu, .inl rfl⟩
    · rw [hj] at ht
      cases ht
      exact ⟨v, hv, .inr rfl⟩
  · rintro ⟨x, hx, rfl | rfl⟩
    · exact .inl (hQ.place ht hi hx hu)
    · exact .inr (hQ.place ht hj hx hv)
theorem wo_stay1 {N : Int} {ts : List (List Int)} (hQ : FQ N ts) {i : Nat} {a : List Int} {u v : Int} (hi : ts[i]? = some a) (hu : u ∈ a) (hv : v ∈ a) : woK ts [i] ts.length = ts.filter fun t => !(t.any fun x => decide (x ∈ [u, v])) := by
  rw [← wo_stay hQ hi hi hu hv]
  have : ∀ k, woK ts [i] k = woK ts [i, i] k := fun k => by
    induction k with
    | zero => rfl
    | succ k ih => simp only [woK, ih]; simp
  exact this _
/-- linked: the tours side by side, and what it comes to in order -/
theorem link_fq {N : Nat} {ts : List (List Int)} (hP : FP (N : Int) ts) {i j : Nat} {a b J : List Int} {u v : Int} (hi : ts[i]? = some a) (hj : ts[j]? = some b) (hu : u ∈ a) (hv : v ∈ b) (hij : i ≠ j) (hJ : joO a u b v = some J) : FQ (N : Int) (woK ts [i, j] ts.length ++ [J]) := by
  obtain ⟨J', e, L⟩ := lk_is hP hi hj hij hu hv
  rw [hJ] at e
  obtain rfl := Option.some.inj e
  exact L.ok.q.perm L.perm
theorem cut_in {t a b : List Int} {u v : Int} (h : spO t u v = (a, b, true)) : tB t = true ∧ ∃ k : Nat, t[k]? = some u ∧ t[k + 1]? = some v := by
  unfold spO at h
  by_cases hc : tB t = true ∧ 0 ≤ goI t u v
  · refine ⟨hc.1, ?_⟩
    rcases go_at (t := t) (u := u) (v := v) with ⟨k1, e1, _, a1, a2, _⟩ | ⟨e1, _⟩
    · exact ⟨k1, a1, a2⟩
    · have := hc.2; omega
  · rw [if_neg hc] at h
    simp at h
end Go.Proofs.Ytcpffonenhhfoaa
namespace Go.Proofs.Ytcpffonenhhfoaa
open Go.RowKit

/-- a row: its block, its room, its numbers -/
structure Rw where
  g : Nat
  cp : Nat
  t : List Int
def Rw.hdr (r : Rw) : Value := .slice (some ⟨r.g, 0, none⟩) r.t.length r.cp
def rts (R : List Rw) : List (List Int) := R.map Rw.t
def rhs (R : List Rw) : List Value := R.map Rw.hdr
theorem rts_len (R : List Rw) : (rts R).length = R.length := by simp [rts]
theorem rhs_len (R : List Rw) : (rhs R).length = R.length := by simp [rhs]
theorem rts_at {R : List Rw} {j : Nat} {r : Rw} (h : R[j]? = some r) : (rts R)[j]? = some r.t := by simp [rts, h]
theorem rhs_at {R : List Rw} {j : Nat} {r : Rw} (h : R[j]? = some r) : (rhs R)[j]? = some r.hdr := by simp [rhs, h]
theorem rhs_snoc (R : List Rw) (r : Rw) : rhs (R ++ [r]) = rhs R ++ [r.hdr] := by simp [rhs]
theorem rts_snoc (R : List Rw) (r : Rw) : rts (R ++ [r]) = rts R ++ [r.t] := by simp [rts]

/-- a row that is ours -/
abbrev RwB (u : World) (r : Rw) : Prop := RBox u r.g (r.g + 1) (some ⟨r.g, 0, none⟩) r.t.length r.cp r.t
theorem RwB.of_own {u : World} {B g m c : Nat} {t : List Int} (h : u.ownsRow B 3 1 (.slice (some ⟨g, 0, none⟩) m c) m (ic t)) : RwB u ⟨g, c, t⟩ := by
  have hl := h.1
  rw [ic_len] at hl
  have hm : m = t.length := by omega
  subst hm
  have hlt := h.lt g rfl
  refine ⟨⟨h.1, ?_⟩, fun x hx => by simp [Value.ownBlock] at hx; show x < g + 1; omega, by show g + 1 ≤ _; omega⟩
  rcases h.2 with ⟨hv, _⟩ | ⟨g2, cap, cur, hv, hb, hrest⟩
  · simp at hv
  · simp at hv
    obtain ⟨rfl, rfl⟩ := hv
    exact .inr ⟨g, c, cur, rfl, Nat.le_refl _, hrest⟩
theorem RwB.cap {u : World} {r : Rw} (h : RwB u r) : r.t.length ≤ r.cp := by
  rcases h.own.2 with ⟨hv, _⟩ | ⟨g2, cap, cur, hv, hb, hg, hnc, _⟩
  · simp at hv
  · simp only [Value.slice.injEq, Option.some.injEq, Addr.mk.injEq, and_true, true_and] at hv
    obtain ⟨rfl, rfl⟩ := hv
    exact hnc
theorem RwB.lt {u : World} {r : Rw} (h : RwB u r) : r.g < u.heap.size := (h.own.lt r.g rfl).2
theorem RwB.blk {u : World} {r : Rw} (h : RwB u r) : ∃ cur, u.heap[r.g]? = some (.cells cur 3 (0, 0)) := by
  rcases h.own.2 with ⟨hv, _⟩ | ⟨g2, cap, cur, hv, hb, hg, hnc, _⟩
  · simp at hv
  · simp only [Value.slice.injEq, Option.some.injEq, Addr.mk.injEq, and_true, true_and] at hv
    obtain ⟨rfl, rfl⟩ := hv
    exact ⟨cur, hg⟩
theorem RwB.grown {u v : World} {r : Rw} {row : Option Nat} (h : RwB u r) (hg : u.grownBy v row) (hr : row ≠ some r.g) : RwB v r :=
  ⟨h.own.kept hg (.inr (by simp [Value.ownBlock]; exact fun e => hr e.symm)), h.row, Nat.le_trans h.there hg.size⟩

/-- rows that are ours, in blocks lo .. hi, each in a block of its own -/
structure FB (u : World) (lo hi : Nat) (a : Option Addr) (n c : Nat) (R : List Rw) : Prop where
  len : R.length = n
  own : u.ownsRow lo 50 1 (.slice a n c) n (rhs R)
  row : ∀ g, (Value.slice a n c).ownBlock = some g → g < hi
  there : hi ≤ u.heap.size
  ins : ∀ r ∈ R, RwB u r ∧ lo ≤ r.g ∧ r.g < hi
  nod : R.Pairwise fun r s => r.g ≠ s.g

theorem own_blk {u : World} {lo e s g n c : Nat} {xs : List Value} (h : u.ownsRow lo e s (.slice (some ⟨g, 0, none⟩) n c) n xs) : ∃ cur, u.heap[g]? = some (.cells cur e (0, 0)) := by
  rcases h.2 with ⟨hv, _⟩ | ⟨g2, cap, cur, hv, hb, hg, hnc, _⟩
  · simp at hv
  · simp only [Value.slice.injEq, Option.some.injEq, Addr.mk.injEq, and_true, true_and] at hv
    obtain ⟨rfl, rfl⟩ := hv
    exact ⟨cur, hg⟩
/-- a row of rows is no row of numbers -/
theorem own_ne {u : World} {lo s g n c : Nat} {xs : List Value} {r : Rw} (h : u.ownsRow lo 50 s (.slice (some ⟨g, 0, none⟩) n c) n xs) (hr : RwB u r) : g ≠ r.g := by
  obtain ⟨c1, h1⟩ := own_blk h
  obtain ⟨c2, h2⟩ := hr.blk
  intro e
  rw [e, h2] at h1
  simp at h1
theorem own_ne' {u : World} {lo s n : Nat} {v : Value} {xs : List Value} {r : Rw} (h : u.ownsRow lo 50 s v n xs) (hr : RwB u r) : v.ownBlock ≠ some r.g := by
  rcases h.2 with ⟨rfl, _⟩ | ⟨g, cap, cur, rfl, _⟩
  · simp [Value.ownBlock]
  · intro e
    simp [Value.ownBlock] at e
    exact own_ne h hr e
theorem own_rng {u v : World} {lo e s l2 h2 n : Nat} {x : Value} {xs : List Value} (h : u.ownsRow lo e s x n xs) (hr : Rng l2 h2 u v) (ho : ∀ g, x.ownBlock = some g → g < l2 ∨ h2 ≤ g) : v.ownsRow lo e s x n xs := by
  refine ⟨h.1, ?_⟩
  rcases h.2 with h3 | ⟨g, cap, cur, hv, hg, hcur, hrest⟩
  · exact .inl h3
  · have hgl := h.lt g (by rw [hv]; rfl)
    refine .inr ⟨g, cap, cur, hv, hg, ?_, hrest⟩
    rw [hr.block g (by omega) (ho g (by rw [hv]; rfl))]
    exact hcur
theorem FB.rng {u v : World} {lo hi l2 h2 : Nat} {a : Option Addr} {n c : Nat} {R : List Rw} (h : FB u lo hi a n c R) (hr : Rng l2 h2 u v) (ho : hi ≤ l2 ∨ h2 ≤ lo) : FB v lo hi a n c R := by
  refine ⟨h.len, own_rng h.own hr (fun g hg => by have := h.row g hg; have := (h.own.lt g hg).1; omega), h.row, Nat.le_trans h.there hr.size, fun r hr2 => ?_, h.nod⟩
  have hb := h.ins r hr2
  exact ⟨hb.1.rng hr (by omega), hb.2⟩
theorem FB.up {u v : World} {lo hi : Nat} {a : Option Addr} {n c : Nat} {R : List Rw} (h : FB u lo hi a n c R) (hb : Below u.heap.size u v) : FB v lo hi a n c R :=
  h.rng (l2 := hi) (h2 := hi) (Rng.of_below hb) (.inl (Nat.le_refl _))
theorem FB.hi {u : World} {lo hi hi' : Nat} {a : Option Addr} {n c : Nat} {R : List Rw} (h : FB u lo hi a n c R) (h1 : hi ≤ hi') (h2 : hi' ≤ u.heap.size) : FB u lo hi' a n c R :=
  ⟨h.len, h.own, fun g hg => Nat.lt_of_lt_of_le (h.row g hg) h1, h2, fun r hr => ⟨(h.ins r hr).1, (h.ins r hr).2.1, Nat.lt_of_lt_of_le (h.ins r hr).2.2 h1⟩, h.nod⟩
theorem FB.lo {u : World} {lo lo' hi : Nat} {a : Option Addr} {n c : Nat} {R : List Rw} (h : FB u lo hi a n c R) (h1 : lo' ≤ lo) : FB u lo' hi a n c R :=
  ⟨h.len, own_mono h.own h1, h.row, h.there, fun r hr => ⟨(h.ins r hr).1, Nat.le_trans h1 (h.ins r hr).2.1, (h.ins r hr).2.2⟩, h.nod⟩
theorem FB.ts {u : World} {lo hi : Nat} {a : Option Addr} {n c : Nat} {R : List Rw} (h : FB u lo hi a n c R) : Ts u u.heap.size a n (rts R) := by
  refine ⟨by rw [rts_len]; exact h.len, ?_⟩
  rcases h.own.2 with ⟨_, h0⟩ | ⟨g, cap, cur, hv, hg, hcur, hrest⟩
  · exact .inl h0
  · simp at hv
    obtain ⟨rfl, rfl⟩ := hv
    refine .inr ⟨g, 0, rfl, (h.own.lt g rfl).2, fun j t ht => ?_⟩
    have hj : j < R.length := by rw [← rts_len]; exact (List.getElem?_eq_some_iff.1 ht).1
    have hr : R[j]? = some R[j] := List.getElem?_eq_getElem hj
    have e := rts_at hr
    rw [ht] at e
    obtain rfl := Option.some.inj e
    have hi2 := h.ins _ (List.mem_of_getElem? hr)
    refine ⟨some ⟨R[j].g, 0, none⟩, R[j].cp, ?_, hi2.1.is, hi2.1.cap⟩
    rw [Nat.zero_add, h.own.cellAt j (by have := h.len; omega)]
    exact rhs_at hr
/-- one row turned -/
theorem FB.turn {u v : World} {lo hi : Nat} {a : Option Addr} {n c : Nat} {P S : List Rw} {r : Rw} (h : FB u lo hi a n c (P ++ r :: S)) {s : List Int} (hl : s.length = r.t.length)
    (hr : Rng r.g (r.g + 1) u v) (hs : RBox v r.g (r.g + 1) (some ⟨r.g, 0, none⟩) r.t.length r.cp s) : FB v lo hi a n c (P ++ ⟨r.g, r.cp, s⟩ :: S) := by
  have hn := List.pairwise_append.1 h.nod
  have hn2 := List.pairwise_cons.1 hn.2.1
  have hri := h.ins r (by simp)
  refine ⟨by have := h.len; simp at this ⊢; omega, ?_, h.row, Nat.le_trans h.there hr.size, fun x hx => ?_, ?_⟩
  · have e : rhs (P ++ ⟨r.g, r.cp, s⟩ :: S) = rhs (P ++ r :: S) := by simp [rhs, Rw.hdr, hl]
    rw [e]
    exact own_rng h.own hr (fun g hg => by have := own_ne' h.own hri.1; rw [hg] at this; simp at this; omega)
  · rcases List.mem_append.1 hx with hx | hx
    · have hne := hn.2.2 x hx r (by simp)
      have hi2 := h.ins x (by simp [hx])
      exact ⟨hi2.1.rng hr (by omega), hi2.2⟩
    · rcases List.mem_cons.1 hx with rfl | hx
      · refine ⟨?_, hri.2⟩
        show RBox v r.g (r.g + 1) _ s.length r.cp s
        rw [hl]
        exact hs
      · have hne := hn2.1 x hx
        have hi2 := h.ins x (by simp [hx])
        exact ⟨hi2.1.rng hr (by omega), hi2.2⟩
  · rw [List.pairwise_append, List.pairwise_cons]
    refine ⟨hn.1, ⟨fun x hx => hn2.1 x hx, hn2.2⟩, fun x hx y hy => ?_⟩
    rcases List.mem_cons.1 hy with rfl | hy
    · exact hn.2.2 x hx r (by simp)
    · exact hn.2.2 x hx y (by simp [hy])
/-- one row more behind them -/
theorem FB.app {u u' : World} {lo : Nat} {a : Option Addr} {n c : Nat} {R : List Rw} (h : FB u lo u.heap.size a n c R) {r : Rw} (hr : RwB u r) (hl : lo ≤ r.g) (hne : ∀ x ∈ R, x.g ≠ r.g) {o : Obj} {v : Value}
    (ho : u'.ownsRow lo 50 1 v (n + 1) (rhs R ++ [r.hdr])) (hg : (u.alloc o).grownBy u' (Value.slice a n c).ownBlock) : ∃ a' c', v = .slice a' (n + 1) c' ∧ FB u' lo u'.heap.size a' (n + 1) c' (R ++ [r]) := by
  obtain ⟨a', c', rfl⟩ := own_form ho
  have hsz := hg.size
  have hkeep : ∀ x, RwB u x → RwB u' x := fun x hx => by
    have hx2 : RwB (u.alloc o) x := hx.rng (l2 := x.g + 1) (h2 := x.g + 1) (Rng.of_below ((Below.refl _ _).alloc (Nat.le_refl _) _)) (.inl (Nat.le_refl _))
    exact hx2.grown hg (own_ne' h.own hx)
  refine ⟨a', c', rfl, by simp [h.len], by rw [rhs_snoc]; exact ho, fun g hg2 => (ho.lt g hg2).2, Nat.le_refl _, fun x hx => ?_, ?_⟩
  · rcases List.mem_append.1 hx with hx | hx
    · have := h.ins x hx
      have h2 := hkeep x this.1
      exact ⟨h2, this.2.1, h2.lt⟩
    · simp at hx
      subst hx
      have h2 := hkeep x hr
      exact ⟨h2, hl, h2.lt⟩
  · rw [List.pairwise_append]
    refine ⟨h.nod, by simp, fun x hx y hy => ?_⟩
    simp at hy
    subst hy
    exact hne x hx
theorem FB.setLow {u : World} {lo hi : Nat} {a : Option Addr} {n c : Nat} {R : List Rw} (h : FB u lo hi a n c R) {x : Nat} (hx : x < lo) (j : Nat) (v : Value) : FB (u.setCell ⟨x, j, none⟩ v) lo hi a n c R :=
  h.rng (l2 := x) (h2 := x + 1) ⟨rfl, rfl, rfl, by simp [World.setCell], fun k _ hk => heap_setCell_other u ⟨x, j, none⟩ k v (by show k ≠ x; omega)⟩ (.inr hx)
theorem FB.nil (u : World) (lo : Nat) : FB u lo u.heap.size none 0 0 [] := ⟨rfl, World.ownsRow_nil _ _ _ _, fun g hg => by simp [Value.ownBlock] at hg, Nat.le_refl _, by simp, List.Pairwise.nil⟩
theorem FB.start (wb : World) : FB (wb.alloc (.cells #[] 50)) wb.heap.size (wb.alloc (.cells #[] 50)).heap.size (some ⟨wb.heap.size, 0, none⟩) 0 0 [] := by
  have h0 := World.ownsRow_lit (base := wb.heap.size) (e := 50) (size := 1) wb #[] 0 (Nat.le_refl _) (by unfold maxLen; omega) (by simp)
  exact ⟨rfl, by simpa [rhs] using h0, fun g hg => (h0.lt g hg).2, Nat.le_refl _, by simp, List.Pairwise.nil⟩
theorem FB.keep {u v : World} {lo : Nat} {a : Option Addr} {n c : Nat} {R : List Rw} (h : FB u lo u.heap.size a n c R) (hb : Below u.heap.size u v) : FB v lo v.heap.size a n c R :=
  (h.up hb).hi hb.size (Nat.le_refl _)
end Go.Proofs.Ytcpffonenhhfoaa
namespace Go.Proofs.Ytcpffonenhhfoaa
open Go.RowKit

/-- the headers hs are of the rows ts -/
def HdT (w : World) (B : Nat) (hs : List Value) (ts : List (List Int)) : Prop := hs.length = ts.length ∧ ∀ (j : Nat) (t : List Int), ts[j]? = some t → ∃ (a' : Option Addr) (c' : Nat), hs[j]? = some (.slice a' t.length c') ∧ Is w B a' t.length t ∧ t.length ≤ c'
theorem HdT.below {w w' : World} {B C : Nat} {hs : List Value} {ts : List (List Int)} (h : HdT w B hs ts) (hb : Below C w w') (hB : B ≤ C) : HdT w' B hs ts :=
  ⟨h.1, fun j t ht => by obtain ⟨a', c', h1, h2, h3⟩ := h.2 j t ht; exact ⟨a', c', h1, h2.below hb hB, h3⟩⟩
theorem HdT.mono {w : World} {B C : Nat} {hs : List Value} {ts : List (List Int)} (h : HdT w B hs ts) (hB : B ≤ C) : HdT w C hs ts :=
  ⟨h.1, fun j t ht => by obtain ⟨a', c', h1, h2, h3⟩ := h.2 j t ht; exact ⟨a', c', h1, h2.mono hB, h3⟩⟩
theorem HdT.nil (w : World) (B : Nat) : HdT w B [] [] := ⟨rfl, fun j t ht => by simp at ht⟩
theorem HdT.app {w : World} {B : Nat} {hs hs' : List Value} {ts ts' : List (List Int)} (h : HdT w B hs ts) (h' : HdT w B hs' ts') : HdT w B (hs ++ hs') (ts ++ ts') := by
  refine ⟨by rw [List.length_append, List.length_append, h.1, h'.1], fun j t ht => ?_⟩
  by_cases hj : j < ts.length
  · rw [List.getElem?_append_left hj] at ht
    obtain ⟨a', c', h1, h2⟩ := h.2 j t ht
    exact ⟨a', c', by rw [List.getElem?_append_left (by rw [h.1]; exact hj)]; exact h1, h2⟩
  · rw [List.getElem?_append_right (by omega)] at ht
    obtain ⟨a', c', h1, h2⟩ := h'.2 _ t ht
    exact ⟨a', c', by rw [List.getElem?_append_right (by rw [h.1]; omega), h.1]; exact h1, h2⟩
theorem HdT.one {w : World} {B : Nat} {a' : Option Addr} {c' : Nat} {t : List Int} (h : Is w B a' t.length t) (hc : t.length ≤ c') : HdT w B [.slice a' t.length c'] [t] := ⟨rfl, fun j s hs => by
  rcases j with _ | j
  · simp at hs
    subst hs
    exact ⟨a', c', rfl, h, hc⟩
  · simp at hs⟩
theorem hdtR {u : World} {R : List Rw} (h : ∀ r ∈ R, RwB u r) : HdT u u.heap.size (rhs R) (rts R) := by
  refine ⟨by rw [rhs_len, rts_len], fun j t ht => ?_⟩
  have hj : j < R.length := by rw [← rts_len]; exact (List.getElem?_eq_some_iff.1 ht).1
  have hr : R[j]? = some R[j] := List.getElem?_eq_getElem hj
  have e := rts_at hr
  rw [ht] at e
  obtain rfl := Option.some.inj e
  have hi2 := h _ (List.mem_of_getElem? hr)
  exact ⟨_, R[j].cp, rhs_at hr, hi2.is, hi2.cap⟩
theorem FB.hdt {u : World} {lo hi : Nat} {a : Option Addr} {n c : Nat} {R : List Rw} (h : FB u lo hi a n c R) : HdT u u.heap.size (rhs R) (rts R) := hdtR fun r hr => (h.ins r hr).1
/-- a row of headers is a list of tours -/
theorem HdT.ts {w : World} {lo : Nat} {a : Option Addr} {n c : Nat} {hs : List Value} {ts : List (List Int)} (h : HdT w w.heap.size hs ts) (ho : w.ownsRow lo 50 1 (.slice a n c) n hs) : Ts w w.heap.size a n ts := by
  have hl := ho.1
  refine ⟨by have := h.1; omega, ?_⟩
  rcases ho.2 with ⟨_, h0⟩ | ⟨g, cap, cur, hv, hg, hcur, hrest⟩
  · exact .inl h0
  · simp at hv
    obtain ⟨rfl, rfl⟩ := hv
    refine .inr ⟨g, 0, rfl, (ho.lt g rfl).2, fun j t ht => ?_⟩
    obtain ⟨a', c', h1, h2⟩ := h.2 j t ht
    have hj := (List.getElem?_eq_some_iff.1 h1).1
    refine ⟨a', c', ?_, h2⟩
    rw [Nat.zero_add, ho.cellAt j (by omega)]
    exact h1
/-- the headers of a list of tours -/
theorem Ts.hdt {w : World} {B b off n : Nat} {ts : List (List Int)} (h : Ts w B (some ⟨b, off, none⟩) n ts) : ∃ hs, HdT w B hs ts ∧ hs.length = n ∧ (∀ j u, hs[j]? = some u → w.cell? ((⟨b, off, none⟩ : Addr).add j) = some u) ∧ ∀ u ∈ hs, u.oneCell' = true := by
  have hn := h.1
  have each : ∀ i : Fin n, ∃ v : Value, w.cell? ⟨b, off + i.1, none⟩ = some v ∧ ∀ t, ts[i.1]? = some t → ∃ (a' : Option Addr) (c' : Nat), v = .slice a' t.length c' ∧ Is w B a' t.length t ∧ t.length ≤ c' := fun i => by
    have hi : i.1 < ts.length := by omega
    obtain ⟨a', c', h1, h2⟩ := h.at (List.getElem?_eq_getElem hi)
    refine ⟨_, h1, fun t ht => ?_⟩
    rw [List.getElem?_eq_getElem hi] at ht
    cases ht
    exact ⟨a', c', rfl, h2⟩
  obtain ⟨F, hF⟩ := Classical.axiomOfChoice each
  refine ⟨List.ofFn F, ⟨by simp; omega, fun j t ht => ?_⟩, by simp, fun j u hu => ?_, fun u hu => ?_⟩
  · have hj : j < n := by have := (List.getElem?_eq_some_iff.1 ht).1; omega
    obtain ⟨a', c', h1, h2⟩ := (hF ⟨j, hj⟩).2 t ht
    exact ⟨a', c', by rw [List.getElem?_ofFn]; simp [hj, h1], h2⟩
  · obtain ⟨hj, rfl⟩ := List.getElem?_eq_some_iff.1 hu
    have hj' : j < n := by simpa using hj
    rw [show ((⟨b, off, none⟩ : Addr).add j) = ⟨b, off + j, none⟩ by by_cases h0 : j = 0 <;> simp [Addr.add, h0]]
    rw [(hF ⟨j, hj'⟩).1]
    simp
  · obtain ⟨i, rfl⟩ := List.mem_ofFn.1 hu
    obtain ⟨a', c', h1, _⟩ := (hF i).2 _ (List.getElem?_eq_getElem (by omega : i.1 < ts.length))
    rw [h1]
    rfl
/-- a header of a row that does not lie in block X -/
def HdN (X : Nat) (v : Value) : Prop := ∀ b off s n c, v = .slice (some ⟨b, off, s⟩) n c → b ≠ X
theorem Is.set {w : World} {B X j n : Nat} {a : Option Addr} {ls : List Int} (h : Is w B a n ls) (v : Value) (hx : ∀ b off s, a = some ⟨b, off, s⟩ → b ≠ X) : Is (w.setCell ⟨X, j, none⟩ v) B a n ls := by
  refine ⟨h.1, h.2.imp id ?_⟩
  rintro ⟨b, off, h1, h2, h3⟩
  exact ⟨b, off, h1, h2, fun j x hj => by rw [set_other (hx b off none h1)]; exact h3 j x hj⟩
theorem HdT.set {w : World} {B X j : Nat} {hs : List Value} {ts : List (List Int)} (h : HdT w B hs ts) (hn : ∀ v ∈ hs, HdN X v) (v : Value) : HdT (w.setCell ⟨X, j, none⟩ v) B hs ts :=
  ⟨h.1, fun i t ht => by
    obtain ⟨a', c', h1, h2, h3⟩ := h.2 i t ht
    exact ⟨a', c', h1, h2.set v (fun b off s e => hn _ (List.mem_of_getElem? h1) b off s _ _ (by rw [e])), h3⟩⟩
theorem HdT.lowN {w : World} {B X : Nat} {hs : List Value} {ts : List (List Int)} (h : HdT w B hs ts) (hp : ∀ t ∈ ts, 0 < t.length) (hB : B ≤ X) : ∀ v ∈ hs, HdN X v := fun v hv => by
  obtain ⟨j, hj⟩ := List.mem_iff_getElem?.1 hv
  have hjl : j < ts.length := by have := (List.getElem?_eq_some_iff.1 hj).1; have := h.1; omega
  obtain ⟨a', c', h1, h2, _⟩ := h.2 j ts[j] (List.getElem?_eq_getElem hjl)
  rw [hj] at h1
  obtain rfl := Option.some.inj h1
  intro b off s n c e
  simp only [Value.slice.injEq] at e
  obtain ⟨rfl, _, _⟩ := e
  rcases h2.2 with h0 | ⟨b', off', hb, hl, _⟩
  · have := hp ts[j] (List.getElem_mem hjl); omega
  · simp only [Option.some.injEq, Addr.mk.injEq] at hb
    omega
theorem rhsN {R : List Rw} {X : Nat} (h : ∀ r ∈ R, r.g ≠ X) : ∀ v ∈ rhs R, HdN X v := fun v hv => by
  obtain ⟨r, hr, rfl⟩ := List.mem_map.1 hv
  intro b off s n c e
  simp only [Rw.hdr, Value.slice.injEq, Option.some.injEq, Addr.mk.injEq] at e
  rw [← e.1.1]
  exact h r hr
/-- a header of a row that lies above lo -/
def HdL (lo : Nat) (v : Value) : Prop := ∀ b off s n c, v = .slice (some ⟨b, off, s⟩) n c → lo ≤ b
theorem HdL.mono {lo lo' : Nat} {v : Value} (h : HdL lo v) (hl : lo' ≤ lo) : HdL lo' v := fun b off s n c e => Nat.le_trans hl (h b off s n c e)
theorem HdL.ne {lo X : Nat} {v : Value} (h : HdL lo v) (hX : X < lo) : HdN X v := fun b off s n c e => by have := h b off s n c e; omega
end Go.Proofs.Ytcpffonenhhfoaa
