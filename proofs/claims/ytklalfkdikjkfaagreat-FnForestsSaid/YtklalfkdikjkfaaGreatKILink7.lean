/- slices.SortFunc of a list of tours by compareTrees: the same rows, by their least vertices. All vertices of right tours, sorted: pure. The program's shareOut and ForestOk. The program's placeTold, TreeOf and SizeOf. The program's replanted. The program's Link. -/
import Derived.Test.YtklalfkdikjkfaaGreatKShelf9
import Derived.Test.YtklalfkdikjkfaaGreatKToInt6
import Derived.Test.YtklalfkdikjkfaaGreatKE6
import Derived.Test.YtklalfkdikjkfaaGreatKLc7
import Derived.Test.YtklalfkdikjkfaaGreatKNew7
import Derived.Test.YtklalfkdikjkfaaGreatKBx7
import Derived.Test.YtklalfkdikjkfaaGreatKSplit
import Derived.Test.YtklalfkdikjkfaaGreatKDraw7
namespace Go.Proofs.YtklalfkdikjkfaaGreat
open Go.RowKit Go.Sort Go.Lib

theorem heap_putA {α : Type} [Inhabited α] {enc : α → Value} {w : World} {g n : Nat} {os : Array Obj} {cur : Array Value} {e : TypeId} {fr : Nat × Nat} (d : Array α) (hb : w.heap[g]? = some (.cells cur e fr)) :
    (grow (putRow enc (Sort.ahead w n) g 0 d) os).heap[g]? = some (.cells (putCells enc 0 d cur) e fr) := by
  have hg : g < w.heap.size := (Array.getElem?_eq_some_iff.1 hb).1
  rw [heap_grow_old _ _ (by simpa using hg)]
  simp [putRow, mapBlock, Sort.ahead, Array.getElem?_modify, hb, onCells]
theorem grown_putA {α : Type} [Inhabited α] {enc : α → Value} {w : World} {g n : Nat} {os : Array Obj} (d : Array α) : w.grownBy (grow (putRow enc (Sort.ahead w n) g 0 d) os) (some g) := by
  refine ⟨rfl, rfl, rfl, by simp, fun k hk hne => ?_⟩
  rw [heap_grow_old _ _ (by simpa using hk)]
  have : g ≠ k := fun e => hne (by rw [e])
  simp [putRow, mapBlock, Sort.ahead, Array.getElem?_modify, this]
theorem take_putA {α : Type} [Inhabited α] {enc : α → Value} (cur : Array Value) (ts : List α) (h : ts.length ≤ cur.size) : (putCells enc 0 ts.toArray cur).toList.take ts.length = ts.map enc := by
  apply List.ext_getElem?
  intro j
  by_cases hj : j < ts.length
  · rw [List.getElem?_take_of_lt hj, Array.getElem?_toList]
    simp [putCells, hj, show j < cur.size by omega]
  · rw [List.getElem?_take_eq_none (by omega), List.getElem?_eq_none (by simp; omega)]

/-- a row of R -/
abbrev RwOf (R : List Rw) : Type := {r : Rw // r ∈ R}
def cfT {R : List Rw} (x y : RwOf R) : Int := cmpI (mnV x.1.t) (mnV y.1.t)
theorem ltT {R : List Rw} (x y : RwOf R) : ltOf cfT x y = decide (mnV x.1.t < mnV y.1.t) := by
  unfold ltOf cfT
  rw [Bool.eq_iff_iff, decide_eq_true_iff, decide_eq_true_iff, cmpI_neg]
theorem swoT {R : List Rw} : SWO (ltOf (cfT (R := R))) where
  irrefl x := by rw [ltT]; exact decide_eq_false (by omega)
  trans x y z h1 h2 := by
    rw [ltT] at *
    exact decide_eq_true (by have := of_decide_eq_true h1; have := of_decide_eq_true h2; omega)
  ntrans x y z h1 h2 := by
    rw [ltT] at *
    exact decide_eq_false (by have := of_decide_eq_false h1; have := of_decide_eq_false h2; omega)

set_option maxHeartbeats 1000000 in
theorem sortFT_any (R : List Rw) (hB : ∀ r ∈ R, tB r.t = true) (hne : R.Pairwise fun r s => mnV r.t ≠ mnV s.t) (lo n : Nat) (a : Option Addr) (c : Nat) (h0 : 0 < n) (hn : n ≤ 3000000) (w : World) (h : FB w lo w.heap.size a n c R) :
    Calls Tryz.prog 105 #[.slice a n c, .func (.func 106) #[] #[]] w fun e w' => e = .returned (.tuple #[]) ∧ ∃ R', FB w' lo w'.heap.size a n c R' ∧ R'.Perm R ∧ (rts R').Pairwise (fun s t => mnV s < mnV t) ∧ w.grownBy w' (Value.slice a n c).ownBlock := by
  have hlen := h.len
  rcases h.own.2 with ⟨_, h1⟩ | ⟨g, cap, cur, hv, hg, hgb, r1, r2, r3, r4⟩
  · omega
  · simp at hv
    obtain ⟨rfl, rfl⟩ := hv
    have hgl : g < w.heap.size := (Array.getElem?_eq_some_iff.1 hgb).1
    haveI : Inhabited (RwOf R) := ⟨⟨R[0]'(by omega), List.getElem_mem _⟩⟩
    have hH : Holds (fun x : RwOf R => x.1.hdr) w g 0 R.attach.toArray := fun j hj => by
      have hj' : j < R.length := by simpa using hj
      refine ⟨?_, h.own.frozenAt (0 + j)⟩
      rw [Nat.zero_add, h.own.cellAt j (by omega), rhs_at (List.getElem?_eq_getElem hj'), getElem!_pos _ j hj]
      simp
    have hkeep : ∀ (r : Rw) (m : Nat) (os : Array Obj) (dk : Array (RwOf R)), RwB w r → RwB (sortWorld (fun x : RwOf R => x.1.hdr) w g 0 m dk os) r := fun r m os dk hr => hr.grown (grown_putA dk) (fun e => own_ne h.own hr (by simpa using e))
    have hcmp : CmpLays1 Tryz.prog 106 #[] (fun x : RwOf R => x.1.hdr) cfT g 0 R.attach.toArray.size w := fun m os dk _ x y => by
      have hx := hkeep x.1 m os dk (h.ins x.1 x.2).1
      have hy := hkeep y.1 m os dk (h.ins y.1 y.2).1
      refine (compareTrees_any x.1.t y.1.t (hB x.1 x.2) (hB y.1 y.2) _ _ x.1.cp y.1.cp _ hx.is hy.is).mono ?_
      rintro e w' ⟨he, hw⟩
      exact ⟨he, 0, #[], by rw [hw, grow_empty]; rfl⟩
    have hc := Any.slices_SortFunc_total Tryz.laysFT (fun x : RwOf R => x.1.hdr) (fun _ => rfl) cfT swoT 106 #[] g 0 c R.attach.toArray w (enters_of Tryz.func106 (by kernel_rfl) rfl) hcmp hH hgl (by simp; omega) (fun x y h1 h2 => by
      rw [ltT] at h1 h2
      have h1 := of_decide_eq_false h1
      have h2 := of_decide_eq_false h2
      refine Classical.byContradiction fun hxy => ?_
      obtain ⟨i, hi⟩ := List.mem_iff_getElem?.1 x.2
      obtain ⟨j, hj⟩ := List.mem_iff_getElem?.1 y.2
      obtain ⟨i0, i1⟩ := List.getElem?_eq_some_iff.1 hi
      obtain ⟨j0, j1⟩ := List.getElem?_eq_some_iff.1 hj
      rcases Nat.lt_trichotomy i j with hlt | hlt | hlt
      · have := List.pairwise_iff_getElem.1 hne i j i0 j0 hlt
        rw [i1, j1] at this
        omega
      · subst hlt
        exact hxy (Subtype.ext (i1.symm.trans j1))
      · have := List.pairwise_iff_getElem.1 hne j i j0 i0 hlt
        rw [i1, j1] at this
        omega)
    change Calls Tryz.prog 105 _ _ _ at hc
    rw [show R.attach.toArray.size = n by simp; omega] at hc
    refine hc.mono ?_
    rintro e w' ⟨rfl, q, os, rfl⟩
    obtain ⟨L, hL⟩ : ∃ L, (R.attach.toArray.toList.mergeSort fun x y => !(ltOf cfT) y x) = L := ⟨_, rfl⟩
    have hLp : L.Perm R.attach := by rw [← hL]; simpa using List.mergeSort_perm R.attach fun x y => !(ltOf cfT) y x
    have hLs : L.Pairwise fun x y => (!(ltOf cfT) y x) = true := by
      rw [← hL]
      refine List.pairwise_mergeSort (fun a b c h1 h2 => ?_) (fun a b => ?_) _
      · simp only [ltT, Bool.not_eq_true', decide_eq_false_iff_not] at h1 h2 ⊢
        omega
      · simp only [ltT, Bool.or_eq_true, Bool.not_eq_true', decide_eq_false_iff_not]
        omega
    rw [hL]
    have hp : (L.map Subtype.val).Perm R := by
      have h3 := hLp.map Subtype.val
      rwa [List.attach_map_subtype_val] at h3
    have hLl : L.length = n := by rw [hLp.length_eq, List.length_attach]; exact hlen
    have hrow : (L.map fun x : RwOf R => x.1.hdr) = rhs (L.map Subtype.val) := by simp [rhs]
    have hown : (sortWorld (fun x : RwOf R => x.1.hdr) w g 0 q L.toArray os).ownsRow lo 39 1 (.slice (some ⟨g, 0, none⟩) n c) n (rhs (L.map Subtype.val)) := by
      refine ⟨by rw [rhs_len, List.length_map]; omega, .inr ⟨g, c, _, rfl, hg, heap_putA _ hgb, r1, r2, by simp [putCells, r3], ?_⟩⟩
      have := take_putA (enc := fun x : RwOf R => x.1.hdr) cur L (by rw [hLl, r3]; omega)
      rw [hLl, hrow] at this
      rw [Nat.mul_one]
      exact this
    refine ⟨rfl, L.map Subtype.val, ⟨by rw [List.length_map]; exact hLl, hown, fun x hx => (hown.lt x hx).2, Nat.le_refl _, fun r hr => ?_, ?_⟩, hp, ?_, grown_putA _⟩
    · have h3 := h.ins r (hp.mem_iff.1 hr)
      have h4 := hkeep r q os L.toArray h3.1
      exact ⟨h4, h3.2.1, h4.lt⟩
    · exact hp.symm.pairwise h.nod fun h => h.symm
    · have hd : (L.map Subtype.val).Pairwise fun r s => mnV r.t ≠ mnV s.t := hp.symm.pairwise hne fun h => h.symm
      unfold rts
      rw [List.pairwise_map]
      have h5 : (L.map Subtype.val).Pairwise fun r s => mnV r.t ≤ mnV s.t := by
        rw [List.pairwise_map]
        refine hLs.imp fun h => ?_
        simp only [ltT, Bool.not_eq_true', decide_eq_false_iff_not] at h
        omega
      exact (h5.and hd).imp fun ⟨h6, h7⟩ => by omega
end Go.Proofs.YtklalfkdikjkfaaGreat
namespace Go.Proofs.YtklalfkdikjkfaaGreat
open Go.RowKit

def rangeI (n : Nat) : List Int := (List.range n).map fun j : Nat => (j : Int)
theorem rangeI_len (n : Nat) : (rangeI n).length = n := by simp [rangeI]
theorem rangeI_at {n k : Nat} (h : k < n) : (rangeI n)[k]? = some (k : Int) := by simp [rangeI, h]
theorem rangeI_mem (n : Nat) (x : Int) : x ∈ rangeI n ↔ 0 ≤ x ∧ x < (n : Int) := by
  simp only [rangeI, List.mem_map, List.mem_range]
  constructor
  · rintro ⟨j, hj, rfl⟩
    omega
  · rintro ⟨h1, h2⟩
    exact ⟨x.toNat, by omega, by omega⟩
theorem rangeI_asc (n : Nat) : (rangeI n).Pairwise (· < ·) := by
  unfold rangeI
  rw [List.pairwise_map]
  exact List.Pairwise.imp (fun h => by omega) (List.pairwise_lt_range (n := n))
/-- all vertices -/
def allV (ts : List (List Int)) : List Int := ts.flatMap vsL
theorem allV_cons (t : List Int) (r : List (List Int)) : allV (t :: r) = vsL t ++ allV r := by simp [allV]
theorem allV_snoc (ts : List (List Int)) (t : List Int) : allV (ts ++ [t]) = allV ts ++ vsL t := by simp [allV]
theorem allV_len (ts : List (List Int)) : (allV ts).length = cnt ts := by
  induction ts with
  | nil => simp [cnt, allV]
  | cons t r ih =>
    rw [allV_cons, List.length_append, ih]
    simp [cnt]
theorem allV_nodup {ts : List (List Int)} (h : ts.Pairwise Apart) : (allV ts).Nodup := by
  induction ts with
  | nil => simp [allV]
  | cons t r ih =>
    rw [List.pairwise_cons] at h
    rw [allV_cons, List.nodup_append]
    refine ⟨vs_nodup t, ih h.2, fun y hy z hz e => ?_⟩
    subst e
    obtain ⟨s, hs, hys⟩ := List.mem_flatMap.1 hz
    exact h.1 s hs y ((vsL_mem t y).1 hy).2 ((vsL_mem s y).1 hys).2
theorem apart_of_nodup {ts : List (List Int)} (hB : ∀ t ∈ ts, tB t = true) (h : (allV ts).Nodup) : ts.Pairwise Apart := by
  induction ts with
  | nil => exact List.Pairwise.nil
  | cons t r ih =>
    rw [allV_cons, List.nodup_append] at h
    rw [List.pairwise_cons]
    refine ⟨fun s hs x hx hxs => ?_, ih (fun s hs => hB s (by simp [hs])) h.2.1⟩
    exact h.2.2 x ((vs_mem_of (hB t (by simp))).2 hx) x (List.mem_flatMap.2 ⟨s, hs, (vs_mem_of (hB s (by simp [hs]))).2 hxs⟩) rfl
/-- sorted -/
def srtI (l : List Int) : List Int := l.mergeSort fun x y => decide (x ≤ y)
theorem srtI_perm (l : List Int) : (srtI l).Perm l := List.mergeSort_perm _ _
theorem srtI_le (l : List Int) : (srtI l).Pairwise fun x y => x ≤ y := by
  have h := List.pairwise_mergeSort (le := fun x y : Int => decide (x ≤ y)) (fun a b c h1 h2 => by simp at *; omega) (fun a b => by simp; omega) l
  exact h.imp fun h => by simpa using h
theorem sh_iff {N : Nat} {ts : List (List Int)} (hB : ∀ t ∈ ts, tB t = true) : FQ (N : Int) ts ↔ srtI (allV ts) = rangeI N := by
  have hp := srtI_perm (allV ts)
  constructor
  · intro h
    have hn : (srtI (allV ts)).Nodup := hp.nodup_iff.2 (allV_nodup h.2.1)
    have hlt : (srtI (allV ts)).Pairwise (· < ·) := by
      have h2 := (srtI_le (allV ts)).and hn
      exact h2.imp fun ⟨h3, h4⟩ => by omega
    refine asc_ext hlt (rangeI_asc N) fun x => ?_
    rw [hp.mem_iff, rangeI_mem]
    constructor
    · intro hx
      obtain ⟨t, ht, hxt⟩ := List.mem_flatMap.1 hx
      obtain ⟨v1, v2⟩ := (vsL_mem t x).1 hxt
      have v1 := of_decide_eq_true (show decide (0 ≤ x ∧ x < 12) = true from v1)
      exact ⟨v1.1, (h.1 t ht).2 x v2⟩
    · rintro ⟨h1, h2⟩
      obtain ⟨t, ht, hx⟩ := h.cover h1 h2
      exact List.mem_flatMap.2 ⟨t, ht, (vs_mem_of (hB t ht)).2 hx⟩
  · intro h
    rw [h] at hp
    have hn : (allV ts).Nodup := hp.nodup_iff.1 ((rangeI_asc N).imp fun h => by omega)
    refine ⟨fun t ht => ⟨hB t ht, fun x hx => ?_⟩, apart_of_nodup hB hn, ?_⟩
    · exact ((rangeI_mem N x).1 (hp.mem_iff.2 (List.mem_flatMap.2 ⟨t, ht, (vs_mem_of (hB t ht)).2 hx⟩))).2
    · rw [← allV_len, ← hp.length_eq, rangeI_len]
theorem asP_B {ts : List (List Int)} (h : asP ts) : ∀ t ∈ ts, tB t = true := fun t ht => by
  obtain ⟨i, hi⟩ := List.mem_iff_getElem?.1 ht
  exact (h i t hi).1
theorem asP_asc {ts : List (List Int)} (h : asP ts) : ts.Pairwise fun s t => mnV s < mnV t := asc_all fun i t j s ht hj hs => (h i t ht).2 j s hj hs
theorem asP_of {ts : List (List Int)} (hB : ∀ t ∈ ts, tB t = true) (h : ts.Pairwise fun s t => mnV s < mnV t) : asP ts := fun i t ht => by
  refine ⟨hB t (List.mem_of_getElem? ht), fun j s hj hs => ?_⟩
  obtain ⟨hi, e⟩ := List.getElem?_eq_some_iff.1 ht
  obtain ⟨hj2, e2⟩ := List.getElem?_eq_some_iff.1 hs
  have := List.pairwise_iff_getElem.1 h j i hj2 hi (by omega)
  rw [e, e2] at this
  exact this
theorem asP_len {ts : List (List Int)} (h : asP ts) : ts.length ≤ 12 := by
  have h1 : (ts.map mnV).Nodup := by
    refine (List.pairwise_map.2 ((asP_asc h).imp fun h => ?_) : (ts.map mnV).Pairwise (· ≠ ·))
    omega
  have h2 := nd_sub (b := rangeI 12) h1 fun x hx => by
    obtain ⟨t, ht, rfl⟩ := List.mem_map.1 hx
    have h3 := ((tB_iff t).1 (asP_B h t ht)).1 _ (mn_mem (asP_B h t ht))
    have h3 := of_decide_eq_true (show decide (0 ≤ mnV t ∧ mnV t < 12) = true from h3)
    exact (rangeI_mem 12 _).2 h3
  rw [List.length_map, rangeI_len] at h2
  exact h2
/-- a right forest, as the program looks -/
theorem FP_prog (N : Int) (ts : List (List Int)) : FP N ts ↔ (1 ≤ N ∧ N ≤ 12) ∧ asP ts ∧ (srtI (allV ts) = rangeI (srtI (allV ts)).length ∧ ((srtI (allV ts)).length : Int) = N) := by
  rw [FP_iff]
  constructor
  · rintro ⟨h1, h2, h3, h4⟩
    have hA := asP_of (fun t ht => (h3.1 t ht).1) h4
    obtain ⟨M, rfl⟩ : ∃ M : Nat, N = (M : Int) := ⟨N.toNat, by omega⟩
    have h5 := (sh_iff (asP_B hA)).1 h3
    exact ⟨⟨h1, h2⟩, hA, by rw [h5, rangeI_len], by rw [h5, rangeI_len]⟩
  · rintro ⟨⟨h1, h2⟩, hA, h3, h4⟩
    refine ⟨h1, h2, ?_, asP_asc hA⟩
    rw [← h4]
    exact (sh_iff (asP_B hA)).2 h3
theorem allV_bound {ts : List (List Int)} (k : Nat) : (allV (ts.take k)).length ≤ 12 * k := by
  rw [allV_len, ← cntV_all]
  have h1 := cntV_le (ts.take k) (ts.take k).length
  have h2 := List.length_take_le k ts
  omega
end Go.Proofs.YtklalfkdikjkfaaGreat
namespace Go.Proofs.YtklalfkdikjkfaaGreat
open Go.RowKit Go.Sort Go.Lib

/-- a whole list laid behind -/
theorem ISt.appL7 {wb : World} {a : Option Addr} {m c k : Nat} {ls xs : List Int} {u : World} (h : ISt wb a m c ls u) {v : Value} {u' : World}
    (ho : u'.ownsRow wb.heap.size 3 1 v (m + k) (ic ls ++ ic xs)) (hg : u.grownBy u' (Value.slice a m c).ownBlock) :
    ∃ a' c', v = .slice a' (m + k) c' ∧ ISt wb a' (m + k) c' (ls ++ xs) u' := by
  obtain ⟨a', c', rfl⟩ := own_form ho
  rw [show ic ls ++ ic xs = ic (ls ++ xs) by simp [ic]] at ho
  refine ⟨a', c', rfl, ho, ?_⟩
  exact h.bel.grown hg h.size (fun j hj => (h.own.lt j hj).1)

set_option maxRecDepth 100000 in
set_option maxHeartbeats 2000000 in
theorem shareOut_any (N : Int) (ts : List (List Int)) (hA : asP ts) (n : Nat) (a : Option Addr) (c : Nat) (w : World) (h : Ts w w.heap.size a n ts) :
    Calls Tryz.prog 57 #[.int .i64 N, .slice a n c] w fun e w' => ∃ b, e = .returned (.bool b) ∧ (b = true ↔ (srtI (allV ts) = rangeI (srtI (allV ts)).length ∧ ((srtI (allV ts)).length : Int) = N)) ∧ Below w.heap.size w w' := by
  obtain ⟨i0, hi, hz0, hz1, hz2⟩ := info_parts info3i
  have hlen := h.1
  have hn12 := asP_len hA
  have HA := hideIt h
  have HAS := hideIt hA
  have S0 := ISt.start w
  clear h hA
  go_enter Tryz.func57, Tryz.ntmps57
  go_wp2
  go_loopw [5, 11] (fun r i wr => ∃ (k m c1 : Nat) (a1 : Option Addr), k ≤ n ∧ m ≤ 12 * k ∧ i = .int .i64 (k : Int) ∧ r = .slice a1 m c1 ∧ Hid (a1 ≠ none) ∧ ISt w a1 m c1 (allV (ts.take k)) wr) (fun _ i _ => n - (intOf i).toNat)
  case atStart => exact ⟨0, 0, 0, _, by omega, by omega, rfl, rfl, by simp [Hid], by rw [List.take_zero]; exact S0⟩
  case round =>
    obtain ⟨k, m, c1, a1, hk, hmk, rfl, rfl, HN1, hst⟩ := hrel
    clear S0
    by_cases hlt : k < n
    · obtain ⟨t, ht⟩ : ∃ t, ts[k]? = some t := ⟨ts[k]'(by omega), List.getElem?_eq_getElem (by omega)⟩
      rcases (HA.out.up hst.bel).2 with hz | ⟨b, off, rfl, hbl, hc⟩
      · omega
      · obtain ⟨x, cx, e0, iI, _⟩ := hc k t ht
        have hB := asP_B HAS.out t (List.mem_of_getElem? ht)
        have hl := tB_len hB
        have b1 : (0 : Int) ≤ (k : Int) := by omega
        have b2 : (k : Int) < (n : Int) := by omega
        have HV := hideIt (iVertsOf_any t t.length x cx (by omega) wr iI)
        have HST := hideIt hst
        have HT2 : Hid (allV (ts.take k) ++ vsL t = allV (ts.take (k + 1))) := by show _ = _; rw [take_snocF ts k t ht, allV_snoc]
        have HPos := hideIt (vs_pos hB)
        have HLen := hideIt (vsL_len t)
        clear hc ht iI hst hB
        go_wp2_with (go_at_call 59; refine HV.out.mono ?_; rintro e w1 ⟨a2, m2, c2, rfl, ho, hb⟩; refine Hid.out ?_)
        refine (show ∀ {p : Prop}, p → Hid p from fun h => h) ?_
        have hm2 : (vsL t).length = m2 := by have := ho.1; rw [ic_len] at this; omega
        have hp2 : 0 < m2 := by have := HPos.out; omega
        have hl2 : m2 ≤ 12 := by have := HLen.out; omega
        rcases ho.2 with ⟨_, h0⟩ | ⟨g, cap, cur, hv, hrest⟩
        · omega
        · simp at hv
          obtain ⟨rfl, rfl⟩ := hv
          have HST2 := hideIt (HST.out.up hb)
          have hsz := HST2.out.size
          have HNews : Hid (∀ j u, (ic (vsL t))[j]? = some u → w1.cell? ((⟨g, 0, none⟩ : Addr).add j) = some u) := fun j u hj => by
            have hj2 := (List.getElem?_eq_some_iff.1 hj).1
            rw [ic_len] at hj2
            have := ho.cellAt j (by omega)
            rw [show (⟨g, 0, none⟩ : Addr).add j = ⟨g, j, none⟩ by by_cases h0 : j = 0 <;> simp [Addr.add, h0], this]
            exact hj
          have HL := hideIt (show (ic (vsL t)).length = m2 * 1 by rw [ic_len]; omega)
          clear HST hb hrest ho HV hm2
          go_wp2_with (at_builtin; refine wpList_append_own _ rfl _ _ 39 rfl w.heap.size 3 i0 _ 1 8 Tryz.underlying39 hi hz0 hz1 hz2 rfl (by decide) _ _ _ rfl HST2.out.own ⟨g, 0, none⟩ m2 c2 (ic (vsL t)) rfl HL.out HNews.out (by intro u hu; simp [ic] at hu; obtain ⟨q, _, rfl⟩ := hu; rfl) (by unfold maxLen; omega) (by omega) (by omega) ?_)
          intro v5 w5 hown5 hg5 hnil
          obtain ⟨a5, c5, rfl, S5⟩ := HST2.out.appL7 hown5 hg5
          have HN5 : Hid (a5 ≠ none) := fun e => by
            subst e
            rcases hown5.2 with ⟨_, h0⟩ | ⟨g6, _, _, hv6, _⟩
            · omega
            · simp at hv6
          clear hown5 hg5 HST2 HNews hnil
          go_wp2
          exact ⟨⟨k + 1, m + m2, c5, a5, by omega, by omega, by go_num, rfl, HN5, by rw [← HT2.out]; exact S5⟩, by simp [intOf]; omega⟩
    · obtain rfl : k = n := by omega
      have hm : (allV ts).length = m := by
        have := hst.len
        rw [List.take_of_length_le (by omega)] at this
        exact this
      rw [List.take_of_length_le (by omega)] at hst
      rcases hst.own.2 with ⟨hv, _⟩ | ⟨g, cap, cur, hv, hg, hgb, r1, r2, r3, r4⟩
      · simp at hv
        exact absurd hv.1 HN1.out
      · have hv' := hv
        simp at hv'
        obtain ⟨rfl, rfl⟩ := hv'
        have hgl : g < wr.heap.size := (Array.getElem?_eq_some_iff.1 hgb).1
        have HS := Tryz.slices_Sort_int g 0 c1 (allV ts) wr (holds_of_blockI hgb (by rw [hm]; rw [Nat.mul_one] at r4; exact r4)) hgl (by omega)
        rw [hm] at HS
        have HO : Hid (∀ q os, ISt w (some ⟨g, 0, none⟩) m c1 (srtI (allV ts)) (grow (putRow (Value.int .i64) (Sort.ahead wr q) g 0 (srtI (allV ts)).toArray) os)) := fun q os => by
          have h1 := ownsRow_sortedI (n := q) (os := os) (ss := allV ts) (ts := srtI (allV ts)) (by unfold srtI; rw [List.length_mergeSort]) hg hgb (by rw [hm]; exact r1) r2 r3
          rw [hm] at h1
          exact ⟨h1, hst.bel.grown (grownBy_sortedI _) hst.size (fun j e => by cases e; exact hg)⟩
        have HL : Hid ((srtI (allV ts)).length = m) := by show _ = _; rw [(srtI_perm (allV ts)).length_eq]; exact hm
        have HSo : Hid (Calls Tryz.prog 107 #[.slice (some ⟨g, 0, none⟩) m c1] wr fun e w' => e = .returned (.tuple #[]) ∧ ISt w (some ⟨g, 0, none⟩) m c1 (srtI (allV ts)) w') :=
          HS.mono (by
            rintro e w2 ⟨rfl, q, os, rfl⟩
            exact ⟨rfl, HO.out q os⟩)
        clear HS HO hgb r1 r2 r3 r4 hst hv hm
        obtain ⟨S, hSe⟩ : ∃ S, srtI (allV ts) = S := ⟨_, rfl⟩
        rw [hSe] at HL HSo
        have HSe := hideIt hSe
        clear hSe
        have hm12 : m ≤ 144 := by omega
        go_wp2_with (go_at_call 107; refine HSo.out.mono ?_; rintro e w2 ⟨rfl, hS⟩; refine Hid.out ?_)
        refine (show ∀ {p : Prop}, p → Hid p from fun h => h) ?_
        have HSt := hideIt hS
        clear hS HSo
        go_wp2
        go_loopw [26] (fun i wq => ∃ j : Nat, j ≤ m ∧ i = .int .i64 (j : Int) ∧ Hid (∀ p, p < j → S[p]? = some (p : Int)) ∧ wq = w2) (fun i _ => m - (intOf i).toNat)
        case atStart => exact ⟨0, by omega, rfl, fun p hp => by omega, rfl⟩
        case round =>
          obtain ⟨j, hj, rfl, HJ, hw⟩ := hrel
          have hw' := hw.symm
          subst hw'
          clear hw
          by_cases hjl : j < m
          · obtain ⟨f, hf⟩ : ∃ f, S[j]? = some f := ⟨S[j]'(by have := HL.out; omega), List.getElem?_eq_getElem _⟩
            have e0 : w2.cell? ⟨g, j, none⟩ = some (.int .i64 f) := by rw [HSt.out.own.cellAt j (by omega)]; exact ic_at hf
            have q1 : (0 : Int) ≤ (j : Int) := by omega
            have q2 : (j : Int) < (m : Int) := by omega
            by_cases hfj : f = (j : Int)
            · have d1 : (f != (j : Int)) = false := by simpa using hfj
              have HJ2 : Hid (∀ p, p < j + 1 → S[p]? = some (p : Int)) := fun p hp => by
                by_cases hpj : p = j
                · rw [hpj, hf, hfj]
                · exact HJ.out p (by omega)
              clear hf HJ hfj
              go_wp2
              exact ⟨⟨j + 1, by omega, by go_num, HJ2, by first | trivial | rfl⟩, by simp [intOf]; omega⟩
            · have d1 : (f != (j : Int)) = true := by simpa using hfj
              have HNo : Hid (¬ (S = rangeI S.length)) := fun he => by
                have h1 := rangeI_at (n := S.length) (k := j) (by have := HL.out; omega)
                rw [← he, hf] at h1
                exact hfj (Option.some.inj h1)
              clear hf HJ hfj
              go_wp2
              go_ret
              exact ⟨false, rfl, by rw [HSe.out]; exact ⟨fun h => (by cases h), fun h => absurd h.1 HNo.out⟩, HSt.out.bel⟩
          · obtain rfl : j = m := by omega
            have HY : Hid (S = rangeI S.length) := by
              show _ = _
              apply List.ext_getElem?
              intro p
              have := HL.out
              by_cases hp : p < j
              · rw [HJ.out p hp, rangeI_at (by omega)]
              · rw [List.getElem?_eq_none (by omega), List.getElem?_eq_none (by rw [rangeI_len]; omega)]
            have HE : Hid (((j : Int) == N) = true ↔ ((S.length : Int) = N)) := by
              show _ ↔ _
              rw [HL.out]
              simp
            clear HJ
            go_wp2
            go_ret
            exact ⟨_, rfl, by rw [HSe.out]; exact ⟨fun h => ⟨HY.out, HE.out.1 h⟩, fun h => HE.out.2 h.2⟩, HSt.out.bel⟩

set_option maxHeartbeats 1000000 in
theorem iForestOk_any (N : Int) (ts : List (List Int)) (n : Nat) (a : Option Addr) (c : Nat) (hn : n + lnS ts ≤ 1048576) (w : World) (h : Ts w w.heap.size a n ts) :
    Calls Tryz.prog 12 #[.agg #[.int .i64 N, .slice a n c]] w fun e w' => ∃ b, e = .returned (.bool b) ∧ (b = true ↔ FP N ts) ∧ Below w.heap.size w w' := by
  have b0 : Below w.heap.size w (w.alloc (.cells #[.int .i64 N, .slice a n c] 26)) := (Below.refl _ _).alloc (Nat.le_refl _) _
  have HI := hideIt vertsOk_any
  have HP := hideIt (FP_prog N ts)
  have HT := hideIt (treesAscend_any ts n a c (by omega) (fun t ht => by have := lnS_mem ht; omega) _ (h.up b0))
  have HB0 := hideIt b0
  by_cases h1 : 1 ≤ N ∧ N ≤ 12
  · have r1 : decide (1 ≤ N ∧ N ≤ 12) = true := decide_eq_true h1
    by_cases hA : asP ts
    · have HT2 : Hid (Calls Tryz.prog 56 #[.slice a n c] (w.alloc (.cells #[.int .i64 N, .slice a n c] 26)) fun e w' => e = .returned (.bool true) ∧ Below (w.alloc (.cells #[.int .i64 N, .slice a n c] 26)).heap.size (w.alloc (.cells #[.int .i64 N, .slice a n c] 26)) w') :=
        HT.out.mono fun e v ⟨b, he, hb, hbl⟩ => ⟨by rw [he, hb.2 hA], hbl⟩
      have HSh := hideIt (fun u (hu : Below (w.alloc (.cells #[.int .i64 N, .slice a n c] 26)).heap.size (w.alloc (.cells #[.int .i64 N, .slice a n c] 26)) u) => shareOut_any N ts hA n a c u ((h.up b0).up hu))
      have HPA := hideIt (show FP N ts ↔ (srtI (allV ts) = rangeI (srtI (allV ts)).length ∧ ((srtI (allV ts)).length : Int) = N) from HP.out.trans ⟨fun h => h.2.2, fun h => ⟨h1, hA, h⟩⟩)
      clear h b0 HT HP hA
      go_enter Tryz.func12, Tryz.ntmps12
      go_wp2_with (first | (go_at_call 55; refine (HI.out _ _).mono ?_; rintro e w1 ⟨rfl, rfl⟩) | (go_at_call 56; refine HT2.out.mono ?_; rintro e w2 ⟨rfl, hb2⟩; refine Hid.out ?_))
      refine (show ∀ {p : Prop}, p → Hid p from fun h => h) ?_
      obtain ⟨hc, hf⟩ := bcell hb2
      have HS2 := hideIt (HSh.out w2 hb2)
      go_wp2_with (go_at_call 57; refine HS2.out.mono ?_; rintro e w3 ⟨b, rfl, hbi, hb3⟩)
      go_ret
      exact ⟨b, rfl, hbi.trans HPA.out.symm, HB0.out.trans ((hb2.trans (hb3.mono hb2.size)).mono (by simp))⟩
    · have HT2 : Hid (Calls Tryz.prog 56 #[.slice a n c] (w.alloc (.cells #[.int .i64 N, .slice a n c] 26)) fun e w' => e = .returned (.bool false) ∧ Below (w.alloc (.cells #[.int .i64 N, .slice a n c] 26)).heap.size (w.alloc (.cells #[.int .i64 N, .slice a n c] 26)) w') :=
        HT.out.mono fun e v ⟨b, he, hb, hbl⟩ => ⟨by
          have : b = false := by
            cases b with
            | false => rfl
            | true => exact absurd (hb.1 rfl) hA
          rw [he, this], hbl⟩
      have HN : Hid (¬ FP N ts) := fun hf => hA (HP.out.1 hf).2.1
      clear h b0 HT HP hA
      go_enter Tryz.func12, Tryz.ntmps12
      go_wp2_with (first | (go_at_call 55; refine (HI.out _ _).mono ?_; rintro e w1 ⟨rfl, rfl⟩) | (go_at_call 56; refine HT2.out.mono ?_; rintro e w2 ⟨rfl, hb2⟩))
      go_ret
      exact ⟨false, rfl, ⟨fun h => (by cases h), fun h => absurd h HN.out⟩, HB0.out.trans (hb2.mono (by simp))⟩
  · have r1 : decide (1 ≤ N ∧ N ≤ 12) = false := decide_eq_false h1
    have HN : Hid (¬ FP N ts) := fun hf => h1 (HP.out.1 hf).1
    clear HT h HP b0
    go_enter Tryz.func12, Tryz.ntmps12
    go_wp2_with (go_at_call 55; refine (HI.out _ _).mono ?_; rintro e w1 ⟨rfl, rfl⟩)
    go_ret
    exact ⟨false, rfl, ⟨fun h => (by cases h), fun h => absurd h HN.out⟩, HB0.out⟩
end Go.Proofs.YtklalfkdikjkfaaGreat
namespace Go.Proofs.YtklalfkdikjkfaaGreat
open Go.RowKit

theorem someIn_any (us vs : List Int) (n : Nat) (a : Option Addr) (c : Nat) (hn : n ≤ 3000000) (nb : Nat) (b : Option Addr) (cb : Nat) (hnb : nb ≤ 3000000) (w : World) (h : Is w w.heap.size a n us) (hb : Is w w.heap.size b nb vs) :
    Calls Tryz.prog 51 #[.slice b nb cb, .slice a n c] w fun e w' => e = .returned (.bool (comB us vs)) ∧ Below w.heap.size w w' := by
  have HC := hideIt (haveCommon_any us vs n a c hn nb b cb hnb w h hb)
  clear h hb
  go_enter Tryz.func51, Tryz.ntmps51
  go_wp2_with (go_at_call 100; refine HC.out.mono ?_; rintro e w1 ⟨rfl, hb1⟩)
  go_ret
  exact ⟨rfl, hb1⟩
theorem comB_one (t : List Int) (v : Int) : comB t [v] = decide (v ∈ t) := by
  unfold comB
  rw [Bool.eq_iff_iff]
  simp

set_option maxHeartbeats 1000000 in
theorem placeTold_any (ts : List (List Int)) (v : Int) (hm : ∀ t ∈ ts, t.length ≤ 3000000) (n : Nat) (a : Option Addr) (c : Nat) (hn : n ≤ 3000000) (b : Option Addr) (cb : Nat) (w : World) (h : Ts w w.heap.size a n ts) (hb : Is w w.heap.size b 1 [v]) :
    Calls Tryz.prog 50 #[.slice a n c, .func (.func 51) #[.slice b 1 cb] #[]] w fun e w' => e = .returned (.int .i64 (trI ts v)) ∧ Below w.heap.size w w' := by
  have hlen := h.1
  have HA := hideIt h
  have HB := hideIt hb
  clear h hb
  go_enter Tryz.func50, Tryz.ntmps50
  go_wp2
  go_loopw [8] (fun i wr => ∃ k : Nat, k ≤ n ∧ i = .int .i64 (k : Int) ∧ Hid (∀ j, j < k → trP ts v j = false) ∧ Good w wr) (fun i _ => n - (intOf i).toNat)
  case atStart => exact ⟨0, by omega, rfl, fun j hj => by omega, Good.refl _⟩
  case round =>
    obtain ⟨k, hk, rfl, HK, hg⟩ := hrel
    by_cases hlt : k < n
    · rcases (HA.out.up hg).2 with hz | ⟨bb, off, rfl, hbl, hc⟩
      · omega
      · obtain ⟨t, ht⟩ : ∃ t, ts[k]? = some t := ⟨ts[k]'(by omega), List.getElem?_eq_getElem (by omega)⟩
        obtain ⟨x, cx, e0, iI, _⟩ := hc k t ht
        have b1 : (0 : Int) ≤ (k : Int) := by omega
        have b2 : (k : Int) < (n : Int) := by omega
        have HC := hideIt (someIn_any t [v] t.length x cx (hm t (List.mem_of_getElem? ht)) 1 b cb (by omega) wr iI (HB.out.up hg))
        rw [comB_one, ← trP_at (v := v) ht] at HC
        have HG := hideIt hg
        cases hp : trP ts v k with
        | true =>
          rw [hp] at HC
          have HV : Hid (trI ts v = (k : Int)) := firstN_yes (by omega) hp HK.out
          clear hc ht iI hp HK
          go_wp2_with (go_at_call 51; refine HC.out.mono ?_; rintro e w1 ⟨rfl, hb1⟩)
          go_ret
          exact ⟨by rw [HV.out]; rfl, HG.out.up hb1⟩
        | false =>
          rw [hp] at HC
          have HK2 : Hid (∀ j, j < k + 1 → trP ts v j = false) := fun j hj => by
            by_cases h7 : j = k
            · rw [h7]; exact hp
            · exact HK.out j (by omega)
          clear hc ht iI hp HK
          go_wp2_with (go_at_call 51; refine HC.out.mono ?_; rintro e w1 ⟨rfl, hb1⟩)
          exact ⟨⟨k + 1, by omega, by go_num, HK2, HG.out.up hb1⟩, by simp [intOf]; omega⟩
    · obtain rfl : k = n := by omega
      have HV : Hid (trI ts v = -1) := firstN_no (fun j hj => HK.out j (by omega))
      clear HK
      go_wp2
      go_ret
      exact ⟨by rw [HV.out]; rfl, hg⟩

set_option maxHeartbeats 1000000 in
theorem iTreeOf_any (N : Int) (ts : List (List Int)) (v : Int) (n : Nat) (a : Option Addr) (c : Nat) (hn : n + lnS ts ≤ 1048576) (w : World) (h : Ts w w.heap.size a n ts) :
    Calls Tryz.prog 10 #[.agg #[.int .i64 N, .slice a n c], .int .i64 v] w fun e w' => e = .returned (.int .i64 (treeO N ts v)) ∧ Below w.heap.size w w' := by
  have b0 : Good w (w.alloc (.cells #[.int .i64 N, .slice a n c] 26)) := (Good.refl w).alloc _
  have HF := iForestOk_any N ts n a c hn _ (h.up b0)
  have HB0 := hideIt b0
  by_cases hP : FP N ts
  · have HF2 := hideIt (HF.mono fun e u ⟨b, he, hb, hbl⟩ => (show e = Ending.returned (.bool true) ∧ Good (w.alloc (.cells #[.int .i64 N, .slice a n c] 26)) u from ⟨by rw [he, hb.2 hP], hbl⟩))
    have HT := hideIt (fun u (hu : Good (w.alloc (.cells #[.int .i64 N, .slice a n c] 26)) u) => placeTold_any ts v (fun t ht => by have := lnS_mem ht; omega) n a c (by omega) (some ⟨u.heap.size, 0, none⟩) 1 (u.alloc (.cells #[.int .i64 v] 3)) ((h.up b0).up (hu.alloc (.cells #[.int .i64 v] 3))) ⟨rfl, .inr ⟨u.heap.size, 0, rfl, by simp, fun j x hx => by
      rcases j with _ | j
      · simp at hx; subst hx; simp
      · simp at hx⟩⟩)
    have HV := hideIt (treeO_yes hP v)
    clear h b0 HF hP
    go_enter Tryz.func10, Tryz.ntmps10
    go_wp2_with (go_at_call 12; refine HF2.out.mono ?_; rintro e w1 ⟨rfl, hg1⟩; refine Hid.out ?_)
    refine (show ∀ {p : Prop}, p → Hid p from fun h => h) ?_
    have cB : w1.cell? ⟨w.heap.size, 1, none⟩ = some (.slice a n c) := by rw [hg1.cell (by simp)]; simp
    have HT2 := hideIt (HT.out w1 hg1)
    have HG1 := hideIt hg1
    clear hg1 HT HF2
    go_wp2_with (go_at_call 50; refine HT2.out.mono ?_; rintro e w2 ⟨rfl, hb2⟩)
    go_ret
    exact ⟨by rw [HV.out]; rfl, HB0.out.up ((HG1.out.alloc _).up hb2)⟩
  · have HF2 := hideIt (HF.mono fun e u ⟨b, he, hb, hbl⟩ => (show e = Ending.returned (.bool false) ∧ Good (w.alloc (.cells #[.int .i64 N, .slice a n c] 26)) u from ⟨by
      have : b = false := by
        cases b with
        | false => rfl
        | true => exact absurd (hb.1 rfl) hP
      rw [he, this], hbl⟩))
    have HV := hideIt (treeO_no hP v)
    clear h b0 HF hP
    go_enter Tryz.func10, Tryz.ntmps10
    go_wp2_with (go_at_call 12; refine HF2.out.mono ?_; rintro e w1 ⟨rfl, hg1⟩)
    go_ret
    exact ⟨by rw [HV.out]; rfl, HB0.out.up hg1⟩

set_option maxHeartbeats 1000000 in
theorem iSizeOf_any (N : Int) (ts : List (List Int)) (v : Int) (n : Nat) (a : Option Addr) (c : Nat) (hn : n + lnS ts ≤ 1048576) (w : World) (h : Ts w w.heap.size a n ts) :
    Calls Tryz.prog 14 #[.agg #[.int .i64 N, .slice a n c], .int .i64 v] w fun e w' => e = .returned (.int .i64 (sizeO N ts v)) ∧ Below w.heap.size w w' := by
  have b0 : Good w (w.alloc (.cells #[.int .i64 N, .slice a n c] 26)) := (Good.refl w).alloc _
  have HF := hideIt (iTreeOf_any N ts v n a c hn _ (h.up b0))
  have HB0 := hideIt b0
  rcases treeO_cases N ts v with ⟨k, t, hP, hk, hv, e⟩ | ⟨_, e⟩
  · rw [e] at HF
    have HV := hideIt (sizeO_yes e hk)
    have hkl := (List.getElem?_eq_some_iff.1 hk).1
    have hlen := h.1
    rcases (h.up b0).2 with hz | ⟨b, off, rfl, hbl, hc⟩
    · omega
    · obtain ⟨x, cx, e0, iI, _⟩ := hc k t hk
      have hfit := lnS_mem (List.mem_of_getElem? hk)
      have HVe := hideIt (fun u (hu : Good (w.alloc (.cells #[.int .i64 N, .slice (some ⟨b, off, none⟩) n c] 26)) u) => iVertsOf_any t t.length x cx (by omega) u (iI.up hu))
      have d1 : decide ((k : Int) < 0) = false := decide_eq_false (by omega)
      have b1 : (0 : Int) ≤ (k : Int) := by omega
      have b2 : (k : Int) < (n : Int) := by omega
      clear h b0 hc iI hP hv
      go_enter Tryz.func14, Tryz.ntmps14
      go_wp2_with (go_at_call 10; refine HF.out.mono ?_; rintro e w1 ⟨rfl, hg1⟩; refine Hid.out ?_)
      refine (show ∀ {p : Prop}, p → Hid p from fun h => h) ?_
      have hg1 : Good (w.alloc (.cells #[.int .i64 N, .slice (some ⟨b, off, none⟩) n c] 26)) w1 := hg1
      have cB : w1.cell? ⟨w.heap.size, 1, none⟩ = some (.slice (some ⟨b, off, none⟩) n c) := by rw [hg1.cell (by simp)]; simp
      have cE : w1.cell? ⟨b, off + k, none⟩ = some (.slice x t.length cx) := by rw [hg1.cell hbl]; exact e0
      have HT2 := hideIt (HVe.out w1 hg1)
      have HG1 := hideIt hg1
      clear hg1 HVe HF e0
      go_wp2_with (go_at_call 59; refine HT2.out.mono ?_; rintro e w2 ⟨a2, m2, c2, rfl, ho, hb2⟩)
      have hm2 : (vsL t).length = m2 := by have := ho.1; rw [ic_len] at this; omega
      go_ret
      exact ⟨by rw [HV.out, hm2]; rfl, HB0.out.up (HG1.out.up hb2)⟩
  · rw [e] at HF
    have HV := hideIt (sizeO_no e)
    clear h b0
    go_enter Tryz.func14, Tryz.ntmps14
    go_wp2_with (go_at_call 10; refine HF.out.mono ?_; rintro e w1 ⟨rfl, hg1⟩)
    go_ret
    exact ⟨by rw [HV.out]; rfl, HB0.out.up hg1⟩
end Go.Proofs.YtklalfkdikjkfaaGreat
namespace Go.Proofs.YtklalfkdikjkfaaGreat
open Go.RowKit Go.Sort Go.Lib

theorem FB.setTyped {u : World} {lo hi : Nat} {a : Option Addr} {n c : Nat} {R : List Rw} (h : FB u lo hi a n c R) {x : Nat} {cs : Array Value} {fr : Nat × Nat} (hx : u.heap[x]? = some (.cells cs 26 fr)) (j : Nat) (v : Value) : FB (u.setCell ⟨x, j, none⟩ v) lo hi a n c R := by
  have hr : ∀ r, RwB u r → x ≠ r.g := fun r hr e => by
    obtain ⟨c2, h2⟩ := hr.blk
    rw [← e, hx] at h2
    simp at h2
  refine ⟨h.len, h.own.kept (grownSet u x j v) (.inr fun e => ?_), h.row, by simp [World.setCell]; exact h.there, fun r hr2 => ⟨(h.ins r hr2).1.grown (grownSet u x j v) (by simpa using hr r (h.ins r hr2).1), (h.ins r hr2).2⟩, h.nod⟩
  rcases h.own.2 with ⟨hv, _⟩ | ⟨g, cap, cur, hv, _, hg, _⟩
  · rw [hv] at e; simp [Value.ownBlock] at e
  · rw [hv] at e
    simp [Value.ownBlock] at e
    rw [e, hx] at hg
    simp at hg

/-- the world behind replanted's boxes -/
def rw4 (w : World) (N : Int) (a : Option Addr) (n c : Nat) (u v : Int) : World := (((w.alloc (.cells #[.int .i64 N, .slice a n c] 26)).alloc (.cells #[.int .i64 u, .int .i64 v] 28)).alloc (.cells #[.int .i64 0, .slice none 0 0] 26)).alloc (.cells #[.int .i64 u, .int .i64 v] 3)
theorem rw4_size (w : World) (N : Int) (a : Option Addr) (n c : Nat) (u v : Int) : (rw4 w N a n c u v).heap.size = w.heap.size + 4 := by simp [rw4]
theorem rw4_bel (w : World) (N : Int) (a : Option Addr) (n c : Nat) (u v : Int) : Good w (rw4 w N a n c u v) := ((((Good.refl w).alloc _).alloc _).alloc _).alloc _
theorem rw4_third (w : World) (N : Int) (a : Option Addr) (n c : Nat) (u v : Int) : (rw4 w N a n c u v).heap[w.heap.size + 2]? = some (.cells #[.int .i64 0, .slice none 0 0] 26 (0, 0)) := by
  unfold rw4
  rw [Below.heap_alloc _ _ _ (by simp)]
  have h := heap_alloc_new ((w.alloc (.cells #[.int .i64 N, .slice a n c] 26)).alloc (.cells #[.int .i64 u, .int .i64 v] 28)) (.cells #[.int .i64 0, .slice none 0 0] 26)
  rw [show ((w.alloc (.cells #[.int .i64 N, .slice a n c] 26)).alloc (.cells #[.int .i64 u, .int .i64 v] 28)).heap.size = w.heap.size + 2 by simp] at h
  exact h
/-- tours in the making behind these boxes -/
structure RSt (w W4 : World) (lo : Nat) (a : Option Addr) (m c : Nat) (R : List Rw) (u : World) : Prop where
  fb : FB u lo u.heap.size a m c R
  bel : Below lo w u
  low : ∀ g, (Value.slice a m c).ownBlock = some g → g < w.heap.size ∨ w.heap.size + 4 ≤ g
  box : ∀ k, w.heap.size ≤ k → k < w.heap.size + 4 → u.heap[k]? = W4.heap[k]?
  size : w.heap.size + 4 ≤ u.heap.size
theorem RSt.up {w W4 : World} {lo : Nat} {a : Option Addr} {m c : Nat} {R : List Rw} {u v : World} (h : RSt w W4 lo a m c R u) (hlo : lo ≤ w.heap.size) (hb : Below u.heap.size u v) : RSt w W4 lo a m c R v :=
  ⟨h.fb.keep hb, h.bel.trans (hb.mono (by have := h.size; omega)), h.low, fun k h1 h2 => (hb.block k (by have := h.size; omega)).trans (h.box k h1 h2), Nat.le_trans h.size hb.size⟩
theorem RSt.cell {w W4 : World} {lo : Nat} {a : Option Addr} {m c : Nat} {R : List Rw} {u : World} (h : RSt w W4 lo a m c R u) {k o : Nat} (h1 : w.heap.size ≤ k) (h2 : k < w.heap.size + 4) : u.cell? ⟨k, o, none⟩ = W4.cell? ⟨k, o, none⟩ := World.cell?_of_block (w := W4) (a := ⟨k, o, none⟩) (h.box k h1 h2)
theorem RSt.app {w W4 : World} {lo : Nat} {a : Option Addr} {m c : Nat} {R : List Rw} {u u' : World} (h : RSt w W4 lo a m c R u) (hlo : lo ≤ w.heap.size) {r : Rw} (hr : RwB u r) (hl : lo ≤ r.g) (hne : ∀ x ∈ R, x.g ≠ r.g) {o : Obj} {G cap : Nat}
    (ho : u'.ownsRow lo 39 1 (.slice (some ⟨G, 0, none⟩) (m + 1) cap) (m + 1) (rhs R ++ [r.hdr])) (hg : (u.alloc o).grownBy u' (Value.slice a m c).ownBlock) (hG : (Value.slice a m c).ownBlock = some G ∨ G = u.heap.size + 1) :
    RSt w W4 lo (some ⟨G, 0, none⟩) (m + 1) cap (R ++ [r]) u' := by
  obtain ⟨a', c', e, hF⟩ := h.fb.app hr hl hne ho hg
  simp at e
  obtain ⟨rfl, rfl⟩ := e
  have hs := h.size
  have hgs := hg.size
  simp at hgs
  refine ⟨hF, ?_, fun g e => ?_, fun k h1 h2 => ?_, by omega⟩
  · have hb0 : Below lo w (u.alloc o) := h.bel.alloc (by omega) o
    exact hb0.grown hg (by simp; omega) (fun j hj => (h.fb.own.lt j hj).1)
  · simp [Value.ownBlock] at e
    subst e
    rcases hG with hG | hG
    · exact h.low G hG
    · omega
  · rw [hg.block k (by simp; omega) (fun e => by have := h.low k e.symm; omega), Below.heap_alloc u o k (by omega)]
    exact h.box k h1 h2

theorem Ts.parts {w : World} {B b off n : Nat} {ts : List (List Int)} (h : Ts w B (some ⟨b, off, none⟩) n ts) (hn : 0 < n) : b < B := by
  rcases h.2 with h0 | ⟨b', off', hb, hl, _⟩
  · omega
  · simp at hb
    omega
/-- the tours that stay -/
def stay (ts : List (List Int)) (u v : Int) : List (List Int) := ts.filter fun t => !comB t [u, v]
theorem stay_take {ts : List (List Int)} {u v : Int} {k : Nat} {t : List Int} (h : ts[k]? = some t) : stay (ts.take (k + 1)) u v = stay (ts.take k) u v ++ if comB t [u, v] = true then [] else [t] := by
  unfold stay
  rw [take_snocF ts k t h, List.filter_append]
  cases hc : comB t [u, v] <;> simp [hc]

theorem newsV (w : World) (x : Value) : ∀ j u, ([x] : List Value)[j]? = some u → (w.alloc (.cells #[x] 39)).cell? ((⟨w.heap.size, 0, none⟩ : Addr).add j) = some u := by
  intro j u hj
  rcases j with _ | j
  · simp at hj; subst hj; simp [Addr.add]
  · simp at hj
/-- one list, laid anew -/
theorem laidOne7 {t : List Int} {x : Option Addr} {cx : Nat} (ht : t.length ≤ 3000000) {w : World} (h : Is w w.heap.size x t.length t) :
    Calls Tryz.prog 104 #[.slice (some ⟨w.heap.size, 0, none⟩) 1 1] (w.alloc (.cells #[.slice x t.length cx] 39)) fun e w' => ∃ g, e = .returned (.slice (some ⟨g, 0, none⟩) t.length t.length) ∧ w'.ownsRow (w.heap.size + 1) 3 1 (.slice (some ⟨g, 0, none⟩) t.length t.length) t.length (ic t) ∧ Below (w.heap.size + 1) (w.alloc (.cells #[.slice x t.length cx] 39)) w' := by
  have hb : Good w (w.alloc (.cells #[.slice x t.length cx] 39)) := (Good.refl w).alloc _
  have hP : PartsI (w.alloc (.cells #[.slice x t.length cx] 39)) w.heap.size [⟨x, t.length, cx, t⟩] := ⟨by simp, fun j p hp => by
    rcases j with _ | j
    · simp at hp
      subst hp
      exact ⟨by simp, h.up hb⟩
    · simp at hp⟩
  refine (laid_any _ _ 1 rfl (by omega) _ hP (by simp [qLen]; omega)).mono ?_
  rintro e w' ⟨g, m, he, ho, hb2⟩
  have hq : qAll [⟨x, t.length, cx, t⟩] = t := by simp [qAll]
  rw [hq] at ho
  have hm : m = t.length := by have := ho.1; rw [ic_len] at this; omega
  subst hm
  exact ⟨g, he, by simpa using ho, by simpa using hb2⟩

set_option maxRecDepth 100000 in
set_option maxHeartbeats 4000000 in
theorem replanted_any (N : Int) (ts : List (List Int)) (u v : Int) (n : Nat) (a : Option Addr) (c : Nat) (lo : Nat) (R0 : List Rw) (m : Nat) (a1 : Option Addr) (c1 : Nat) (hP : FP N ts) (hm0 : 0 < m) (hm : m ≤ 2)
    (hQ : FQ N (rts R0 ++ stay ts u v)) (w : World) (hlo : lo ≤ w.heap.size) (h : Ts w lo a n ts) (hR : FB w lo w.heap.size a1 m c1 R0) :
    Calls Tryz.prog 54 #[.agg #[.int .i64 N, .slice a n c], .agg #[.int .i64 u, .int .i64 v], .slice a1 m c1] w fun e w' => ∃ a' m' c' R, e = .returned (.agg #[.int .i64 N, .slice a' m' c']) ∧ FB w' lo w'.heap.size a' m' c' R ∧
      (rts R).Perm (rts R0 ++ stay ts u v) ∧ (rts R).Pairwise (fun s t => mnV s < mnV t) ∧ Below lo w w' := by
  obtain ⟨i0, hi, hz0, hz1, hz2⟩ := info_parts infoIT
  have hlen := h.1
  have hn12 : n ≤ 12 := by have := hP.2.2.1; omega
  have HB : Hid (∀ t ∈ ts, tB t = true) := fun t ht => (hP.q.1 t ht).1
  have HA := hideIt h
  have HW4 := hideIt (rw4_size w N a n c u v)
  have S0 : RSt w (rw4 w N a n c u v) lo a1 m c1 R0 (rw4 w N a n c u v) := ⟨hR.keep (rw4_bel w N a n c u v), (rw4_bel w N a n c u v).mono hlo, fun g hg => .inl (hR.row g hg), fun _ _ _ => rfl, by rw [rw4_size]; exact Nat.le_refl _⟩
  have HQ := hideIt hQ
  have HC : Hid (∀ {a' m' c' R x}, RSt w (rw4 w N a n c u v) lo a' m' c' R x → (x.cell? ⟨w.heap.size, 0, none⟩ = some (.int .i64 N) ∧ x.cell? ⟨w.heap.size, 1, none⟩ = some (.slice a n c)) ∧ Is x x.heap.size (some ⟨w.heap.size + 3, 0, none⟩) 2 [u, v]) := fun {a' m' c' R x} hx => by
    have hsz := hx.size
    refine ⟨⟨by rw [hx.cell (Nat.le_refl _) (by omega)]; simp [rw4, go_sem], by rw [hx.cell (Nat.le_refl _) (by omega)]; simp [rw4, go_sem]⟩, rfl, .inr ⟨w.heap.size + 3, 0, rfl, by omega, fun j y hy => ?_⟩⟩
    rw [hx.cell (by omega) (by omega)]
    rcases j with _ | _ | j
    · simp at hy; subst hy; simp [rw4, go_sem]
    · simp at hy; subst hy; simp [rw4, go_sem]
    · simp at hy
  clear h hR hQ hP
  go_enter Tryz.func54, Tryz.ntmps54
  go_wp2
  go_loopw [2, 18] (fun r i wr => ∃ (k m' c' : Nat) (a' : Option Addr) (R : List Rw), k ≤ n ∧ 0 < m' ∧ m' ≤ 2 + k ∧ i = .int .i64 (k : Int) ∧ r = .slice a' m' c' ∧ Hid (rts R = rts R0 ++ stay (ts.take k) u v) ∧ RSt w (rw4 w N a n c u v) lo a' m' c' R wr) (fun _ i _ => n - (intOf i).toNat)
  case atStart => exact ⟨0, m, c1, a1, R0, by omega, hm0, by omega, rfl, rfl, by show _ = _; simp [stay], S0⟩
  case round =>
    obtain ⟨k, m', c', a', R, hk, hm0', hmk, rfl, rfl, HR, hst⟩ := hrel
    clear S0
    obtain ⟨⟨q0, q1⟩, q2⟩ := HC.out hst
    by_cases hlt : k < n
    · obtain ⟨t, ht⟩ : ∃ t, ts[k]? = some t := ⟨ts[k]'(by omega), List.getElem?_eq_getElem (by omega)⟩
      rcases (HA.out.below hst.bel (Nat.le_refl _)).2 with hz | ⟨b, off, rfl, hbl, hc⟩
      · omega
      · obtain ⟨x, cx, e0, iI, _⟩ := hc k t ht
        have hsz := hst.size
        have hlo2 : lo ≤ wr.heap.size := by omega
        have hI := iI.mono hlo2
        have hl := tB_len (HB.out t (List.mem_of_getElem? ht))
        have b1 : (0 : Int) ≤ (k : Int) := by omega
        have b2 : (k : Int) < (n : Int) := by omega
        have HG := hideIt (someIn_any t [u, v] t.length x cx (by omega) 2 (some ⟨w.heap.size + 3, 0, none⟩) 2 (by omega) wr hI q2)
        have HST := hideIt hst
        have HTk := hideIt (stay_take (u := u) (v := v) ht)
        cases hcm : comB t [u, v] with
        | true =>
          rw [hcm] at HG
          have HR2 : Hid (rts R = rts R0 ++ stay (ts.take (k + 1)) u v) := by show _ = _; rw [HTk.out, HR.out, hcm]; simp
          clear hc ht iI hI hst hcm q2 HTk
          go_wp2_with (go_at_call 51; refine HG.out.mono ?_; rintro e w1 ⟨rfl, hb1⟩)
          exact ⟨⟨k + 1, m', c', a', R, by omega, by omega, by omega, by go_num, rfl, HR2, HST.out.up hlo hb1⟩, by simp [intOf]; omega⟩
        | false =>
          rw [hcm] at HG
          have HR2 : Hid (∀ r : Rw, r.t = t → rts (R ++ [r]) = rts R0 ++ stay (ts.take (k + 1)) u v) := fun r hr => by rw [rts_snoc, HTk.out, HR.out, hcm, hr]; simp
          have HII := hideIt hI
          have HCc : Hid (∀ x', Below wr.heap.size wr x' → x'.cell? ⟨b, off + k, none⟩ = some (.slice x t.length cx)) := fun x' hx' => by rw [hx'.cell (by show b < _; omega)]; exact e0
          clear hc ht iI hI hst hcm q2 HTk
          go_wp2_with (go_at_call 51; refine HG.out.mono ?_; rintro e w1 ⟨rfl, hb1⟩; refine Hid.out ?_)
          refine (show ∀ {p : Prop}, p → Hid p from fun h => h) ?_
          have HS1 := hideIt (HST.out.up hlo hb1)
          obtain ⟨⟨q3, q4⟩, _⟩ := HC.out HS1.out
          have e1 := HCc.out w1 hb1
          have HL := hideIt (laidOne7 (cx := cx) (by omega : t.length ≤ 3000000) (HII.out.up hb1))
          have hsz1 := HS1.out.size
          clear HST hb1 HCc HG q0 q1 e0
          go_wp2_with (go_at_call 104; refine HL.out.mono ?_; rintro e w3 ⟨g, rfl, ho, hb3⟩; refine Hid.out ?_)
          refine (show ∀ {p : Prop}, p → Hid p from fun h => h) ?_
          have hb3' : Below w1.heap.size w1 w3 := ((Below.refl _ _).alloc (Nat.le_refl _) _).trans (hb3.mono (by omega))
          have HS3 := hideIt (HS1.out.up hlo hb3')
          have HRw := hideIt (RwB.of_own ho)
          have hgl := (ho.lt g rfl).1
          have hsz3 := HS3.out.size
          have HFr : Hid (∀ x ∈ R, x.g ≠ g) := fun x hx e => by have := (HS1.out.fb.ins x hx).2.2; omega
          clear ho hb3 hb3' HS1 HL q3 q4 e1
          go_wp2_with (at_builtin; refine wpList_append_lies _ rfl _ _ 24 rfl lo 39 i0 _ 1 24 Tryz.underlying24 hi hz0 hz1 hz2 rfl (by decide) _ _ _ rfl (HS3.out.fb.own.alloc _) ⟨w3.heap.size, 0, none⟩ 1 1 [.slice (some ⟨g, 0, none⟩) t.length t.length] rfl rfl (newsV w3 _) (by intro y hy; simp at hy; subst hy; rfl) (by omega) (by unfold maxLen; omega) (by omega) (by simp; omega) (w3.heap.size + 1) (by simp) ?_)
          intro g5 c5 w5 hown5 hg5 hG5 _
          have S5 := HS3.out.app hlo (r := ⟨g, t.length, t⟩) HRw.out (by show lo ≤ g; omega) HFr.out hown5 hg5 hG5
          clear hown5 hg5 hG5 HS3
          go_wp2
          exact ⟨⟨k + 1, m' + 1, c5, some ⟨g5, 0, none⟩, R ++ [⟨g, t.length, t⟩], by omega, by omega, by omega, by go_num, rfl, HR2.out _ rfl, S5⟩, by simp [intOf]; omega⟩
    · obtain rfl : k = n := by omega
      have HR2 : Hid (rts R = rts R0 ++ stay ts u v) := by show _ = _; rw [HR.out, List.take_of_length_le (by omega)]
      have hq := HQ.out
      rw [← HR2.out] at hq
      have HSo := hideIt (sortFT_any R (fun r hr => (hq.1 r.t (List.mem_map.2 ⟨r, hr, rfl⟩)).1) (by
        have h1 : (rts R).Pairwise fun s t => mnV s ≠ mnV t := hq.2.1.imp_of_mem fun hs ht hap => mn_apart (hq.1 _ hs).1 (hq.1 _ ht).1 hap
        unfold rts at h1
        rw [List.pairwise_map] at h1
        exact h1) lo m' a' c' hm0' (by omega) wr hst.fb)
      have HST := hideIt hst
      clear hq hst q2
      go_wp2_with (go_at_call 105; refine HSo.out.mono ?_; rintro e w2 ⟨rfl, R2, hF2, hp2, hs2, hg2⟩; refine Hid.out ?_)
      refine (show ∀ {p : Prop}, p → Hid p from fun h => h) ?_
      have hsz := HST.out.size
      have S2 : RSt w (rw4 w N a k c u v) lo a' m' c' R2 w2 := ⟨hF2, HST.out.bel.grown hg2 (by omega) (fun j hj => (HST.out.fb.own.lt j hj).1), HST.out.low, fun j h1 h2 => by
        rw [hg2.block j (by omega) (fun e => by have := HST.out.low j e.symm; omega)]
        exact HST.out.box j h1 h2, Nat.le_trans hsz hg2.size⟩
      obtain ⟨⟨q3, q4⟩, _⟩ := HC.out S2
      have f6 : w2.heap[w.heap.size + 2]? = some (.cells #[.int .i64 0, .slice none 0 0] 26 (0, 0)) := by
        rw [S2.box _ (by omega) (by omega)]
        exact rw4_third w N a k c u v
      have f7 := frozen_of_row w2 (w.heap.size + 2) 0 _ _ f6
      have f8 := frozen_of_row w2 (w.heap.size + 2) 1 _ _ f6
      have f9 := cell_of_row w2 (w.heap.size + 2) 0 _ _ _ f6
      have f10 := cell_of_row w2 (w.heap.size + 2) 1 _ _ _ f6
      have HF6 := hideIt f6
      have HS2 := hideIt S2
      have HP2 := hideIt hp2
      have HA2 := hideIt hs2
      clear HST hF2 hp2 hs2 hg2 S2 f6 HSo q0 q1
      simp at f9 f10
      go_wp2
      refine bodyPost_ret (v := .agg #[.int .i64 N, .slice a' m' c']) (by simp [results, Tryz.results54, go_sem, f9, f10]) rfl ⟨a', m', c', R2, rfl, ?_, ?_, HA2.out, ?_⟩
      · have h1 := HS2.out.fb.setTyped HF6.out 0 (.int .i64 N)
        have h2 := h1.setTyped (x := w.heap.size + 2) (cs := #[.int .i64 N, .slice none 0 0]) (fr := (0, 0)) (by rw [heap_setCell_same w2 (w.heap.size + 2) 0 _ 26 _ HF6.out]; rfl) 1 (.slice a' m' c')
        exact h2.hi (by simp [World.setCell]) (by simp [World.setCell])
      · have h1 := HP2.out.map Rw.t
        show (R2.map Rw.t).Perm _
        rw [← HR2.out]
        exact h1
      · exact (HS2.out.bel.setCell (p := ⟨w.heap.size + 2, 0, none⟩) (by show lo ≤ w.heap.size + 2; omega) _).setCell (p := ⟨w.heap.size + 2, 1, none⟩) (by show lo ≤ w.heap.size + 2; omega) _
end Go.Proofs.YtklalfkdikjkfaaGreat
namespace Go.Proofs.YtklalfkdikjkfaaGreat
open Go.RowKit

set_option maxRecDepth 100000 in
set_option maxHeartbeats 8000000 in
theorem iLink_any (N : Int) (ts : List (List Int)) (f : EdgeV) (n : Nat) (a : Option Addr) (c : Nat) (hn : n + lnS ts ≤ 1048576) (w : World) (h : Ts w w.heap.size a n ts) :
    Calls Tryz.prog 11 #[.agg #[.int .i64 N, .slice a n c], .agg #[.int .i64 f.1, .int .i64 f.2]] w fun e w' => FAns w N (linkO N ts f) e w' := by
  obtain ⟨W, hW⟩ : ∃ W, W = w3of w N a n c f := ⟨_, rfl⟩
  have hsz : W.heap.size = w.heap.size + 3 := by rw [hW, w3_size]
  have gW : Good w W := by rw [hW]; exact w3_good _ _ _ _ _ _
  have HA := hideIt (h.up gW)
  have HAw := hideIt h
  have hlen := h.1
  have HT : Hid (∀ x u, Good W u → Calls Tryz.prog 10 #[.agg #[.int .i64 N, .slice a n c], .int .i64 x] u fun e v => e = .returned (.int .i64 (treeO N ts x)) ∧ Good W v) := fun x u hu =>
    (iTreeOf_any N ts x n a c hn u (HA.out.up hu)).mono fun _ _ ⟨he, hb⟩ => ⟨he, hu.up hb⟩
  have HE : Hid (∀ u, Good W u → Calls Tryz.prog 52 #[.int .i64 N, .agg #[.int .i64 f.1, .int .i64 f.2]] u fun e v => e = .returned (.bool (eB N f)) ∧ Good W v) := fun u hu =>
    (iEdgeOk_any N f u).mono fun _ _ ⟨he, hb⟩ => ⟨he, hu.up hb⟩
  have HC : Hid (∀ u, Good W u → ((u.cell? ⟨w.heap.size, 0, none⟩ = some (.int .i64 N) ∧ u.cell? ⟨w.heap.size, 1, none⟩ = some (.slice a n c)) ∧ u.cell? ⟨w.heap.size + 1, 0, none⟩ = some (.int .i64 f.1) ∧ u.cell? ⟨w.heap.size + 1, 1, none⟩ = some (.int .i64 f.2)) ∧ Good W u) := fun u hu => ⟨w3_cells (hW ▸ hu), hu⟩
  have HO : Hid (∀ u, Below (w.heap.size + 3) W u → (u.cell? ⟨w.heap.size + 2, 0, none⟩ = some (.int .i64 0) ∧ u.cell? ⟨w.heap.size + 2, 1, none⟩ = some (.slice none 0 0)) ∧ u.frozen? ⟨w.heap.size + 2, 0, none⟩ = false ∧ u.frozen? ⟨w.heap.size + 2, 1, none⟩ = false) := fun u hu => w3_out (hW ▸ hu)
  have HNo : Hid (∀ u, Good W u → linkO N ts f = none → FAns w N (linkO N ts f) (.returned (.tuple #[.agg #[.int .i64 0, .slice none 0 0], .bool false])) ((u.setCell ⟨w.heap.size + 2, 0, none⟩ (.int .i64 0)).setCell ⟨w.heap.size + 2, 1, none⟩ (.slice none 0 0))) := fun u hu ho =>
    fans_no ho (((gW.up hu).setCell (p := ⟨w.heap.size + 2, 0, none⟩) (by show w.heap.size ≤ w.heap.size + 2; omega) _).setCell (p := ⟨w.heap.size + 2, 1, none⟩) (by show w.heap.size ≤ w.heap.size + 2; omega) _)
  have HS0 := hideIt (HC.out _ (Good.refl W).drew)
  have HGW := hideIt gW
  go_enter Tryz.func11, Tryz.ntmps11
  go_upto_region 1 with fail
  clear h gW
  have hW' : (((w.alloc (.cells #[.int .i64 N, .slice a n c] 26)).alloc (.cells #[.int .i64 f.1, .int .i64 f.2] 28)).alloc (.cells #[.int .i64 0, .slice none 0 0] 26)) = W := hW.symm
  rw [hW']
  clear hW hW'
  go_cut [6, 7] (fun p q wx => p = .int .i64 (treeO N ts f.1) ∧ q = .int .i64 (treeO N ts f.2) ∧ Good W wx)
  case first =>
    have hS0 := HS0.out
    go_region_held3 (fun u => ((u.cell? ⟨w.heap.size, 0, none⟩ = some (.int .i64 N) ∧ u.cell? ⟨w.heap.size, 1, none⟩ = some (.slice a n c)) ∧ u.cell? ⟨w.heap.size + 1, 0, none⟩ = some (.int .i64 f.1) ∧ u.cell? ⟨w.heap.size + 1, 1, none⟩ = some (.int .i64 f.2)) ∧ Good W u)
      (first | assumption)
      (first | (go_at_call 10; refine (HT.out _ _ (And.right (by assumption))).mono ?_; rintro e w1 ⟨rfl, hg1⟩; have hS1 := HC.out _ hg1))
    all_goals
      go_wp2_with fail
      go_meet
      exact ⟨rfl, rfl, hg1⟩
  case rest =>
    obtain ⟨rfl, rfl, G1⟩ := hcut
    obtain ⟨⟨⟨k0, k1⟩, k2, k3⟩, _⟩ := HC.out _ G1
    have HE1 := hideIt (HE.out _ G1)
    cases hE : eB N f with
    | false =>
      rw [hE] at HE1
      have HL := hideIt (linkO_no (N := N) (ts := ts) (e := f) (fun h => by rw [hE] at h; exact absurd h.2.1 (by simp)))
      clear hE HS0
      go_wp2_with (go_at_call 52; refine HE1.out.mono ?_; rintro e w2 ⟨rfl, G2⟩; refine Hid.out ?_)
      refine (show ∀ {p : Prop}, p → Hid p from fun h => h) ?_
      obtain ⟨⟨r0, r1⟩, r2, r3⟩ := HO.out _ (by rw [← hsz]; exact G2)
      have HN2 := hideIt (HNo.out _ G2 HL.out)
      clear k0 k1 k2 k3
      go_wp2
      exact bodyPost_ret (v := .tuple #[.agg #[.int .i64 0, .slice none 0 0], .bool false]) (by simp [results, Tryz.results11, go_sem, r0, r1]) rfl HN2.out
    | true =>
      rw [hE] at HE1
      by_cases hP : FP N ts
      · obtain ⟨M, rfl, hM1, hM2⟩ := FP_nat hP
        obtain ⟨i, j, p, q, hi, hj, hu, hv⟩ := edge_at hP hE
        have e1 : treeO (M : Int) ts f.1 = (i : Int) := (treeO_yes hP f.1).trans (trI_of hP.q hi hu)
        have e2 : treeO (M : Int) ts f.2 = (j : Int) := (treeO_yes hP f.2).trans (trI_of hP.q hj hv)
        rw [e1, e2]
        have hil := (List.getElem?_eq_some_iff.1 hi).1
        have hjl := (List.getElem?_eq_some_iff.1 hj).1
        rcases HA.out.2 with hz | ⟨b, off, rfl, hbl, hc⟩
        · omega
        · obtain ⟨x, cx, ci, ii, hcx⟩ := hc i p hi
          obtain ⟨y, cy, cj, ij, hcy⟩ := hc j q hj
          have hp := tB_len (hP.q.1 p (List.mem_of_getElem? hi)).1
          have hq := tB_len (hP.q.1 q (List.mem_of_getElem? hj)).1
          have HJ : Hid (∀ u, Good W u → Calls Tryz.prog 53 #[.slice x p.length cx, .int .i64 f.1, .slice y q.length cy, .int .i64 f.2] u fun e v => TAns u (joO p f.1 q f.2) e v) := fun u hu =>
            iJoinTours_any p f.1 q f.2 p.length x cx (by omega) hcx q.length y cy (by omega) hcy u (ii.up hu) (ij.up hu)
          have HC4 : Hid (∀ u, Good W u → (((u.cell? ⟨w.heap.size, 0, none⟩ = some (.int .i64 (M : Int)) ∧ u.cell? ⟨w.heap.size, 1, none⟩ = some (.slice (some ⟨b, off, none⟩) n c)) ∧ u.cell? ⟨w.heap.size + 1, 0, none⟩ = some (.int .i64 f.1) ∧ u.cell? ⟨w.heap.size + 1, 1, none⟩ = some (.int .i64 f.2)) ∧ u.cell? ⟨b, off + i, none⟩ = some (.slice x p.length cx) ∧ u.cell? ⟨b, off + j, none⟩ = some (.slice y q.length cy)) ∧ Good W u) := fun u hu =>
            ⟨⟨(HC.out u hu).1, by rw [hu.cell hbl]; exact ci, by rw [hu.cell hbl]; exact cj⟩, hu⟩
          have b1 : (0 : Int) ≤ (i : Int) := by omega
          have b2 : (i : Int) < (n : Int) := by omega
          have b3 : (0 : Int) ≤ (j : Int) := by omega
          have b4 : (j : Int) < (n : Int) := by omega
          have d1 : decide ((i : Int) < 0) = false := decide_eq_false (by omega)
          have HAw2 := HAw
          have HSame : Hid (i = j → x = y ∧ cx = cy) := fun h => by
            subst h
            rw [ci] at cj
            simp at cj
            exact ⟨cj.1, cj.2.2⟩
          clear hc ii ij ci cj e1 e2 HS0
          go_wp2_with (go_at_call 52; refine HE1.out.mono ?_; rintro e w2 ⟨rfl, G2⟩; refine Hid.out ?_)
          refine (show ∀ {p : Prop}, p → Hid p from fun h => h) ?_
          have g2d : Good W w2.drew := G2.drew
          have hS2 := HC4.out _ g2d
          clear k0 k1 k2 k3 HE1
          by_cases hij : i = j
          · obtain ⟨rfl, rfl⟩ := HSame.out hij
            subst hij
            have hpq : p = q := by rw [hi] at hj; exact Option.some.inj hj
            subst hpq
            rw [jo_same hu] at HJ
            have HL := hideIt (linkO_no (N := (M : Int)) (ts := ts) (e := f) (fun h => h.2.2 ((trI_of hP.q hi hu).trans (trI_of hP.q hi hv).symm)))
            have HJ2 : Hid (∀ u, Good W u → Calls Tryz.prog 53 #[.slice x p.length cx, .int .i64 f.1, .slice x p.length cx, .int .i64 f.2] u fun e v => ∃ aJ mJ cJ, e = .returned (.tuple #[.slice aJ mJ cJ, .bool false]) ∧ Good W v) := fun u hu =>
              (HJ.out u hu).mono fun _ _ ⟨aJ, mJ, cJ, he, _, hb⟩ => ⟨aJ, mJ, cJ, he, hu.up hb⟩
            have HC5 : Hid (∀ u, Good W u → (((u.cell? ⟨w.heap.size, 0, none⟩ = some (.int .i64 (M : Int)) ∧ u.cell? ⟨w.heap.size, 1, none⟩ = some (.slice (some ⟨b, off, none⟩) n c)) ∧ u.cell? ⟨w.heap.size + 1, 0, none⟩ = some (.int .i64 f.1) ∧ u.cell? ⟨w.heap.size + 1, 1, none⟩ = some (.int .i64 f.2)) ∧ u.cell? ⟨b, off + i, none⟩ = some (.slice x p.length cx)) ∧ Good W u) := fun u hu => ⟨⟨(HC4.out u hu).1.1, (HC4.out u hu).1.2.1⟩, hu⟩
            have hS5 := HC5.out _ g2d
            clear hS2
            clear hi hj hu hv hE HJ hP
            go_upto_region 4 with fail
            go_region_held3 (fun u => (((u.cell? ⟨w.heap.size, 0, none⟩ = some (.int .i64 (M : Int)) ∧ u.cell? ⟨w.heap.size, 1, none⟩ = some (.slice (some ⟨b, off, none⟩) n c)) ∧ u.cell? ⟨w.heap.size + 1, 0, none⟩ = some (.int .i64 f.1) ∧ u.cell? ⟨w.heap.size + 1, 1, none⟩ = some (.int .i64 f.2)) ∧ u.cell? ⟨b, off + i, none⟩ = some (.slice x p.length cx)) ∧ Good W u)
              (first | assumption)
              (first | (go_at_call 53; refine (HJ2.out _ (And.right (by assumption))).mono ?_; rintro e w3 ⟨aJ, mJ, cJ, rfl, G3⟩; have hS3 := HC5.out _ G3))
            all_goals
              obtain ⟨⟨r0, r1⟩, r2, r3⟩ := HO.out _ (by rw [← hsz]; exact G3)
              have HN2 := hideIt (HNo.out _ G3 HL.out)
              go_wp2
              exact bodyPost_ret (v := .tuple #[.agg #[.int .i64 0, .slice none 0 0], .bool false]) (by simp [results, Tryz.results11, go_sem, r0, r1]) rfl HN2.out
          · obtain ⟨J, hJ, LK⟩ := lk_is hP hi hj hij hu hv
            rw [hJ] at HJ
            have HL := hideIt (linkO_yes hP hE hi hj hu hv hij hJ)
            have hJB := LK.jo.ok
            have hJl := tB_len hJB
            have hFQ := link_fq hP hi hj hu hv hij hJ
            have hWo := wo_stay hP.q hi hj hu hv
            have HJ2 : Hid (∀ u, Good W u → Calls Tryz.prog 53 #[.slice x p.length cx, .int .i64 f.1, .slice y q.length cy, .int .i64 f.2] u fun e v => ∃ g cJ, e = .returned (.tuple #[.slice (some ⟨g, 0, none⟩) J.length cJ, .bool true]) ∧ RwB v ⟨g, cJ, J⟩ ∧ w.heap.size + 3 ≤ g ∧ Good W v) := fun u hu =>
              (HJ.out u hu).mono fun _ v ⟨aJ, mJ, cJ, he, ho, hb⟩ => by
                have ho' : v.ownsRow u.heap.size 3 1 (.slice aJ mJ cJ) mJ (ic J) := ho
                have hm : mJ = J.length := by have := ho'.1; rw [ic_len] at this; omega
                subst hm
                obtain ⟨g, rfl, _, hg⟩ := own_some ho' (by omega)
                exact ⟨g, cJ, he, RwB.of_own ho', by have := hu.size; omega, hu.up hb⟩
            have HRep : Hid (∀ (u : World) (R0 : List Rw) (a1 : Option Addr) (c1 : Nat × Nat), lnS ts ≤ 1048576 → R0 = [(⟨c1.1, c1.2, J⟩ : Rw)] → Below (w.heap.size + 3) W u → FB u (w.heap.size + 3) u.heap.size a1 1 1 R0 → Calls Tryz.prog 54 #[.agg #[.int .i64 (M : Int), .slice (some ⟨b, off, none⟩) n c], .agg #[.int .i64 f.1, .int .i64 f.2], .slice a1 1 1] u fun e v => ∃ a' m' c' R, e = .returned (.agg #[.int .i64 (M : Int), .slice a' m' c']) ∧ FB v (w.heap.size + 3) v.heap.size a' m' c' R ∧ rts R = srtK (woK ts [i, j] ts.length ++ [J]) M ∧ Below (w.heap.size + 3) W v) := fun u R0 a1 c1 _ hR0 hu hF => by
              subst hR0
              have hst : woK ts [i, j] ts.length = stay ts f.1 f.2 := hWo
              have hpm : (rts [(⟨c1.1, c1.2, J⟩ : Rw)] ++ stay ts f.1 f.2).Perm (woK ts [i, j] ts.length ++ [J]) := by
                rw [hst]
                exact List.perm_append_comm (l₁ := [J])
              refine (replanted_any (M : Int) ts f.1 f.2 n (some ⟨b, off, none⟩) c (w.heap.size + 3) _ 1 a1 1 hP (by omega) (by omega) (hFQ.perm hpm.symm) u (by have := hu.size; omega) (((HAw2.out.up HGW.out).mono (Nat.le_of_eq hsz)).below hu (Nat.le_refl _)) hF).mono ?_
              rintro e v ⟨a', m', c', R, he, h1, h2, h3, h4⟩
              exact ⟨a', m', c', R, he, h1, ord_is hM1 hM2 hFQ (h2.trans hpm) h3, hu.trans h4⟩
            clear hi hj hu hv hE HJ hP LK hJ hFQ hWo
            go_upto_region 4 with fail
            go_region_held3 (fun u => (((u.cell? ⟨w.heap.size, 0, none⟩ = some (.int .i64 (M : Int)) ∧ u.cell? ⟨w.heap.size, 1, none⟩ = some (.slice (some ⟨b, off, none⟩) n c)) ∧ u.cell? ⟨w.heap.size + 1, 0, none⟩ = some (.int .i64 f.1) ∧ u.cell? ⟨w.heap.size + 1, 1, none⟩ = some (.int .i64 f.2)) ∧ u.cell? ⟨b, off + i, none⟩ = some (.slice x p.length cx) ∧ u.cell? ⟨b, off + j, none⟩ = some (.slice y q.length cy)) ∧ Good W u)
              (first | assumption)
              (first | (go_at_call 53; refine (HJ2.out _ (And.right (by assumption))).mono ?_; rintro e w3 ⟨g, cJ, rfl, hrw, hgg, G3⟩; have hS3 := HC4.out _ G3))
            all_goals
              obtain ⟨⟨⟨k0, k1⟩, k2, k3⟩, _⟩ := HC.out _ G3
              have B3 : Below (w.heap.size + 3) W (w3.alloc (.cells #[.slice (some ⟨g, 0, none⟩) J.length cJ] 39)) := by rw [← hsz]; exact G3.alloc _
              have hs3 := G3.size
              have HFb : FB (w3.alloc (.cells #[.slice (some ⟨g, 0, none⟩) J.length cJ] 39)) (w.heap.size + 3) (w3.alloc (.cells #[.slice (some ⟨g, 0, none⟩) J.length cJ] 39)).heap.size (some ⟨w3.heap.size, 0, none⟩) 1 1 [⟨g, cJ, J⟩] := by
                have h0 := World.ownsRow_lit (base := w.heap.size + 3) (e := 39) (size := 1) w3 #[.slice (some ⟨g, 0, none⟩) J.length cJ] 1 (by omega) (by unfold maxLen; omega) (by simp)
                have hr2 : RwB (w3.alloc (.cells #[.slice (some ⟨g, 0, none⟩) J.length cJ] 39)) ⟨g, cJ, J⟩ := hrw.rng (l2 := g + 1) (h2 := g + 1) (Rng.of_below ((Below.refl _ _).alloc (Nat.le_refl _) _)) (.inl (Nat.le_refl _))
                exact ⟨rfl, h0, fun x hx => (h0.lt x hx).2, Nat.le_refl _, fun r hr => by
                  simp at hr
                  subst hr
                  exact ⟨hr2, hgg, hr2.lt⟩, by simp⟩
              have HR3 := hideIt (HRep.out _ _ _ (g, cJ) (by omega) rfl B3 HFb)
              clear HRep HFb hrw B3 HJ2 HT HE HC4 hS2 hS3
              go_wp2_with (go_at_call 54; refine HR3.out.mono ?_; rintro e w4 ⟨a4, m4, c4, R4, rfl, F4, r4, B4⟩; refine Hid.out ?_)
              refine (show ∀ {p : Prop}, p → Hid p from fun h => h) ?_
              obtain ⟨⟨r0, r1⟩, r2, r3⟩ := HO.out _ B4
              have HF5 := hideIt ((F4.setLow (x := w.heap.size + 2) (by omega) 0 (.int .i64 (M : Int))).setLow (x := w.heap.size + 2) (by omega) 1 (.slice a4 m4 c4))
              have HB5 : Hid (Below w.heap.size w ((w4.setCell ⟨w.heap.size + 2, 0, none⟩ (.int .i64 (M : Int))).setCell ⟨w.heap.size + 2, 1, none⟩ (.slice a4 m4 c4))) := ((HGW.out.trans (B4.mono (by omega))).setCell (p := ⟨w.heap.size + 2, 0, none⟩) (by show w.heap.size ≤ w.heap.size + 2; omega) _).setCell (p := ⟨w.heap.size + 2, 1, none⟩) (by show w.heap.size ≤ w.heap.size + 2; omega) _
              have HR4 := hideIt r4
              clear F4 B4 r4 k0 k1 k2 k3
              go_wp2
              exact bodyPost_ret (v := .tuple #[.agg #[.int .i64 (M : Int), .slice a4 m4 c4], .bool true]) (by simp [results, Tryz.results11, go_sem, r0, r1]) rfl ⟨a4, m4, c4, R4, by rw [HL.out]; rfl, (HF5.out.lo (by omega)).hi (by simp [World.setCell]) (by simp [World.setCell]), by rw [HL.out, HR4.out]; rfl, HB5.out⟩
      · have HL := hideIt (linkO_no (N := N) (ts := ts) (e := f) (fun h => hP h.1))
        have e1 := treeO_no hP f.1
        have d1 : decide ((-1 : Int) < 0) = true := by decide
        rw [e1]
        clear hE HS0 e1
        go_wp2_with (go_at_call 52; refine HE1.out.mono ?_; rintro e w2 ⟨rfl, G2⟩; refine Hid.out ?_)
        refine (show ∀ {p : Prop}, p → Hid p from fun h => h) ?_
        obtain ⟨⟨r0, r1⟩, r2, r3⟩ := HO.out _ (by rw [← hsz]; exact G2)
        have HN2 := hideIt (HNo.out _ G2 HL.out)
        clear k0 k1 k2 k3
        go_wp2
        exact bodyPost_ret (v := .tuple #[.agg #[.int .i64 0, .slice none 0 0], .bool false]) (by simp [results, Tryz.results11, go_sem, r0, r1]) rfl HN2.out
end Go.Proofs.YtklalfkdikjkfaaGreat
