/- The library's sorting by a comparison, at this program, by the shelf's own laying in plain words. slices.SortedFunc of a list of edges by compareEdges: the edges ascending, in a list of their own. The edges of a forest as the two sides make them: pure. The specification's TreeOf and SizeOf. How long a list is to which an edge was put. The specification's EdgesOf. -/
import Derived.Shelf.SlSortCmp.NoneTotal
import Derived.Test.YtcpffonenhhfoabProg
import Derived.Test.YtcpffonenhhfoabKValsE
import Derived.Test.YtcpffonenhhfoabKCmp6
import Derived.Test.YtcpffonenhhfoabKHd7
import Derived.Test.YtcpffonenhhfoabKTourE
namespace Go.Proofs
open Go.Shelf
def Try.laysSF_ren : Go.Shelf.Ren := ⟨fun | 6 => 40 | 15 => 69 | 14 => 68 | 28 => 88 | 29 => 89 | 20 => 80 | 21 => 81 | 22 => 82 | 23 => 83 | 24 => 84 | 25 => 85 | 26 => 86 | 27 => 87 | 46 => 104 | 47 => 105 | 48 => 106 | 49 => 107 | 50 => 108 | 57 => 122 | n => n, fun | 22 => 38 | 24 => 32 | 25 => 57 | 3 => 3 | 39 => 80 | 0 => 0 | 53 => 97 | 55 => 99 | 4 => 4 | 46 => 90 | 45 => 89 | 50 => 94 | 5 => 5 | 9 => 9 | 66 => 108 | 70 => 112 | 76 => 122 | 77 => 123 | n => n, fun | n => n⟩
theorem Try.laysSF : Go.Proofs.SlLaysF0.n6 Try.prog Try.laysSF_ren := {
  mixed := by kernel_rfl
  f6 := ⟨Try.f40.name, by decide, Try.func40.trans (congrArg some (by kernel_rfl))⟩
  f14 := ⟨Try.f68.name, by decide, Try.func68.trans (congrArg some (by kernel_rfl))⟩
  f15 := Try.func69.trans (congrArg some (by kernel_rfl))
  f20 := ⟨Try.f80.name, by decide, Try.func80.trans (congrArg some (by kernel_rfl))⟩
  f21 := ⟨Try.f81.name, by decide, Try.func81.trans (congrArg some (by kernel_rfl))⟩
  f22 := ⟨Try.f82.name, by decide, Try.func82.trans (congrArg some (by kernel_rfl))⟩
  f23 := ⟨Try.f83.name, by decide, Try.func83.trans (congrArg some (by kernel_rfl))⟩
  f24 := ⟨Try.f84.name, by decide, Try.func84.trans (congrArg some (by kernel_rfl))⟩
  f25 := ⟨Try.f85.name, by decide, Try.func85.trans (congrArg some (by kernel_rfl))⟩
  f26 := ⟨Try.f86.name, by decide, Try.func86.trans (congrArg some (by kernel_rfl))⟩
  f27 := ⟨Try.f87.name, by decide, Try.func87.trans (congrArg some (by kernel_rfl))⟩
  f28 := Try.func88.trans (congrArg some (by kernel_rfl))
  f29 := Try.func89.trans (congrArg some (by kernel_rfl))
  f46 := ⟨Try.f104.name, by decide, Try.func104.trans (congrArg some (by kernel_rfl))⟩
  f47 := Try.func105.trans (congrArg some (by kernel_rfl))
  f48 := Try.func106.trans (congrArg some (by kernel_rfl))
  f49 := ⟨Try.f107.name, by decide, Try.func107.trans (congrArg some (by kernel_rfl))⟩
  f50 := ⟨Try.f108.name, by decide, Try.func108.trans (congrArg some (by kernel_rfl))⟩
  f57 := ⟨Try.f122.name, by decide, Try.func122.trans (congrArg some (by kernel_rfl))⟩
  t0 := Try.underlying0
  a0 := Try.isAgg0
  z0 := Try.sizeOf0
  v0 := Try.zeroValue0
  t3 := Try.underlying3
  a3 := Try.isAgg3
  z3 := Try.sizeOf3
  v3 := Try.zeroValue3
  t4 := Try.underlying4
  a4 := Try.isAgg4
  z4 := Try.sizeOf4
  v4 := Try.zeroValue4
  t5 := Try.underlying5
  a5 := Try.isAgg5
  z5 := Try.sizeOf5
  v5 := Try.zeroValue5
  t9 := Try.underlying9
  a9 := Try.isAgg9
  z9 := Try.sizeOf9
  v9 := Try.zeroValue9
  t22 := Try.underlying38
  a22 := Try.isAgg38
  z22 := Try.sizeOf38
  v22 := Try.zeroValue38
  t25 := Try.underlying57
  a25 := Try.isAgg57
  z25 := Try.sizeOf57
  v25 := Try.zeroValue57
  t39 := Try.underlying80
  a39 := Try.isAgg80
  z39 := Try.sizeOf80
  v39 := Try.zeroValue80
  t45 := Try.underlying89
  a45 := Try.isAgg89
  z45 := Try.sizeOf89
  v45 := Try.zeroValue89
  t46 := Try.underlying90
  a46 := Try.isAgg90
  z46 := Try.sizeOf90
  v46 := Try.zeroValue90
  t50 := Try.underlying94
  a50 := Try.isAgg94
  z50 := Try.sizeOf94
  v50 := Try.zeroValue94
  t53 := Try.underlying97
  a53 := Try.isAgg97
  z53 := Try.sizeOf97
  v53 := Try.zeroValue97
  t55 := Try.underlying99
  a55 := Try.isAgg99
  z55 := Try.sizeOf99
  v55 := Try.zeroValue99
  t66 := Try.underlying108
  a66 := Try.isAgg108
  z66 := Try.sizeOf108
  v66 := Try.zeroValue108
  t70 := Try.underlying112
  a70 := Try.isAgg112
  z70 := Try.sizeOf112
  v70 := Try.zeroValue112
  t76 := Try.underlying122
  a76 := Try.isAgg122
  z76 := Try.sizeOf122
  v76 := Try.zeroValue122
  t77 := Try.underlying123
  a77 := Try.isAgg123
  z77 := Try.sizeOf123
  v77 := Try.zeroValue123 }
end Go.Proofs
namespace Go.Proofs.Ytcpffonenhhfoab
open Go.RowKit Go.Sort Go.Lib

set_option maxHeartbeats 1000000 in
theorem compareEdges_grow (d e : EdgeV) (w : World) :
    Calls Try.prog 41 #[.agg #[.int .i64 d.1, .int .i64 d.2], .agg #[.int .i64 e.1, .int .i64 e.2]] w fun x w' => x = .returned (.int .i64 (cmpE d e)) ∧ ∃ q os', w' = grow (w.drewN q) os' := by
  obtain ⟨a, b⟩ := d
  obtain ⟨c, f⟩ := e
  dsimp only
  have HC := hideIt cmpCompare_any
  have HO : Hid (Calls Try.prog 70 #[.slice (some ⟨w.heap.size + 1 + 1, 0, none⟩) 2 2] (((w.alloc (.cells #[.int .i64 a, .int .i64 b] 32)).alloc (.cells #[.int .i64 c, .int .i64 f] 32)).alloc (.cells #[.int .i64 (cmpI a c), .int .i64 (cmpI b f)] 3)).drew
      fun e w' => e = .returned (.int .i64 (cmpE (a, b) (c, f))) ∧ w' = (((w.alloc (.cells #[.int .i64 a, .int .i64 b] 32)).alloc (.cells #[.int .i64 c, .int .i64 f] 32)).alloc (.cells #[.int .i64 (cmpI a c), .int .i64 (cmpI b f)] 3)).drew) :=
    cmpOr_any (cmpI a c) (cmpI b f) (w.heap.size + 1 + 1) _ (by simp [go_sem]) (by simp [go_sem])
  go_enter Try.func41, Try.ntmps41
  go_wp2
  go_region_held3 (fun u => (u.cell? ⟨w.heap.size, 0, none⟩ = some (.int .i64 a) ∧ u.cell? ⟨w.heap.size, 1, none⟩ = some (.int .i64 b)) ∧ u.cell? ⟨w.heap.size + 1, 0, none⟩ = some (.int .i64 c) ∧ u.cell? ⟨w.heap.size + 1, 1, none⟩ = some (.int .i64 f))
    (go_keep)
    (first
      | (go_at_call 71; refine (HC.out _ _ _).mono ?_; rintro e w1 ⟨rfl, rfl⟩)
      | (go_at_call 70; refine HO.out.mono ?_; rintro e w1 ⟨rfl, rfl⟩))
  all_goals
    go_wp2
    go_ret
    exact ⟨rfl, 1, _, by rw [alloc_eq_grow, alloc_eq_grow, alloc_eq_grow, grow_grow, grow_grow]; rfl⟩

theorem ltE (x y : EdgeV) : ltOf cmpE x y = lt x y := by
  unfold ltOf
  rw [Bool.eq_iff_iff, decide_eq_true_iff, cmpE_neg]
theorem swoE : SWO (ltOf cmpE) where
  irrefl x := by rw [ltE]; exact lt_irrefl' x
  trans x y z h1 h2 := by rw [ltE] at *; exact lt_trans' h1 h2
  ntrans x y z h1 h2 := by
    rw [ltE] at *
    cases h : lt x z with
    | false => rfl
    | true =>
      rw [lt_iff] at h
      have a1 : ¬ (lt x y = true) := by rw [h1]; simp
      have a2 : ¬ (lt y z = true) := by rw [h2]; simp
      rw [lt_iff] at a1 a2
      omega
/-- the edges, ascending -/
def srtE (es : List EdgeV) : List EdgeV := es.mergeSort fun x y => !(lt y x)
theorem srtE_eq (es : List EdgeV) : (es.mergeSort fun x y => !(ltOf cmpE) y x) = srtE es := by
  unfold srtE
  congr 1
  funext x y
  rw [ltE]
theorem srtE_perm (es : List EdgeV) : (srtE es).Perm es := List.mergeSort_perm _ _
theorem srtE_mem (es : List EdgeV) (e : EdgeV) : e ∈ srtE es ↔ e ∈ es := (srtE_perm es).mem_iff
theorem srtE_len (es : List EdgeV) : (srtE es).length = es.length := (srtE_perm es).length_eq
theorem srtE_asc {es : List EdgeV} (hn : es.Nodup) : Asc (srtE es) := by
  have hp : (srtE es).Pairwise (fun x y => (!(lt y x)) = true) := List.pairwise_mergeSort (fun a b c h1 h2 => by
      simp only [Bool.not_eq_true'] at h1 h2 ⊢
      have a1 : ¬ (lt b a = true) := by rw [h1]; simp
      have a2 : ¬ (lt c b = true) := by rw [h2]; simp
      cases h : lt c a with
      | false => rfl
      | true =>
        rw [lt_iff] at h a1 a2
        omega) (fun a b => by
      cases h : lt b a with
      | false => simp
      | true => simp [lt_asymm' h]) es
  have hn2 : (srtE es).Nodup := (srtE_perm es).nodup_iff.2 hn
  intro i j d e hij hd he
  obtain ⟨q0, q1⟩ := List.getElem?_eq_some_iff.1 hd
  obtain ⟨q2, q3⟩ := List.getElem?_eq_some_iff.1 he
  have h1 := List.pairwise_iff_getElem.1 hp i j q0 q2 hij
  have h2 := List.pairwise_iff_getElem.1 hn2 i j q0 q2 hij
  rw [q1, q3] at h1 h2
  simp only [Bool.not_eq_true'] at h1
  exact lt_total' h1 (fun e => h2 e.symm)

theorem flat_cells (es : List EdgeV) : flatK ecell 2 es.toArray = (ecells es).toArray := by
  refine ext_get! (by simp [ecells_length]) fun t ht => ?_
  have ht' : t < es.length * 2 := by simpa using ht
  rw [get_flatK _ _ _ t (by simpa using ht')]
  obtain ⟨f, hf⟩ : ∃ f, es[t / 2]? = some f := ⟨es[t / 2]'(by omega), List.getElem?_eq_getElem (by omega)⟩
  have hfe : es.toArray[t / 2]! = f := by
    rw [getElem!_pos _ _ (by simp; omega)]
    obtain ⟨q, e⟩ := List.getElem?_eq_some_iff.1 hf
    simpa using e
  rw [hfe]
  obtain ⟨h0, h1⟩ := ecells_at es (t / 2) f hf
  have hl : t < (ecells es).length := by rw [ecells_length]; exact ht'
  rw [getElem!_pos _ t (by simpa using hl)]
  rcases Nat.mod_two_eq_zero_or_one t with h | h
  · have et : t / 2 * 2 = t := by omega
    rw [et] at h0
    obtain ⟨q, e⟩ := List.getElem?_eq_some_iff.1 h0
    rw [h]
    simpa [ecell] using e.symm
  · have et : t / 2 * 2 + 1 = t := by omega
    rw [et] at h1
    obtain ⟨q, e⟩ := List.getElem?_eq_some_iff.1 h1
    rw [h]
    simpa [ecell] using e.symm
theorem take_putId (cur F : Array Value) (h : F.size ≤ cur.size) : (putCells id 0 F cur).toList.take F.size = F.toList := by
  apply List.ext_getElem?
  intro j
  by_cases hj : j < F.size
  · rw [List.getElem?_take_of_lt hj, Array.getElem?_toList]
    simp [putCells, hj, show j < cur.size by omega]
  · rw [List.getElem?_take_eq_none (by omega), List.getElem?_eq_none (by simp; omega)]
theorem heap_putId {w : World} {g n : Nat} {os : Array Obj} {cur : Array Value} {e : TypeId} {fr : Nat × Nat} (F : Array Value) (hb : w.heap[g]? = some (.cells cur e fr)) :
    (grow (putRow id (Sort.ahead w n) g 0 F) os).heap[g]? = some (.cells (putCells id 0 F cur) e fr) := by
  have hg : g < w.heap.size := (Array.getElem?_eq_some_iff.1 hb).1
  rw [heap_grow_old _ _ (by simpa using hg)]
  simp [putRow, mapBlock, Sort.ahead, Array.getElem?_modify, hb, onCells]
theorem grown_putId {w : World} {g n : Nat} {os : Array Obj} (F : Array Value) : w.grownBy (grow (putRow id (Sort.ahead w n) g 0 F) os) (some g) := by
  refine ⟨rfl, rfl, rfl, by simp, fun k hk hne => ?_⟩
  rw [heap_grow_old _ _ (by simpa using hk)]
  have : g ≠ k := fun e => hne (by rw [e])
  simp [putRow, mapBlock, Sort.ahead, Array.getElem?_modify, this]

set_option maxHeartbeats 1000000 in
theorem sortFE_any (es : List EdgeV) (m : Nat) (v : Value) (B : Nat) (hm : m ≤ 3000000) (w : World) (h : w.ownsRow B 32 2 v m (ecells es)) :
    Calls Try.prog 40 #[v, .func (.func 41) #[] #[]] w fun e w' => e = .returned (.tuple #[]) ∧ w'.ownsRow B 32 2 v m (ecells (srtE es)) ∧ (B ≤ w.heap.size → Below B w w') := by
  have hl := h.1
  rw [ecells_length] at hl
  rcases h.2 with ⟨rfl, h0⟩ | ⟨g, cap, cur, rfl, hg, hgb, r1, r2, r3, r4⟩
  · have hc := AnyF.slices_SortFunc_none Try.laysSF none 0 (.func (.func 41) #[] #[]) w
    change Calls Try.prog 40 _ _ _ at hc
    refine hc.mono ?_
    rintro e w' ⟨rfl, rfl⟩
    have e : es = [] := List.eq_nil_of_length_eq_zero (by omega)
    subst e
    exact ⟨rfl, by simpa [srtE] using h, fun _ => Below.refl _ _⟩
  · have hgl : g < w.heap.size := (Array.getElem?_eq_some_iff.1 hgb).1
    have hH : HoldsK ecell 2 w g 0 es.toArray := by
      unfold HoldsK
      rw [flat_cells]
      intro j hj
      have hj' : j < (ecells es).length := by simpa using hj
      refine ⟨?_, h.frozenAt (0 + j)⟩
      rw [Nat.zero_add, h.cellAt j (by rw [ecells_length] at hj'; omega), getElem!_pos _ j hj]
      simp [hj']
    have hc := AnyQ.slices_SortFunc_total Try.laysSF 2 Try.isAgg32 Try.sizeOf32 ecell (fun _ => rfl) (fun x u hu => by simp [ecell] at hu; rcases hu with rfl | rfl <;> rfl) cmpE swoE 41 #[] g 0 cap es.toArray w
      (enters_of Try.func41 (by kernel_rfl) rfl) (fun _ _ _ _ x y => compareEdges_grow x y _) hH hgl (by simp; omega) (fun x y h1 h2 => by
        rw [ltE] at h1 h2
        exact Classical.byContradiction fun hne => by have := lt_total' h1 hne; rw [h2] at this; simp at this)
    change Calls Try.prog 40 _ _ _ at hc
    rw [show es.toArray.size = m by simp; omega] at hc
    refine hc.mono ?_
    rintro e w' ⟨rfl, n, os, rfl⟩
    rw [show es.toArray.toList = es by simp, srtE_eq]
    unfold sortWorldK putRowK
    rw [flat_cells]
    have hsl : (ecells (srtE es)).toArray.size = m * 2 := by simp [ecells_length, srtE_len]; omega
    refine ⟨rfl, ⟨by rw [ecells_length, srtE_len]; omega, .inr ⟨g, cap, _, rfl, hg, heap_putId _ hgb, r1, r2, by simp [putCells, r3], ?_⟩⟩, fun hB => (Below.refl _ w).grown (grown_putId _) hB (fun j e => by cases e; exact hg)⟩
    have := take_putId cur (ecells (srtE es)).toArray (by rw [hsl, r3]; omega)
    rw [hsl] at this
    simpa using this

end Go.Proofs.Ytcpffonenhhfoab
namespace Go.Proofs.Ytcpffonenhhfoab
open Go.RowKit

/-- a list that has all of another, which tells each once, and is no longer, is it in some order -/
theorem perm_card {α : Type} [DecidableEq α] : ∀ {m l : List α}, m.Nodup → (∀ x ∈ m, x ∈ l) → l.length ≤ m.length → m.Perm l
  | [], l, _, _, h => by
    have : l = [] := List.eq_nil_of_length_eq_zero (by simpa using h)
    rw [this]
  | x :: m, l, hn, hs, hl => by
    have hn' := List.nodup_cons.1 hn
    have hx : x ∈ l := hs x (by simp)
    have h1 := perm_card (m := m) (l := l.erase x) hn'.2 (fun y hy => by
      have hne : y ≠ x := fun e => hn'.1 (e ▸ hy)
      exact (List.mem_erase_of_ne hne).2 (hs y (by simp [hy]))) (by
      have := List.length_erase_of_mem hx
      have := List.length_pos_of_mem hx
      simp only [List.length_cons] at hl
      omega)
    exact (h1.cons x).trans (List.perm_cons_erase hx).symm
/-- the steps of the first k, from the lesser end to the greater -/
def upK (t : List Int) : Nat → List EdgeV
  | 0 => []
  | i + 1 => upK t i ++ match t[i]?, t[i + 1]? with | some a, some b => if a < b then [(a, b)] else [] | _, _ => []
/-- .. and the other way, told by the lesser end too -/
def dnK (t : List Int) : Nat → List EdgeV
  | 0 => []
  | i + 1 => dnK t i ++ match t[i]?, t[i + 1]? with | some a, some b => if b < a then [(b, a)] else [] | _, _ => []
def up (t : List Int) : List EdgeV := upK t (t.length - 1)
theorem upK_yes {t : List Int} {i : Nat} {a b : Int} (h1 : t[i]? = some a) (h2 : t[i + 1]? = some b) (hl : a < b) : upK t (i + 1) = upK t i ++ [(a, b)] := by rw [upK, h1, h2]; simp [hl]
theorem upK_no {t : List Int} {i : Nat} {a b : Int} (h1 : t[i]? = some a) (h2 : t[i + 1]? = some b) (hl : ¬ a < b) : upK t (i + 1) = upK t i := by rw [upK, h1, h2]; simp [hl]
theorem upK_mem (t : List Int) (k : Nat) (e : EdgeV) : e ∈ upK t k ↔ ∃ i, i < k ∧ t[i]? = some e.1 ∧ t[i + 1]? = some e.2 ∧ e.1 < e.2 := by
  induction k with
  | zero => simp [upK]
  | succ k ih =>
    rw [upK, List.mem_append, ih]
    constructor
    · rintro (⟨i, h1, h2⟩ | h)
      · exact ⟨i, by omega, h2⟩
      · refine ⟨k, by omega, ?_⟩
        cases h1 : t[k]? with
        | none => rw [h1] at h; simp at h
        | some a =>
          cases h2 : t[k + 1]? with
          | none => rw [h1, h2] at h; simp at h
          | some b =>
            rw [h1, h2] at h
            by_cases hl : a < b
            · simp [hl] at h
              subst h
              exact ⟨rfl, rfl, hl⟩
            · simp [hl] at h
    · rintro ⟨i, h1, h2, h3, h4⟩
      by_cases hi : i = k
      · subst hi
        right
        rw [h2, h3]
        simp [h4]
      · exact .inl ⟨i, by omega, h2, h3, h4⟩
theorem dnK_mem (t : List Int) (k : Nat) (e : EdgeV) : e ∈ dnK t k ↔ ∃ i, i < k ∧ t[i]? = some e.2 ∧ t[i + 1]? = some e.1 ∧ e.1 < e.2 := by
  induction k with
  | zero => simp [dnK]
  | succ k ih =>
    rw [dnK, List.mem_append, ih]
    constructor
    · rintro (⟨i, h1, h2⟩ | h)
      · exact ⟨i, by omega, h2⟩
      · refine ⟨k, by omega, ?_⟩
        cases h1 : t[k]? with
        | none => rw [h1] at h; simp at h
        | some a =>
          cases h2 : t[k + 1]? with
          | none => rw [h1, h2] at h; simp at h
          | some b =>
            rw [h1, h2] at h
            by_cases hl : b < a
            · simp [hl] at h
              subst h
              exact ⟨rfl, rfl, hl⟩
            · simp [hl] at h
    · rintro ⟨i, h1, h2, h3, h4⟩
      by_cases hi : i = k
      · subst hi
        right
        rw [h2, h3]
        simp [h4]
      · exact .inl ⟨i, by omega, h2, h3, h4⟩
theorem ud_len {t : List Int} (hB : tB t = true) (k : Nat) (hk : k + 1 ≤ t.length) : (upK t k).length + (dnK t k).length = k := by
  induction k with
  | zero => simp [upK, dnK]
  | succ k ih =>
    have h1 : t[k]? = some t[k] := List.getElem?_eq_getElem (by omega)
    have h2 : t[k + 1]? = some t[k + 1] := List.getElem?_eq_getElem (by omega)
    have hne : t[k] ≠ t[k + 1] := fun e => no_stay (x := t[k]) hB h1 (by rw [h2, e])
    have ih := ih (by omega)
    rw [upK, dnK, h1, h2]
    by_cases hl : t[k] < t[k + 1]
    · have : ¬ t[k + 1] < t[k] := by omega
      simp [hl, this]
      omega
    · have : t[k + 1] < t[k] := by omega
      simp [hl, this]
      omega
theorem up_mem (t : List Int) (e : EdgeV) : e ∈ up t ↔ e ∈ tE t := by
  unfold up
  rw [upK_mem, tE_mem]
  constructor
  · rintro ⟨i, _, h⟩; exact ⟨i, h⟩
  · rintro ⟨i, h1, h2, h3⟩; exact ⟨i, by have := (List.getElem?_eq_some_iff.1 h2).1; omega, h1, h2, h3⟩
theorem up_perm {t : List Int} (hB : tB t = true) : (tE t).Perm (up t) := by
  have hp := tB_pos hB
  have hc := tE_count hB
  have hu := ud_len hB (t.length - 1) (by omega)
  have hd := nd_sub (b := dnK t (t.length - 1)) (eK_nodup t (t.length - 1)) fun e he => by
    obtain ⟨i, h1, h2, h3⟩ := (tE_mem t e).1 he
    obtain ⟨j, hj⟩ := go_back hB h1 h2
    refine (dnK_mem t _ e).2 ⟨j, ?_⟩
    unfold goP at hj
    cases q1 : t[j]? with
    | none => rw [q1] at hj; simp at hj
    | some a =>
      cases q2 : t[j + 1]? with
      | none => rw [q1, q2] at hj; simp at hj
      | some b =>
        rw [q1, q2] at hj
        simp at hj
        exact ⟨by have := (List.getElem?_eq_some_iff.1 q2).1; omega, by rw [hj.1], by rw [hj.2], h3⟩
  have hd : (tE t).length ≤ (dnK t (t.length - 1)).length := hd
  exact perm_card (eK_nodup t _) (fun e he => (up_mem t e).2 he) (by show (upK t (t.length - 1)).length ≤ _; show _ ≤ (tE t).length; omega)
/-- all of them -/
def allU (ts : List (List Int)) : List EdgeV := ts.flatMap up
theorem allU_snoc (ts : List (List Int)) (t : List Int) : allU (ts ++ [t]) = allU ts ++ up t := by simp [allU]
theorem allU_perm {ts : List (List Int)} (h : ∀ t ∈ ts, tB t = true) : (allE ts).Perm (allU ts) := by
  induction ts with
  | nil => exact List.Perm.refl _
  | cons t r ih =>
    show (tE t ++ allE r).Perm (up t ++ allU r)
    exact (up_perm (h t (by simp))).append (ih fun s hs => h s (by simp [hs]))
theorem allU_nodup {N : Int} {ts : List (List Int)} (h : FQ N ts) : (allU ts).Nodup := (allU_perm fun t ht => (h.1 t ht).1).nodup_iff.1 (allE_nodup h.2.1)
/-- put in one behind the other -/
def putF : List EdgeV → List EdgeV → List EdgeV
  | es, [] => es
  | es, e :: r => putF (putE es e) r
theorem putF_snoc (es r : List EdgeV) (e : EdgeV) : putF es (r ++ [e]) = putE (putF es r) e := by
  induction r generalizing es with
  | nil => rfl
  | cons x r ih => exact ih (putE es x)
theorem putE_perm {es : List EdgeV} {e : EdgeV} (hn : e ∉ es) : (putE es e).Perm (es ++ [e]) := by
  have h1 : ∀ l : List EdgeV, e ∉ l → (l.filter (fun d => lt d e) ++ l.filter (fun d => lt e d)).Perm l := fun l => by
    induction l with
    | nil => intro _; exact List.Perm.refl _
    | cons x l ih =>
      intro hx
      have hne : e ≠ x := fun h => hx (by simp [h])
      have ih := ih fun h => hx (by simp [h])
      cases hl : lt x e with
      | true =>
        rw [List.filter_cons_of_pos (p := fun d => lt d e) hl, List.filter_cons_of_neg (p := fun d => lt e d) (by rw [lt_asymm' hl]; simp)]
        exact ih.cons x
      | false =>
        have h2 : lt e x = true := lt_total' hl (Ne.symm hne)
        rw [List.filter_cons_of_neg (p := fun d => lt d e) (by rw [hl]; simp), List.filter_cons_of_pos (p := fun d => lt e d) h2]
        exact List.perm_middle.trans (ih.cons x)
  have h2 := h1 es hn
  unfold putE
  have h3 : (es.filter (fun d => lt d e) ++ [e] ++ es.filter (fun d => lt e d)).Perm (es.filter (fun d => lt d e) ++ es.filter (fun d => lt e d) ++ [e]) := by
    rw [List.append_assoc, List.append_assoc]
    exact List.perm_append_comm.append_left _
  exact h3.trans (h2.append_right [e])
theorem putE_asc {es : List EdgeV} {e : EdgeV} (h : es.Pairwise fun d e => lt d e = true) : (putE es e).Pairwise fun d e => lt d e = true := by
  unfold putE
  rw [List.pairwise_append, List.pairwise_append]
  refine ⟨⟨h.filter _, by simp, fun d hd x hx => ?_⟩, h.filter _, fun d hd x hx => ?_⟩
  · simp at hx
    subst hx
    exact (List.mem_filter.1 hd).2
  · have hx2 := (List.mem_filter.1 hx).2
    rcases List.mem_append.1 hd with hd | hd
    · exact lt_trans' (List.mem_filter.1 hd).2 hx2
    · simp at hd
      subst hd
      exact hx2
theorem putF_is {l : List EdgeV} (hn : l.Nodup) : (putF [] l).Perm l ∧ (putF [] l).Pairwise fun d e => lt d e = true := by
  suffices H : ∀ k, (putF [] (l.take k)).Perm (l.take k) ∧ (putF [] (l.take k)).Pairwise fun d e => lt d e = true by
    have := H l.length
    rwa [List.take_length] at this
  intro k
  induction k with
  | zero => simp [putF]
  | succ k ih =>
    cases hk : l[k]? with
    | none =>
      have : l.take (k + 1) = l.take k := by rw [List.take_add_one, hk]; simp
      rw [this]
      exact ih
    | some e =>
      rw [take_snocF l k e hk, putF_snoc]
      have hne : e ∉ putF [] (l.take k) := fun hm => by
        have hm2 := ih.1.mem_iff.1 hm
        obtain ⟨j, hj⟩ := List.mem_iff_getElem?.1 hm2
        have hjk : j < k := by have := (List.getElem?_eq_some_iff.1 hj).1; rw [List.length_take] at this; omega
        rw [List.getElem?_take_of_lt hjk] at hj
        obtain ⟨p0, p1⟩ := List.getElem?_eq_some_iff.1 hj
        obtain ⟨q0, q1⟩ := List.getElem?_eq_some_iff.1 hk
        exact List.pairwise_iff_getElem.1 hn j k p0 q0 hjk (p1.trans q1.symm)
      exact ⟨(putE_perm hne).trans (ih.1.append_right [e]), putE_asc ih.2⟩
theorem putF_srt {l : List EdgeV} (hn : l.Nodup) : putF [] l = srtE l := by
  obtain ⟨h1, h2⟩ := putF_is hn
  have h3 : (srtE l).Pairwise fun d e => lt d e = true := by
    rw [List.pairwise_iff_getElem]
    intro i j hi hj hij
    exact srtE_asc hn i j _ _ hij (List.getElem?_eq_getElem hi) (List.getElem?_eq_getElem hj)
  exact List.Perm.eq_of_pairwise (fun a b _ _ h4 h5 => by rw [lt_asymm' h4] at h5; cases h5) h2 h3 (h1.trans (srtE_perm l).symm)
theorem putF_len {l : List EdgeV} (hn : l.Nodup) (k : Nat) : (putF [] (l.take k)).length ≤ k := by
  have h1 := (putF_is (l := l.take k) (hn.sublist (List.take_sublist k l))).1.length_eq
  rw [h1]
  exact List.length_take_le k l
/-- what EdgesOf answers -/
noncomputable def edgesO (N : Int) (ts : List (List Int)) : List EdgeV := @ite _ (FP N ts) (Classical.propDecidable _) (srtE (allU ts)) []
theorem edgesO_yes {N : Int} {ts : List (List Int)} (h : FP N ts) : edgesO N ts = srtE (allU ts) := by unfold edgesO; rw [if_pos h]
theorem edgesO_no {N : Int} {ts : List (List Int)} (h : ¬ FP N ts) : edgesO N ts = [] := by unfold edgesO; rw [if_neg h]
end Go.Proofs.Ytcpffonenhhfoab
namespace Go.Proofs.Ytcpffonenhhfoab
open Go.RowKit

theorem sForestOk_yes {N : Int} {ts : List (List Int)} (hP : FP N ts) {n : Nat} {a : Option Addr} (c : Nat) (hn : n + lnS ts ≤ 1048576) {w : World} (h : Ts w w.heap.size a n ts) :
    Calls Try.prog 36 #[.agg #[.int .i64 N, .slice a n c]] w fun e w' => e = .returned (.bool true) ∧ Good w w' :=
  (sForestOk_any N ts n a c hn w h).mono fun e u ⟨b, he, hb, hbl⟩ => ⟨by rw [he, hb.2 hP], hbl⟩
theorem sForestOk_no {N : Int} {ts : List (List Int)} (hP : ¬ FP N ts) {n : Nat} {a : Option Addr} (c : Nat) (hn : n + lnS ts ≤ 1048576) {w : World} (h : Ts w w.heap.size a n ts) :
    Calls Try.prog 36 #[.agg #[.int .i64 N, .slice a n c]] w fun e w' => e = .returned (.bool false) ∧ Good w w' :=
  (sForestOk_any N ts n a c hn w h).mono fun e u ⟨b, he, hb, hbl⟩ => ⟨by
      have : b = false := by
        cases b with
        | false => rfl
        | true => exact absurd (hb.1 rfl) hP
      rw [he, this], hbl⟩

set_option maxHeartbeats 1000000 in
theorem sTreeOf_any (N : Int) (ts : List (List Int)) (v : Int) (n : Nat) (a : Option Addr) (c : Nat) (hn : n + lnS ts ≤ 1048576) (w : World) (h : Ts w w.heap.size a n ts) :
    Calls Try.prog 22 #[.agg #[.int .i64 N, .slice a n c], .int .i64 v] w fun e w' => e = .returned (.int .i64 (treeO N ts v)) ∧ Below w.heap.size w w' := by
  have b0 : Good w (w.alloc (.cells #[.int .i64 N, .slice a n c] 28)) := (Good.refl w).alloc _
  have HB0 := hideIt b0
  have HC0 : Hid (∀ u, Good (w.alloc (.cells #[.int .i64 N, .slice a n c] 28)) u → u.cell? ⟨w.heap.size, 1, none⟩ = some (.slice a n c)) := fun u hu => by rw [hu.cell (by simp)]; simp
  by_cases hP : FP N ts
  · have HF2 := hideIt (sForestOk_yes hP c hn (h.up b0))
    have HA := hideIt (h.up b0)
    have HV := hideIt (treeO_yes hP v)
    have hlen := h.1
    clear h b0 hP
    go_enter Try.func22, Try.ntmps22
    go_wp2_with (go_at_call 36; refine HF2.out.mono ?_; rintro e w1 ⟨rfl, hg1⟩; refine Hid.out ?_)
    refine (show ∀ {p : Prop}, p → Hid p from fun h => h) ?_
    have HG1 := hideIt hg1
    clear HF2 hg1
    go_wp2
    go_loopw [5] (fun i wr => ∃ k : Nat, k ≤ n ∧ i = .int .i64 (k : Int) ∧ Hid (∀ j, j < k → trP ts v j = false) ∧ wr = w1) (fun i _ => n - (intOf i).toNat)
    case atStart => exact ⟨0, by omega, rfl, fun j hj => by omega, rfl⟩
    case round =>
      obtain ⟨k, hk, rfl, HK, hw⟩ := hrel
      have hw' := hw.symm
      subst hw'
      clear hw
      have k1 := HC0.out _ HG1.out
      by_cases hlt : k < n
      · rcases (HA.out.up HG1.out).2 with hz | ⟨bb, off, rfl, hbl, hc⟩
        · omega
        · obtain ⟨t, ht⟩ : ∃ t, ts[k]? = some t := ⟨ts[k]'(by omega), List.getElem?_eq_getElem (by omega)⟩
          obtain ⟨x, cx, e0, iI, _⟩ := hc k t ht
          have b1 : (0 : Int) ≤ (k : Int) := by omega
          have b2 : (k : Int) < (n : Int) := by omega
          have HC := hideIt (l05In_any t v t.length x cx (by have := lnS_mem (List.mem_of_getElem? ht); omega) w1 iI)
          rw [← trP_at (v := v) ht] at HC
          cases hp : trP ts v k with
          | true =>
            rw [hp] at HC
            have HV2 : Hid (trI ts v = (k : Int)) := firstN_yes (by omega) hp HK.out
            clear hc ht iI hp HK
            go_wp2_with (go_at_call 44; refine HC.out.mono ?_; rintro e w2 ⟨rfl, hw⟩; have hw' := hw.symm; subst hw'; clear hw)
            go_ret
            exact ⟨by rw [HV.out, HV2.out]; rfl, HB0.out.up HG1.out⟩
          | false =>
            rw [hp] at HC
            have HK2 : Hid (∀ j, j < k + 1 → trP ts v j = false) := fun j hj => by
              by_cases h7 : j = k
              · rw [h7]; exact hp
              · exact HK.out j (by omega)
            clear hc ht iI hp HK
            go_wp2_with (go_at_call 44; refine HC.out.mono ?_; rintro e w2 ⟨rfl, hw⟩; have hw' := hw.symm; subst hw'; clear hw)
            exact ⟨⟨k + 1, by omega, by go_num, HK2, by first | trivial | rfl⟩, by simp [intOf]; omega⟩
      · obtain rfl : k = n := by omega
        have HV2 : Hid (trI ts v = -1) := firstN_no (fun j hj => HK.out j (by omega))
        clear HK
        go_wp2
        go_ret
        exact ⟨by rw [HV.out, HV2.out]; rfl, HB0.out.up HG1.out⟩
  · have HF2 := hideIt (sForestOk_no hP c hn (h.up b0))
    have HV := hideIt (treeO_no hP v)
    clear h b0 hP
    go_enter Try.func22, Try.ntmps22
    go_wp2_with (go_at_call 36; refine HF2.out.mono ?_; rintro e w1 ⟨rfl, hg1⟩)
    go_ret
    exact ⟨by rw [HV.out]; rfl, HB0.out.up hg1⟩

set_option maxHeartbeats 1000000 in
theorem sSizeOf_any (N : Int) (ts : List (List Int)) (v : Int) (n : Nat) (a : Option Addr) (c : Nat) (hn : n + lnS ts ≤ 1048576) (w : World) (h : Ts w w.heap.size a n ts) :
    Calls Try.prog 14 #[.agg #[.int .i64 N, .slice a n c], .int .i64 v] w fun e w' => e = .returned (.int .i64 (sizeO N ts v)) ∧ Below w.heap.size w w' := by
  have b0 : Good w (w.alloc (.cells #[.int .i64 N, .slice a n c] 28)) := (Good.refl w).alloc _
  have HF := hideIt (sTreeOf_any N ts v n a c hn _ (h.up b0))
  have HB0 := hideIt b0
  rcases treeO_cases N ts v with ⟨k, t, hP, hk, hv, e⟩ | ⟨_, e⟩
  · rw [e] at HF
    have HV := hideIt (sizeO_yes e hk)
    have hkl := (List.getElem?_eq_some_iff.1 hk).1
    have hlen := h.1
    rcases (h.up b0).2 with hz | ⟨b, off, rfl, hbl, hc⟩
    · omega
    · obtain ⟨x, cx, e0, iI, _⟩ := hc k t hk
      have hfit := lnS_mem (List.mem_of_getElem? hk)
      have HVe := hideIt (fun u (hu : Good (w.alloc (.cells #[.int .i64 N, .slice (some ⟨b, off, none⟩) n c] 28)) u) => sVertsOf_any t t.length x cx (by omega) u (iI.up hu))
      have d1 : decide ((k : Int) < 0) = false := decide_eq_false (by omega)
      have b1 : (0 : Int) ≤ (k : Int) := by omega
      have b2 : (k : Int) < (n : Int) := by omega
      clear h b0 hc iI hP hv
      go_enter Try.func14, Try.ntmps14
      go_wp2_with (go_at_call 22; refine HF.out.mono ?_; rintro e w1 ⟨rfl, hg1⟩; refine Hid.out ?_)
      refine (show ∀ {p : Prop}, p → Hid p from fun h => h) ?_
      have hg1 : Good (w.alloc (.cells #[.int .i64 N, .slice (some ⟨b, off, none⟩) n c] 28)) w1 := hg1
      have cB : w1.cell? ⟨w.heap.size, 1, none⟩ = some (.slice (some ⟨b, off, none⟩) n c) := by rw [hg1.cell (by simp)]; simp
      have cE : w1.cell? ⟨b, off + k, none⟩ = some (.slice x t.length cx) := by rw [hg1.cell hbl]; exact e0
      have HT2 := hideIt (HVe.out w1 hg1)
      have HG1 := hideIt hg1
      clear hg1 HVe HF e0
      go_wp2_with (go_at_call 34; refine HT2.out.mono ?_; rintro e w2 ⟨a2, m2, c2, rfl, ho, hb2⟩)
      have hm2 : (vsL t).length = m2 := by have := ho.1; rw [ic_len] at this; omega
      go_ret
      exact ⟨by rw [HV.out, hm2]; rfl, HB0.out.up (HG1.out.up hb2)⟩
  · rw [e] at HF
    have HV := hideIt (sizeO_no e)
    clear h b0
    go_enter Try.func14, Try.ntmps14
    go_wp2_with (go_at_call 22; refine HF.out.mono ?_; rintro e w1 ⟨rfl, hg1⟩)
    go_ret
    exact ⟨by rw [HV.out]; rfl, HB0.out.up hg1⟩
end Go.Proofs.Ytcpffonenhhfoab
namespace Go.Proofs.Ytcpffonenhhfoab
open Go.RowKit

theorem len_two {p q : EdgeV → Bool} (hpq : ∀ d, p d = true → q d = false) (es : List EdgeV) : (es.filter p).length + (es.filter q).length ≤ es.length := by
  induction es with
  | nil => simp
  | cons d es ih =>
    simp only [List.filter_cons]
    cases hp : p d with
    | true => rw [hpq d hp]; simp; omega
    | false => cases hq : q d <;> simp <;> omega

theorem put_len (es : List EdgeV) (e : EdgeV) : (putE es e).length ≤ es.length + 1 := by
  have h := len_two (p := fun d => lt d e) (q := fun d => lt e d) (fun d hd => lt_asymm' hd) es
  unfold putE
  simp only [List.length_append, List.length_cons, List.length_nil]
  omega

end Go.Proofs.Ytcpffonenhhfoab
namespace Go.Proofs.Ytcpffonenhhfoab
open Go.RowKit

/-- edges put in one by one: nothing of wb has turned -/
structure VSt (wb : World) (a : Option Addr) (m c : Nat) (es : List EdgeV) (u : World) : Prop where
  own : u.ownsRow wb.heap.size 32 2 (.slice a m c) m (ecells es)
  bel : Below wb.heap.size wb u
theorem VSt.len {wb : World} {a : Option Addr} {m c : Nat} {es : List EdgeV} {u : World} (h : VSt wb a m c es u) : es.length = m := by have := h.own.1; rw [ecells_length] at this; omega
theorem VSt.up {wb : World} {a : Option Addr} {m c : Nat} {es : List EdgeV} {u v : World} (h : VSt wb a m c es u) (hb : Below u.heap.size u v) : VSt wb a m c es v := ⟨own_up h.own hb, h.bel.trans (hb.mono h.bel.size)⟩
theorem VSt.start (wb : World) : VSt wb (some ⟨wb.heap.size, 0, none⟩) 0 0 [] (wb.alloc (.cells #[] 32)) := by
  refine ⟨?_, (Below.refl _ _).alloc (Nat.le_refl _) _⟩
  have h0 := World.ownsRow_lit (base := wb.heap.size) (e := 32) (size := 2) wb #[] 0 (Nat.le_refl _) (by unfold maxLen; omega) (by simp)
  simpa [ecells] using h0
set_option maxRecDepth 100000 in
set_option maxHeartbeats 4000000 in
theorem sEdgesOf_any (N : Int) (ts : List (List Int)) (n : Nat) (a : Option Addr) (c : Nat) (hn : n + lnS ts ≤ 1048576) (w : World) (h : Ts w w.heap.size a n ts) :
    Calls Try.prog 16 #[.agg #[.int .i64 N, .slice a n c]] w fun e w' => ∃ a' m' c', e = .returned (.slice a' m' c') ∧ w'.ownsRow w.heap.size 32 2 (.slice a' m' c') m' (ecells (edgesO N ts)) ∧ Below w.heap.size w w' := by
  have b0 : Good w (w.alloc (.cells #[.int .i64 N, .slice a n c] 28)) := (Good.refl w).alloc _
  have S0 := VSt.start (w.alloc (.cells #[.int .i64 N, .slice a n c] 28))
  have b1 : Good w ((w.alloc (.cells #[.int .i64 N, .slice a n c] 28)).alloc (.cells #[] 32)) := b0.alloc _
  have HB0 := hideIt b0
  have hlen := h.1
  have HC0 : Hid (∀ u, Below (w.alloc (.cells #[.int .i64 N, .slice a n c] 28)).heap.size (w.alloc (.cells #[.int .i64 N, .slice a n c] 28)) u → u.cell? ⟨w.heap.size, 0, none⟩ = some (.int .i64 N) ∧ u.cell? ⟨w.heap.size, 1, none⟩ = some (.slice a n c)) := fun u hu => ⟨by rw [hu.cell (by simp)]; simp, by rw [hu.cell (by simp)]; simp⟩
  obtain ⟨k0, k1⟩ := HC0.out _ S0.bel
  rw [show (w.alloc (.cells #[.int .i64 N, .slice a n c] 28)).heap.size = w.heap.size + 1 by simp] at S0
  have HS0 := hideIt S0
  by_cases hP : FP N ts
  · have HF2 := hideIt (sForestOk_yes hP c hn (h.up b1))
    have HA := hideIt (h.up b0)
    have HV : Hid (edgesO N ts = putF [] (allU ts)) := by show _ = _; rw [edgesO_yes hP, putF_srt (allU_nodup hP.q)]
    have hn12 : n ≤ 12 := by have := hP.2.2.1; omega
    have HBt : Hid (∀ t ∈ ts, tB t = true) := fun t ht => (hP.q.1 t ht).1
    clear h b0 b1 hP S0
    go_enter Try.func16, Try.ntmps16
    go_wp2_with (go_at_call 36; refine HF2.out.mono ?_; rintro e w1 ⟨rfl, hg1⟩; refine Hid.out ?_)
    refine (show ∀ {p : Prop}, p → Hid p from fun h => h) ?_
    have S1 := HS0.out.up hg1
    clear HF2 hg1 k0 k1 HS0
    go_wp2
    go_loopw [3, 4] (fun r i wr => ∃ (k m c1 : Nat) (a1 : Option Addr), k ≤ n ∧ m ≤ 23 * k ∧ i = .int .i64 (k : Int) ∧ r = .slice a1 m c1 ∧ VSt (w.alloc (.cells #[.int .i64 N, .slice a n c] 28)) a1 m c1 (putF [] (allU (ts.take k))) wr) (fun _ i _ => n - (intOf i).toNat)
    case atStart => exact ⟨0, 0, 0, _, by omega, by omega, rfl, rfl, by rw [List.take_zero]; exact S1⟩
    case round =>
      obtain ⟨k, m, c1, a1, hk, hm, rfl, rfl, hst⟩ := hrel
      clear S1
      obtain ⟨_, q1⟩ := HC0.out _ hst.bel
      by_cases hlt : k < n
      · obtain ⟨t, ht⟩ : ∃ t, ts[k]? = some t := ⟨ts[k]'(by omega), List.getElem?_eq_getElem (by omega)⟩
        rcases (HA.out.up hst.bel).2 with hz | ⟨b, off, rfl, hbl, hc⟩
        · omega
        · obtain ⟨x, cx, e0, iI, _⟩ := hc k t ht
          have hBt := HBt.out t (List.mem_of_getElem? ht)
          have hl := tB_len hBt
          have b1 : (0 : Int) ≤ (k : Int) := by omega
          have b2 : (k : Int) < (n : Int) := by omega
          rcases iI.2 with h0 | ⟨bx, ox, rfl, hbx, hcx⟩
          · omega
          · have HST := hideIt hst
            have HT2 : Hid (allU (ts.take k) ++ up t = allU (ts.take (k + 1))) := by show _ = _; rw [take_snocF ts k t ht, allU_snoc]
            have HCx : Hid (∀ u, Below wr.heap.size wr u → ∀ (j : Nat) (y : Int), t[j]? = some y → u.cell? ⟨bx, ox + j, none⟩ = some (.int .i64 y)) := fun u hu j y hy => by rw [hu.cell (p := ⟨bx, _, none⟩) hbx]; exact hcx j y hy
            clear hc ht iI hst hcx
            go_wp2
            go_loopw [3, 6] (fun r i wz => ∃ (j m1 c2 : Nat) (a2 : Option Addr), j + 1 ≤ t.length ∧ m1 ≤ m + j ∧ i = .int .i64 (j : Int) ∧ r = .slice a2 m1 c2 ∧ VSt (w.alloc (.cells #[.int .i64 N, .slice (some ⟨b, off, none⟩) n c] 28)) a2 m1 c2 (putF [] (allU (ts.take k) ++ upK t j)) wz ∧ Below wr.heap.size wr wz) (fun _ i _ => t.length - (intOf i).toNat)
            case atStart => exact ⟨0, m, c1, a1, by omega, by omega, rfl, rfl, by rw [upK, List.append_nil]; exact HST.out, Below.refl _ _⟩
            case round =>
              obtain ⟨j, m1, c2, a2, hj, hm1, rfl, rfl, hst, hbz⟩ := hrel
              have hw1 : IntKind.i64.wrap ((j : Int) + 1) = (j : Int) + 1 := by rw [IntKind.wrap_i64]; omega
              by_cases hjl : j + 1 < t.length
              · have h1 : t[j]? = some t[j] := List.getElem?_eq_getElem (by omega)
                have h2 : t[j + 1]? = some t[j + 1] := List.getElem?_eq_getElem (by omega)
                obtain ⟨p, hp⟩ : ∃ p, t[j] = p := ⟨_, rfl⟩
                obtain ⟨q, hq⟩ : ∃ q, t[j + 1] = q := ⟨_, rfl⟩
                rw [hp] at h1
                rw [hq] at h2
                have y0 := HCx.out _ hbz j p h1
                have y1 := HCx.out _ hbz (j + 1) q h2
                have z1 : (0 : Int) ≤ (j : Int) := by omega
                have z2 : (j : Int) < (t.length : Int) := by omega
                have z3 : (0 : Int) ≤ (j : Int) + 1 := by omega
                have z4 : (j : Int) + 1 < (t.length : Int) := by omega
                have z5 : ((j : Int) + 1).toNat = j + 1 := by omega
                have HSZ := hideIt hst
                have HBZ := hideIt hbz
                have hm1b : m1 ≤ 1048576 := by omega
                by_cases hpq : p < q
                · have d1 : decide (p < q) = true := decide_eq_true hpq
                  have HU := hideIt (upK_yes h1 h2 hpq)
                  have HPu : Hid (∀ u, Below wr.heap.size wr u → Calls Try.prog 37 #[.slice a2 m1 c2, .agg #[.int .i64 p, .int .i64 q]] u fun e v => ∃ a' m' c', e = .returned (.slice a' m' c') ∧ (v.ownsRow u.heap.size 32 2 (.slice a' m' c') m' (ecells (putE (putF [] (allU (ts.take k) ++ upK t j)) (p, q))) ∧ Below u.heap.size u v) ∧ (v.cell? ⟨bx, ox + j, none⟩ = some (.int .i64 p) ∧ v.cell? ⟨bx, ox + (j + 1), none⟩ = some (.int .i64 q))) := fun u hu =>
                    (l05Put_any (putF [] (allU (ts.take k) ++ upK t j)) (p, q) m1 a2 c2 hm1b u (Es_of_own (own_up HSZ.out.own hu))).mono fun e v ⟨a', m', c', he, ho, hb⟩ => ⟨a', m', c', he, ⟨ho, hb⟩, by rw [(hu.trans (hb.mono hu.size)).cell (p := ⟨bx, _, none⟩) (Nat.lt_of_lt_of_le hbx HBZ.out.size)]; exact y0, by rw [(hu.trans (hb.mono hu.size)).cell (p := ⟨bx, _, none⟩) (Nat.lt_of_lt_of_le hbx HBZ.out.size)]; exact y1⟩
                  clear hst hbz h1 h2 hp hq
                  go_wp2
                  go_quiet (fail)
                  go_wp2
                  go_region_held3 (fun u => u.cell? ⟨bx, ox + j, none⟩ = some (.int .i64 p) ∧ u.cell? ⟨bx, ox + (j + 1), none⟩ = some (.int .i64 q))
                    (first | exact ⟨by assumption, by assumption⟩ | go_keep)
                    (first | (go_at_call 37; refine (HPu.out _ (Below.drew (below_drewN (Below.refl _ _) _))).mono ?_; rintro e w5 ⟨a5, m5, c5, rfl, ⟨ho5, hb5⟩, hS5, hS6⟩))
                  have hm5 : m5 ≤ m1 + 1 := by
                    have h1 := ho5.1
                    rw [ecells_length] at h1
                    have h2 := put_len (putF [] (allU (ts.take k) ++ upK t j)) (p, q)
                    have h3 := HSZ.out.len
                    omega
                  have HB5 := hideIt ((Below.drew (below_drewN (Below.refl wr.heap.size wr) _)).trans hb5)
                  have S5 : VSt (w.alloc (.cells #[.int .i64 N, .slice (some ⟨b, off, none⟩) n c] 28)) a5 m5 c5 (putF [] (allU (ts.take k) ++ upK t (j + 1))) w5 := by
                    rw [HU.out, ← List.append_assoc, putF_snoc]
                    exact ⟨own_mono ho5 HSZ.out.bel.size, HSZ.out.bel.trans (HB5.out.mono HSZ.out.bel.size)⟩
                  clear ho5 hb5 hS5 hS6 HPu
                  go_wp2
                  exact ⟨⟨j + 1, m5, c5, a5, by omega, by omega, by go_num, rfl, S5, HBZ.out.trans (HB5.out.mono HBZ.out.size)⟩, by simp [intOf]; omega⟩
                · have d1 : decide (p < q) = false := decide_eq_false hpq
                  have HU := hideIt (upK_no h1 h2 hpq)
                  clear hst hbz h1 h2 hp hq
                  go_wp2
                  go_quiet (fail)
                  go_wp2
                  exact ⟨⟨j + 1, m1, c2, a2, by omega, by omega, by go_num, rfl, by rw [HU.out]; exact HSZ.out.up (below_drewN (Below.refl _ _) _), below_drewN HBZ.out _⟩, by simp [intOf]; omega⟩
              · have z6 : decide ((j : Int) + 1 < (t.length : Int)) = false := decide_eq_false (by omega)
                have HSZ := hideIt hst
                have HU : Hid (upK t j = up t) := by show _ = _; unfold up; rw [show t.length - 1 = j by omega]
                clear hst
                go_wp2
                exact ⟨⟨k + 1, m1, c2, a2, by omega, by omega, by go_num, rfl, by rw [← HT2.out, ← HU.out]; exact HSZ.out⟩, by simp [intOf]; omega⟩
      · obtain rfl : k = n := by omega
        rw [List.take_of_length_le (by omega)] at hst
        have HST := hideIt hst
        clear hst
        go_wp2
        go_ret
        exact ⟨a1, m, c1, rfl, by rw [HV.out]; exact own_mono HST.out.own (by simp), HB0.out.up HST.out.bel⟩
  · have HF2 := hideIt (sForestOk_no hP c hn (h.up b1))
    have HV := hideIt (edgesO_no hP)
    clear h b0 b1 hP S0
    go_enter Try.func16, Try.ntmps16
    go_wp2_with (go_at_call 36; refine HF2.out.mono ?_; rintro e w1 ⟨rfl, hg1⟩)
    go_ret
    have S1 := HS0.out.up hg1
    exact ⟨_, 0, 0, rfl, by rw [HV.out]; exact own_mono S1.own (by simp), HB0.out.up S1.bel⟩
end Go.Proofs.Ytcpffonenhhfoab
