/- The library's sorting by a comparison, at this program, by the shelf's own laying in plain words. slices.SortedFunc of a list of edges by compareEdges: the edges ascending, in a list of their own. The edges of a forest as the two sides make them: pure. A forest linked by an edge, and cut there again: what TreeOf, SizeOf, EdgesOf say of it. Pure. The program's EdgeOk. ForestNew: what it answers, the program's and the specification's. -/
import Derived.Shelf.SlSortCmp.NoneTotal
import Derived.Test.YtklalfkdikjkfaaGreatProg
import Derived.Test.YtklalfkdikjkfaaGreatKCmp6
import Derived.Test.YtklalfkdikjkfaaGreatKLc7
import Derived.Test.YtklalfkdikjkfaaGreatKE6
import Derived.Test.YtklalfkdikjkfaaGreatKDraw7
namespace Go.Proofs
open Go.Shelf
def Tryz.laysSF_ren : Go.Shelf.Ren := ⟨fun | 6 => 61 | 15 => 115 | 14 => 114 | 28 => 163 | 29 => 164 | 20 => 155 | 21 => 156 | 22 => 157 | 23 => 158 | 24 => 159 | 25 => 160 | 26 => 161 | 27 => 162 | 46 => 199 | 47 => 200 | 48 => 201 | 49 => 202 | 50 => 203 | 57 => 212 | n => n, fun | 22 => 35 | 24 => 28 | 25 => 97 | 3 => 3 | 39 => 138 | 0 => 0 | 53 => 180 | 55 => 182 | 4 => 4 | 46 => 174 | 45 => 173 | 50 => 151 | 5 => 5 | 9 => 9 | 66 => 208 | 70 => 212 | 76 => 220 | 77 => 221 | n => n, fun | n => n⟩
theorem Tryz.laysSF : Go.Proofs.SlLaysF0.n6 Tryz.prog Tryz.laysSF_ren := {
  mixed := by kernel_rfl
  f6 := ⟨Tryz.f61.name, by decide, Tryz.func61.trans (congrArg some (by kernel_rfl))⟩
  f14 := ⟨Tryz.f114.name, by decide, Tryz.func114.trans (congrArg some (by kernel_rfl))⟩
  f15 := Tryz.func115.trans (congrArg some (by kernel_rfl))
  f20 := ⟨Tryz.f155.name, by decide, Tryz.func155.trans (congrArg some (by kernel_rfl))⟩
  f21 := ⟨Tryz.f156.name, by decide, Tryz.func156.trans (congrArg some (by kernel_rfl))⟩
  f22 := ⟨Tryz.f157.name, by decide, Tryz.func157.trans (congrArg some (by kernel_rfl))⟩
  f23 := ⟨Tryz.f158.name, by decide, Tryz.func158.trans (congrArg some (by kernel_rfl))⟩
  f24 := ⟨Tryz.f159.name, by decide, Tryz.func159.trans (congrArg some (by kernel_rfl))⟩
  f25 := ⟨Tryz.f160.name, by decide, Tryz.func160.trans (congrArg some (by kernel_rfl))⟩
  f26 := ⟨Tryz.f161.name, by decide, Tryz.func161.trans (congrArg some (by kernel_rfl))⟩
  f27 := ⟨Tryz.f162.name, by decide, Tryz.func162.trans (congrArg some (by kernel_rfl))⟩
  f28 := Tryz.func163.trans (congrArg some (by kernel_rfl))
  f29 := Tryz.func164.trans (congrArg some (by kernel_rfl))
  f46 := ⟨Tryz.f199.name, by decide, Tryz.func199.trans (congrArg some (by kernel_rfl))⟩
  f47 := Tryz.func200.trans (congrArg some (by kernel_rfl))
  f48 := Tryz.func201.trans (congrArg some (by kernel_rfl))
  f49 := ⟨Tryz.f202.name, by decide, Tryz.func202.trans (congrArg some (by kernel_rfl))⟩
  f50 := ⟨Tryz.f203.name, by decide, Tryz.func203.trans (congrArg some (by kernel_rfl))⟩
  f57 := ⟨Tryz.f212.name, by decide, Tryz.func212.trans (congrArg some (by kernel_rfl))⟩
  t0 := Tryz.underlying0
  a0 := Tryz.isAgg0
  z0 := Tryz.sizeOf0
  v0 := Tryz.zeroValue0
  t3 := Tryz.underlying3
  a3 := Tryz.isAgg3
  z3 := Tryz.sizeOf3
  v3 := Tryz.zeroValue3
  t4 := Tryz.underlying4
  a4 := Tryz.isAgg4
  z4 := Tryz.sizeOf4
  v4 := Tryz.zeroValue4
  t5 := Tryz.underlying5
  a5 := Tryz.isAgg5
  z5 := Tryz.sizeOf5
  v5 := Tryz.zeroValue5
  t9 := Tryz.underlying9
  a9 := Tryz.isAgg9
  z9 := Tryz.sizeOf9
  v9 := Tryz.zeroValue9
  t22 := Tryz.underlying35
  a22 := Tryz.isAgg35
  z22 := Tryz.sizeOf35
  v22 := Tryz.zeroValue35
  t25 := Tryz.underlying97
  a25 := Tryz.isAgg97
  z25 := Tryz.sizeOf97
  v25 := Tryz.zeroValue97
  t39 := Tryz.underlying138
  a39 := Tryz.isAgg138
  z39 := Tryz.sizeOf138
  v39 := Tryz.zeroValue138
  t45 := Tryz.underlying173
  a45 := Tryz.isAgg173
  z45 := Tryz.sizeOf173
  v45 := Tryz.zeroValue173
  t46 := Tryz.underlying174
  a46 := Tryz.isAgg174
  z46 := Tryz.sizeOf174
  v46 := Tryz.zeroValue174
  t50 := Tryz.underlying151
  a50 := Tryz.isAgg151
  z50 := Tryz.sizeOf151
  v50 := Tryz.zeroValue151
  t53 := Tryz.underlying180
  a53 := Tryz.isAgg180
  z53 := Tryz.sizeOf180
  v53 := Tryz.zeroValue180
  t55 := Tryz.underlying182
  a55 := Tryz.isAgg182
  z55 := Tryz.sizeOf182
  v55 := Tryz.zeroValue182
  t66 := Tryz.underlying208
  a66 := Tryz.isAgg208
  z66 := Tryz.sizeOf208
  v66 := Tryz.zeroValue208
  t70 := Tryz.underlying212
  a70 := Tryz.isAgg212
  z70 := Tryz.sizeOf212
  v70 := Tryz.zeroValue212
  t76 := Tryz.underlying220
  a76 := Tryz.isAgg220
  z76 := Tryz.sizeOf220
  v76 := Tryz.zeroValue220
  t77 := Tryz.underlying221
  a77 := Tryz.isAgg221
  z77 := Tryz.sizeOf221
  v77 := Tryz.zeroValue221 }
end Go.Proofs
namespace Go.Proofs.YtklalfkdikjkfaaGreat
open Go.RowKit Go.Sort Go.Lib

set_option maxHeartbeats 1000000 in
theorem compareEdges_grow (d e : EdgeV) (w : World) :
    Calls Tryz.prog 62 #[.agg #[.int .i64 d.1, .int .i64 d.2], .agg #[.int .i64 e.1, .int .i64 e.2]] w fun x w' => x = .returned (.int .i64 (cmpE d e)) ∧ ∃ q os', w' = grow (w.drewN q) os' := by
  obtain ⟨a, b⟩ := d
  obtain ⟨c, f⟩ := e
  dsimp only
  have HC := hideIt cmpCompare_any
  have HO : Hid (Calls Tryz.prog 116 #[.slice (some ⟨w.heap.size + 1 + 1, 0, none⟩) 2 2] (((w.alloc (.cells #[.int .i64 a, .int .i64 b] 28)).alloc (.cells #[.int .i64 c, .int .i64 f] 28)).alloc (.cells #[.int .i64 (cmpI a c), .int .i64 (cmpI b f)] 3)).drew
      fun e w' => e = .returned (.int .i64 (cmpE (a, b) (c, f))) ∧ w' = (((w.alloc (.cells #[.int .i64 a, .int .i64 b] 28)).alloc (.cells #[.int .i64 c, .int .i64 f] 28)).alloc (.cells #[.int .i64 (cmpI a c), .int .i64 (cmpI b f)] 3)).drew) :=
    cmpOr_any (cmpI a c) (cmpI b f) (w.heap.size + 1 + 1) _ (by simp [go_sem]) (by simp [go_sem])
  go_enter Tryz.func62, Tryz.ntmps62
  go_wp2
  go_region_held3 (fun u => (u.cell? ⟨w.heap.size, 0, none⟩ = some (.int .i64 a) ∧ u.cell? ⟨w.heap.size, 1, none⟩ = some (.int .i64 b)) ∧ u.cell? ⟨w.heap.size + 1, 0, none⟩ = some (.int .i64 c) ∧ u.cell? ⟨w.heap.size + 1, 1, none⟩ = some (.int .i64 f))
    (go_keep)
    (first
      | (go_at_call 117; refine (HC.out _ _ _).mono ?_; rintro e w1 ⟨rfl, rfl⟩)
      | (go_at_call 116; refine HO.out.mono ?_; rintro e w1 ⟨rfl, rfl⟩))
  all_goals
    go_wp2
    go_ret
    exact ⟨rfl, 1, _, by rw [alloc_eq_grow, alloc_eq_grow, alloc_eq_grow, grow_grow, grow_grow]; rfl⟩

theorem ltE (x y : EdgeV) : ltOf cmpE x y = lt x y := by
  unfold ltOf
  rw [Bool.eq_iff_iff, decide_eq_true_iff, cmpE_neg]
theorem swoE : SWO (ltOf cmpE) where
  irrefl x := by rw [ltE]; exact lt_irrefl' x
  trans x y z h1 h2 := by rw [ltE] at *; exact lt_trans' h1 h2
  ntrans x y z h1 h2 := by
    rw [ltE] at *
    cases h : lt x z with
    | false => rfl
    | true =>
      rw [lt_iff] at h
      have a1 : ¬ (lt x y = true) := by rw [h1]; simp
      have a2 : ¬ (lt y z = true) := by rw [h2]; simp
      rw [lt_iff] at a1 a2
      omega
/-- the edges, ascending -/
def srtE (es : List EdgeV) : List EdgeV := es.mergeSort fun x y => !(lt y x)
theorem srtE_eq (es : List EdgeV) : (es.mergeSort fun x y => !(ltOf cmpE) y x) = srtE es := by
  unfold srtE
  congr 1
  funext x y
  rw [ltE]
theorem srtE_perm (es : List EdgeV) : (srtE es).Perm es := List.mergeSort_perm _ _
theorem srtE_mem (es : List EdgeV) (e : EdgeV) : e ∈ srtE es ↔ e ∈ es := (srtE_perm es).mem_iff
theorem srtE_len (es : List EdgeV) : (srtE es).length = es.length := (srtE_perm es).length_eq
theorem srtE_asc {es : List EdgeV} (hn : es.Nodup) : Asc (srtE es) := by
  have hp : (srtE es).Pairwise (fun x y => (!(lt y x)) = true) := List.pairwise_mergeSort (fun a b c h1 h2 => by
      simp only [Bool.not_eq_true'] at h1 h2 ⊢
      have a1 : ¬ (lt b a = true) := by rw [h1]; simp
      have a2 : ¬ (lt c b = true) := by rw [h2]; simp
      cases h : lt c a with
      | false => rfl
      | true =>
        rw [lt_iff] at h a1 a2
        omega) (fun a b => by
      cases h : lt b a with
      | false => simp
      | true => simp [lt_asymm' h]) es
  have hn2 : (srtE es).Nodup := (srtE_perm es).nodup_iff.2 hn
  intro i j d e hij hd he
  obtain ⟨q0, q1⟩ := List.getElem?_eq_some_iff.1 hd
  obtain ⟨q2, q3⟩ := List.getElem?_eq_some_iff.1 he
  have h1 := List.pairwise_iff_getElem.1 hp i j q0 q2 hij
  have h2 := List.pairwise_iff_getElem.1 hn2 i j q0 q2 hij
  rw [q1, q3] at h1 h2
  simp only [Bool.not_eq_true'] at h1
  exact lt_total' h1 (fun e => h2 e.symm)

theorem flat_cells (es : List EdgeV) : flatK ecell 2 es.toArray = (ecells es).toArray := by
  refine ext_get! (by simp [ecells_length]) fun t ht => ?_
  have ht' : t < es.length * 2 := by simpa using ht
  rw [get_flatK _ _ _ t (by simpa using ht')]
  obtain ⟨f, hf⟩ : ∃ f, es[t / 2]? = some f := ⟨es[t / 2]'(by omega), List.getElem?_eq_getElem (by omega)⟩
  have hfe : es.toArray[t / 2]! = f := by
    rw [getElem!_pos _ _ (by simp; omega)]
    obtain ⟨q, e⟩ := List.getElem?_eq_some_iff.1 hf
    simpa using e
  rw [hfe]
  obtain ⟨h0, h1⟩ := ecells_at es (t / 2) f hf
  have hl : t < (ecells es).length := by rw [ecells_length]; exact ht'
  rw [getElem!_pos _ t (by simpa using hl)]
  rcases Nat.mod_two_eq_zero_or_one t with h | h
  · have et : t / 2 * 2 = t := by omega
    rw [et] at h0
    obtain ⟨q, e⟩ := List.getElem?_eq_some_iff.1 h0
    rw [h]
    simpa [ecell] using e.symm
  · have et : t / 2 * 2 + 1 = t := by omega
    rw [et] at h1
    obtain ⟨q, e⟩ := List.getElem?_eq_some_iff.1 h1
    rw [h]
    simpa [ecell] using e.symm
theorem take_putId (cur F : Array Value) (h : F.size ≤ cur.size) : (putCells id 0 F cur).toList.take F.size = F.toList := by
  apply List.ext_getElem?
  intro j
  by_cases hj : j < F.size
  · rw [List.getElem?_take_of_lt hj, Array.getElem?_toList]
    simp [putCells, hj, show j < cur.size by omega]
  · rw [List.getElem?_take_eq_none (by omega), List.getElem?_eq_none (by simp; omega)]
theorem heap_putId {w : World} {g n : Nat} {os : Array Obj} {cur : Array Value} {e : TypeId} {fr : Nat × Nat} (F : Array Value) (hb : w.heap[g]? = some (.cells cur e fr)) :
    (grow (putRow id (Sort.ahead w n) g 0 F) os).heap[g]? = some (.cells (putCells id 0 F cur) e fr) := by
  have hg : g < w.heap.size := (Array.getElem?_eq_some_iff.1 hb).1
  rw [heap_grow_old _ _ (by simpa using hg)]
  simp [putRow, mapBlock, Sort.ahead, Array.getElem?_modify, hb, onCells]
theorem grown_putId {w : World} {g n : Nat} {os : Array Obj} (F : Array Value) : w.grownBy (grow (putRow id (Sort.ahead w n) g 0 F) os) (some g) := by
  refine ⟨rfl, rfl, rfl, by simp, fun k hk hne => ?_⟩
  rw [heap_grow_old _ _ (by simpa using hk)]
  have : g ≠ k := fun e => hne (by rw [e])
  simp [putRow, mapBlock, Sort.ahead, Array.getElem?_modify, this]

set_option maxHeartbeats 1000000 in
theorem sortFE_any (es : List EdgeV) (m : Nat) (v : Value) (B : Nat) (hm : m ≤ 3000000) (w : World) (h : w.ownsRow B 28 2 v m (ecells es)) :
    Calls Tryz.prog 61 #[v, .func (.func 62) #[] #[]] w fun e w' => e = .returned (.tuple #[]) ∧ w'.ownsRow B 28 2 v m (ecells (srtE es)) ∧ (B ≤ w.heap.size → Below B w w') := by
  have hl := h.1
  rw [ecells_length] at hl
  rcases h.2 with ⟨rfl, h0⟩ | ⟨g, cap, cur, rfl, hg, hgb, r1, r2, r3, r4⟩
  · have hc := AnyF.slices_SortFunc_none Tryz.laysSF none 0 (.func (.func 62) #[] #[]) w
    change Calls Tryz.prog 61 _ _ _ at hc
    refine hc.mono ?_
    rintro e w' ⟨rfl, rfl⟩
    have e : es = [] := List.eq_nil_of_length_eq_zero (by omega)
    subst e
    exact ⟨rfl, by simpa [srtE] using h, fun _ => Below.refl _ _⟩
  · have hgl : g < w.heap.size := (Array.getElem?_eq_some_iff.1 hgb).1
    have hH : HoldsK ecell 2 w g 0 es.toArray := by
      unfold HoldsK
      rw [flat_cells]
      intro j hj
      have hj' : j < (ecells es).length := by simpa using hj
      refine ⟨?_, h.frozenAt (0 + j)⟩
      rw [Nat.zero_add, h.cellAt j (by rw [ecells_length] at hj'; omega), getElem!_pos _ j hj]
      simp [hj']
    have hc := AnyQ.slices_SortFunc_total Tryz.laysSF 2 Tryz.isAgg28 Tryz.sizeOf28 ecell (fun _ => rfl) (fun x u hu => by simp [ecell] at hu; rcases hu with rfl | rfl <;> rfl) cmpE swoE 62 #[] g 0 cap es.toArray w
      (enters_of Tryz.func62 (by kernel_rfl) rfl) (fun _ _ _ _ x y => compareEdges_grow x y _) hH hgl (by simp; omega) (fun x y h1 h2 => by
        rw [ltE] at h1 h2
        exact Classical.byContradiction fun hne => by have := lt_total' h1 hne; rw [h2] at this; simp at this)
    change Calls Tryz.prog 61 _ _ _ at hc
    rw [show es.toArray.size = m by simp; omega] at hc
    refine hc.mono ?_
    rintro e w' ⟨rfl, n, os, rfl⟩
    rw [show es.toArray.toList = es by simp, srtE_eq]
    unfold sortWorldK putRowK
    rw [flat_cells]
    have hsl : (ecells (srtE es)).toArray.size = m * 2 := by simp [ecells_length, srtE_len]; omega
    refine ⟨rfl, ⟨by rw [ecells_length, srtE_len]; omega, .inr ⟨g, cap, _, rfl, hg, heap_putId _ hgb, r1, r2, by simp [putCells, r3], ?_⟩⟩, fun hB => (Below.refl _ w).grown (grown_putId _) hB (fun j e => by cases e; exact hg)⟩
    have := take_putId cur (ecells (srtE es)).toArray (by rw [hsl, r3]; omega)
    rw [hsl] at this
    simpa using this

set_option maxHeartbeats 1000000 in
theorem sortedFE_any (es : List EdgeV) (m : Nat) (a : Option Addr) (c B : Nat) (hm : m ≤ 3000000) (w : World) (hB : B < w.heap.size) (hBc : w.cell? ⟨B, 0, none⟩ = some (.slice a m c)) (h : Es w w.heap.size a m es) :
    Calls Tryz.prog 136 #[.func (.func 174) #[] #[.pointer (some ⟨B, 0, none⟩)], .func (.func 62) #[] #[]] w fun e w' => ∃ a' c', e = .returned (.slice a' m c') ∧ w'.ownsRow w.heap.size 28 2 (.slice a' m c') m (ecells (srtE es)) ∧ Below w.heap.size w w' := by
  have HA := hideIt (collectE_any es m a c B hm w hB hBc h)
  clear h hBc
  go_enter Tryz.func136, Tryz.ntmps136
  go_wp2_with (go_at_call 173; refine HA.out.mono ?_; rintro e w1 ⟨v, rfl, ho, hb⟩; refine Hid.out ?_)
  refine (show ∀ {p : Prop}, p → Hid p from fun h => h) ?_
  obtain ⟨a1, c1, rfl⟩ := own_form ho
  have HS := hideIt (sortFE_any es m _ w.heap.size hm w1 ho)
  clear HA ho
  go_wp2_with (go_at_call 61; refine HS.out.mono ?_; rintro e w2 ⟨rfl, ho2, hb2⟩)
  go_ret
  exact ⟨a1, c1, rfl, ho2, hb.trans (hb2 hb.size)⟩
end Go.Proofs.YtklalfkdikjkfaaGreat
namespace Go.Proofs.YtklalfkdikjkfaaGreat
open Go.RowKit

/-- a list that has all of another, which tells each once, and is no longer, is it in some order -/
theorem perm_card {α : Type} [DecidableEq α] : ∀ {m l : List α}, m.Nodup → (∀ x ∈ m, x ∈ l) → l.length ≤ m.length → m.Perm l
  | [], l, _, _, h => by
    have : l = [] := List.eq_nil_of_length_eq_zero (by simpa using h)
    rw [this]
  | x :: m, l, hn, hs, hl => by
    have hn' := List.nodup_cons.1 hn
    have hx : x ∈ l := hs x (by simp)
    have h1 := perm_card (m := m) (l := l.erase x) hn'.2 (fun y hy => by
      have hne : y ≠ x := fun e => hn'.1 (e ▸ hy)
      exact (List.mem_erase_of_ne hne).2 (hs y (by simp [hy]))) (by
      have := List.length_erase_of_mem hx
      have := List.length_pos_of_mem hx
      simp only [List.length_cons] at hl
      omega)
    exact (h1.cons x).trans (List.perm_cons_erase hx).symm
/-- the steps of the first k, from the lesser end to the greater -/
def upK (t : List Int) : Nat → List EdgeV
  | 0 => []
  | i + 1 => upK t i ++ match t[i]?, t[i + 1]? with | some a, some b => if a < b then [(a, b)] else [] | _, _ => []
/-- .. and the other way, told by the lesser end too -/
def dnK (t : List Int) : Nat → List EdgeV
  | 0 => []
  | i + 1 => dnK t i ++ match t[i]?, t[i + 1]? with | some a, some b => if b < a then [(b, a)] else [] | _, _ => []
def up (t : List Int) : List EdgeV := upK t (t.length - 1)
theorem upK_yes {t : List Int} {i : Nat} {a b : Int} (h1 : t[i]? = some a) (h2 : t[i + 1]? = some b) (hl : a < b) : upK t (i + 1) = upK t i ++ [(a, b)] := by rw [upK, h1, h2]; simp [hl]
theorem upK_no {t : List Int} {i : Nat} {a b : Int} (h1 : t[i]? = some a) (h2 : t[i + 1]? = some b) (hl : ¬ a < b) : upK t (i + 1) = upK t i := by rw [upK, h1, h2]; simp [hl]
theorem upK_mem (t : List Int) (k : Nat) (e : EdgeV) : e ∈ upK t k ↔ ∃ i, i < k ∧ t[i]? = some e.1 ∧ t[i + 1]? = some e.2 ∧ e.1 < e.2 := by
  induction k with
  | zero => simp [upK]
  | succ k ih =>
    rw [upK, List.mem_append, ih]
    constructor
    · rintro (⟨i, h1, h2⟩ | h)
      · exact ⟨i, by omega, h2⟩
      · refine ⟨k, by omega, ?_⟩
        cases h1 : t[k]? with
        | none => rw [h1] at h; simp at h
        | some a =>
          cases h2 : t[k + 1]? with
          | none => rw [h1, h2] at h; simp at h
          | some b =>
            rw [h1, h2] at h
            by_cases hl : a < b
            · simp [hl] at h
              subst h
              exact ⟨rfl, rfl, hl⟩
            · simp [hl] at h
    · rintro ⟨i, h1, h2, h3, h4⟩
      by_cases hi : i = k
      · subst hi
        right
        rw [h2, h3]
        simp [h4]
      · exact .inl ⟨i, by omega, h2, h3, h4⟩
theorem dnK_mem (t : List Int) (k : Nat) (e : EdgeV) : e ∈ dnK t k ↔ ∃ i, i < k ∧ t[i]? = some e.2 ∧ t[i + 1]? = some e.1 ∧ e.1 < e.2 := by
  induction k with
  | zero => simp [dnK]
  | succ k ih =>
    rw [dnK, List.mem_append, ih]
    constructor
    · rintro (⟨i, h1, h2⟩ | h)
      · exact ⟨i, by omega, h2⟩
      · refine ⟨k, by omega, ?_⟩
        cases h1 : t[k]? with
        | none => rw [h1] at h; simp at h
        | some a =>
          cases h2 : t[k + 1]? with
          | none => rw [h1, h2] at h; simp at h
          | some b =>
            rw [h1, h2] at h
            by_cases hl : b < a
            · simp [hl] at h
              subst h
              exact ⟨rfl, rfl, hl⟩
            · simp [hl] at h
    · rintro ⟨i, h1, h2, h3, h4⟩
      by_cases hi : i = k
      · subst hi
        right
        rw [h2, h3]
        simp [h4]
      · exact .inl ⟨i, by omega, h2, h3, h4⟩
theorem ud_len {t : List Int} (hB : tB t = true) (k : Nat) (hk : k + 1 ≤ t.length) : (upK t k).length + (dnK t k).length = k := by
  induction k with
  | zero => simp [upK, dnK]
  | succ k ih =>
    have h1 : t[k]? = some t[k] := List.getElem?_eq_getElem (by omega)
    have h2 : t[k + 1]? = some t[k + 1] := List.getElem?_eq_getElem (by omega)
    have hne : t[k] ≠ t[k + 1] := fun e => no_stay (x := t[k]) hB h1 (by rw [h2, e])
    have ih := ih (by omega)
    rw [upK, dnK, h1, h2]
    by_cases hl : t[k] < t[k + 1]
    · have : ¬ t[k + 1] < t[k] := by omega
      simp [hl, this]
      omega
    · have : t[k + 1] < t[k] := by omega
      simp [hl, this]
      omega
theorem up_mem (t : List Int) (e : EdgeV) : e ∈ up t ↔ e ∈ tE t := by
  unfold up
  rw [upK_mem, tE_mem]
  constructor
  · rintro ⟨i, _, h⟩; exact ⟨i, h⟩
  · rintro ⟨i, h1, h2, h3⟩; exact ⟨i, by have := (List.getElem?_eq_some_iff.1 h2).1; omega, h1, h2, h3⟩
theorem up_perm {t : List Int} (hB : tB t = true) : (tE t).Perm (up t) := by
  have hp := tB_pos hB
  have hc := tE_count hB
  have hu := ud_len hB (t.length - 1) (by omega)
  have hd := nd_sub (b := dnK t (t.length - 1)) (eK_nodup t (t.length - 1)) fun e he => by
    obtain ⟨i, h1, h2, h3⟩ := (tE_mem t e).1 he
    obtain ⟨j, hj⟩ := go_back hB h1 h2
    refine (dnK_mem t _ e).2 ⟨j, ?_⟩
    unfold goP at hj
    cases q1 : t[j]? with
    | none => rw [q1] at hj; simp at hj
    | some a =>
      cases q2 : t[j + 1]? with
      | none => rw [q1, q2] at hj; simp at hj
      | some b =>
        rw [q1, q2] at hj
        simp at hj
        exact ⟨by have := (List.getElem?_eq_some_iff.1 q2).1; omega, by rw [hj.1], by rw [hj.2], h3⟩
  have hd : (tE t).length ≤ (dnK t (t.length - 1)).length := hd
  exact perm_card (eK_nodup t _) (fun e he => (up_mem t e).2 he) (by show (upK t (t.length - 1)).length ≤ _; show _ ≤ (tE t).length; omega)
/-- all of them -/
def allU (ts : List (List Int)) : List EdgeV := ts.flatMap up
theorem allU_snoc (ts : List (List Int)) (t : List Int) : allU (ts ++ [t]) = allU ts ++ up t := by simp [allU]
theorem allU_perm {ts : List (List Int)} (h : ∀ t ∈ ts, tB t = true) : (allE ts).Perm (allU ts) := by
  induction ts with
  | nil => exact List.Perm.refl _
  | cons t r ih =>
    show (tE t ++ allE r).Perm (up t ++ allU r)
    exact (up_perm (h t (by simp))).append (ih fun s hs => h s (by simp [hs]))
theorem allU_nodup {N : Int} {ts : List (List Int)} (h : FQ N ts) : (allU ts).Nodup := (allU_perm fun t ht => (h.1 t ht).1).nodup_iff.1 (allE_nodup h.2.1)
/-- put in one behind the other -/
def putF : List EdgeV → List EdgeV → List EdgeV
  | es, [] => es
  | es, e :: r => putF (putE es e) r
theorem putF_snoc (es r : List EdgeV) (e : EdgeV) : putF es (r ++ [e]) = putE (putF es r) e := by
  induction r generalizing es with
  | nil => rfl
  | cons x r ih => exact ih (putE es x)
theorem putE_perm {es : List EdgeV} {e : EdgeV} (hn : e ∉ es) : (putE es e).Perm (es ++ [e]) := by
  have h1 : ∀ l : List EdgeV, e ∉ l → (l.filter (fun d => lt d e) ++ l.filter (fun d => lt e d)).Perm l := fun l => by
    induction l with
    | nil => intro _; exact List.Perm.refl _
    | cons x l ih =>
      intro hx
      have hne : e ≠ x := fun h => hx (by simp [h])
      have ih := ih fun h => hx (by simp [h])
      cases hl : lt x e with
      | true =>
        rw [List.filter_cons_of_pos (p := fun d => lt d e) hl, List.filter_cons_of_neg (p := fun d => lt e d) (by rw [lt_asymm' hl]; simp)]
        exact ih.cons x
      | false =>
        have h2 : lt e x = true := lt_total' hl (Ne.symm hne)
        rw [List.filter_cons_of_neg (p := fun d => lt d e) (by rw [hl]; simp), List.filter_cons_of_pos (p := fun d => lt e d) h2]
        exact List.perm_middle.trans (ih.cons x)
  have h2 := h1 es hn
  unfold putE
  have h3 : (es.filter (fun d => lt d e) ++ [e] ++ es.filter (fun d => lt e d)).Perm (es.filter (fun d => lt d e) ++ es.filter (fun d => lt e d) ++ [e]) := by
    rw [List.append_assoc, List.append_assoc]
    exact List.perm_append_comm.append_left _
  exact h3.trans (h2.append_right [e])
theorem putE_asc {es : List EdgeV} {e : EdgeV} (h : es.Pairwise fun d e => lt d e = true) : (putE es e).Pairwise fun d e => lt d e = true := by
  unfold putE
  rw [List.pairwise_append, List.pairwise_append]
  refine ⟨⟨h.filter _, by simp, fun d hd x hx => ?_⟩, h.filter _, fun d hd x hx => ?_⟩
  · simp at hx
    subst hx
    exact (List.mem_filter.1 hd).2
  · have hx2 := (List.mem_filter.1 hx).2
    rcases List.mem_append.1 hd with hd | hd
    · exact lt_trans' (List.mem_filter.1 hd).2 hx2
    · simp at hd
      subst hd
      exact hx2
theorem putF_is {l : List EdgeV} (hn : l.Nodup) : (putF [] l).Perm l ∧ (putF [] l).Pairwise fun d e => lt d e = true := by
  suffices H : ∀ k, (putF [] (l.take k)).Perm (l.take k) ∧ (putF [] (l.take k)).Pairwise fun d e => lt d e = true by
    have := H l.length
    rwa [List.take_length] at this
  intro k
  induction k with
  | zero => simp [putF]
  | succ k ih =>
    cases hk : l[k]? with
    | none =>
      have : l.take (k + 1) = l.take k := by rw [List.take_add_one, hk]; simp
      rw [this]
      exact ih
    | some e =>
      rw [take_snocF l k e hk, putF_snoc]
      have hne : e ∉ putF [] (l.take k) := fun hm => by
        have hm2 := ih.1.mem_iff.1 hm
        obtain ⟨j, hj⟩ := List.mem_iff_getElem?.1 hm2
        have hjk : j < k := by have := (List.getElem?_eq_some_iff.1 hj).1; rw [List.length_take] at this; omega
        rw [List.getElem?_take_of_lt hjk] at hj
        obtain ⟨p0, p1⟩ := List.getElem?_eq_some_iff.1 hj
        obtain ⟨q0, q1⟩ := List.getElem?_eq_some_iff.1 hk
        exact List.pairwise_iff_getElem.1 hn j k p0 q0 hjk (p1.trans q1.symm)
      exact ⟨(putE_perm hne).trans (ih.1.append_right [e]), putE_asc ih.2⟩
theorem putF_srt {l : List EdgeV} (hn : l.Nodup) : putF [] l = srtE l := by
  obtain ⟨h1, h2⟩ := putF_is hn
  have h3 : (srtE l).Pairwise fun d e => lt d e = true := by
    rw [List.pairwise_iff_getElem]
    intro i j hi hj hij
    exact srtE_asc hn i j _ _ hij (List.getElem?_eq_getElem hi) (List.getElem?_eq_getElem hj)
  exact List.Perm.eq_of_pairwise (fun a b _ _ h4 h5 => by rw [lt_asymm' h4] at h5; cases h5) h2 h3 (h1.trans (srtE_perm l).symm)
theorem putF_len {l : List EdgeV} (hn : l.Nodup) (k : Nat) : (putF [] (l.take k)).length ≤ k := by
  have h1 := (putF_is (l := l.take k) (hn.sublist (List.take_sublist k l))).1.length_eq
  rw [h1]
  exact List.length_take_le k l
/-- what EdgesOf answers -/
noncomputable def edgesO (N : Int) (ts : List (List Int)) : List EdgeV := @ite _ (FP N ts) (Classical.propDecidable _) (srtE (allU ts)) []
theorem edgesO_yes {N : Int} {ts : List (List Int)} (h : FP N ts) : edgesO N ts = srtE (allU ts) := by unfold edgesO; rw [if_pos h]
theorem edgesO_no {N : Int} {ts : List (List Int)} (h : ¬ FP N ts) : edgesO N ts = [] := by unfold edgesO; rw [if_neg h]
end Go.Proofs.YtklalfkdikjkfaaGreat
namespace Go.Proofs.YtklalfkdikjkfaaGreat
open Go.RowKit

theorem edge_cut {N : Nat} {ts : List (List Int)} (hP : FP (N : Int) ts) {e : EdgeV} (he : e ∈ edgesO (N : Int) ts) : ∃ gs, cutO (N : Int) ts e = some gs ∧ FP (N : Int) gs := by
  rw [edgesO_yes hP, srtE_mem, ← (allU_perm fun t ht => (hP.q.1 t ht).1).mem_iff, allE_mem] at he
  obtain ⟨t, ht, hE⟩ := he
  have hB := (hP.q.1 t ht).1
  obtain ⟨q1, q2, _⟩ := tE_ends hB e hE
  obtain ⟨m1, m2⟩ := tE_in e hE
  obtain ⟨i, h1, h2, h3⟩ := (tE_mem t e).1 hE
  obtain ⟨A, B, p, c, s1, _, _, _⟩ := spl_is hB h1 h2
  obtain ⟨k, hk⟩ := List.mem_iff_getElem?.1 ht
  have hN1 := hP.1
  have hN2 := hP.2.1
  have hlt := (hP.q.1 t ht).2 _ m2
  have hEB : eB (N : Int) e = true := by unfold eB; exact decide_eq_true ⟨by omega, by omega, q1, q2, hlt⟩
  exact ⟨_, cutO_yes hP hEB hk m1 s1, FP_srt (by omega) (by omega) (cut_fq hP hk s1)⟩
theorem link_fp {N : Nat} {ts gs : List (List Int)} {e : EdgeV} (h : linkO (N : Int) ts e = some gs) : FP (N : Int) gs := by
  by_cases hc : FP (N : Int) ts ∧ eB (N : Int) e = true ∧ trI ts e.1 ≠ trI ts e.2
  · obtain ⟨hP, hE, hne⟩ := hc
    obtain ⟨i, j, a, b, hi, hj, hu, hv⟩ := edge_at hP hE
    have hij : i ≠ j := fun e1 => hne (by subst e1; rw [trI_of hP.q hi hu, trI_of hP.q hj hv])
    obtain ⟨J, hJ, L⟩ := lk_is hP hi hj hij hu hv
    rw [linkO_yes hP hE hi hj hu hv hij hJ] at h
    cases h
    exact L.ok
  · rw [linkO_no hc] at h
    cases h
/-- all that the law asks -/
structure Law8 (N : Nat) (f : List (List Int)) (e : EdgeV) (g h : List (List Int)) : Prop where
  link : linkO (N : Int) f e = some g
  cut : cutO (N : Int) g e = some h
  gok : FP (N : Int) g
  hok : FP (N : Int) h
  len : g.length + 1 = f.length
  size : sizeO (N : Int) f e.1 + sizeO (N : Int) f e.2 = sizeO (N : Int) g e.1
  tree : treeO (N : Int) g e.1 = treeO (N : Int) g e.2
  edge : e ∈ edgesO (N : Int) g
  more : (edgesO (N : Int) g).length = (edgesO (N : Int) f).length + 1
  part : ∀ x m, Prt h x m ↔ Prt f x m
theorem vs_join {a b J : List Int} (hap : Apart a b) (hm : ∀ x, x ∈ J ↔ x ∈ a ∨ x ∈ b) : (vsL J).length = (vsL a).length + (vsL b).length := by
  have h1 : (vsL a ++ vsL b).Nodup := by
    rw [List.nodup_append]
    refine ⟨vs_nodup a, vs_nodup b, fun y hy z hz e => ?_⟩
    subst e
    exact hap y ((vsL_mem a y).1 hy).2 ((vsL_mem b y).1 hz).2
  have h2 : ∀ x, x ∈ vsL J ↔ x ∈ vsL a ++ vsL b := fun x => by
    rw [List.mem_append, vsL_mem, vsL_mem, vsL_mem, hm]
    constructor
    · rintro ⟨p, q | q⟩
      · exact .inl ⟨p, q⟩
      · exact .inr ⟨p, q⟩
    · rintro (⟨p, q⟩ | ⟨p, q⟩)
      · exact ⟨p, .inl q⟩
      · exact ⟨p, .inr q⟩
  have h3 := nd_sub (b := vsL a ++ vsL b) (vs_nodup J) fun x hx => (h2 x).1 hx
  have h4 := nd_sub (b := vsL J) h1 fun x hx => (h2 x).2 hx
  rw [List.length_append] at h3 h4
  omega
theorem law8 {N : Nat} {f : List (List Int)} {e : EdgeV} (hP : FP (N : Int) f) (hE : eB (N : Int) e = true) (hne : trI f e.1 ≠ trI f e.2) : ∃ g h, Law8 N f e g h := by
  obtain ⟨i, j, a, b, hi, hj, hu, hv⟩ := edge_at hP hE
  have t1 := trI_of hP.q hi hu
  have t2 := trI_of hP.q hj hv
  have hij : i ≠ j := fun e1 => hne (by subst e1; rw [t1, t2])
  obtain ⟨J, hJ, L⟩ := lk_is hP hi hj hij hu hv
  obtain ⟨k, hk⟩ := L.there
  obtain ⟨r, hs, hok, hpt⟩ := lk_cut hP L hk
  have hqo := hP.q.perm L.old
  have hap : Apart a b := (List.pairwise_cons.1 hqo.2.1).1 b (by simp)
  have huJ : e.1 ∈ J := (L.jo.mem _).2 (.inl hu)
  have hvJ : e.2 ∈ J := (L.jo.mem _).2 (.inr hv)
  have g1 := trI_of L.ok.q hk huJ
  have g2 := trI_of L.ok.q hk hvJ
  have hB : ∀ t ∈ srtK (woK f [i, j] f.length ++ [J]) N, tB t = true := fun t ht => (L.ok.q.1 t ht).1
  have hlt := (eB_range hE).2.1
  refine ⟨_, _, linkO_yes hP hE hi hj hu hv hij hJ, cutO_yes L.ok hE hk huJ hs, L.ok, hok, L.len, ?_, ?_, ?_, ?_, hpt⟩
  · rw [sizeO_yes (by rw [treeO_yes hP, t1]) hi, sizeO_yes (by rw [treeO_yes hP, t2]) hj, sizeO_yes (by rw [treeO_yes L.ok, g1]) hk, vs_join hap L.jo.mem]
    omega
  · rw [treeO_yes L.ok, treeO_yes L.ok, g1, g2]
  · rw [edgesO_yes L.ok, srtE_mem, ← (allU_perm hB).mem_iff, allE_mem]
    exact ⟨J, List.mem_of_getElem? hk, jo_edge L.jo hlt⟩
  · rw [edgesO_yes L.ok, edgesO_yes hP, srtE_len, srtE_len, ← (allU_perm hB).length_eq, ← (allU_perm fun t ht => (hP.q.1 t ht).1).length_eq]
    have hW : ∀ t ∈ woK f [i, j] f.length, tB t = true := fun t ht => (hqo.1 t (by simp [ht])).1
    have ha := (hqo.1 a (by simp)).1
    have hb := (hqo.1 b (by simp)).1
    have h1 := allE_join ha hb hW L.jo
    have h2 : (allE (srtK (woK f [i, j] f.length ++ [J]) N)).length = (allE (woK f [i, j] f.length ++ [J])).length := (L.perm.flatMap_right _).length_eq
    have h3 : (allE f).length = (allE (a :: b :: woK f [i, j] f.length)).length := (L.old.flatMap_right _).length_eq
    rw [h2, h1, h3]
end Go.Proofs.YtklalfkdikjkfaaGreat
namespace Go.Proofs.YtklalfkdikjkfaaGreat
open Go.RowKit

theorem vertsOk_any (x : Int) (w : World) : Calls Tryz.prog 55 #[.int .i64 x] w fun e w' => e = .returned (.bool (decide (1 ≤ x ∧ x ≤ 12))) ∧ w' = w := by
  by_cases h1 : 1 ≤ x
  · by_cases h2 : x ≤ 12
    · have d1 : decide (1 ≤ x) = true := by simpa using h1
      have d2 : decide (x ≤ 12) = true := by simpa using h2
      go_enter Tryz.func55, Tryz.ntmps55
      go_wp2
      go_ret
      exact ⟨by simp [h1, h2], rfl⟩
    · have d1 : decide (1 ≤ x) = true := by simpa using h1
      have d2 : decide (x ≤ 12) = false := by simpa using h2
      go_enter Tryz.func55, Tryz.ntmps55
      go_wp2
      go_ret
      exact ⟨by simp, rfl⟩
  · have d1 : decide (1 ≤ x) = false := by simpa using h1
    go_enter Tryz.func55, Tryz.ntmps55
    go_wp2
    go_ret
    exact ⟨by simp, rfl⟩

theorem iEdgeOk_any (n : Int) (e : EdgeV) (w : World) :
    Calls Tryz.prog 52 #[.int .i64 n, .agg #[.int .i64 e.1, .int .i64 e.2]] w fun x w' => x = .returned (.bool (eB n e)) ∧ Below w.heap.size w w' := by
  obtain ⟨a, b⟩ := e
  dsimp only
  have HI := hideIt vertsOk_any
  by_cases h1 : 1 ≤ n ∧ n ≤ 12
  · have r1 : decide (1 ≤ n ∧ n ≤ 12) = true := by simpa using h1
    by_cases h2 : 0 ≤ a
    · have r2 : decide (0 ≤ a) = true := by simpa using h2
      by_cases h3 : a < b
      · have r3 : decide (a < b) = true := by simpa using h3
        go_enter Tryz.func52, Tryz.ntmps52
        go_wp2_with (go_at_call 55; refine (HI.out _ _).mono ?_; rintro e w1 ⟨rfl, rfl⟩)
        go_ret
        exact ⟨bret (by dsimp only; omega), (Below.refl _ _).alloc (Nat.le_refl _) _⟩
      · have r3 : decide (a < b) = false := by simpa using h3
        go_enter Tryz.func52, Tryz.ntmps52
        go_wp2_with (go_at_call 55; refine (HI.out _ _).mono ?_; rintro e w1 ⟨rfl, rfl⟩)
        go_ret
        exact ⟨by simp [eB]; omega, (Below.refl _ _).alloc (Nat.le_refl _) _⟩
    · have r2 : decide (0 ≤ a) = false := by simpa using h2
      go_enter Tryz.func52, Tryz.ntmps52
      go_wp2_with (go_at_call 55; refine (HI.out _ _).mono ?_; rintro e w1 ⟨rfl, rfl⟩)
      go_ret
      exact ⟨by simp [eB]; omega, (Below.refl _ _).alloc (Nat.le_refl _) _⟩
  · have r1 : decide (1 ≤ n ∧ n ≤ 12) = false := by simpa using h1
    go_enter Tryz.func52, Tryz.ntmps52
    go_wp2_with (go_at_call 55; refine (HI.out _ _).mono ?_; rintro e w1 ⟨rfl, rfl⟩)
    go_ret
    exact ⟨by simp [eB]; omega, (Below.refl _ _).alloc (Nat.le_refl _) _⟩

end Go.Proofs.YtklalfkdikjkfaaGreat
namespace Go.Proofs.YtklalfkdikjkfaaGreat
open Go.RowKit

/-- each vertex alone -/
def newT (n : Nat) : List (List Int) := (List.range n).map fun j : Nat => [(j : Int)]
theorem newT_len (n : Nat) : (newT n).length = n := by simp [newT]
theorem newT_succ (n : Nat) : newT (n + 1) = newT n ++ [[(n : Int)]] := by simp [newT, List.range_succ]
theorem newT_at {n k : Nat} (h : k < n) : (newT n)[k]? = some [(k : Int)] := by simp [newT, h]
def newO (n : Int) : Option (List (List Int)) := if 1 ≤ n ∧ n ≤ 12 then some (newT n.toNat) else none
theorem newO_yes {n : Nat} (h1 : 1 ≤ n) (h2 : n ≤ 12) : newO (n : Int) = some (newT n) := by unfold newO; rw [if_pos (by omega)]; simp
theorem newO_no {n : Int} (h : ¬ (1 ≤ n ∧ n ≤ 12)) : newO n = none := by unfold newO; rw [if_neg h]

theorem row_new (u : World) (x : Int) : RwB (u.alloc (.cells #[.int .i64 x] 3)) ⟨u.heap.size, 1, [x]⟩ := by
  have h0 := World.ownsRow_lit (base := u.heap.size) (e := 3) (size := 1) u #[.int .i64 x] 1 (Nat.le_refl _) (by unfold maxLen; omega) (by simp)
  exact RwB.of_own (t := [x]) h0

end Go.Proofs.YtklalfkdikjkfaaGreat
