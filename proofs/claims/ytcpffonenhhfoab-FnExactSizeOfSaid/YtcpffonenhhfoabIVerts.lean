/- The program's VertsOf. -/
import Derived.Test.YtcpffonenhhfoabVals6
import Derived.Test.YtcpffonenhhfoabVerts
import Derived.Test.YtcpffonenhhfoabITour
import Derived.Test.YtcpffonenhhfoabShelf7
import Derived.Sort.OwnSortedInts
namespace Go.Proofs.Ytcpffonenhhfoab
open Go.RowKit Go.Sort Go.Lib

/-- a row of ints over which another list is laid, and which is cut -/
theorem own_put {w : World} {base g cap n k : Nat} {os : Array Obj} {cur : Array Value} {ts : List Int} (hbase : base ≤ g) (hb : w.heap[g]? = some (.cells cur 3 (0, 0))) (hl : ts.length ≤ cap) (hcap : cap ≤ maxLen) (hcur : cur.size = cap * 1) (hk : k ≤ ts.length) :
    (grow (putRow (Value.int .i64) (Sort.ahead w n) g 0 ts.toArray) os).ownsRow base 3 1 (.slice (some ⟨g, 0, none⟩) k cap) k (ic (ts.take k)) := by
  refine ⟨by rw [ic_len, List.length_take]; omega, .inr ⟨g, cap, _, rfl, hbase, heap_sortedI _ hb, by omega, hcap, by simp [putCells, hcur], ?_⟩⟩
  have h := take_putCellsI cur ts (by omega)
  have h2 := congrArg (List.take k) h
  rw [List.take_take, Nat.min_eq_left hk] at h2
  rw [Nat.mul_one, h2, ic, List.map_take]
theorem own_put0 {w : World} {base g cap n k : Nat} {cur : Array Value} {ts : List Int} (hbase : base ≤ g) (hb : w.heap[g]? = some (.cells cur 3 (0, 0))) (hl : ts.length ≤ cap) (hcap : cap ≤ maxLen) (hcur : cur.size = cap * 1) (hk : k ≤ ts.length) :
    (putRow (Value.int .i64) (Sort.ahead w n) g 0 ts.toArray).ownsRow base 3 1 (.slice (some ⟨g, 0, none⟩) k cap) k (ic (ts.take k)) := by
  have h := own_put (n := n) (os := #[]) hbase hb hl hcap hcur hk
  rw [grow_empty] at h
  exact h
theorem put_grown {w : World} {g n : Nat} (d : Array Int) : w.grownBy (putRow (Value.int .i64) (Sort.ahead w n) g 0 d) (some g) := by
  have h := grownBy_sortedI (w := w) (g := g) (n := n) (os := #[]) d
  rw [grow_empty] at h
  exact h

set_option maxHeartbeats 1000000 in
theorem sorted_any (ls : List Int) (m : Nat) (a : Option Addr) (c B : Nat) (hm : m ≤ 3000000) (w : World) (hB : B < w.heap.size) (hBc : w.cell? ⟨B, 0, none⟩ = some (.slice a m c)) (h : Is w w.heap.size a m ls) :
    Calls Try.prog 62 #[.func (.func 79) #[] #[.pointer (some ⟨B, 0, none⟩)]] w fun e w' => ∃ v, e = .returned v ∧ w'.ownsRow w.heap.size 3 1 v m (ic (ls.mergeSort fun x y => decide (x ≤ y))) ∧ Below w.heap.size w w' := by
  have HA := hideIt (collect_any ls m a c B hm w hB hBc h)
  have HL := hideIt h.1
  clear h hBc
  go_enter Try.func62, Try.ntmps62
  go_wp2_with (go_at_call 77; refine HA.out.mono ?_; rintro e w1 ⟨v, rfl, ho, hb⟩; refine Hid.out ?_)
  refine (show ∀ {p : Prop}, p → Hid p from fun h => h) ?_
  rcases ho.2 with ⟨rfl, h0⟩ | ⟨g, cap, cur, rfl, hg, hgb, r1, r2, r3, r4⟩
  · have HS := hideIt (Try.slices_Sort_int_none none 0 w1)
    have HO : Hid (w1.ownsRow w.heap.size 3 1 (.slice none 0 0) m (ic (ls.mergeSort fun x y => decide (x ≤ y)))) := by
      have e : ls = [] := List.eq_nil_of_length_eq_zero (by rw [HL.out, h0])
      subst e
      rw [List.mergeSort_nil]
      exact ho
    clear ho HA
    go_wp2_with (go_at_call 78; refine HS.out.mono ?_; rintro e w2 ⟨rfl, hw⟩; have hw' := hw.symm; subst hw'; clear hw)
    go_ret
    exact ⟨_, rfl, HO.out, hb⟩
  · have hgl : g < w1.heap.size := (Array.getElem?_eq_some_iff.1 hgb).1
    have HS := Try.slices_Sort_int g 0 cap ls w1 (holds_of_blockI hgb (by have := HL.out; rw [this]; rw [Nat.mul_one] at r4; exact r4)) hgl (by have := HL.out; omega)
    rw [HL.out] at HS
    have HS := hideIt HS
    have HO : Hid (∀ n os, (grow (putRow (Value.int .i64) (Sort.ahead w1 n) g 0 (ls.mergeSort fun x y => decide (x ≤ y)).toArray) os).ownsRow w.heap.size 3 1 (.slice (some ⟨g, 0, none⟩) m cap) m (ic (ls.mergeSort fun x y => decide (x ≤ y)))) := fun n os => by
      have := ownsRow_sortedI (n := n) (os := os) (ss := ls) (ts := ls.mergeSort fun x y => decide (x ≤ y)) (by rw [List.length_mergeSort]) hg hgb (by rw [HL.out]; exact r1) r2 r3
      rw [HL.out] at this
      exact this
    have HB : Hid (∀ n os, Below w.heap.size w (grow (putRow (Value.int .i64) (Sort.ahead w1 n) g 0 (ls.mergeSort fun x y => decide (x ≤ y)).toArray) os)) := fun n os => hb.grown (grownBy_sortedI _) hb.size (fun j e => by cases e; exact hg)
    obtain ⟨ss, hss⟩ : ∃ ss, (ls.mergeSort fun x y => decide (x ≤ y)) = ss := ⟨_, rfl⟩
    rw [hss] at HS HO HB
    have HSS := hideIt hss
    clear hss
    clear ho HA hgb r1 r2 r3 r4
    go_wp2_with (go_at_call 78; refine HS.out.mono ?_; rintro e w2 ⟨rfl, n, os, rfl⟩)
    go_ret
    exact ⟨_, rfl, by rw [HSS.out]; exact HO.out n os, HB.out n os⟩

theorem comp_nil (w : World) : Calls Try.prog 61 #[.slice none 0 0] w fun e w' => e = .returned (.slice none 0 0) ∧ w' = w := by
  go_enter Try.func61, Try.ntmps61
  go_wp2
  go_ret
  exact ⟨rfl, rfl⟩
set_option maxHeartbeats 1000000 in
theorem comp_any (ls : List Int) (m : Nat) (v : Value) (B : Nat) (hm : m ≤ 3000000) (w : World) (h : w.ownsRow B 3 1 v m (ic ls)) :
    Calls Try.prog 61 #[v] w fun e w' => ∃ v' k, e = .returned v' ∧ w'.ownsRow B 3 1 v' k (ic (compactUpTo ls.toArray ls.toArray.size)) ∧ k ≤ m ∧ (B ≤ w.heap.size → Below B w w') := by
  have hl := h.1
  rw [ic_len, Nat.mul_one] at hl
  rcases h.2 with ⟨rfl, h0⟩ | ⟨g, cap, cur, rfl, hg, hgb, r1, r2, r3, r4⟩
  · refine (comp_nil w).mono ?_
    rintro e w' ⟨rfl, rfl⟩
    have e : ls = [] := List.eq_nil_of_length_eq_zero (by omega)
    subst e
    exact ⟨_, 0, rfl, by simpa [compactUpTo, ic] using World.ownsRow_nil _ _ _ _, by omega, fun _ => Below.refl _ _⟩
  · have hc := Try.slices_Compact (Value.int .i64) (fun _ => rfl) (EqlAt.intD _ _ _) (NeqAt.intD _ _ _) (0 : Int) Try.zeroValue3 g 0 cap ls.toArray w (holds_of_blockI hgb (by rw [hl]; rw [Nat.mul_one] at r4; exact r4)) (by simp; omega) (by simp; omega)
    rw [show ls.toArray.size = m by simpa using hl] at hc ⊢
    refine hc.mono ?_
    rintro e w' ⟨rfl, q, rfl⟩
    have hle : (compactUpTo ls.toArray m).length ≤ m := by
      have := List.length_filter_le (keeps ls.toArray) (List.range m)
      simpa [compactUpTo] using this
    refine ⟨_, _, rfl, ?_, hle, fun hB => (Below.refl _ w).grown (put_grown _) hB (fun j e => by cases e; exact hg)⟩
    have := own_put0 (n := q) (k := (compactUpTo ls.toArray m).length) (ts := compactUpTo ls.toArray m ++ List.replicate (m - (compactUpTo ls.toArray m).length) 0) hg hgb (by simp; omega) r2 r3 (by simp)
    rw [List.take_left' rfl] at this
    exact this

theorem by_gives (x : Int) (W : World) : FnGives Try.prog 64 #[] #[.int .i64 x] (.bool (!vB x)) W := by
  show Calls Try.prog 64 #[.int .i64 x] W _
  cases h : vB x with
  | true => exact (beyond_no x h W).mono fun e w' ⟨h1, h2⟩ => ⟨h1, 0, h2⟩
  | false => exact (beyond_yes x h W).mono fun e w' ⟨h1, h2⟩ => ⟨h1, 0, h2⟩
theorem del_nil (w : World) : Calls Try.prog 60 #[.slice none 0 0, .func (.func 64) #[] #[]] w fun e w' => e = .returned (.slice none 0 0) ∧ w' = w := by
  have H := hideIt (Try.slices_IndexFunc_empty (α := Int) none 0 (.func (.func 64) #[] #[]) w)
  go_enter Try.func60, Try.ntmps60
  go_wp2_with (go_at_call 76; refine H.out.mono ?_; rintro e w' ⟨rfl, hw⟩; have hw' := hw.symm; subst hw'; clear hw)
  go_ret
  exact ⟨rfl, rfl⟩
set_option maxHeartbeats 1000000 in
theorem del_any (ls : List Int) (m : Nat) (v : Value) (B : Nat) (hm : m ≤ 3000000) (w : World) (h : w.ownsRow B 3 1 v m (ic ls)) :
    Calls Try.prog 60 #[v, .func (.func 64) #[] #[]] w fun e w' => ∃ v' k, e = .returned v' ∧ w'.ownsRow B 3 1 v' k (ic (ls.filter fun x => !(!vB x))) ∧ k ≤ m ∧ (B ≤ w.heap.size → Below B w w') := by
  have hl := h.1
  rw [ic_len, Nat.mul_one] at hl
  rcases h.2 with ⟨rfl, h0⟩ | ⟨g, cap, cur, rfl, hg, hgb, r1, r2, r3, r4⟩
  · refine (del_nil w).mono ?_
    rintro e w' ⟨rfl, rfl⟩
    have e : ls = [] := List.eq_nil_of_length_eq_zero (by omega)
    subst e
    exact ⟨_, 0, rfl, by simpa [ic] using World.ownsRow_nil _ _ _ _, by omega, fun _ => Below.refl _ _⟩
  · have hc := Try.slices_DeleteFunc (Value.int .i64) (fun _ => rfl) (fun x => !vB x) 64 #[] (enters_of Try.func64 (by kernel_rfl) rfl) (0 : Int) Try.zeroValue3 g 0 cap ls.toArray w
      (fun W x _ => by_gives x W) (fun n os dk x _ => by_gives x _) (holds_of_blockI hgb (by rw [hl]; rw [Nat.mul_one] at r4; exact r4)) (by simp; omega) (by simp; omega)
    rw [show ls.toArray.size = m by simpa using hl] at hc
    refine hc.mono ?_
    rintro e w' ⟨rfl, q, rfl⟩
    have hle : (ls.filter fun x => !(!vB x)).length ≤ m := by
      have := List.length_filter_le (fun x => !(!vB x)) ls
      omega
    refine ⟨_, _, rfl, ?_, hle, fun hB => (Below.refl _ w).grown (put_grown _) hB (fun j e => by cases e; exact hg)⟩
    have := own_put0 (n := q) (k := (ls.filter fun x => !(!vB x)).length) (ts := (ls.filter fun x => !(!vB x)) ++ List.replicate (m - (ls.filter fun x => !(!vB x)).length) 0) hg hgb (by simp; simp at hle; omega) r2 r3 (by simp)
    rw [List.take_left' rfl] at this
    exact this

set_option maxHeartbeats 2000000 in
theorem iVertsOf_any (t : List Int) (n : Nat) (a : Option Addr) (c : Nat) (hn : n ≤ 3000000) (w : World) (h : Is w w.heap.size a n t) :
    Calls Try.prog 35 #[.slice a n c] w fun e w' => ∃ a' m c', e = .returned (.slice a' m c') ∧ w'.ownsRow w.heap.size 3 1 (.slice a' m c') m (ic (vsL t)) ∧ Below w.heap.size w w' := by
  have b0 : Below w.heap.size w (w.alloc (.cells #[.slice a n c] 45)) := (Below.refl _ w).alloc (Nat.le_refl _) _
  have HV := hideIt (valuesI_any a n c w)
  have HS := hideIt (sorted_any t n a c w.heap.size hn (w.alloc (.cells #[.slice a n c] 45)) (by simp) (by simp) (h.up b0))
  have HB0 := hideIt b0
  have HE := hideIt (vsI_eq t)
  unfold vsI at HE
  clear h b0
  generalize (t.mergeSort fun x y => decide (x ≤ y)) = ss at HS HE
  go_enter Try.func35, Try.ntmps35
  go_wp2_with (first | (go_at_call 63; refine HV.out.mono ?_; rintro e w1 ⟨rfl, rfl⟩) | (go_at_call 62; refine HS.out.mono ?_; rintro e w2 ⟨v, rfl, ho, hb⟩; refine Hid.out ?_))
  refine (show ∀ {p : Prop}, p → Hid p from fun h => h) ?_
  have HC := hideIt (comp_any ss n v w.heap.size hn w2 (own_mono ho (by simp)))
  have B2 := HB0.out.trans (hb.mono (by simp))
  clear HV HS ho hb
  go_wp2_with (go_at_call 61; refine HC.out.mono ?_; rintro e w3 ⟨v3, k3, rfl, ho3, hk3, hb3⟩; refine Hid.out ?_)
  refine (show ∀ {p : Prop}, p → Hid p from fun h => h) ?_
  have HD := hideIt (del_any _ k3 v3 w.heap.size (by omega) w3 ho3)
  have B3 := B2.trans (hb3 B2.size)
  rw [HE.out] at HD
  clear HC ho3 hb3
  go_wp2_with (go_at_call 60; refine HD.out.mono ?_; rintro e w4 ⟨v4, k4, rfl, ho4, hk4, hb4⟩)
  have B4 := B3.trans (hb4 B3.size)
  obtain ⟨a4, c4, rfl⟩ := own_form ho4
  go_ret
  exact ⟨a4, k4, c4, rfl, ho4, B4⟩
end Go.Proofs.Ytcpffonenhhfoab
