/- The specification's ReadOrder. The specification's ReadAnswer. -/
import Derived.Test.YtcieanhbipbhgaaGreatDoorKBq14
import Derived.Test.YtcieanhbipbhgaaGreatDoorKSOu10
import Derived.Test.YtcieanhbipbhgaaGreatDoorKRp14
import Derived.Test.YtcieanhbipbhgaaGreatDoorKRs14
namespace Go.Proofs.YtcieanhbipbhgaaGreatDoor
open Go.RowKit Vt

theorem str_neq {L : List UInt8} {s : ByteArray} (h : L ≠ s.data.toList) : ((str L).toList == s.toList) = false := by
  rw [beq_eq_false_iff_ne, Lib.toList_data, Lib.toList_data, str_list]
  exact h
theorem str_eq {L : List UInt8} {s : ByteArray} (h : L = s.data.toList) : str L = s := by
  apply ByteArray.ext
  rw [h]
  simp [str]

set_option maxRecDepth 100000 in
set_option maxHeartbeats 4000000 in
theorem sReadOrder_any (n : Int) (s : ByteArray) (hs : s.size ≤ 1048576) (w : World) :
    Calls Tryz.prog 24 #[.int .i64 n, .string s] w fun e w' => ∃ r, IsO n s.data.toList r ∧ OrdAns w w' e r := by
  have HN : Hid (∀ W G st, RdAt False 55 W G s st → Calls Tryz.prog 21 #[.pointer (some ⟨G, 0, none⟩)] W fun e w' => e = .returned (.int .i64 (((nx pN st).1 : Nat) : Int)) ∧ RdAt False 55 w' G s (nx pN st).2 ∧ W.grownBy w' (some G)) := fun W G st h => l09Var_any s hs W G st h
  have HO : Hid (∀ W G st, RdAt False 55 W G s st → Calls Tryz.prog 20 #[.pointer (some ⟨G, 0, none⟩)] W fun e w' => e = .returned (.int .i64 (((nx pO st).1 : Nat) : Int)) ∧ RdAt False 55 w' G s (nx pO st).2 ∧ W.grownBy w' (some G)) := fun W G st h => l09One_any s hs W G st h
  have HE : Hid (∀ W G st, RdAt False 55 W G s st → Calls Tryz.prog 36 #[.pointer (some ⟨G, 0, none⟩)] W fun e w' => ∃ v, e = .returned v ∧ EdAns False 55 W w' G s st v 100) := fun W G st h => l09ReadEdges_any s hs W G st h
  have hR0 : RdAt False 55 ((w.alloc (.cells (oc 0 0 none 0 0 0) 38)).alloc (.cells #[.string s, .int .i64 0, .bool false] 55)) (w.heap.size + 1) s (some s.data.toList) := by
    refine ⟨0, false, ?_, by omega, .inl ⟨rfl, by simp [from_]⟩⟩
    have := heap_alloc_new (w.alloc (.cells (oc 0 0 none 0 0 0) 38)) (.cells #[.string s, .int .i64 0, .bool false] 55)
    simpa using this
  have hb0 : ((w.alloc (.cells (oc 0 0 none 0 0 0) 38)).alloc (.cells #[.string s, .int .i64 0, .bool false] 55)).heap[w.heap.size]? = some (.cells (oc 0 0 none 0 0 0) 38 (0, 0)) := by
    rw [Below.heap_alloc _ _ _ (by simp)]
    exact heap_alloc_new w _
  have hB0 : Below w.heap.size w ((w.alloc (.cells (oc 0 0 none 0 0 0) 38)).alloc (.cells #[.string s, .int .i64 0, .bool false] 55)) := ((Below.refl _ _).alloc (Nat.le_refl _) _).alloc (by simp) _
  have HR0 := hideIt hR0
  have Hb0 := hideIt hb0
  have HB0 := hideIt hB0
  clear hR0 hb0 hB0
  go_enter Tryz.func24, Tryz.ntmps24
  go_wp2_with (go_at_call 21; refine (HN.out _ _ _ HR0.out).mono ?_; rintro e w1 ⟨rfl, hr1, hg1⟩; refine Hid.out ?_)
  refine (show ∀ {p : Prop}, p → Hid p from fun h => h) ?_
  have z1 := hg1.size
  simp at z1
  have R1 : RO False 55 w (w1.alloc (.cells (oc (((nx pN (some s.data.toList)).1 : Nat) : Int) 0 none 0 0 0) 38)) (w.heap.size + 1) w1.heap.size w.heap.size s (nx pN (some s.data.toList)).2 (((nx pN (some s.data.toList)).1 : Nat) : Int) 0 none 0 0 0 := by
    refine ⟨hr1.alloc _, heap_alloc_new w1 _, ?_, ?_, by omega, by omega⟩
    · rw [Below.heap_alloc _ _ _ (by omega), hg1.block _ (by simp; omega) (by simp)]
      exact Hb0.out
    · exact (bel_grown HB0.out hg1 (by omega)).alloc (by omega) _
  have R2 := R1
  clear R1 hr1 hg1 HR0 Hb0 HB0
  go_wp2_with (go_at_call 20; refine (HO.out _ _ _ R2.rd).mono ?_; rintro e w3 ⟨rfl, hr3, hg3⟩; refine Hid.out ?_)
  refine (show ∀ {p : Prop}, p → Hid p from fun h => h) ?_
  have R3 := R2.call hr3 hg3
  clear R2 hr3 hg3
  obtain ⟨_, c1, _, _⟩ := R3.cells
  have f1 := R3.frozen 1
  have R4 := R3.set 1 (.int .i64 (((nx pO (nx pN (some s.data.toList)).2).1 : Nat) : Int)) rfl
  clear R3
  go_wp2_with (go_at_call 21; refine (HN.out _ _ _ R4.rd).mono ?_; rintro e w5 ⟨rfl, hr5, hg5⟩; refine Hid.out ?_)
  refine (show ∀ {p : Prop}, p → Hid p from fun h => h) ?_
  have R5 := R4.call hr5 hg5
  clear R4 hr5 hg5 c1 f1
  obtain ⟨_, _, _, c3⟩ := R5.cells
  have f3 := R5.frozen 3
  have R6 := R5.set 3 (.int .i64 (((nx pN (nx pO (nx pN (some s.data.toList)).2).2).1 : Nat) : Int)) rfl
  clear R5
  go_wp2_with (go_at_call 36; refine (HE.out _ _ _ R6.rd).mono ?_; rintro e w7 ⟨v7, rfl, hA7⟩; refine Hid.out ?_)
  refine (show ∀ {p : Prop}, p → Hid p from fun h => h) ?_
  obtain ⟨a, k, c, es, st4, rfl, hk, hby, hown, hER, hr7, hg7⟩ := ed_es hA7
  have R7 := R6.call hr7 hg7
  have hz6 := R6.lt
  have hge6 := R6.bel.size
  clear R6 hr7 hg7 hA7 c3 f3
  obtain ⟨_, _, c2, _⟩ := R7.cells
  have f2 := R7.frozen 2
  have R8 := R7.set 2 (.slice a k c) rfl
  have own8 := own_block (W := w7.setCell ⟨w1.heap.size, 2, none⟩ (.slice a k c)) hown (fun g hg _ => heap_setCell_other _ _ _ _ (by intro h; simp at h; have := hz6.2.1; omega))
  clear R7 hown
  generalize hq1 : (((nx pN (some s.data.toList)).1 : Nat) : Int) = num at *
  generalize hq2 : (((nx pO (nx pN (some s.data.toList)).2).1 : Nat) : Int) = op at *
  generalize hq3 : (((nx pN (nx pO (nx pN (some s.data.toList)).2).2).1 : Nat) : Int) = v at *
  have HCh : Hid (Ch s.data.toList ⟨num, op, es, v⟩ st4) := ⟨_, _, _, hq1.symm, rfl, hq2.symm, rfl, hq3.symm, rfl, hER⟩
  clear hq1 hq2 hq3 hER
  generalize (w5.setCell ⟨w1.heap.size, 3, none⟩ (.int .i64 v)).heap.size = B at own8 hz6 hge6
  obtain ⟨q0, q1, q2, q3⟩ := R8.cells
  have HOk := hideIt (sOrderText_any n num op es v k a c (by omega) _ (Es_of_own own8))
  unfold ordV at HOk
  have own8 := hideIt own8
  have HR8 := hideIt R8
  clear R8
  cases hB : oB n ⟨num, op, es, v⟩ with
  | false =>
    rw [otV_no hB] at HOk
    have HI : Hid (IsO n s.data.toList none) := IsO.back HCh.out (.inr (.inl hB))
    clear hB
    cases hst : st4 with
    | none =>
      go_wp2_with (go_at_call 38; refine HOk.out.mono ?_; rintro e w10 ⟨rfl, hb10⟩; refine Hid.out ?_)
      refine (show ∀ {p : Prop}, p → Hid p from fun h => h) ?_
      have R10 := HR8.out.below hb10
      have cf := R10.rd.flag
      rw [hst] at cf
      obtain ⟨r0, r1, r2, r3⟩ := R10.cellsR
      have g0 := R10.frozenR 0
      have g1 := R10.frozenR 1
      have g2 := R10.frozenR 2
      have g3 := R10.frozenR 3
      have HB := hideIt R10.bel
      clear R10 q0 q1 q2 q3 hb10
      go_wp2
      refine bodyPost_ret (v := .tuple #[ordV 0 0 none 0 0 0, .bool false]) (by simp [results, Tryz.results24, go_sem, r0, r1, r2, r3]) rfl ⟨none, HI.out, none, 0, 0, rfl, ⟨rfl, .inl ⟨rfl, rfl⟩⟩, by omega, ?_⟩
      exact (((HB.out.setCell (Nat.le_refl _) _).setCell (Nat.le_refl _) _).setCell (Nat.le_refl _) _).setCell (Nat.le_refl _) _
    | some M =>
      go_wp2_with (go_at_call 38; refine HOk.out.mono ?_; rintro e w10 ⟨rfl, hb10⟩; refine Hid.out ?_)
      refine (show ∀ {p : Prop}, p → Hid p from fun h => h) ?_
      have R10 := HR8.out.below hb10
      have cf := R10.rd.flag
      rw [hst] at cf
      obtain ⟨r0, r1, r2, r3⟩ := R10.cellsR
      have g0 := R10.frozenR 0
      have g1 := R10.frozenR 1
      have g2 := R10.frozenR 2
      have g3 := R10.frozenR 3
      have HB := hideIt R10.bel
      clear R10 q0 q1 q2 q3 hb10
      go_wp2
      refine bodyPost_ret (v := .tuple #[ordV 0 0 none 0 0 0, .bool false]) (by simp [results, Tryz.results24, go_sem, r0, r1, r2, r3]) rfl ⟨none, HI.out, none, 0, 0, rfl, ⟨rfl, .inl ⟨rfl, rfl⟩⟩, by omega, ?_⟩
      exact (((HB.out.setCell (Nat.le_refl _) _).setCell (Nat.le_refl _) _).setCell (Nat.le_refl _) _).setCell (Nat.le_refl _) _
  | true =>
    rw [otV_yes hB] at HOk
    cases hst : st4 with
    | none =>
      have HI : Hid (IsO n s.data.toList none) := IsO.back HCh.out (.inl hst)
      clear hB
      go_wp2_with (go_at_call 38; refine HOk.out.mono ?_; rintro e w10 ⟨rfl, hb10⟩; refine Hid.out ?_)
      refine (show ∀ {p : Prop}, p → Hid p from fun h => h) ?_
      have R10 := HR8.out.below hb10
      have cf := R10.rd.flag
      rw [hst] at cf
      obtain ⟨r0, r1, r2, r3⟩ := R10.cellsR
      have g0 := R10.frozenR 0
      have g1 := R10.frozenR 1
      have g2 := R10.frozenR 2
      have g3 := R10.frozenR 3
      have HB := hideIt R10.bel
      clear R10 q0 q1 q2 q3 hb10
      go_wp2
      refine bodyPost_ret (v := .tuple #[ordV 0 0 none 0 0 0, .bool false]) (by simp [results, Tryz.results24, go_sem, r0, r1, r2, r3]) rfl ⟨none, HI.out, none, 0, 0, rfl, ⟨rfl, .inl ⟨rfl, rfl⟩⟩, by omega, ?_⟩
      exact (((HB.out.setCell (Nat.le_refl _) _).setCell (Nat.le_refl _) _).setCell (Nat.le_refl _) _).setCell (Nat.le_refl _) _
    | some M =>
      by_cases hT : oText ⟨num, op, es, v⟩ = s.data.toList
      · have HI : Hid (IsO n s.data.toList (some ⟨num, op, es, v⟩)) := ⟨hB, hT⟩
        rw [str_eq hT] at HOk
        clear hB hT
        go_wp2_with (go_at_call 38; refine HOk.out.mono ?_; rintro e w10 ⟨rfl, hb10⟩; refine Hid.out ?_)
        refine (show ∀ {p : Prop}, p → Hid p from fun h => h) ?_
        have R10 := HR8.out.below hb10
        have cf := R10.rd.flag
        rw [hst] at cf
        obtain ⟨r0, r1, r2, r3⟩ := R10.cellsR
        have g0 := R10.frozenR 0
        have g1 := R10.frozenR 1
        have g2 := R10.frozenR 2
        have g3 := R10.frozenR 3
        have HB := hideIt R10.bel
        have own10 : Hid (w10.ownsRow B 79 2 (.slice a k c) k (ecells es)) := own_block own8.out (fun g _ hlt => hb10.block g hlt)
        clear q0 q1 q2 q3
        obtain ⟨q0, q1, q2, q3⟩ := R10.cells
        clear R10 hb10
        go_wp2
        refine bodyPost_ret (v := .tuple #[ordV num op a k c v, .bool true]) (by simp [results, Tryz.results24, go_sem, r0, r1, r2, r3]) rfl ⟨some ⟨num, op, es, v⟩, HI.out, a, k, c, rfl, ?_, by omega, ?_⟩
        · refine own_mono (B := B) ?_ hge6
          refine own_block own10.out (fun g hg hlt => ?_)
          have hne : g ≠ w.heap.size := by have := hz6.2.2; omega
          rw [heap_setCell_other _ _ _ _ (by exact hne), heap_setCell_other _ _ _ _ (by exact hne), heap_setCell_other _ _ _ _ (by exact hne), heap_setCell_other _ _ _ _ (by exact hne)]
        · exact (((HB.out.setCell (Nat.le_refl _) _).setCell (Nat.le_refl _) _).setCell (Nat.le_refl _) _).setCell (Nat.le_refl _) _
      · have HI : Hid (IsO n s.data.toList none) := IsO.back HCh.out (.inr (.inr hT))
        have tq := str_neq hT
        generalize str (oText ⟨num, op, es, v⟩) = S at HOk tq
        clear hB hT
        go_wp2_with (go_at_call 38; refine HOk.out.mono ?_; rintro e w10 ⟨rfl, hb10⟩; refine Hid.out ?_)
        refine (show ∀ {p : Prop}, p → Hid p from fun h => h) ?_
        have R10 := HR8.out.below hb10
        have cf := R10.rd.flag
        rw [hst] at cf
        obtain ⟨r0, r1, r2, r3⟩ := R10.cellsR
        have g0 := R10.frozenR 0
        have g1 := R10.frozenR 1
        have g2 := R10.frozenR 2
        have g3 := R10.frozenR 3
        have HB := hideIt R10.bel
        clear R10 q0 q1 q2 q3 hb10
        go_wp2
        refine bodyPost_ret (v := .tuple #[ordV 0 0 none 0 0 0, .bool false]) (by simp [results, Tryz.results24, go_sem, r0, r1, r2, r3]) rfl ⟨none, HI.out, none, 0, 0, rfl, ⟨rfl, .inl ⟨rfl, rfl⟩⟩, by omega, ?_⟩
        exact (((HB.out.setCell (Nat.le_refl _) _).setCell (Nat.le_refl _) _).setCell (Nat.le_refl _) _).setCell (Nat.le_refl _) _
end Go.Proofs.YtcieanhbipbhgaaGreatDoor
namespace Go.Proofs.YtcieanhbipbhgaaGreatDoor
open Go.RowKit Vt

theorem newsI10 (w : World) (x : Int) : ∀ j u, ([Value.int .i64 x] : List Value)[j]? = some u → (w.alloc (.cells #[.int .i64 x] 3)).cell? ((⟨w.heap.size, 0, none⟩ : Addr).add j) = some u := by
  intro j u hj
  match j, hj with
  | 0, hj => simp at hj; subst hj; simp [Addr.add]

theorem LR_end {st0 : Option (List UInt8)} {m j : Nat} {ls : List Int} {st : Option (List UInt8)} (h : LbSt st0 j ls st) (hj : j ≤ m) (he : st = none ∨ m ≤ j) : LR m st0 ls st := by
  obtain ⟨h1, h2⟩ := h
  by_cases hm : m ≤ j
  · obtain rfl : j = m := by omega
    exact h2
  · have hn : st = none := by
      rcases he with he | he
      · exact he
      · omega
    subst hn
    unfold LR at h2 ⊢
    cases st0 with
    | none => rfl
    | some L =>
      dsimp only at h2 ⊢
      split at h2
      · rw [if_pos (by omega)]
      · simp at h2

/-- what stands in memory while labels are read: the answer in its box, labels and edges in rows of their own -/
def LbMem (w W : World) (G O R : Nat) (s : ByteArray) (st : Option (List UInt8)) (num : Int) (ok : Bool) (a : Option Addr) (k c : Nat) (es : List EdgeV) (B Bl : Nat) (a' : Option Addr) (j c' : Nat) (ls : List Int) : Prop :=
  RA False 55 w W G O R s st num ok a k c a' j c' ∧ W.ownsRow Bl 3 1 (.slice a' j c') j (ic ls) ∧ W.ownsRow B 79 2 (.slice a k c) k (ecells es) ∧ Bl ≤ W.heap.size ∧ ∀ g, (Value.slice a k c).ownBlock = some g → g < Bl

theorem LbMem.call {w W W' : World} {G O R : Nat} {s : ByteArray} {st st' : Option (List UInt8)} {num : Int} {ok : Bool} {a : Option Addr} {k c : Nat} {es : List EdgeV} {B Bl : Nat} {a' : Option Addr} {j c' : Nat} {ls : List Int}
    (h : LbMem w W G O R s st num ok a k c es B Bl a' j c' ls) (hGB : G < B) (hGl : G < Bl) (hr : RdAt False 55 W' G s st') (hg : W.grownBy W' (some G)) : LbMem w W' G O R s st' num ok a k c es B Bl a' j c' ls := by
  obtain ⟨h1, h2, h3, h4, h5⟩ := h
  exact ⟨h1.call hr hg, h2.kept hg (own_ne h2 hGl), h3.kept hg (own_ne h3 hGB), Nat.le_trans h4 hg.size, h5⟩

theorem LbMem.app {w W W' : World} {G O R : Nat} {s : ByteArray} {st : Option (List UInt8)} {num : Int} {ok : Bool} {a : Option Addr} {k c : Nat} {es : List EdgeV} {B Bl : Nat} {a' : Option Addr} {j c' : Nat} {ls : List Int} {x : Int} {g cap : Nat}
    (h : LbMem w W G O R s st num ok a k c es B Bl a' j c' ls) (hl : G < Bl ∧ O < Bl ∧ R < Bl) (hw : w.heap.size ≤ Bl)
    (hown : W'.ownsRow Bl 3 1 (.slice (some ⟨g, 0, none⟩) (j + 1) cap) (j + 1) (ic ls ++ [.int .i64 x])) (hg : (W.alloc (.cells #[.int .i64 x] 3)).grownBy W' (Value.slice a' j c').ownBlock) :
    RA False 55 w W' G O R s st num ok a k c a' j c' ∧ W'.ownsRow Bl 3 1 (.slice (some ⟨g, 0, none⟩) (j + 1) cap) (j + 1) (ic (ls ++ [x])) ∧ W'.ownsRow B 79 2 (.slice a k c) k (ecells es) ∧ Bl ≤ W'.heap.size ∧ ∀ q, (Value.slice a k c).ownBlock = some q → q < Bl := by
  obtain ⟨h1, h2, h3, h4, h5⟩ := h
  have hrow : ∀ q, (Value.slice a' j c').ownBlock = some q → Bl ≤ q := fun q hq => (h2.lt q hq).1
  have hgg : W.grownBy W' (Value.slice a' j c').ownBlock := gr_trans (World.grownBy_alloc W _ _) hg
  have hne : ∀ q, q < Bl → (Value.slice a' j c').ownBlock ≠ some q := fun q hq e => by have := hrow q e; omega
  refine ⟨⟨h1.rd.row hgg (hne G hl.1), by rw [hgg.block O h1.lt.2.1 (Ne.symm (hne O hl.2.1))]; exact h1.ob, by rw [hgg.block R h1.lt.2.2 (Ne.symm (hne R hl.2.2))]; exact h1.rb, h1.bel.grown hgg h1.bel.size (fun q hq => by have := hrow q hq; omega), h1.ge, h1.ne⟩, by rw [ic_snoc]; exact hown, own_kept h3 hgg (fun q hq => fun e => by have := h5 q e; have := hrow q hq; omega), Nat.le_trans h4 hgg.size, h5⟩

theorem LbMem.store {w W : World} {G O R : Nat} {s : ByteArray} {st : Option (List UInt8)} {num : Int} {ok : Bool} {a : Option Addr} {k c : Nat} {es : List EdgeV} {B Bl : Nat} {a' : Option Addr} {j c' : Nat} {b' : Option Addr} {i d' : Nat} {ls : List Int}
    (h : RA False 55 w W G O R s st num ok a k c a' j c' ∧ W.ownsRow Bl 3 1 (.slice b' i d') i (ic ls) ∧ W.ownsRow B 79 2 (.slice a k c) k (ecells es) ∧ Bl ≤ W.heap.size ∧ ∀ q, (Value.slice a k c).ownBlock = some q → q < Bl) (hO : O < Bl) (hB : O < B) :
    LbMem w (W.setCell ⟨O, 3, none⟩ (.slice b' i d')) G O R s st num ok a k c es B Bl b' i d' ls := by
  obtain ⟨h1, h2, h3, h4, h5⟩ := h
  exact ⟨h1.set 3 (.slice b' i d') rfl, h2.kept (gr_set W O 3 _) (own_ne h2 hO), h3.kept (gr_set W O 3 _) (own_ne h3 hB), Nat.le_trans h4 (gr_set W O 3 _).size, h5⟩

set_option maxRecDepth 100000 in
set_option maxHeartbeats 8000000 in
theorem sReadAnswer_any (n : Int) (s : ByteArray) (hs : s.size ≤ 1048576) (w : World) :
    Calls Tryz.prog 22 #[.int .i64 n, .string s] w fun e w' => ∃ r, IsA n s.data.toList r ∧ AnsAns w w' e r := by
  obtain ⟨i0, hi, hz0, hz1, hz2⟩ := info_parts info3i
  have HN : Hid (∀ W G st, RdAt False 55 W G s st → Calls Tryz.prog 21 #[.pointer (some ⟨G, 0, none⟩)] W fun e w' => e = .returned (.int .i64 (((nx pN st).1 : Nat) : Int)) ∧ RdAt False 55 w' G s (nx pN st).2 ∧ W.grownBy w' (some G)) := fun W G st h => l09Var_any s hs W G st h
  have HO : Hid (∀ W G st, RdAt False 55 W G s st → Calls Tryz.prog 20 #[.pointer (some ⟨G, 0, none⟩)] W fun e w' => e = .returned (.int .i64 (((nx pO st).1 : Nat) : Int)) ∧ RdAt False 55 w' G s (nx pO st).2 ∧ W.grownBy w' (some G)) := fun W G st h => l09One_any s hs W G st h
  have HE : Hid (∀ W G st, RdAt False 55 W G s st → Calls Tryz.prog 36 #[.pointer (some ⟨G, 0, none⟩)] W fun e w' => ∃ v, e = .returned v ∧ EdAns False 55 W w' G s st v 100) := fun W G st h => l09ReadEdges_any s hs W G st h
  have hR0 : RdAt False 55 ((w.alloc (.cells (ac 0 false none 0 0 none 0 0) 36)).alloc (.cells #[.string s, .int .i64 0, .bool false] 55)) (w.heap.size + 1) s (some s.data.toList) := by
    refine ⟨0, false, ?_, by omega, .inl ⟨rfl, by simp [from_]⟩⟩
    have := heap_alloc_new (w.alloc (.cells (ac 0 false none 0 0 none 0 0) 36)) (.cells #[.string s, .int .i64 0, .bool false] 55)
    simpa using this
  have hb0 : ((w.alloc (.cells (ac 0 false none 0 0 none 0 0) 36)).alloc (.cells #[.string s, .int .i64 0, .bool false] 55)).heap[w.heap.size]? = some (.cells (ac 0 false none 0 0 none 0 0) 36 (0, 0)) := by
    rw [Below.heap_alloc _ _ _ (by simp)]
    exact heap_alloc_new w _
  have hB0 : Below w.heap.size w ((w.alloc (.cells (ac 0 false none 0 0 none 0 0) 36)).alloc (.cells #[.string s, .int .i64 0, .bool false] 55)) := ((Below.refl _ _).alloc (Nat.le_refl _) _).alloc (by simp) _
  have HR0 := hideIt hR0
  have Hb0 := hideIt hb0
  have HB0 := hideIt hB0
  clear hR0 hb0 hB0
  go_enter Tryz.func22, Tryz.ntmps22
  go_wp2_with (go_at_call 21; refine (HN.out _ _ _ HR0.out).mono ?_; rintro e w1 ⟨rfl, hr1, hg1⟩; refine Hid.out ?_)
  refine (show ∀ {p : Prop}, p → Hid p from fun h => h) ?_
  have z1 := hg1.size
  simp at z1
  have R2 : RA False 55 w (w1.alloc (.cells (ac (((nx pN (some s.data.toList)).1 : Nat) : Int) false none 0 0 none 0 0) 36)) (w.heap.size + 1) w1.heap.size w.heap.size s (nx pN (some s.data.toList)).2 (((nx pN (some s.data.toList)).1 : Nat) : Int) false none 0 0 none 0 0 := by
    refine ⟨hr1.alloc _, heap_alloc_new w1 _, ?_, ?_, by omega, by omega⟩
    · rw [Below.heap_alloc _ _ _ (by omega), hg1.block _ (by simp; omega) (by simp)]
      exact Hb0.out
    · exact (bel_grown HB0.out hg1 (by omega)).alloc (by omega) _
  clear hr1 hg1 HR0 Hb0 HB0
  go_wp2_with (go_at_call 20; refine (HO.out _ _ _ R2.rd).mono ?_; rintro e w3 ⟨rfl, hr3, hg3⟩; refine Hid.out ?_)
  refine (show ∀ {p : Prop}, p → Hid p from fun h => h) ?_
  have R3 := R2.call hr3 hg3
  clear R2 hr3 hg3
  obtain ⟨_, c1, _, _⟩ := R3.cells
  have f1 := R3.frozen 1
  have HD : Hid (((((nx pO (nx pN (some s.data.toList)).2).1 : Nat) : Int) == 1) = decide ((nx pO (nx pN (some s.data.toList)).2).1 = 1)) := by show _ = _; rw [Bool.eq_iff_iff]; simp; omega
  generalize hok : ((((nx pO (nx pN (some s.data.toList)).2).1 : Nat) : Int) == 1) = ok at HD
  have R4 := R3.set 1 (.bool ok) rfl
  clear R3
  go_wp2_with (go_at_call 36; refine (HE.out _ _ _ R4.rd).mono ?_; rintro e w5 ⟨v5, rfl, hA5⟩; refine Hid.out ?_)
  refine (show ∀ {p : Prop}, p → Hid p from fun h => h) ?_
  obtain ⟨a, k, c, es, st3, rfl, hk, hby, hown, hER, hr5, hg5⟩ := ed_es hA5
  have R5 := R4.call hr5 hg5
  have hz4 := R4.lt
  have hge4 := R4.bel.size
  clear R4 hr5 hg5 hA5 c1 f1
  obtain ⟨_, _, c2, _⟩ := R5.cells
  have f2 := R5.frozen 2
  have R6 := R5.set 2 (.slice a k c) rfl
  have own6 := own_two (W := w5.setCell ⟨w1.heap.size, 2, none⟩ (.slice a k c)) hown (fun g hg _ => heap_setCell_other _ _ _ _ (by intro h; simp at h; have := hz4.2.1; omega))
  have hzl := R6.lt
  have hgel := R6.bel.size
  have hrow6 : ∀ g, (Value.slice a k c).ownBlock = some g → g < (w5.setCell ⟨w1.heap.size, 2, none⟩ (.slice a k c)).heap.size := fun g hg => (own6.lt g hg).2
  generalize (w3.setCell ⟨w1.heap.size, 1, none⟩ (.bool ok)).heap.size = B at own6 hz4 hge4
  generalize hq1 : (((nx pN (some s.data.toList)).1 : Nat) : Int) = num at *
  have M6 : LbMem w (w5.setCell ⟨w1.heap.size, 2, none⟩ (.slice a k c)) (w.heap.size + 1) w1.heap.size w.heap.size s st3 num ok a k c es B (w5.setCell ⟨w1.heap.size, 2, none⟩ (.slice a k c)).heap.size none 0 0 [] :=
    ⟨R6, ⟨rfl, .inl ⟨rfl, rfl⟩⟩, own6, Nat.le_refl _, hrow6⟩
  generalize hBl : (w5.setCell ⟨w1.heap.size, 2, none⟩ (.slice a k c)).heap.size = Bl at M6 hzl hgel
  have HCa0 : Hid (∀ (m : Nat) (ls : List Int) (st4 : Option (List UInt8)), LR m st3 ls st4 → Ca m s.data.toList ⟨num, ok, es, ls⟩ st4) := fun m ls st4 hLR =>
    ⟨_, (nx pO (nx pN (some s.data.toList)).2).2, st3, st4, hq1.symm, rfl, by rw [← HD.out, ← hok], .inl rfl, hER, hLR, rfl⟩
  have HM6 := hideIt M6
  clear R5 R6 hown own6 hrow6 M6 hER hq1 hok HD hBl hby
  go_wp2
  go_loopw [8] (fun i wr => ∃ (j : Nat) (ls : List Int) (st1 : Option (List UInt8)) (a' : Option Addr) (c' : Nat), j ≤ 12 ∧ (j = 0 ∨ (j : Int) ≤ n) ∧ i = .int .i64 (j : Int) ∧ Hid (LbSt st3 j ls st1) ∧ LbMem w wr (w.heap.size + 1) w1.heap.size w.heap.size s st1 num ok a k c es B Bl a' j c' ls) (fun i _ => 12 - (intOf i).toNat)
  case atStart => exact ⟨0, [], st3, none, 0, by omega, .inl rfl, rfl, LbSt.start st3, HM6.out⟩
  case round =>
    obtain ⟨j, ls, st1, a', c', hj, hjn, rfl, hS, hM⟩ := hrel
    have cfl := hM.1.rd.flag
    obtain ⟨q0, q1, q2, q3⟩ := hM.1.cells
    have HM := hideIt hM
    by_cases hcont : (j : Int) < n ∧ j < 12 ∧ st1 ≠ none
    · obtain ⟨hc1, hc2, hc3⟩ := hcont
      have e1 : decide ((j : Int) < n) = true := by simpa using hc1
      have e2 : decide ((j : Int) < 12) = true := by simp; omega
      have e3 : st1.isNone = false := by cases st1 with | none => exact absurd rfl hc3 | some _ => rfl
      rw [e3] at cfl
      have HR0 : Hid (RdAt False 55 wr.drew (w.heap.size + 1) s st1) := hM.1.rd
      generalize hxx : (((nx pO st1).1 : Nat) : Int) = xx
      have HO : Hid (∀ W G st, RdAt False 55 W G s st → st = st1 → Calls Tryz.prog 20 #[.pointer (some ⟨G, 0, none⟩)] W fun e w' => e = .returned (.int .i64 xx) ∧ RdAt False 55 w' G s (nx pO st1).2 ∧ W.grownBy w' (some G)) := fun W G st h e => by subst e; rw [← hxx]; exact HO.out W G st h
      have HS1 : Hid (LbSt st3 (j + 1) (ls ++ [xx]) (nx pO st1).2) := by rw [← hxx]; exact hS.out.step
      have HAf : Hid (∀ W', RdAt False 55 W' (w.heap.size + 1) s (nx pO st1).2 → wr.drew.grownBy W' (some (w.heap.size + 1)) → LbMem w W' (w.heap.size + 1) w1.heap.size w.heap.size s (nx pO st1).2 num ok a k c es B Bl a' j c' ls) := fun W' hr hg => HM.out.call (by have := hz4.1; omega) (by have := hzl.1; omega) hr (gr_trans (gr_drew wr _) hg)
      have HAp : Hid (∀ (W W' : World) (g cap : Nat), LbMem w W (w.heap.size + 1) w1.heap.size w.heap.size s (nx pO st1).2 num ok a k c es B Bl a' j c' ls → W'.ownsRow Bl 3 1 (.slice (some ⟨g, 0, none⟩) (j + 1) cap) (j + 1) (ic ls ++ [.int .i64 xx]) → (W.alloc (.cells #[.int .i64 xx] 3)).grownBy W' (Value.slice a' j c').ownBlock → RA False 55 w W' (w.heap.size + 1) w1.heap.size w.heap.size s (nx pO st1).2 num ok a k c a' j c' ∧ W'.ownsRow Bl 3 1 (.slice (some ⟨g, 0, none⟩) (j + 1) cap) (j + 1) (ic (ls ++ [xx])) ∧ W'.ownsRow B 79 2 (.slice a k c) k (ecells es) ∧ Bl ≤ W'.heap.size ∧ ∀ q, (Value.slice a k c).ownBlock = some q → q < Bl) := fun W W' g cap h1 h2 h3 => h1.app hzl hgel h2 h3
      have HFin : Hid (∀ (W' : World) (g cap : Nat), (RA False 55 w W' (w.heap.size + 1) w1.heap.size w.heap.size s (nx pO st1).2 num ok a k c a' j c' ∧ W'.ownsRow Bl 3 1 (.slice (some ⟨g, 0, none⟩) (j + 1) cap) (j + 1) (ic (ls ++ [xx])) ∧ W'.ownsRow B 79 2 (.slice a k c) k (ecells es) ∧ Bl ≤ W'.heap.size ∧ ∀ q, (Value.slice a k c).ownBlock = some q → q < Bl) → LbMem w (W'.setCell ⟨w1.heap.size, 3, none⟩ (.slice (some ⟨g, 0, none⟩) (j + 1) cap)) (w.heap.size + 1) w1.heap.size w.heap.size s (nx pO st1).2 num ok a k c es B Bl (some ⟨g, 0, none⟩) (j + 1) cap (ls ++ [xx])) := fun W' g cap h => LbMem.store h hzl.2.1 hz4.2.1
      clear hM hxx hS HE HN HCa0 HM
      go_wp2
      refine wp_region_any (by kernel_rfl) ?_
      change wpAny _ _ _ _ _ _ _ (World.drew _)
      refine takeOp (i := 0) (v := ?_) rfl (by kernel_rfl) (by kernel_rfl) (by kernel_rfl) (fun _ _ _ h => h) (by kernel_rfl) ?_ ?_
      rotate_left
      · intro w; go_simp; try with_reducible rfl
      try simp only [Act.put, List.getElem_toArray, List.getElem_cons_zero, List.setIfInBounds_toArray, List.set_cons_zero, List.set_cons_succ]
      refine takeOp (i := 2) (v := ?_) rfl (by kernel_rfl) (by kernel_rfl) (by kernel_rfl) (fun _ _ _ h => h) (by kernel_rfl) ?_ ?_
      rotate_left
      · intro w; go_simp; try with_reducible rfl
      try simp only [Act.put, List.getElem_toArray, List.getElem_cons_succ, List.getElem_cons_zero, List.setIfInBounds_toArray, List.set_cons_zero, List.set_cons_succ]
      refine wpAny_ready (rs := [1, 3]) (by kernel_rfl) (by simp) ?_
      refine AllReady.cons rfl (fun K hK => ?_) (AllReady.cons rfl (fun K hK => ?_) AllReady.nil)
      · go_simp
        refine hK _ _ ?_
        clear hK K
        try simp only [Act.put, List.getElem_toArray, List.getElem_cons_succ, List.getElem_cons_zero, List.setIfInBounds_toArray, List.set_cons_zero, List.set_cons_succ]
        refine wpAny_ready (rs := [3]) (by kernel_rfl) (by simp) ?_
        refine AllReady.cons rfl (fun K hK => ?_) AllReady.nil
        rw [if_pos]
        rotate_left
        · kernel_rfl
        go_wp2_with (go_at_call 20; refine (HO.out wr.drew _ _ HR0.out rfl).mono ?_; rintro e w3 ⟨rfl, hR3, hg3⟩; refine Hid.out ?_)
        refine (show ∀ {p : Prop}, p → Hid p from fun h => h) ?_
        have A3 := HAf.out _ hR3 hg3
        have l3 := A3.1.cells.2.2.2
        have HA3 := hideIt A3
        clear A3 hR3 hg3
        refine hK _ _ ?_
        clear hK K
        try simp only [Act.put, List.getElem_toArray, List.getElem_cons_succ, List.getElem_cons_zero, List.setIfInBounds_toArray, List.set_cons_zero, List.set_cons_succ]
        refine wpAny_ready (rs := [4]) (by kernel_rfl) (by simp) ?_
        refine AllReady.cons rfl (fun K hK => ?_) AllReady.nil
        go_simp
        refine hK _ _ ?_
        clear hK K
        try simp only [Act.put, List.getElem_toArray, List.getElem_cons_succ, List.getElem_cons_zero, List.setIfInBounds_toArray, List.set_cons_zero, List.set_cons_succ]
        refine wpAny_ready (rs := [5]) (by kernel_rfl) (by simp) ?_
        refine AllReady.cons rfl (fun K hK => ?_) AllReady.nil
        refine step_append_lies _ rfl _ _ 34 rfl Bl 3 i0 _ 1 8 Tryz.underlying34 hi hz0 hz1 hz2 rfl (by decide) _ _ _ rfl (HA3.out.2.1.alloc (.cells #[.int .i64 xx] 3)) ⟨w3.heap.size, 0, none⟩ 1 1 [.int .i64 xx] rfl rfl (newsI10 w3 xx) (by intro u hu; simp at hu; subst hu; rfl) (by omega) (by unfold maxLen; omega) (by omega) (by have := HA3.out.2.2.2.1; simp; omega) (w3.heap.size + 1) (by simp) ?_
        intro ga capa w4 hown4 hg4 hat4 hlt4
        have R4 := HAp.out w3 w4 ga capa HA3.out hown4 hg4
        have y4 := R4.1.frozen 3
        have l5 := R4.1.cells.2.2.2
        have HR4 := hideIt R4
        clear R4 hown4 hg4 hat4
        refine hK _ _ ?_
        clear hK K
        try simp only [Act.put, List.getElem_toArray, List.getElem_cons_succ, List.getElem_cons_zero, List.setIfInBounds_toArray, List.set_cons_zero, List.set_cons_succ]
        refine wpAny_ready (rs := [6]) (by kernel_rfl) (by simp) ?_
        refine AllReady.cons rfl (fun K hK => ?_) AllReady.nil
        go_simp
        refine hK _ _ ?_
        clear hK K
        try simp only [Act.put, List.getElem_toArray, List.getElem_cons_succ, List.getElem_cons_zero, List.setIfInBounds_toArray, List.set_cons_zero, List.set_cons_succ]
        refine wpAny_ready (rs := [7]) (by kernel_rfl) (by simp) ?_
        refine AllReady.cons rfl (fun K hK => ?_) AllReady.nil
        go_simp
        refine hK _ _ ?_
        clear hK K
        try simp only [Act.put, List.getElem_toArray, List.getElem_cons_succ, List.getElem_cons_zero, List.setIfInBounds_toArray, List.set_cons_zero, List.set_cons_succ]
        refine wpAny_done (by kernel_rfl) ?_ _
        go_wp2
        exact ⟨⟨j + 1, ls ++ [xx], _, _, _, by omega, by omega, by go_num, HS1, HFin.out w4 ga capa HR4.out⟩, by simp [intOf]; omega⟩
      · rw [if_pos]
        rotate_left
        · kernel_rfl
        go_wp2_with (go_at_call 20; refine (HO.out wr.drew _ _ HR0.out rfl).mono ?_; rintro e w3 ⟨rfl, hR3, hg3⟩; refine Hid.out ?_)
        refine (show ∀ {p : Prop}, p → Hid p from fun h => h) ?_
        have A3 := HAf.out _ hR3 hg3
        have l3 := A3.1.cells.2.2.2
        have HA3 := hideIt A3
        clear A3 hR3 hg3
        refine hK _ _ ?_
        clear hK K
        try simp only [Act.put, List.getElem_toArray, List.getElem_cons_succ, List.getElem_cons_zero, List.setIfInBounds_toArray, List.set_cons_zero, List.set_cons_succ]
        refine wpAny_ready (rs := [1, 4]) (by kernel_rfl) (by simp) ?_
        refine AllReady.cons rfl (fun K hK => ?_) (AllReady.cons rfl (fun K hK => ?_) AllReady.nil)
        · go_simp
          refine hK _ _ ?_
          clear hK K
          try simp only [Act.put, List.getElem_toArray, List.getElem_cons_succ, List.getElem_cons_zero, List.setIfInBounds_toArray, List.set_cons_zero, List.set_cons_succ]
          refine wpAny_ready (rs := [4]) (by kernel_rfl) (by simp) ?_
          refine AllReady.cons rfl (fun K hK => ?_) AllReady.nil
          go_simp
          refine hK _ _ ?_
          clear hK K
          try simp only [Act.put, List.getElem_toArray, List.getElem_cons_succ, List.getElem_cons_zero, List.setIfInBounds_toArray, List.set_cons_zero, List.set_cons_succ]
          refine wpAny_ready (rs := [5]) (by kernel_rfl) (by simp) ?_
          refine AllReady.cons rfl (fun K hK => ?_) AllReady.nil
          refine step_append_lies _ rfl _ _ 34 rfl Bl 3 i0 _ 1 8 Tryz.underlying34 hi hz0 hz1 hz2 rfl (by decide) _ _ _ rfl (HA3.out.2.1.alloc (.cells #[.int .i64 xx] 3)) ⟨w3.heap.size, 0, none⟩ 1 1 [.int .i64 xx] rfl rfl (newsI10 w3 xx) (by intro u hu; simp at hu; subst hu; rfl) (by omega) (by unfold maxLen; omega) (by omega) (by have := HA3.out.2.2.2.1; simp; omega) (w3.heap.size + 1) (by simp) ?_
          intro ga capa w4 hown4 hg4 hat4 hlt4
          have R4 := HAp.out w3 w4 ga capa HA3.out hown4 hg4
          have y4 := R4.1.frozen 3
          have l5 := R4.1.cells.2.2.2
          have HR4 := hideIt R4
          clear R4 hown4 hg4 hat4
          refine hK _ _ ?_
          clear hK K
          try simp only [Act.put, List.getElem_toArray, List.getElem_cons_succ, List.getElem_cons_zero, List.setIfInBounds_toArray, List.set_cons_zero, List.set_cons_succ]
          refine wpAny_ready (rs := [6]) (by kernel_rfl) (by simp) ?_
          refine AllReady.cons rfl (fun K hK => ?_) AllReady.nil
          go_simp
          refine hK _ _ ?_
          clear hK K
          try simp only [Act.put, List.getElem_toArray, List.getElem_cons_succ, List.getElem_cons_zero, List.setIfInBounds_toArray, List.set_cons_zero, List.set_cons_succ]
          refine wpAny_ready (rs := [7]) (by kernel_rfl) (by simp) ?_
          refine AllReady.cons rfl (fun K hK => ?_) AllReady.nil
          go_simp
          refine hK _ _ ?_
          clear hK K
          try simp only [Act.put, List.getElem_toArray, List.getElem_cons_succ, List.getElem_cons_zero, List.setIfInBounds_toArray, List.set_cons_zero, List.set_cons_succ]
          refine wpAny_done (by kernel_rfl) ?_ _
          go_wp2
          exact ⟨⟨j + 1, ls ++ [xx], _, _, _, by omega, by omega, by go_num, HS1, HFin.out w4 ga capa HR4.out⟩, by simp [intOf]; omega⟩
        · go_simp
          refine hK _ _ ?_
          clear hK K
          try simp only [Act.put, List.getElem_toArray, List.getElem_cons_succ, List.getElem_cons_zero, List.setIfInBounds_toArray, List.set_cons_zero, List.set_cons_succ]
          have l4 : (w3.alloc (.cells #[.int .i64 xx] 3)).cell? ⟨w1.heap.size, 3, none⟩ = some (.slice a' j c') := by rw [World.cell?_of_block (w := w3) (Below.heap_alloc w3 _ _ HA3.out.1.lt.2.1)]; exact l3
          refine wpAny_ready (rs := [1]) (by kernel_rfl) (by simp) ?_
          refine AllReady.cons rfl (fun K hK => ?_) AllReady.nil
          go_simp
          refine hK _ _ ?_
          clear hK K
          try simp only [Act.put, List.getElem_toArray, List.getElem_cons_succ, List.getElem_cons_zero, List.setIfInBounds_toArray, List.set_cons_zero, List.set_cons_succ]
          refine wpAny_ready (rs := [5]) (by kernel_rfl) (by simp) ?_
          refine AllReady.cons rfl (fun K hK => ?_) AllReady.nil
          refine step_append_lies _ rfl _ _ 34 rfl Bl 3 i0 _ 1 8 Tryz.underlying34 hi hz0 hz1 hz2 rfl (by decide) _ _ _ rfl (HA3.out.2.1.alloc (.cells #[.int .i64 xx] 3)) ⟨w3.heap.size, 0, none⟩ 1 1 [.int .i64 xx] rfl rfl (newsI10 w3 xx) (by intro u hu; simp at hu; subst hu; rfl) (by omega) (by unfold maxLen; omega) (by omega) (by have := HA3.out.2.2.2.1; simp; omega) (w3.heap.size + 1) (by simp) ?_
          intro ga capa w4 hown4 hg4 hat4 hlt4
          have R4 := HAp.out w3 w4 ga capa HA3.out hown4 hg4
          have y4 := R4.1.frozen 3
          have l5 := R4.1.cells.2.2.2
          have HR4 := hideIt R4
          clear R4 hown4 hg4 hat4
          refine hK _ _ ?_
          clear hK K
          try simp only [Act.put, List.getElem_toArray, List.getElem_cons_succ, List.getElem_cons_zero, List.setIfInBounds_toArray, List.set_cons_zero, List.set_cons_succ]
          refine wpAny_ready (rs := [6]) (by kernel_rfl) (by simp) ?_
          refine AllReady.cons rfl (fun K hK => ?_) AllReady.nil
          go_simp
          refine hK _ _ ?_
          clear hK K
          try simp only [Act.put, List.getElem_toArray, List.getElem_cons_succ, List.getElem_cons_zero, List.setIfInBounds_toArray, List.set_cons_zero, List.set_cons_succ]
          refine wpAny_ready (rs := [7]) (by kernel_rfl) (by simp) ?_
          refine AllReady.cons rfl (fun K hK => ?_) AllReady.nil
          go_simp
          refine hK _ _ ?_
          clear hK K
          try simp only [Act.put, List.getElem_toArray, List.getElem_cons_succ, List.getElem_cons_zero, List.setIfInBounds_toArray, List.set_cons_zero, List.set_cons_succ]
          refine wpAny_done (by kernel_rfl) ?_ _
          go_wp2
          exact ⟨⟨j + 1, ls ++ [xx], _, _, _, by omega, by omega, by go_num, HS1, HFin.out w4 ga capa HR4.out⟩, by simp [intOf]; omega⟩
    · have HCa : Hid (1 ≤ n ∧ n ≤ 12 → Ca n.toNat s.data.toList ⟨num, ok, es, ls⟩ st1) := fun hn => HCa0.out _ _ _ (LR_end hS.out (by omega) (by
        by_cases h1 : st1 = none
        · exact .inl h1
        · right
          by_cases h2 : (j : Int) < n
          · have : ¬ j < 12 := fun h3 => hcont ⟨h2, h3, h1⟩
            omega
          · omega))
      have HOk := hideIt (sAnswerText_any n num ok es ls k a c (by omega) j a' c' (by omega) wr (Es_of_own hM.2.2.1) (Is_of_own hM.2.1))
      unfold ansV at HOk
      have hex : ((j : Int) < n) = False ∨ (((j : Int) < n) = True ∧ ((j : Int) < 12) = False) ∨ (((j : Int) < n) = True ∧ ((j : Int) < 12) = True ∧ st1.isNone = true) := by
        by_cases h2 : (j : Int) < n
        · by_cases h3 : (j : Int) < 12
          · refine .inr (.inr ⟨by simp [h2], by simp [h3], ?_⟩)
            cases hs1 : st1 with
            | none => rfl
            | some M => exact absurd ⟨h2, by omega, by rw [hs1]; simp⟩ hcont
          · exact .inr (.inl ⟨by simp [h2], by simp [h3]⟩)
        · exact .inl (by simp [h2])
      clear hM hcont hS HO HE HN HCa0 HM6
      rcases hex with e1 | ⟨e1, e2⟩ | ⟨e1, e2, e3⟩
      · have d1 : decide ((j : Int) < n) = false := by rw [decide_eq_false_iff_not, e1]; exact id
        clear e1 cfl
        cases hB : aB n ⟨num, ok, es, ls⟩ with
        | false =>
          rw [atV_no hB] at HOk
          have HI : Hid (IsA n s.data.toList none) := by
            by_cases hn : 1 ≤ n ∧ n ≤ 12
            · exact IsA.back (m := n.toNat) (by omega) (HCa.out hn) (.inr (.inl hB))
            · exact IsA.out hn
          clear hB
          cases hst : st1 with
          | none =>
            go_wp2_with (go_at_call 37; refine HOk.out.mono ?_; rintro e w10 ⟨rfl, hb10⟩; refine Hid.out ?_)
            refine (show ∀ {p : Prop}, p → Hid p from fun h => h) ?_
            have R10 := HM.out.1.below hb10
            have cf := R10.rd.flag
            rw [hst] at cf
            obtain ⟨r0, r1, r2, r3⟩ := R10.cellsR
            have g0 := R10.frozenR 0
            have g1 := R10.frozenR 1
            have g2 := R10.frozenR 2
            have g3 := R10.frozenR 3
            have HB := hideIt R10.bel
            clear R10 q0 q1 q2 q3 hb10
            go_wp2
            refine bodyPost_ret (v := .tuple #[ansV 0 false none 0 0 none 0 0, .bool false]) (by simp [results, Tryz.results22, go_sem, r0, r1, r2, r3]) rfl ⟨none, HI.out, none, 0, 0, none, 0, 0, rfl, ⟨rfl, .inl ⟨rfl, rfl⟩⟩, ⟨rfl, .inl ⟨rfl, rfl⟩⟩, by omega, by omega, ?_⟩
            exact (((HB.out.setCell (Nat.le_refl _) _).setCell (Nat.le_refl _) _).setCell (Nat.le_refl _) _).setCell (Nat.le_refl _) _
          | some M =>
            go_wp2_with (go_at_call 37; refine HOk.out.mono ?_; rintro e w10 ⟨rfl, hb10⟩; refine Hid.out ?_)
            refine (show ∀ {p : Prop}, p → Hid p from fun h => h) ?_
            have R10 := HM.out.1.below hb10
            have cf := R10.rd.flag
            rw [hst] at cf
            obtain ⟨r0, r1, r2, r3⟩ := R10.cellsR
            have g0 := R10.frozenR 0
            have g1 := R10.frozenR 1
            have g2 := R10.frozenR 2
            have g3 := R10.frozenR 3
            have HB := hideIt R10.bel
            clear R10 q0 q1 q2 q3 hb10
            go_wp2
            refine bodyPost_ret (v := .tuple #[ansV 0 false none 0 0 none 0 0, .bool false]) (by simp [results, Tryz.results22, go_sem, r0, r1, r2, r3]) rfl ⟨none, HI.out, none, 0, 0, none, 0, 0, rfl, ⟨rfl, .inl ⟨rfl, rfl⟩⟩, ⟨rfl, .inl ⟨rfl, rfl⟩⟩, by omega, by omega, ?_⟩
            exact (((HB.out.setCell (Nat.le_refl _) _).setCell (Nat.le_refl _) _).setCell (Nat.le_refl _) _).setCell (Nat.le_refl _) _
        | true =>
          rw [atV_yes hB] at HOk
          have hn := (aB_parts hB).1
          have HC := hideIt (HCa.out hn)
          cases hst : st1 with
          | none =>
            have HI : Hid (IsA n s.data.toList none) := IsA.back (m := n.toNat) (by omega) HC.out (.inl hst)
            clear hB
            go_wp2_with (go_at_call 37; refine HOk.out.mono ?_; rintro e w10 ⟨rfl, hb10⟩; refine Hid.out ?_)
            refine (show ∀ {p : Prop}, p → Hid p from fun h => h) ?_
            have R10 := HM.out.1.below hb10
            have cf := R10.rd.flag
            rw [hst] at cf
            obtain ⟨r0, r1, r2, r3⟩ := R10.cellsR
            have g0 := R10.frozenR 0
            have g1 := R10.frozenR 1
            have g2 := R10.frozenR 2
            have g3 := R10.frozenR 3
            have HB := hideIt R10.bel
            clear R10 q0 q1 q2 q3 hb10
            go_wp2
            refine bodyPost_ret (v := .tuple #[ansV 0 false none 0 0 none 0 0, .bool false]) (by simp [results, Tryz.results22, go_sem, r0, r1, r2, r3]) rfl ⟨none, HI.out, none, 0, 0, none, 0, 0, rfl, ⟨rfl, .inl ⟨rfl, rfl⟩⟩, ⟨rfl, .inl ⟨rfl, rfl⟩⟩, by omega, by omega, ?_⟩
            exact (((HB.out.setCell (Nat.le_refl _) _).setCell (Nat.le_refl _) _).setCell (Nat.le_refl _) _).setCell (Nat.le_refl _) _
          | some M =>
            by_cases hT : aText ⟨num, ok, es, ls⟩ = s.data.toList
            · have HI : Hid (IsA n s.data.toList (some ⟨num, ok, es, ls⟩)) := ⟨hB, hT⟩
              rw [str_eq hT] at HOk
              clear hB hT
              go_wp2_with (go_at_call 37; refine HOk.out.mono ?_; rintro e w10 ⟨rfl, hb10⟩; refine Hid.out ?_)
              refine (show ∀ {p : Prop}, p → Hid p from fun h => h) ?_
              have R10 := HM.out.1.below hb10
              have cf := R10.rd.flag
              rw [hst] at cf
              obtain ⟨r0, r1, r2, r3⟩ := R10.cellsR
              have g0 := R10.frozenR 0
              have g1 := R10.frozenR 1
              have g2 := R10.frozenR 2
              have g3 := R10.frozenR 3
              have HB := hideIt R10.bel
              have own10 : Hid (w10.ownsRow B 79 2 (.slice a k c) k (ecells es)) := own_up10 HM.out.2.2.1 hb10
              have own10' : Hid (w10.ownsRow Bl 3 1 (.slice a' j c') j (ic ls)) := own_up10 HM.out.2.1 hb10
              clear q0 q1 q2 q3
              obtain ⟨q0, q1, q2, q3⟩ := R10.cells
              clear R10 hb10
              go_wp2
              refine bodyPost_ret (v := .tuple #[ansV num ok a k c a' j c', .bool true]) (by simp [results, Tryz.results22, go_sem, r0, r1, r2, r3]) rfl ⟨some ⟨num, ok, es, ls⟩, HI.out, a, k, c, a', j, c', rfl, ?_, ?_, by omega, by omega, ?_⟩
              · refine own_mono (B := B) ?_ hge4
                refine own_two own10.out (fun g hg hlt => ?_)
                have hne : g ≠ w.heap.size := by have := hz4.2.2; omega
                rw [heap_setCell_other _ _ _ _ (by exact hne), heap_setCell_other _ _ _ _ (by exact hne), heap_setCell_other _ _ _ _ (by exact hne), heap_setCell_other _ _ _ _ (by exact hne)]
              · refine own_mono (B := Bl) ?_ hgel
                refine own_two own10'.out (fun g hg hlt => ?_)
                have hne : g ≠ w.heap.size := by have := hzl.2.2; omega
                rw [heap_setCell_other _ _ _ _ (by exact hne), heap_setCell_other _ _ _ _ (by exact hne), heap_setCell_other _ _ _ _ (by exact hne), heap_setCell_other _ _ _ _ (by exact hne)]
              · exact (((HB.out.setCell (Nat.le_refl _) _).setCell (Nat.le_refl _) _).setCell (Nat.le_refl _) _).setCell (Nat.le_refl _) _
            · have HI : Hid (IsA n s.data.toList none) := IsA.back (m := n.toNat) (by omega) HC.out (.inr (.inr hT))
              have tq := str_neq hT
              generalize str (aText ⟨num, ok, es, ls⟩) = S at HOk tq
              clear hB hT
              go_wp2_with (go_at_call 37; refine HOk.out.mono ?_; rintro e w10 ⟨rfl, hb10⟩; refine Hid.out ?_)
              refine (show ∀ {p : Prop}, p → Hid p from fun h => h) ?_
              have R10 := HM.out.1.below hb10
              have cf := R10.rd.flag
              rw [hst] at cf
              obtain ⟨r0, r1, r2, r3⟩ := R10.cellsR
              have g0 := R10.frozenR 0
              have g1 := R10.frozenR 1
              have g2 := R10.frozenR 2
              have g3 := R10.frozenR 3
              have HB := hideIt R10.bel
              clear R10 q0 q1 q2 q3 hb10
              go_wp2
              refine bodyPost_ret (v := .tuple #[ansV 0 false none 0 0 none 0 0, .bool false]) (by simp [results, Tryz.results22, go_sem, r0, r1, r2, r3]) rfl ⟨none, HI.out, none, 0, 0, none, 0, 0, rfl, ⟨rfl, .inl ⟨rfl, rfl⟩⟩, ⟨rfl, .inl ⟨rfl, rfl⟩⟩, by omega, by omega, ?_⟩
              exact (((HB.out.setCell (Nat.le_refl _) _).setCell (Nat.le_refl _) _).setCell (Nat.le_refl _) _).setCell (Nat.le_refl _) _
      · have d1 : decide ((j : Int) < n) = true := by rw [decide_eq_true_eq, e1]; trivial
        have d2 : decide ((j : Int) < 12) = false := by rw [decide_eq_false_iff_not, e2]; exact id
        clear e1 e2 cfl
        cases hB : aB n ⟨num, ok, es, ls⟩ with
        | false =>
          rw [atV_no hB] at HOk
          have HI : Hid (IsA n s.data.toList none) := by
            by_cases hn : 1 ≤ n ∧ n ≤ 12
            · exact IsA.back (m := n.toNat) (by omega) (HCa.out hn) (.inr (.inl hB))
            · exact IsA.out hn
          clear hB
          cases hst : st1 with
          | none =>
            go_wp2_with (go_at_call 37; refine HOk.out.mono ?_; rintro e w10 ⟨rfl, hb10⟩; refine Hid.out ?_)
            refine (show ∀ {p : Prop}, p → Hid p from fun h => h) ?_
            have R10 := HM.out.1.below hb10
            have cf := R10.rd.flag
            rw [hst] at cf
            obtain ⟨r0, r1, r2, r3⟩ := R10.cellsR
            have g0 := R10.frozenR 0
            have g1 := R10.frozenR 1
            have g2 := R10.frozenR 2
            have g3 := R10.frozenR 3
            have HB := hideIt R10.bel
            clear R10 q0 q1 q2 q3 hb10
            go_wp2
            refine bodyPost_ret (v := .tuple #[ansV 0 false none 0 0 none 0 0, .bool false]) (by simp [results, Tryz.results22, go_sem, r0, r1, r2, r3]) rfl ⟨none, HI.out, none, 0, 0, none, 0, 0, rfl, ⟨rfl, .inl ⟨rfl, rfl⟩⟩, ⟨rfl, .inl ⟨rfl, rfl⟩⟩, by omega, by omega, ?_⟩
            exact (((HB.out.setCell (Nat.le_refl _) _).setCell (Nat.le_refl _) _).setCell (Nat.le_refl _) _).setCell (Nat.le_refl _) _
          | some M =>
            go_wp2_with (go_at_call 37; refine HOk.out.mono ?_; rintro e w10 ⟨rfl, hb10⟩; refine Hid.out ?_)
            refine (show ∀ {p : Prop}, p → Hid p from fun h => h) ?_
            have R10 := HM.out.1.below hb10
            have cf := R10.rd.flag
            rw [hst] at cf
            obtain ⟨r0, r1, r2, r3⟩ := R10.cellsR
            have g0 := R10.frozenR 0
            have g1 := R10.frozenR 1
            have g2 := R10.frozenR 2
            have g3 := R10.frozenR 3
            have HB := hideIt R10.bel
            clear R10 q0 q1 q2 q3 hb10
            go_wp2
            refine bodyPost_ret (v := .tuple #[ansV 0 false none 0 0 none 0 0, .bool false]) (by simp [results, Tryz.results22, go_sem, r0, r1, r2, r3]) rfl ⟨none, HI.out, none, 0, 0, none, 0, 0, rfl, ⟨rfl, .inl ⟨rfl, rfl⟩⟩, ⟨rfl, .inl ⟨rfl, rfl⟩⟩, by omega, by omega, ?_⟩
            exact (((HB.out.setCell (Nat.le_refl _) _).setCell (Nat.le_refl _) _).setCell (Nat.le_refl _) _).setCell (Nat.le_refl _) _
        | true =>
          rw [atV_yes hB] at HOk
          have hn := (aB_parts hB).1
          have HC := hideIt (HCa.out hn)
          cases hst : st1 with
          | none =>
            have HI : Hid (IsA n s.data.toList none) := IsA.back (m := n.toNat) (by omega) HC.out (.inl hst)
            clear hB
            go_wp2_with (go_at_call 37; refine HOk.out.mono ?_; rintro e w10 ⟨rfl, hb10⟩; refine Hid.out ?_)
            refine (show ∀ {p : Prop}, p → Hid p from fun h => h) ?_
            have R10 := HM.out.1.below hb10
            have cf := R10.rd.flag
            rw [hst] at cf
            obtain ⟨r0, r1, r2, r3⟩ := R10.cellsR
            have g0 := R10.frozenR 0
            have g1 := R10.frozenR 1
            have g2 := R10.frozenR 2
            have g3 := R10.frozenR 3
            have HB := hideIt R10.bel
            clear R10 q0 q1 q2 q3 hb10
            go_wp2
            refine bodyPost_ret (v := .tuple #[ansV 0 false none 0 0 none 0 0, .bool false]) (by simp [results, Tryz.results22, go_sem, r0, r1, r2, r3]) rfl ⟨none, HI.out, none, 0, 0, none, 0, 0, rfl, ⟨rfl, .inl ⟨rfl, rfl⟩⟩, ⟨rfl, .inl ⟨rfl, rfl⟩⟩, by omega, by omega, ?_⟩
            exact (((HB.out.setCell (Nat.le_refl _) _).setCell (Nat.le_refl _) _).setCell (Nat.le_refl _) _).setCell (Nat.le_refl _) _
          | some M =>
            by_cases hT : aText ⟨num, ok, es, ls⟩ = s.data.toList
            · have HI : Hid (IsA n s.data.toList (some ⟨num, ok, es, ls⟩)) := ⟨hB, hT⟩
              rw [str_eq hT] at HOk
              clear hB hT
              go_wp2_with (go_at_call 37; refine HOk.out.mono ?_; rintro e w10 ⟨rfl, hb10⟩; refine Hid.out ?_)
              refine (show ∀ {p : Prop}, p → Hid p from fun h => h) ?_
              have R10 := HM.out.1.below hb10
              have cf := R10.rd.flag
              rw [hst] at cf
              obtain ⟨r0, r1, r2, r3⟩ := R10.cellsR
              have g0 := R10.frozenR 0
              have g1 := R10.frozenR 1
              have g2 := R10.frozenR 2
              have g3 := R10.frozenR 3
              have HB := hideIt R10.bel
              have own10 : Hid (w10.ownsRow B 79 2 (.slice a k c) k (ecells es)) := own_up10 HM.out.2.2.1 hb10
              have own10' : Hid (w10.ownsRow Bl 3 1 (.slice a' j c') j (ic ls)) := own_up10 HM.out.2.1 hb10
              clear q0 q1 q2 q3
              obtain ⟨q0, q1, q2, q3⟩ := R10.cells
              clear R10 hb10
              go_wp2
              refine bodyPost_ret (v := .tuple #[ansV num ok a k c a' j c', .bool true]) (by simp [results, Tryz.results22, go_sem, r0, r1, r2, r3]) rfl ⟨some ⟨num, ok, es, ls⟩, HI.out, a, k, c, a', j, c', rfl, ?_, ?_, by omega, by omega, ?_⟩
              · refine own_mono (B := B) ?_ hge4
                refine own_two own10.out (fun g hg hlt => ?_)
                have hne : g ≠ w.heap.size := by have := hz4.2.2; omega
                rw [heap_setCell_other _ _ _ _ (by exact hne), heap_setCell_other _ _ _ _ (by exact hne), heap_setCell_other _ _ _ _ (by exact hne), heap_setCell_other _ _ _ _ (by exact hne)]
              · refine own_mono (B := Bl) ?_ hgel
                refine own_two own10'.out (fun g hg hlt => ?_)
                have hne : g ≠ w.heap.size := by have := hzl.2.2; omega
                rw [heap_setCell_other _ _ _ _ (by exact hne), heap_setCell_other _ _ _ _ (by exact hne), heap_setCell_other _ _ _ _ (by exact hne), heap_setCell_other _ _ _ _ (by exact hne)]
              · exact (((HB.out.setCell (Nat.le_refl _) _).setCell (Nat.le_refl _) _).setCell (Nat.le_refl _) _).setCell (Nat.le_refl _) _
            · have HI : Hid (IsA n s.data.toList none) := IsA.back (m := n.toNat) (by omega) HC.out (.inr (.inr hT))
              have tq := str_neq hT
              generalize str (aText ⟨num, ok, es, ls⟩) = S at HOk tq
              clear hB hT
              go_wp2_with (go_at_call 37; refine HOk.out.mono ?_; rintro e w10 ⟨rfl, hb10⟩; refine Hid.out ?_)
              refine (show ∀ {p : Prop}, p → Hid p from fun h => h) ?_
              have R10 := HM.out.1.below hb10
              have cf := R10.rd.flag
              rw [hst] at cf
              obtain ⟨r0, r1, r2, r3⟩ := R10.cellsR
              have g0 := R10.frozenR 0
              have g1 := R10.frozenR 1
              have g2 := R10.frozenR 2
              have g3 := R10.frozenR 3
              have HB := hideIt R10.bel
              clear R10 q0 q1 q2 q3 hb10
              go_wp2
              refine bodyPost_ret (v := .tuple #[ansV 0 false none 0 0 none 0 0, .bool false]) (by simp [results, Tryz.results22, go_sem, r0, r1, r2, r3]) rfl ⟨none, HI.out, none, 0, 0, none, 0, 0, rfl, ⟨rfl, .inl ⟨rfl, rfl⟩⟩, ⟨rfl, .inl ⟨rfl, rfl⟩⟩, by omega, by omega, ?_⟩
              exact (((HB.out.setCell (Nat.le_refl _) _).setCell (Nat.le_refl _) _).setCell (Nat.le_refl _) _).setCell (Nat.le_refl _) _
      · have d1 : decide ((j : Int) < n) = true := by rw [decide_eq_true_eq, e1]; trivial
        have d2 : decide ((j : Int) < 12) = true := by rw [decide_eq_true_eq, e2]; trivial
        rw [e3] at cfl
        clear e1 e2
        cases hB : aB n ⟨num, ok, es, ls⟩ with
        | false =>
          rw [atV_no hB] at HOk
          have HI : Hid (IsA n s.data.toList none) := by
            by_cases hn : 1 ≤ n ∧ n ≤ 12
            · exact IsA.back (m := n.toNat) (by omega) (HCa.out hn) (.inr (.inl hB))
            · exact IsA.out hn
          clear hB
          cases hst : st1 with
          | none =>
            go_wp2_with (go_at_call 37; refine HOk.out.mono ?_; rintro e w10 ⟨rfl, hb10⟩; refine Hid.out ?_)
            refine (show ∀ {p : Prop}, p → Hid p from fun h => h) ?_
            have R10 := HM.out.1.below hb10
            have cf := R10.rd.flag
            rw [hst] at cf
            obtain ⟨r0, r1, r2, r3⟩ := R10.cellsR
            have g0 := R10.frozenR 0
            have g1 := R10.frozenR 1
            have g2 := R10.frozenR 2
            have g3 := R10.frozenR 3
            have HB := hideIt R10.bel
            clear R10 q0 q1 q2 q3 hb10
            go_wp2
            refine bodyPost_ret (v := .tuple #[ansV 0 false none 0 0 none 0 0, .bool false]) (by simp [results, Tryz.results22, go_sem, r0, r1, r2, r3]) rfl ⟨none, HI.out, none, 0, 0, none, 0, 0, rfl, ⟨rfl, .inl ⟨rfl, rfl⟩⟩, ⟨rfl, .inl ⟨rfl, rfl⟩⟩, by omega, by omega, ?_⟩
            exact (((HB.out.setCell (Nat.le_refl _) _).setCell (Nat.le_refl _) _).setCell (Nat.le_refl _) _).setCell (Nat.le_refl _) _
          | some M =>
            go_wp2_with (go_at_call 37; refine HOk.out.mono ?_; rintro e w10 ⟨rfl, hb10⟩; refine Hid.out ?_)
            refine (show ∀ {p : Prop}, p → Hid p from fun h => h) ?_
            have R10 := HM.out.1.below hb10
            have cf := R10.rd.flag
            rw [hst] at cf
            obtain ⟨r0, r1, r2, r3⟩ := R10.cellsR
            have g0 := R10.frozenR 0
            have g1 := R10.frozenR 1
            have g2 := R10.frozenR 2
            have g3 := R10.frozenR 3
            have HB := hideIt R10.bel
            clear R10 q0 q1 q2 q3 hb10
            go_wp2
            refine bodyPost_ret (v := .tuple #[ansV 0 false none 0 0 none 0 0, .bool false]) (by simp [results, Tryz.results22, go_sem, r0, r1, r2, r3]) rfl ⟨none, HI.out, none, 0, 0, none, 0, 0, rfl, ⟨rfl, .inl ⟨rfl, rfl⟩⟩, ⟨rfl, .inl ⟨rfl, rfl⟩⟩, by omega, by omega, ?_⟩
            exact (((HB.out.setCell (Nat.le_refl _) _).setCell (Nat.le_refl _) _).setCell (Nat.le_refl _) _).setCell (Nat.le_refl _) _
        | true =>
          rw [atV_yes hB] at HOk
          have hn := (aB_parts hB).1
          have HC := hideIt (HCa.out hn)
          cases hst : st1 with
          | none =>
            have HI : Hid (IsA n s.data.toList none) := IsA.back (m := n.toNat) (by omega) HC.out (.inl hst)
            clear hB
            go_wp2_with (go_at_call 37; refine HOk.out.mono ?_; rintro e w10 ⟨rfl, hb10⟩; refine Hid.out ?_)
            refine (show ∀ {p : Prop}, p → Hid p from fun h => h) ?_
            have R10 := HM.out.1.below hb10
            have cf := R10.rd.flag
            rw [hst] at cf
            obtain ⟨r0, r1, r2, r3⟩ := R10.cellsR
            have g0 := R10.frozenR 0
            have g1 := R10.frozenR 1
            have g2 := R10.frozenR 2
            have g3 := R10.frozenR 3
            have HB := hideIt R10.bel
            clear R10 q0 q1 q2 q3 hb10
            go_wp2
            refine bodyPost_ret (v := .tuple #[ansV 0 false none 0 0 none 0 0, .bool false]) (by simp [results, Tryz.results22, go_sem, r0, r1, r2, r3]) rfl ⟨none, HI.out, none, 0, 0, none, 0, 0, rfl, ⟨rfl, .inl ⟨rfl, rfl⟩⟩, ⟨rfl, .inl ⟨rfl, rfl⟩⟩, by omega, by omega, ?_⟩
            exact (((HB.out.setCell (Nat.le_refl _) _).setCell (Nat.le_refl _) _).setCell (Nat.le_refl _) _).setCell (Nat.le_refl _) _
          | some M =>
            by_cases hT : aText ⟨num, ok, es, ls⟩ = s.data.toList
            · have HI : Hid (IsA n s.data.toList (some ⟨num, ok, es, ls⟩)) := ⟨hB, hT⟩
              rw [str_eq hT] at HOk
              clear hB hT
              go_wp2_with (go_at_call 37; refine HOk.out.mono ?_; rintro e w10 ⟨rfl, hb10⟩; refine Hid.out ?_)
              refine (show ∀ {p : Prop}, p → Hid p from fun h => h) ?_
              have R10 := HM.out.1.below hb10
              have cf := R10.rd.flag
              rw [hst] at cf
              obtain ⟨r0, r1, r2, r3⟩ := R10.cellsR
              have g0 := R10.frozenR 0
              have g1 := R10.frozenR 1
              have g2 := R10.frozenR 2
              have g3 := R10.frozenR 3
              have HB := hideIt R10.bel
              have own10 : Hid (w10.ownsRow B 79 2 (.slice a k c) k (ecells es)) := own_up10 HM.out.2.2.1 hb10
              have own10' : Hid (w10.ownsRow Bl 3 1 (.slice a' j c') j (ic ls)) := own_up10 HM.out.2.1 hb10
              clear q0 q1 q2 q3
              obtain ⟨q0, q1, q2, q3⟩ := R10.cells
              clear R10 hb10
              go_wp2
              refine bodyPost_ret (v := .tuple #[ansV num ok a k c a' j c', .bool true]) (by simp [results, Tryz.results22, go_sem, r0, r1, r2, r3]) rfl ⟨some ⟨num, ok, es, ls⟩, HI.out, a, k, c, a', j, c', rfl, ?_, ?_, by omega, by omega, ?_⟩
              · refine own_mono (B := B) ?_ hge4
                refine own_two own10.out (fun g hg hlt => ?_)
                have hne : g ≠ w.heap.size := by have := hz4.2.2; omega
                rw [heap_setCell_other _ _ _ _ (by exact hne), heap_setCell_other _ _ _ _ (by exact hne), heap_setCell_other _ _ _ _ (by exact hne), heap_setCell_other _ _ _ _ (by exact hne)]
              · refine own_mono (B := Bl) ?_ hgel
                refine own_two own10'.out (fun g hg hlt => ?_)
                have hne : g ≠ w.heap.size := by have := hzl.2.2; omega
                rw [heap_setCell_other _ _ _ _ (by exact hne), heap_setCell_other _ _ _ _ (by exact hne), heap_setCell_other _ _ _ _ (by exact hne), heap_setCell_other _ _ _ _ (by exact hne)]
              · exact (((HB.out.setCell (Nat.le_refl _) _).setCell (Nat.le_refl _) _).setCell (Nat.le_refl _) _).setCell (Nat.le_refl _) _
            · have HI : Hid (IsA n s.data.toList none) := IsA.back (m := n.toNat) (by omega) HC.out (.inr (.inr hT))
              have tq := str_neq hT
              generalize str (aText ⟨num, ok, es, ls⟩) = S at HOk tq
              clear hB hT
              go_wp2_with (go_at_call 37; refine HOk.out.mono ?_; rintro e w10 ⟨rfl, hb10⟩; refine Hid.out ?_)
              refine (show ∀ {p : Prop}, p → Hid p from fun h => h) ?_
              have R10 := HM.out.1.below hb10
              have cf := R10.rd.flag
              rw [hst] at cf
              obtain ⟨r0, r1, r2, r3⟩ := R10.cellsR
              have g0 := R10.frozenR 0
              have g1 := R10.frozenR 1
              have g2 := R10.frozenR 2
              have g3 := R10.frozenR 3
              have HB := hideIt R10.bel
              clear R10 q0 q1 q2 q3 hb10
              go_wp2
              refine bodyPost_ret (v := .tuple #[ansV 0 false none 0 0 none 0 0, .bool false]) (by simp [results, Tryz.results22, go_sem, r0, r1, r2, r3]) rfl ⟨none, HI.out, none, 0, 0, none, 0, 0, rfl, ⟨rfl, .inl ⟨rfl, rfl⟩⟩, ⟨rfl, .inl ⟨rfl, rfl⟩⟩, by omega, by omega, ?_⟩
              exact (((HB.out.setCell (Nat.le_refl _) _).setCell (Nat.le_refl _) _).setCell (Nat.le_refl _) _).setCell (Nat.le_refl _) _
end Go.Proofs.YtcieanhbipbhgaaGreatDoor
