/- The specification's ReadOrder. The specification's AnswerText. The specification's ReadAnswer. The walk of FnExactReadAnswer. -/
import Derived.Test.YtkhhagjcmbbdpaaKSRe10
import Derived.Test.YtkhhagjcmbbdpaaKSOu10
import Derived.Test.YtkhhagjcmbbdpaaKLawA10
namespace Go.Proofs.Ytkhhagjcmbbdpaa
open Go.RowKit Vt

theorem str_neq {L : List UInt8} {s : ByteArray} (h : L ≠ s.data.toList) : ((str L).toList == s.toList) = false := by
  rw [beq_eq_false_iff_ne, Lib.toList_data, Lib.toList_data, str_list]
  exact h
theorem str_eq {L : List UInt8} {s : ByteArray} (h : L = s.data.toList) : str L = s := by
  apply ByteArray.ext
  rw [h]
  simp [str]

set_option maxRecDepth 100000 in
set_option maxHeartbeats 4000000 in
theorem sReadOrder_any (n : Int) (s : ByteArray) (hs : s.size ≤ 1048576) (w : World) :
    Calls Try.prog 24 #[.int .i64 n, .string s] w fun e w' => ∃ r, IsO n s.data.toList r ∧ OrdAns w w' e r := by
  have HN : Hid (∀ W G st, RdAt False 90 W G s st → Calls Try.prog 63 #[.pointer (some ⟨G, 0, none⟩)] W fun e w' => e = .returned (.int .i64 (((nx pN st).1 : Nat) : Int)) ∧ RdAt False 90 w' G s (nx pN st).2 ∧ W.grownBy w' (some G)) := fun W G st h => l09Var_any s hs W G st h
  have HO : Hid (∀ W G st, RdAt False 90 W G s st → Calls Try.prog 64 #[.pointer (some ⟨G, 0, none⟩)] W fun e w' => e = .returned (.int .i64 (((nx pO st).1 : Nat) : Int)) ∧ RdAt False 90 w' G s (nx pO st).2 ∧ W.grownBy w' (some G)) := fun W G st h => l09One_any s hs W G st h
  have HE : Hid (∀ W G st, RdAt False 90 W G s st → Calls Try.prog 65 #[.pointer (some ⟨G, 0, none⟩)] W fun e w' => ∃ v, e = .returned v ∧ EdAns False 90 W w' G s st v 100) := fun W G st h => l09ReadEdges_any s hs W G st h
  have hR0 : RdAt False 90 ((w.alloc (.cells (oc 0 0 none 0 0 0) 26)).alloc (.cells #[.string s, .int .i64 0, .bool false] 90)) (w.heap.size + 1) s (some s.data.toList) := by
    refine ⟨0, false, ?_, by omega, .inl ⟨rfl, by simp [from_]⟩⟩
    have := heap_alloc_new (w.alloc (.cells (oc 0 0 none 0 0 0) 26)) (.cells #[.string s, .int .i64 0, .bool false] 90)
    simpa using this
  have hb0 : ((w.alloc (.cells (oc 0 0 none 0 0 0) 26)).alloc (.cells #[.string s, .int .i64 0, .bool false] 90)).heap[w.heap.size]? = some (.cells (oc 0 0 none 0 0 0) 26 (0, 0)) := by
    rw [Below.heap_alloc _ _ _ (by simp)]
    exact heap_alloc_new w _
  have hB0 : Below w.heap.size w ((w.alloc (.cells (oc 0 0 none 0 0 0) 26)).alloc (.cells #[.string s, .int .i64 0, .bool false] 90)) := ((Below.refl _ _).alloc (Nat.le_refl _) _).alloc (by simp) _
  have HR0 := hideIt hR0
  have Hb0 := hideIt hb0
  have HB0 := hideIt hB0
  clear hR0 hb0 hB0
  go_enter Try.func24, Try.ntmps24
  go_wp2_with (go_at_call 63; refine (HN.out _ _ _ HR0.out).mono ?_; rintro e w1 ⟨rfl, hr1, hg1⟩; refine Hid.out ?_)
  refine (show ∀ {p : Prop}, p → Hid p from fun h => h) ?_
  have z1 := hg1.size
  simp at z1
  have R1 : RO False 90 w (w1.alloc (.cells (oc (((nx pN (some s.data.toList)).1 : Nat) : Int) 0 none 0 0 0) 26)) (w.heap.size + 1) w1.heap.size w.heap.size s (nx pN (some s.data.toList)).2 (((nx pN (some s.data.toList)).1 : Nat) : Int) 0 none 0 0 0 := by
    refine ⟨hr1.alloc _, heap_alloc_new w1 _, ?_, ?_, by omega, by omega⟩
    · rw [Below.heap_alloc _ _ _ (by omega), hg1.block _ (by simp; omega) (by simp)]
      exact Hb0.out
    · exact (bel_grown HB0.out hg1 (by omega)).alloc (by omega) _
  have R2 := R1
  clear R1 hr1 hg1 HR0 Hb0 HB0
  go_wp2_with (go_at_call 64; refine (HO.out _ _ _ R2.rd).mono ?_; rintro e w3 ⟨rfl, hr3, hg3⟩; refine Hid.out ?_)
  refine (show ∀ {p : Prop}, p → Hid p from fun h => h) ?_
  have R3 := R2.call hr3 hg3
  clear R2 hr3 hg3
  obtain ⟨_, c1, _, _⟩ := R3.cells
  have f1 := R3.frozen 1
  have R4 := R3.set 1 (.int .i64 (((nx pO (nx pN (some s.data.toList)).2).1 : Nat) : Int)) rfl
  clear R3
  go_wp2_with (go_at_call 63; refine (HN.out _ _ _ R4.rd).mono ?_; rintro e w5 ⟨rfl, hr5, hg5⟩; refine Hid.out ?_)
  refine (show ∀ {p : Prop}, p → Hid p from fun h => h) ?_
  have R5 := R4.call hr5 hg5
  clear R4 hr5 hg5 c1 f1
  obtain ⟨_, _, _, c3⟩ := R5.cells
  have f3 := R5.frozen 3
  have R6 := R5.set 3 (.int .i64 (((nx pN (nx pO (nx pN (some s.data.toList)).2).2).1 : Nat) : Int)) rfl
  clear R5
  go_wp2_with (go_at_call 65; refine (HE.out _ _ _ R6.rd).mono ?_; rintro e w7 ⟨v7, rfl, hA7⟩; refine Hid.out ?_)
  refine (show ∀ {p : Prop}, p → Hid p from fun h => h) ?_
  obtain ⟨a, k, c, es, st4, rfl, hk, hby, hown, hER, hr7, hg7⟩ := ed_es hA7
  have R7 := R6.call hr7 hg7
  have hz6 := R6.lt
  have hge6 := R6.bel.size
  clear R6 hr7 hg7 hA7 c3 f3
  obtain ⟨_, _, c2, _⟩ := R7.cells
  have f2 := R7.frozen 2
  have R8 := R7.set 2 (.slice a k c) rfl
  have own8 := own_block (W := w7.setCell ⟨w1.heap.size, 2, none⟩ (.slice a k c)) hown (fun g hg _ => heap_setCell_other _ _ _ _ (by intro h; simp at h; have := hz6.2.1; omega))
  clear R7 hown
  generalize hq1 : (((nx pN (some s.data.toList)).1 : Nat) : Int) = num at *
  generalize hq2 : (((nx pO (nx pN (some s.data.toList)).2).1 : Nat) : Int) = op at *
  generalize hq3 : (((nx pN (nx pO (nx pN (some s.data.toList)).2).2).1 : Nat) : Int) = v at *
  have HCh : Hid (Ch s.data.toList ⟨num, op, es, v⟩ st4) := ⟨_, _, _, hq1.symm, rfl, hq2.symm, rfl, hq3.symm, rfl, hER⟩
  clear hq1 hq2 hq3 hER
  generalize (w5.setCell ⟨w1.heap.size, 3, none⟩ (.int .i64 v)).heap.size = B at own8 hz6 hge6
  obtain ⟨q0, q1, q2, q3⟩ := R8.cells
  have HOk := hideIt (sOrderText_any n num op es v k a c (by omega) _ (Es_of_own own8))
  unfold ordV at HOk
  have own8 := hideIt own8
  have HR8 := hideIt R8
  clear R8
  cases hB : oB n ⟨num, op, es, v⟩ with
  | false =>
    rw [otV_no hB] at HOk
    have HI : Hid (IsO n s.data.toList none) := IsO.back HCh.out (.inr (.inl hB))
    clear hB
    cases hst : st4 with
    | none =>
      go_wp2_with (go_at_call 33; refine HOk.out.mono ?_; rintro e w10 ⟨rfl, hb10⟩; refine Hid.out ?_)
      refine (show ∀ {p : Prop}, p → Hid p from fun h => h) ?_
      have R10 := HR8.out.below hb10
      have cf := R10.rd.flag
      rw [hst] at cf
      obtain ⟨r0, r1, r2, r3⟩ := R10.cellsR
      have g0 := R10.frozenR 0
      have g1 := R10.frozenR 1
      have g2 := R10.frozenR 2
      have g3 := R10.frozenR 3
      have HB := hideIt R10.bel
      clear R10 q0 q1 q2 q3 hb10
      go_wp2
      refine bodyPost_ret (v := .tuple #[ordV 0 0 none 0 0 0, .bool false]) (by simp [results, Try.results24, go_sem, r0, r1, r2, r3]) rfl ⟨none, HI.out, none, 0, 0, rfl, ⟨rfl, .inl ⟨rfl, rfl⟩⟩, by omega, ?_⟩
      exact (((HB.out.setCell (Nat.le_refl _) _).setCell (Nat.le_refl _) _).setCell (Nat.le_refl _) _).setCell (Nat.le_refl _) _
    | some M =>
      go_wp2_with (go_at_call 33; refine HOk.out.mono ?_; rintro e w10 ⟨rfl, hb10⟩; refine Hid.out ?_)
      refine (show ∀ {p : Prop}, p → Hid p from fun h => h) ?_
      have R10 := HR8.out.below hb10
      have cf := R10.rd.flag
      rw [hst] at cf
      obtain ⟨r0, r1, r2, r3⟩ := R10.cellsR
      have g0 := R10.frozenR 0
      have g1 := R10.frozenR 1
      have g2 := R10.frozenR 2
      have g3 := R10.frozenR 3
      have HB := hideIt R10.bel
      clear R10 q0 q1 q2 q3 hb10
      go_wp2
      refine bodyPost_ret (v := .tuple #[ordV 0 0 none 0 0 0, .bool false]) (by simp [results, Try.results24, go_sem, r0, r1, r2, r3]) rfl ⟨none, HI.out, none, 0, 0, rfl, ⟨rfl, .inl ⟨rfl, rfl⟩⟩, by omega, ?_⟩
      exact (((HB.out.setCell (Nat.le_refl _) _).setCell (Nat.le_refl _) _).setCell (Nat.le_refl _) _).setCell (Nat.le_refl _) _
  | true =>
    rw [otV_yes hB] at HOk
    cases hst : st4 with
    | none =>
      have HI : Hid (IsO n s.data.toList none) := IsO.back HCh.out (.inl hst)
      clear hB
      go_wp2_with (go_at_call 33; refine HOk.out.mono ?_; rintro e w10 ⟨rfl, hb10⟩; refine Hid.out ?_)
      refine (show ∀ {p : Prop}, p → Hid p from fun h => h) ?_
      have R10 := HR8.out.below hb10
      have cf := R10.rd.flag
      rw [hst] at cf
      obtain ⟨r0, r1, r2, r3⟩ := R10.cellsR
      have g0 := R10.frozenR 0
      have g1 := R10.frozenR 1
      have g2 := R10.frozenR 2
      have g3 := R10.frozenR 3
      have HB := hideIt R10.bel
      clear R10 q0 q1 q2 q3 hb10
      go_wp2
      refine bodyPost_ret (v := .tuple #[ordV 0 0 none 0 0 0, .bool false]) (by simp [results, Try.results24, go_sem, r0, r1, r2, r3]) rfl ⟨none, HI.out, none, 0, 0, rfl, ⟨rfl, .inl ⟨rfl, rfl⟩⟩, by omega, ?_⟩
      exact (((HB.out.setCell (Nat.le_refl _) _).setCell (Nat.le_refl _) _).setCell (Nat.le_refl _) _).setCell (Nat.le_refl _) _
    | some M =>
      by_cases hT : oText ⟨num, op, es, v⟩ = s.data.toList
      · have HI : Hid (IsO n s.data.toList (some ⟨num, op, es, v⟩)) := ⟨hB, hT⟩
        rw [str_eq hT] at HOk
        clear hB hT
        go_wp2_with (go_at_call 33; refine HOk.out.mono ?_; rintro e w10 ⟨rfl, hb10⟩; refine Hid.out ?_)
        refine (show ∀ {p : Prop}, p → Hid p from fun h => h) ?_
        have R10 := HR8.out.below hb10
        have cf := R10.rd.flag
        rw [hst] at cf
        obtain ⟨r0, r1, r2, r3⟩ := R10.cellsR
        have g0 := R10.frozenR 0
        have g1 := R10.frozenR 1
        have g2 := R10.frozenR 2
        have g3 := R10.frozenR 3
        have HB := hideIt R10.bel
        have own10 : Hid (w10.ownsRow B 78 2 (.slice a k c) k (ecells es)) := own_block own8.out (fun g _ hlt => hb10.block g hlt)
        clear q0 q1 q2 q3
        obtain ⟨q0, q1, q2, q3⟩ := R10.cells
        clear R10 hb10
        go_wp2
        refine bodyPost_ret (v := .tuple #[ordV num op a k c v, .bool true]) (by simp [results, Try.results24, go_sem, r0, r1, r2, r3]) rfl ⟨some ⟨num, op, es, v⟩, HI.out, a, k, c, rfl, ?_, by omega, ?_⟩
        · refine own_mono (B := B) ?_ hge6
          refine own_block own10.out (fun g hg hlt => ?_)
          have hne : g ≠ w.heap.size := by have := hz6.2.2; omega
          rw [heap_setCell_other _ _ _ _ (by exact hne), heap_setCell_other _ _ _ _ (by exact hne), heap_setCell_other _ _ _ _ (by exact hne), heap_setCell_other _ _ _ _ (by exact hne)]
        · exact (((HB.out.setCell (Nat.le_refl _) _).setCell (Nat.le_refl _) _).setCell (Nat.le_refl _) _).setCell (Nat.le_refl _) _
      · have HI : Hid (IsO n s.data.toList none) := IsO.back HCh.out (.inr (.inr hT))
        have tq := str_neq hT
        generalize str (oText ⟨num, op, es, v⟩) = S at HOk tq
        clear hB hT
        go_wp2_with (go_at_call 33; refine HOk.out.mono ?_; rintro e w10 ⟨rfl, hb10⟩; refine Hid.out ?_)
        refine (show ∀ {p : Prop}, p → Hid p from fun h => h) ?_
        have R10 := HR8.out.below hb10
        have cf := R10.rd.flag
        rw [hst] at cf
        obtain ⟨r0, r1, r2, r3⟩ := R10.cellsR
        have g0 := R10.frozenR 0
        have g1 := R10.frozenR 1
        have g2 := R10.frozenR 2
        have g3 := R10.frozenR 3
        have HB := hideIt R10.bel
        clear R10 q0 q1 q2 q3 hb10
        go_wp2
        refine bodyPost_ret (v := .tuple #[ordV 0 0 none 0 0 0, .bool false]) (by simp [results, Try.results24, go_sem, r0, r1, r2, r3]) rfl ⟨none, HI.out, none, 0, 0, rfl, ⟨rfl, .inl ⟨rfl, rfl⟩⟩, by omega, ?_⟩
        exact (((HB.out.setCell (Nat.le_refl _) _).setCell (Nat.le_refl _) _).setCell (Nat.le_refl _) _).setCell (Nat.le_refl _) _
end Go.Proofs.Ytkhhagjcmbbdpaa
namespace Go.Proofs.Ytkhhagjcmbbdpaa
open Go.RowKit Vt

/-- an answer's text, or none -/
def atV (n : Int) (o : AnsV) : Value := if aB n o then .tuple #[.string (str (aText o)), .bool true] else .tuple #[.string ⟨#[]⟩, .bool false]
theorem atV_yes {n : Int} {o : AnsV} (h : aB n o = true) : atV n o = .tuple #[.string (str (aText o)), .bool true] := by unfold atV; rw [h]; rfl
theorem atV_no {n : Int} {o : AnsV} (h : aB n o = false) : atV n o = .tuple #[.string ⟨#[]⟩, .bool false] := by unfold atV; rw [h]; rfl

theorem l09Flag_any (b : Bool) (w : World) : Calls Try.prog 80 #[.bool b] w fun e w' => e = .returned (.string (str [okb b])) ∧ w' = w := by
  cases b
  · go_enter Try.func80, Try.ntmps80
    go_wp2
    go_ret
    exact ⟨rfl, rfl⟩
  · go_enter Try.func80, Try.ntmps80
    go_wp2
    go_ret
    exact ⟨rfl, rfl⟩

theorem et_len {es : List EdgeV} (h : es.length ≤ 100) : (et es).length ≤ 205 := by
  unfold et
  rw [List.length_append, eb_length]
  have := vt_le5 es.length (by omega)
  omega

set_option maxRecDepth 100000 in
set_option maxHeartbeats 4000000 in
theorem sAnswerText_no (n num : Int) (ok : Bool) (es : List EdgeV) (ls : List Int) (k : Nat) (a : Option Addr) (c : Nat) (hk : k ≤ 1048576) (k' : Nat) (a' : Option Addr) (c' : Nat) (hk' : k' ≤ 1048576) (w : World) (h : Es w w.heap.size a k es) (h' : Is w w.heap.size a' k' ls) (hB : aB n ⟨num, ok, es, ls⟩ = false) :
    Calls Try.prog 36 #[.int .i64 n, ansV num ok a k c a' k' c'] w fun e w' => e = .returned (.tuple #[.string ⟨#[]⟩, .bool false]) ∧ Below w.heap.size w w' := by
  have HO := hideIt (sAnswerOk_any n num ok es ls k a c hk k' a' c' hk' (w.alloc (.cells #[.int .i64 num, .bool ok, .slice a k c, .slice a' k' c'] 37)) ((h.alloc (Nat.le_refl _) _).mono (by simp)) (h'.alloc _))
  rw [hB] at HO
  unfold ansV at HO ⊢
  clear h h' hB
  go_enter Try.func36, Try.ntmps36
  go_wp2_with (go_at_call 20; refine HO.out.mono ?_; rintro e w1 ⟨rfl, hb⟩)
  go_ret2
  exact ⟨rfl, (bel1 _ _).trans (hb.mono (by simp))⟩

set_option maxRecDepth 100000 in
set_option maxHeartbeats 4000000 in
theorem sAnswerText_yes (n num : Int) (ok : Bool) (es : List EdgeV) (ls : List Int) (k : Nat) (a : Option Addr) (c : Nat) (hk : k ≤ 1048576) (k' : Nat) (a' : Option Addr) (c' : Nat) (hk' : k' ≤ 1048576) (w : World) (h : Es w w.heap.size a k es) (h' : Is w w.heap.size a' k' ls) (hB : aB n ⟨num, ok, es, ls⟩ = true) :
    Calls Try.prog 36 #[.int .i64 n, ansV num ok a k c a' k' c'] w fun e w' => e = .returned (.tuple #[.string (str (aText ⟨num, ok, es, ls⟩)), .bool true]) ∧ Below w.heap.size w w' := by
  obtain ⟨p0, p1, p2, p3⟩ := aB_parts hB
  dsimp only at p1 p2 p3
  obtain ⟨p4, p5⟩ := lB_bytes p0.2 p3
  have hk3 : (k' : Int) = n := by rw [← h'.1]; exact p4
  have HO : Hid (Calls Try.prog 20 #[.int .i64 n, ansV num ok a k c a' k' c'] (w.alloc (.cells #[.int .i64 num, .bool ok, .slice a k c, .slice a' k' c'] 37)) fun e w' => e = .returned (.bool true) ∧ Below w.heap.size w w' ∧
      w'.cell? ⟨w.heap.size, 0, none⟩ = some (.int .i64 num) ∧ w'.cell? ⟨w.heap.size, 1, none⟩ = some (.bool ok) ∧ w'.cell? ⟨w.heap.size, 2, none⟩ = some (.slice a k c) ∧ w'.cell? ⟨w.heap.size, 3, none⟩ = some (.slice a' k' c') ∧ w.heap.size < w'.heap.size) :=
    (sAnswerOk_any n num ok es ls k a c hk k' a' c' hk' (w.alloc (.cells #[.int .i64 num, .bool ok, .slice a k c, .slice a' k' c'] 37)) ((h.alloc (Nat.le_refl _) _).mono (by simp)) (h'.alloc _)).mono fun _ _ ⟨he, hb⟩ =>
      ⟨by rw [he, hB], (bel1 _ _).trans (hb.mono (by simp)), by rw [hb.cell (by simp)]; simp, by rw [hb.cell (by simp)]; simp, by rw [hb.cell (by simp)]; simp, by rw [hb.cell (by simp)]; simp, by have := hb.size; simp at this; omega⟩
  have HN := hideIt (l01Var_str num (by omega) (by omega))
  have HF := hideIt (l09Flag_any ok)
  have HE : Hid (∀ W, Below w.heap.size w W → Calls Try.prog 77 #[.slice a k c] W fun e w' => e = .returned (.string (str (et es))) ∧ Below W.heap.size W w') := fun W hW => l09Edges_any es k a c (by have := h.1; omega) p2.1 W (h.up hW)
  have hl1 := vt_le5 num.toNat (by omega)
  have hl3 := et_len (es := es) (by omega)
  have A1 : ∀ wx, (Op.stringOp .add (str (vt num.toNat)) (str [okb ok])).run Try.prog wx = .ok (.string (str (vt num.toNat ++ [okb ok]))) wx := str_add _ _ (by simp; omega)
  have A2 : ∀ wx, (Op.stringOp .add (str (vt num.toNat ++ [okb ok])) (str (et es))).run Try.prog wx = .ok (.string (str (vt num.toNat ++ [okb ok] ++ et es))) wx := str_add _ _ (by simp; omega)
  have HFN : Hid (vt num.toNat ++ [okb ok] ++ et es ++ ls.map ob = aText ⟨num, ok, es, ls⟩) := by show _ = _; unfold aText; simp [okb]
  have HLn : Hid ((vt num.toNat ++ [okb ok] ++ et es).length ≤ 220) := by show _ ≤ _; simp; omega
  generalize hT : vt num.toNat ++ [okb ok] ++ et es = T0 at A2 HFN HLn
  generalize str (vt num.toNat ++ [okb ok]) = s1 at A1 A2
  have H' := hideIt h'
  have HP5 := hideIt p5
  unfold ansV at HO ⊢
  subst hk3
  clear h h' hB hl1 hl3 p2 hT p3 p4 p5
  go_enter Try.func36, Try.ntmps36
  go_wp2_with (go_at_call 20; refine HO.out.mono ?_; rintro e w1 ⟨rfl, hb1, q0, q1, q2, q3, z1⟩; refine Hid.out ?_)
  refine (show ∀ {p : Prop}, p → Hid p from fun h => h) ?_
  have KC : Hid (∀ W, Below w1.heap.size w1 W → (W.cell? ⟨w.heap.size, 0, none⟩ = some (.int .i64 num) ∧ W.cell? ⟨w.heap.size, 1, none⟩ = some (.bool ok) ∧ W.cell? ⟨w.heap.size, 2, none⟩ = some (.slice a k c) ∧ W.cell? ⟨w.heap.size, 3, none⟩ = some (.slice a' k' c'))) := fun W hW =>
    ⟨by rw [hW.cell z1]; exact q0, by rw [hW.cell z1]; exact q1, by rw [hW.cell z1]; exact q2, by rw [hW.cell z1]; exact q3⟩
  have Z1 : Hid (∀ W, Below w1.heap.size w1 W → Below w.heap.size w W) := fun W hW => hb1.trans (hW.mono hb1.size)
  have B0 : Below w1.heap.size w1 w1.drew := (Below.refl _ _).drew
  clear HO
  go_wp2
  go_region_held3 (fun u => Below w1.heap.size w1 u ∧ (u.cell? ⟨w.heap.size, 0, none⟩ = some (.int .i64 num) ∧ u.cell? ⟨w.heap.size, 1, none⟩ = some (.bool ok) ∧ u.cell? ⟨w.heap.size, 2, none⟩ = some (.slice a k c) ∧ u.cell? ⟨w.heap.size, 3, none⟩ = some (.slice a' k' c')))
    (first | exact ⟨B2, KC.out _ B2⟩ | exact ⟨B1, KC.out _ B1⟩ | exact ⟨B0, KC.out _ B0⟩)
    (first
    | (go_at_call 77; refine (HE.out _ (Z1.out _ B1)).mono ?_; rintro e w5 ⟨rfl, hb5⟩; have B2 := B1.trans (hb5.mono B1.size))
    | (go_at_call 80; refine (HF.out _).mono ?_; rintro e w3 ⟨rfl, rfl⟩)
    | (go_at_call 75; refine (HN.out _).mono ?_; rintro e w2 ⟨rfl, hb2⟩; have B1 := B0.trans (hb2.mono B0.size)))
  go_wp2
  go_loopw [6, 7] (fun t i wr => ∃ (j : Nat) (L : List UInt8), j ≤ k' ∧ i = .int .i64 (j : Int) ∧ t = .string (str L) ∧ Hid (L = T0 ++ (ls.take j).map ob) ∧ Below w1.heap.size w1 wr) (fun _ i _ => k' - (intOf i).toNat)
  case atStart => exact ⟨0, T0, by omega, rfl, rfl, by show _ = _; simp, B2⟩
  case round =>
    obtain ⟨j, L, hj, rfl, rfl, hL, hb⟩ := hrel
    by_cases hlt : j < k'
    · have h9 := H'.out
      rcases h9.2 with hz | ⟨b, off, rfl, hbl, hc⟩
      · omega
      · obtain ⟨x, hx⟩ : ∃ x, ls[j]? = some x := ⟨ls[j]'(by have := h9.1; omega), List.getElem?_eq_getElem (by have := h9.1; omega)⟩
        have c0 : wr.cell? ⟨b, off + j, none⟩ = some (.int .i64 x) := by rw [(Z1.out _ hb).cell hbl]; exact hc j x hx
        obtain ⟨x1, x2⟩ := HP5.out x (List.mem_of_getElem? hx)
        obtain ⟨k0, k1, k2, k3⟩ := KC.out _ hb
        have b1 : (0 : Int) ≤ (j : Int) := by omega
        have b2 : (j : Int) < (k' : Int) := by omega
        have hle : L.length ≤ 300 := by rw [hL.out, List.length_append]; have := HLn.out; simp; omega
        have A5 : ∀ wx, (Op.stringOp .add (str L) (str [ob x])).run Try.prog wx = .ok (.string (str (L ++ [ob x]))) wx := str_add _ _ (by simp; omega)
        have HL1 : Hid (L ++ [ob x] = T0 ++ (ls.take (j + 1)).map ob) := by show _ = _; rw [take_snocF ls j x hx, hL.out]; simp
        have HY := hideIt (l09Byte_any x x1 x2)
        clear hc hx h9 hL hle
        go_wp2_with (go_at_call 76; refine (HY.out _).mono ?_; rintro e w6 ⟨rfl, hb6⟩)
        refine ⟨⟨j + 1, _, by omega, by go_num, rfl, HL1, hb.trans (hb6.mono hb.size)⟩, by simp [intOf]; omega⟩
    · have hz : Hid (L = aText ⟨num, ok, es, ls⟩) := by
        show _ = _
        rw [hL.out, List.take_of_length_le (by have := H'.out.1; omega), HFN.out]
      clear hL
      go_wp2
      go_ret2
      exact ⟨by rw [← hz.out]; rfl, Z1.out _ hb⟩

theorem sAnswerText_any (n num : Int) (ok : Bool) (es : List EdgeV) (ls : List Int) (k : Nat) (a : Option Addr) (c : Nat) (hk : k ≤ 1048576) (k' : Nat) (a' : Option Addr) (c' : Nat) (hk' : k' ≤ 1048576) (w : World) (h : Es w w.heap.size a k es) (h' : Is w w.heap.size a' k' ls) :
    Calls Try.prog 36 #[.int .i64 n, ansV num ok a k c a' k' c'] w fun e w' => e = .returned (atV n ⟨num, ok, es, ls⟩) ∧ Below w.heap.size w w' := by
  cases hB : aB n ⟨num, ok, es, ls⟩ with
  | false => rw [atV_no hB]; exact sAnswerText_no n num ok es ls k a c hk k' a' c' hk' w h h' hB
  | true => rw [atV_yes hB]; exact sAnswerText_yes n num ok es ls k a c hk k' a' c' hk' w h h' hB
end Go.Proofs.Ytkhhagjcmbbdpaa
namespace Go.Proofs.Ytkhhagjcmbbdpaa
open Go.RowKit Vt

theorem newsI (w : World) (x : Int) : ∀ j u, ([Value.int .i64 x] : List Value)[j]? = some u → (w.alloc (.cells #[.int .i64 x] 3)).cell? ((⟨w.heap.size, 0, none⟩ : Addr).add j) = some u := by
  intro j u hj
  match j, hj with
  | 0, hj => simp at hj; subst hj; simp [Addr.add]

theorem LR_end {st0 : Option (List UInt8)} {m j : Nat} {ls : List Int} {st : Option (List UInt8)} (h : LbSt st0 j ls st) (hj : j ≤ m) (he : st = none ∨ m ≤ j) : LR m st0 ls st := by
  obtain ⟨h1, h2⟩ := h
  by_cases hm : m ≤ j
  · obtain rfl : j = m := by omega
    exact h2
  · have hn : st = none := by
      rcases he with he | he
      · exact he
      · omega
    subst hn
    unfold LR at h2 ⊢
    cases st0 with
    | none => rfl
    | some L =>
      dsimp only at h2 ⊢
      split at h2
      · rw [if_pos (by omega)]
      · simp at h2

/-- what stands in memory while labels are read: the answer in its box, labels and edges in rows of their own -/
def LbMem (w W : World) (G O R : Nat) (s : ByteArray) (st : Option (List UInt8)) (num : Int) (ok : Bool) (a : Option Addr) (k c : Nat) (es : List EdgeV) (B Bl : Nat) (a' : Option Addr) (j c' : Nat) (ls : List Int) : Prop :=
  RA False 90 w W G O R s st num ok a k c a' j c' ∧ W.ownsRow Bl 3 1 (.slice a' j c') j (ic ls) ∧ W.ownsRow B 78 2 (.slice a k c) k (ecells es) ∧ Bl ≤ W.heap.size ∧ ∀ g, (Value.slice a k c).ownBlock = some g → g < Bl

theorem LbMem.call {w W W' : World} {G O R : Nat} {s : ByteArray} {st st' : Option (List UInt8)} {num : Int} {ok : Bool} {a : Option Addr} {k c : Nat} {es : List EdgeV} {B Bl : Nat} {a' : Option Addr} {j c' : Nat} {ls : List Int}
    (h : LbMem w W G O R s st num ok a k c es B Bl a' j c' ls) (hGB : G < B) (hGl : G < Bl) (hr : RdAt False 90 W' G s st') (hg : W.grownBy W' (some G)) : LbMem w W' G O R s st' num ok a k c es B Bl a' j c' ls := by
  obtain ⟨h1, h2, h3, h4, h5⟩ := h
  exact ⟨h1.call hr hg, h2.kept hg (own_ne h2 hGl), h3.kept hg (own_ne h3 hGB), Nat.le_trans h4 hg.size, h5⟩

theorem LbMem.app {w W W' : World} {G O R : Nat} {s : ByteArray} {st : Option (List UInt8)} {num : Int} {ok : Bool} {a : Option Addr} {k c : Nat} {es : List EdgeV} {B Bl : Nat} {a' : Option Addr} {j c' : Nat} {ls : List Int} {x : Int} {g cap : Nat}
    (h : LbMem w W G O R s st num ok a k c es B Bl a' j c' ls) (hl : G < Bl ∧ O < Bl ∧ R < Bl) (hw : w.heap.size ≤ Bl)
    (hown : W'.ownsRow Bl 3 1 (.slice (some ⟨g, 0, none⟩) (j + 1) cap) (j + 1) (ic ls ++ [.int .i64 x])) (hg : (W.alloc (.cells #[.int .i64 x] 3)).grownBy W' (Value.slice a' j c').ownBlock) :
    RA False 90 w W' G O R s st num ok a k c a' j c' ∧ W'.ownsRow Bl 3 1 (.slice (some ⟨g, 0, none⟩) (j + 1) cap) (j + 1) (ic (ls ++ [x])) ∧ W'.ownsRow B 78 2 (.slice a k c) k (ecells es) ∧ Bl ≤ W'.heap.size ∧ ∀ q, (Value.slice a k c).ownBlock = some q → q < Bl := by
  obtain ⟨h1, h2, h3, h4, h5⟩ := h
  have hrow : ∀ q, (Value.slice a' j c').ownBlock = some q → Bl ≤ q := fun q hq => (h2.lt q hq).1
  have hgg : W.grownBy W' (Value.slice a' j c').ownBlock := gr_trans (World.grownBy_alloc W _ _) hg
  have hne : ∀ q, q < Bl → (Value.slice a' j c').ownBlock ≠ some q := fun q hq e => by have := hrow q e; omega
  refine ⟨⟨h1.rd.row hgg (hne G hl.1), by rw [hgg.block O h1.lt.2.1 (Ne.symm (hne O hl.2.1))]; exact h1.ob, by rw [hgg.block R h1.lt.2.2 (Ne.symm (hne R hl.2.2))]; exact h1.rb, h1.bel.grown hgg h1.bel.size (fun q hq => by have := hrow q hq; omega), h1.ge, h1.ne⟩, by rw [ic_snoc]; exact hown, own_kept h3 hgg (fun q hq => fun e => by have := h5 q e; have := hrow q hq; omega), Nat.le_trans h4 hgg.size, h5⟩

theorem LbMem.store {w W : World} {G O R : Nat} {s : ByteArray} {st : Option (List UInt8)} {num : Int} {ok : Bool} {a : Option Addr} {k c : Nat} {es : List EdgeV} {B Bl : Nat} {a' : Option Addr} {j c' : Nat} {b' : Option Addr} {i d' : Nat} {ls : List Int}
    (h : RA False 90 w W G O R s st num ok a k c a' j c' ∧ W.ownsRow Bl 3 1 (.slice b' i d') i (ic ls) ∧ W.ownsRow B 78 2 (.slice a k c) k (ecells es) ∧ Bl ≤ W.heap.size ∧ ∀ q, (Value.slice a k c).ownBlock = some q → q < Bl) (hO : O < Bl) (hB : O < B) :
    LbMem w (W.setCell ⟨O, 3, none⟩ (.slice b' i d')) G O R s st num ok a k c es B Bl b' i d' ls := by
  obtain ⟨h1, h2, h3, h4, h5⟩ := h
  exact ⟨h1.set 3 (.slice b' i d') rfl, h2.kept (gr_set W O 3 _) (own_ne h2 hO), h3.kept (gr_set W O 3 _) (own_ne h3 hB), Nat.le_trans h4 (gr_set W O 3 _).size, h5⟩

set_option maxRecDepth 100000 in
set_option maxHeartbeats 8000000 in
theorem sReadAnswer_any (n : Int) (s : ByteArray) (hs : s.size ≤ 1048576) (w : World) :
    Calls Try.prog 26 #[.int .i64 n, .string s] w fun e w' => ∃ r, IsA n s.data.toList r ∧ AnsAns w w' e r := by
  obtain ⟨i0, hi, hz0, hz1, hz2⟩ := info_parts info3i
  have HN : Hid (∀ W G st, RdAt False 90 W G s st → Calls Try.prog 63 #[.pointer (some ⟨G, 0, none⟩)] W fun e w' => e = .returned (.int .i64 (((nx pN st).1 : Nat) : Int)) ∧ RdAt False 90 w' G s (nx pN st).2 ∧ W.grownBy w' (some G)) := fun W G st h => l09Var_any s hs W G st h
  have HO : Hid (∀ W G st, RdAt False 90 W G s st → Calls Try.prog 64 #[.pointer (some ⟨G, 0, none⟩)] W fun e w' => e = .returned (.int .i64 (((nx pO st).1 : Nat) : Int)) ∧ RdAt False 90 w' G s (nx pO st).2 ∧ W.grownBy w' (some G)) := fun W G st h => l09One_any s hs W G st h
  have HE : Hid (∀ W G st, RdAt False 90 W G s st → Calls Try.prog 65 #[.pointer (some ⟨G, 0, none⟩)] W fun e w' => ∃ v, e = .returned v ∧ EdAns False 90 W w' G s st v 100) := fun W G st h => l09ReadEdges_any s hs W G st h
  have hR0 : RdAt False 90 ((w.alloc (.cells (ac 0 false none 0 0 none 0 0) 37)).alloc (.cells #[.string s, .int .i64 0, .bool false] 90)) (w.heap.size + 1) s (some s.data.toList) := by
    refine ⟨0, false, ?_, by omega, .inl ⟨rfl, by simp [from_]⟩⟩
    have := heap_alloc_new (w.alloc (.cells (ac 0 false none 0 0 none 0 0) 37)) (.cells #[.string s, .int .i64 0, .bool false] 90)
    simpa using this
  have hb0 : ((w.alloc (.cells (ac 0 false none 0 0 none 0 0) 37)).alloc (.cells #[.string s, .int .i64 0, .bool false] 90)).heap[w.heap.size]? = some (.cells (ac 0 false none 0 0 none 0 0) 37 (0, 0)) := by
    rw [Below.heap_alloc _ _ _ (by simp)]
    exact heap_alloc_new w _
  have hB0 : Below w.heap.size w ((w.alloc (.cells (ac 0 false none 0 0 none 0 0) 37)).alloc (.cells #[.string s, .int .i64 0, .bool false] 90)) := ((Below.refl _ _).alloc (Nat.le_refl _) _).alloc (by simp) _
  have HR0 := hideIt hR0
  have Hb0 := hideIt hb0
  have HB0 := hideIt hB0
  clear hR0 hb0 hB0
  go_enter Try.func26, Try.ntmps26
  go_wp2_with (go_at_call 63; refine (HN.out _ _ _ HR0.out).mono ?_; rintro e w1 ⟨rfl, hr1, hg1⟩; refine Hid.out ?_)
  refine (show ∀ {p : Prop}, p → Hid p from fun h => h) ?_
  have z1 := hg1.size
  simp at z1
  have R2 : RA False 90 w (w1.alloc (.cells (ac (((nx pN (some s.data.toList)).1 : Nat) : Int) false none 0 0 none 0 0) 37)) (w.heap.size + 1) w1.heap.size w.heap.size s (nx pN (some s.data.toList)).2 (((nx pN (some s.data.toList)).1 : Nat) : Int) false none 0 0 none 0 0 := by
    refine ⟨hr1.alloc _, heap_alloc_new w1 _, ?_, ?_, by omega, by omega⟩
    · rw [Below.heap_alloc _ _ _ (by omega), hg1.block _ (by simp; omega) (by simp)]
      exact Hb0.out
    · exact (bel_grown HB0.out hg1 (by omega)).alloc (by omega) _
  clear hr1 hg1 HR0 Hb0 HB0
  go_wp2_with (go_at_call 64; refine (HO.out _ _ _ R2.rd).mono ?_; rintro e w3 ⟨rfl, hr3, hg3⟩; refine Hid.out ?_)
  refine (show ∀ {p : Prop}, p → Hid p from fun h => h) ?_
  have R3 := R2.call hr3 hg3
  clear R2 hr3 hg3
  obtain ⟨_, c1, _, _⟩ := R3.cells
  have f1 := R3.frozen 1
  have HD : Hid (((((nx pO (nx pN (some s.data.toList)).2).1 : Nat) : Int) == 1) = decide ((nx pO (nx pN (some s.data.toList)).2).1 = 1)) := by show _ = _; rw [Bool.eq_iff_iff]; simp; omega
  generalize hok : ((((nx pO (nx pN (some s.data.toList)).2).1 : Nat) : Int) == 1) = ok at HD
  have R4 := R3.set 1 (.bool ok) rfl
  clear R3
  go_wp2_with (go_at_call 65; refine (HE.out _ _ _ R4.rd).mono ?_; rintro e w5 ⟨v5, rfl, hA5⟩; refine Hid.out ?_)
  refine (show ∀ {p : Prop}, p → Hid p from fun h => h) ?_
  obtain ⟨a, k, c, es, st3, rfl, hk, hby, hown, hER, hr5, hg5⟩ := ed_es hA5
  have R5 := R4.call hr5 hg5
  have hz4 := R4.lt
  have hge4 := R4.bel.size
  clear R4 hr5 hg5 hA5 c1 f1
  obtain ⟨_, _, c2, _⟩ := R5.cells
  have f2 := R5.frozen 2
  have R6 := R5.set 2 (.slice a k c) rfl
  have own6 := own_two (W := w5.setCell ⟨w1.heap.size, 2, none⟩ (.slice a k c)) hown (fun g hg _ => heap_setCell_other _ _ _ _ (by intro h; simp at h; have := hz4.2.1; omega))
  have hzl := R6.lt
  have hgel := R6.bel.size
  have hrow6 : ∀ g, (Value.slice a k c).ownBlock = some g → g < (w5.setCell ⟨w1.heap.size, 2, none⟩ (.slice a k c)).heap.size := fun g hg => (own6.lt g hg).2
  generalize (w3.setCell ⟨w1.heap.size, 1, none⟩ (.bool ok)).heap.size = B at own6 hz4 hge4
  generalize hq1 : (((nx pN (some s.data.toList)).1 : Nat) : Int) = num at *
  have M6 : LbMem w (w5.setCell ⟨w1.heap.size, 2, none⟩ (.slice a k c)) (w.heap.size + 1) w1.heap.size w.heap.size s st3 num ok a k c es B (w5.setCell ⟨w1.heap.size, 2, none⟩ (.slice a k c)).heap.size none 0 0 [] :=
    ⟨R6, ⟨rfl, .inl ⟨rfl, rfl⟩⟩, own6, Nat.le_refl _, hrow6⟩
  generalize hBl : (w5.setCell ⟨w1.heap.size, 2, none⟩ (.slice a k c)).heap.size = Bl at M6 hzl hgel
  have HCa0 : Hid (∀ (m : Nat) (ls : List Int) (st4 : Option (List UInt8)), LR m st3 ls st4 → Ca m s.data.toList ⟨num, ok, es, ls⟩ st4) := fun m ls st4 hLR =>
    ⟨_, (nx pO (nx pN (some s.data.toList)).2).2, st3, st4, hq1.symm, rfl, by rw [← HD.out, ← hok], .inl rfl, hER, hLR, rfl⟩
  have HM6 := hideIt M6
  clear R5 R6 hown own6 hrow6 M6 hER hq1 hok HD hBl hby
  go_wp2
  go_loopw [8] (fun i wr => ∃ (j : Nat) (ls : List Int) (st1 : Option (List UInt8)) (a' : Option Addr) (c' : Nat), j ≤ 12 ∧ (j = 0 ∨ (j : Int) ≤ n) ∧ i = .int .i64 (j : Int) ∧ Hid (LbSt st3 j ls st1) ∧ LbMem w wr (w.heap.size + 1) w1.heap.size w.heap.size s st1 num ok a k c es B Bl a' j c' ls) (fun i _ => 12 - (intOf i).toNat)
  case atStart => exact ⟨0, [], st3, none, 0, by omega, .inl rfl, rfl, LbSt.start st3, HM6.out⟩
  case round =>
    obtain ⟨j, ls, st1, a', c', hj, hjn, rfl, hS, hM⟩ := hrel
    have cfl := hM.1.rd.flag
    obtain ⟨q0, q1, q2, q3⟩ := hM.1.cells
    have HM := hideIt hM
    by_cases hcont : (j : Int) < n ∧ j < 12 ∧ st1 ≠ none
    · obtain ⟨hc1, hc2, hc3⟩ := hcont
      have e1 : decide ((j : Int) < n) = true := by simpa using hc1
      have e2 : decide ((j : Int) < 12) = true := by simp; omega
      have e3 : st1.isNone = false := by cases st1 with | none => exact absurd rfl hc3 | some _ => rfl
      rw [e3] at cfl
      have HR0 : Hid (RdAt False 90 wr.drew (w.heap.size + 1) s st1) := hM.1.rd
      generalize hxx : (((nx pO st1).1 : Nat) : Int) = xx
      have HO : Hid (∀ W G st, RdAt False 90 W G s st → st = st1 → Calls Try.prog 64 #[.pointer (some ⟨G, 0, none⟩)] W fun e w' => e = .returned (.int .i64 xx) ∧ RdAt False 90 w' G s (nx pO st1).2 ∧ W.grownBy w' (some G)) := fun W G st h e => by subst e; rw [← hxx]; exact HO.out W G st h
      have HS1 : Hid (LbSt st3 (j + 1) (ls ++ [xx]) (nx pO st1).2) := by rw [← hxx]; exact hS.out.step
      have HAf : Hid (∀ W', RdAt False 90 W' (w.heap.size + 1) s (nx pO st1).2 → wr.drew.grownBy W' (some (w.heap.size + 1)) → LbMem w W' (w.heap.size + 1) w1.heap.size w.heap.size s (nx pO st1).2 num ok a k c es B Bl a' j c' ls) := fun W' hr hg => HM.out.call (by have := hz4.1; omega) (by have := hzl.1; omega) hr (gr_trans (gr_drew wr _) hg)
      have HAp : Hid (∀ (W W' : World) (g cap : Nat), LbMem w W (w.heap.size + 1) w1.heap.size w.heap.size s (nx pO st1).2 num ok a k c es B Bl a' j c' ls → W'.ownsRow Bl 3 1 (.slice (some ⟨g, 0, none⟩) (j + 1) cap) (j + 1) (ic ls ++ [.int .i64 xx]) → (W.alloc (.cells #[.int .i64 xx] 3)).grownBy W' (Value.slice a' j c').ownBlock → RA False 90 w W' (w.heap.size + 1) w1.heap.size w.heap.size s (nx pO st1).2 num ok a k c a' j c' ∧ W'.ownsRow Bl 3 1 (.slice (some ⟨g, 0, none⟩) (j + 1) cap) (j + 1) (ic (ls ++ [xx])) ∧ W'.ownsRow B 78 2 (.slice a k c) k (ecells es) ∧ Bl ≤ W'.heap.size ∧ ∀ q, (Value.slice a k c).ownBlock = some q → q < Bl) := fun W W' g cap h1 h2 h3 => h1.app hzl hgel h2 h3
      have HFin : Hid (∀ (W' : World) (g cap : Nat), (RA False 90 w W' (w.heap.size + 1) w1.heap.size w.heap.size s (nx pO st1).2 num ok a k c a' j c' ∧ W'.ownsRow Bl 3 1 (.slice (some ⟨g, 0, none⟩) (j + 1) cap) (j + 1) (ic (ls ++ [xx])) ∧ W'.ownsRow B 78 2 (.slice a k c) k (ecells es) ∧ Bl ≤ W'.heap.size ∧ ∀ q, (Value.slice a k c).ownBlock = some q → q < Bl) → LbMem w (W'.setCell ⟨w1.heap.size, 3, none⟩ (.slice (some ⟨g, 0, none⟩) (j + 1) cap)) (w.heap.size + 1) w1.heap.size w.heap.size s (nx pO st1).2 num ok a k c es B Bl (some ⟨g, 0, none⟩) (j + 1) cap (ls ++ [xx])) := fun W' g cap h => LbMem.store h hzl.2.1 hz4.2.1
      clear hM hxx hS HE HN HCa0 HM
      go_wp2
      refine wp_region_any (by kernel_rfl) ?_
      change wpAny _ _ _ _ _ _ _ (World.drew _)
      refine takeOp (i := 0) (v := ?_) rfl (by kernel_rfl) (by kernel_rfl) (by kernel_rfl) (fun _ _ _ h => h) (by kernel_rfl) ?_ ?_
      rotate_left
      · intro w; go_simp; try with_reducible rfl
      try simp only [Act.put, List.getElem_toArray, List.getElem_cons_zero, List.setIfInBounds_toArray, List.set_cons_zero, List.set_cons_succ]
      refine takeOp (i := 2) (v := ?_) rfl (by kernel_rfl) (by kernel_rfl) (by kernel_rfl) (fun _ _ _ h => h) (by kernel_rfl) ?_ ?_
      rotate_left
      · intro w; go_simp; try with_reducible rfl
      try simp only [Act.put, List.getElem_toArray, List.getElem_cons_succ, List.getElem_cons_zero, List.setIfInBounds_toArray, List.set_cons_zero, List.set_cons_succ]
      refine wpAny_ready (rs := [1, 3]) (by kernel_rfl) (by simp) ?_
      refine AllReady.cons rfl (fun K hK => ?_) (AllReady.cons rfl (fun K hK => ?_) AllReady.nil)
      · go_simp
        refine hK _ _ ?_
        clear hK K
        try simp only [Act.put, List.getElem_toArray, List.getElem_cons_succ, List.getElem_cons_zero, List.setIfInBounds_toArray, List.set_cons_zero, List.set_cons_succ]
        refine wpAny_ready (rs := [3]) (by kernel_rfl) (by simp) ?_
        refine AllReady.cons rfl (fun K hK => ?_) AllReady.nil
        rw [if_pos]
        rotate_left
        · kernel_rfl
        go_wp2_with (go_at_call 64; refine (HO.out wr.drew _ _ HR0.out rfl).mono ?_; rintro e w3 ⟨rfl, hR3, hg3⟩; refine Hid.out ?_)
        refine (show ∀ {p : Prop}, p → Hid p from fun h => h) ?_
        have A3 := HAf.out _ hR3 hg3
        have l3 := A3.1.cells.2.2.2
        have HA3 := hideIt A3
        clear A3 hR3 hg3
        refine hK _ _ ?_
        clear hK K
        try simp only [Act.put, List.getElem_toArray, List.getElem_cons_succ, List.getElem_cons_zero, List.setIfInBounds_toArray, List.set_cons_zero, List.set_cons_succ]
        refine wpAny_ready (rs := [4]) (by kernel_rfl) (by simp) ?_
        refine AllReady.cons rfl (fun K hK => ?_) AllReady.nil
        go_simp
        refine hK _ _ ?_
        clear hK K
        try simp only [Act.put, List.getElem_toArray, List.getElem_cons_succ, List.getElem_cons_zero, List.setIfInBounds_toArray, List.set_cons_zero, List.set_cons_succ]
        refine wpAny_ready (rs := [5]) (by kernel_rfl) (by simp) ?_
        refine AllReady.cons rfl (fun K hK => ?_) AllReady.nil
        refine step_append_lies _ rfl _ _ 35 rfl Bl 3 i0 _ 1 8 Try.underlying35 hi hz0 hz1 hz2 rfl (by decide) _ _ _ rfl (HA3.out.2.1.alloc (.cells #[.int .i64 xx] 3)) ⟨w3.heap.size, 0, none⟩ 1 1 [.int .i64 xx] rfl rfl (newsI w3 xx) (by intro u hu; simp at hu; subst hu; rfl) (by omega) (by unfold maxLen; omega) (by omega) (by have := HA3.out.2.2.2.1; simp; omega) (w3.heap.size + 1) (by simp) ?_
        intro ga capa w4 hown4 hg4 hat4 hlt4
        have R4 := HAp.out w3 w4 ga capa HA3.out hown4 hg4
        have y4 := R4.1.frozen 3
        have l5 := R4.1.cells.2.2.2
        have HR4 := hideIt R4
        clear R4 hown4 hg4 hat4
        refine hK _ _ ?_
        clear hK K
        try simp only [Act.put, List.getElem_toArray, List.getElem_cons_succ, List.getElem_cons_zero, List.setIfInBounds_toArray, List.set_cons_zero, List.set_cons_succ]
        refine wpAny_ready (rs := [6]) (by kernel_rfl) (by simp) ?_
        refine AllReady.cons rfl (fun K hK => ?_) AllReady.nil
        go_simp
        refine hK _ _ ?_
        clear hK K
        try simp only [Act.put, List.getElem_toArray, List.getElem_cons_succ, List.getElem_cons_zero, List.setIfInBounds_toArray, List.set_cons_zero, List.set_cons_succ]
        refine wpAny_ready (rs := [7]) (by kernel_rfl) (by simp) ?_
        refine AllReady.cons rfl (fun K hK => ?_) AllReady.nil
        go_simp
        refine hK _ _ ?_
        clear hK K
        try simp only [Act.put, List.getElem_toArray, List.getElem_cons_succ, List.getElem_cons_zero, List.setIfInBounds_toArray, List.set_cons_zero, List.set_cons_succ]
        refine wpAny_done (by kernel_rfl) ?_ _
        go_wp2
        exact ⟨⟨j + 1, ls ++ [xx], _, _, _, by omega, by omega, by go_num, HS1, HFin.out w4 ga capa HR4.out⟩, by simp [intOf]; omega⟩
      · rw [if_pos]
        rotate_left
        · kernel_rfl
        go_wp2_with (go_at_call 64; refine (HO.out wr.drew _ _ HR0.out rfl).mono ?_; rintro e w3 ⟨rfl, hR3, hg3⟩; refine Hid.out ?_)
        refine (show ∀ {p : Prop}, p → Hid p from fun h => h) ?_
        have A3 := HAf.out _ hR3 hg3
        have l3 := A3.1.cells.2.2.2
        have HA3 := hideIt A3
        clear A3 hR3 hg3
        refine hK _ _ ?_
        clear hK K
        try simp only [Act.put, List.getElem_toArray, List.getElem_cons_succ, List.getElem_cons_zero, List.setIfInBounds_toArray, List.set_cons_zero, List.set_cons_succ]
        refine wpAny_ready (rs := [1, 4]) (by kernel_rfl) (by simp) ?_
        refine AllReady.cons rfl (fun K hK => ?_) (AllReady.cons rfl (fun K hK => ?_) AllReady.nil)
        · go_simp
          refine hK _ _ ?_
          clear hK K
          try simp only [Act.put, List.getElem_toArray, List.getElem_cons_succ, List.getElem_cons_zero, List.setIfInBounds_toArray, List.set_cons_zero, List.set_cons_succ]
          refine wpAny_ready (rs := [4]) (by kernel_rfl) (by simp) ?_
          refine AllReady.cons rfl (fun K hK => ?_) AllReady.nil
          go_simp
          refine hK _ _ ?_
          clear hK K
          try simp only [Act.put, List.getElem_toArray, List.getElem_cons_succ, List.getElem_cons_zero, List.setIfInBounds_toArray, List.set_cons_zero, List.set_cons_succ]
          refine wpAny_ready (rs := [5]) (by kernel_rfl) (by simp) ?_
          refine AllReady.cons rfl (fun K hK => ?_) AllReady.nil
          refine step_append_lies _ rfl _ _ 35 rfl Bl 3 i0 _ 1 8 Try.underlying35 hi hz0 hz1 hz2 rfl (by decide) _ _ _ rfl (HA3.out.2.1.alloc (.cells #[.int .i64 xx] 3)) ⟨w3.heap.size, 0, none⟩ 1 1 [.int .i64 xx] rfl rfl (newsI w3 xx) (by intro u hu; simp at hu; subst hu; rfl) (by omega) (by unfold maxLen; omega) (by omega) (by have := HA3.out.2.2.2.1; simp; omega) (w3.heap.size + 1) (by simp) ?_
          intro ga capa w4 hown4 hg4 hat4 hlt4
          have R4 := HAp.out w3 w4 ga capa HA3.out hown4 hg4
          have y4 := R4.1.frozen 3
          have l5 := R4.1.cells.2.2.2
          have HR4 := hideIt R4
          clear R4 hown4 hg4 hat4
          refine hK _ _ ?_
          clear hK K
          try simp only [Act.put, List.getElem_toArray, List.getElem_cons_succ, List.getElem_cons_zero, List.setIfInBounds_toArray, List.set_cons_zero, List.set_cons_succ]
          refine wpAny_ready (rs := [6]) (by kernel_rfl) (by simp) ?_
          refine AllReady.cons rfl (fun K hK => ?_) AllReady.nil
          go_simp
          refine hK _ _ ?_
          clear hK K
          try simp only [Act.put, List.getElem_toArray, List.getElem_cons_succ, List.getElem_cons_zero, List.setIfInBounds_toArray, List.set_cons_zero, List.set_cons_succ]
          refine wpAny_ready (rs := [7]) (by kernel_rfl) (by simp) ?_
          refine AllReady.cons rfl (fun K hK => ?_) AllReady.nil
          go_simp
          refine hK _ _ ?_
          clear hK K
          try simp only [Act.put, List.getElem_toArray, List.getElem_cons_succ, List.getElem_cons_zero, List.setIfInBounds_toArray, List.set_cons_zero, List.set_cons_succ]
          refine wpAny_done (by kernel_rfl) ?_ _
          go_wp2
          exact ⟨⟨j + 1, ls ++ [xx], _, _, _, by omega, by omega, by go_num, HS1, HFin.out w4 ga capa HR4.out⟩, by simp [intOf]; omega⟩
        · go_simp
          refine hK _ _ ?_
          clear hK K
          try simp only [Act.put, List.getElem_toArray, List.getElem_cons_succ, List.getElem_cons_zero, List.setIfInBounds_toArray, List.set_cons_zero, List.set_cons_succ]
          have l4 : (w3.alloc (.cells #[.int .i64 xx] 3)).cell? ⟨w1.heap.size, 3, none⟩ = some (.slice a' j c') := by rw [World.cell?_of_block (w := w3) (Below.heap_alloc w3 _ _ HA3.out.1.lt.2.1)]; exact l3
          refine wpAny_ready (rs := [1]) (by kernel_rfl) (by simp) ?_
          refine AllReady.cons rfl (fun K hK => ?_) AllReady.nil
          go_simp
          refine hK _ _ ?_
          clear hK K
          try simp only [Act.put, List.getElem_toArray, List.getElem_cons_succ, List.getElem_cons_zero, List.setIfInBounds_toArray, List.set_cons_zero, List.set_cons_succ]
          refine wpAny_ready (rs := [5]) (by kernel_rfl) (by simp) ?_
          refine AllReady.cons rfl (fun K hK => ?_) AllReady.nil
          refine step_append_lies _ rfl _ _ 35 rfl Bl 3 i0 _ 1 8 Try.underlying35 hi hz0 hz1 hz2 rfl (by decide) _ _ _ rfl (HA3.out.2.1.alloc (.cells #[.int .i64 xx] 3)) ⟨w3.heap.size, 0, none⟩ 1 1 [.int .i64 xx] rfl rfl (newsI w3 xx) (by intro u hu; simp at hu; subst hu; rfl) (by omega) (by unfold maxLen; omega) (by omega) (by have := HA3.out.2.2.2.1; simp; omega) (w3.heap.size + 1) (by simp) ?_
          intro ga capa w4 hown4 hg4 hat4 hlt4
          have R4 := HAp.out w3 w4 ga capa HA3.out hown4 hg4
          have y4 := R4.1.frozen 3
          have l5 := R4.1.cells.2.2.2
          have HR4 := hideIt R4
          clear R4 hown4 hg4 hat4
          refine hK _ _ ?_
          clear hK K
          try simp only [Act.put, List.getElem_toArray, List.getElem_cons_succ, List.getElem_cons_zero, List.setIfInBounds_toArray, List.set_cons_zero, List.set_cons_succ]
          refine wpAny_ready (rs := [6]) (by kernel_rfl) (by simp) ?_
          refine AllReady.cons rfl (fun K hK => ?_) AllReady.nil
          go_simp
          refine hK _ _ ?_
          clear hK K
          try simp only [Act.put, List.getElem_toArray, List.getElem_cons_succ, List.getElem_cons_zero, List.setIfInBounds_toArray, List.set_cons_zero, List.set_cons_succ]
          refine wpAny_ready (rs := [7]) (by kernel_rfl) (by simp) ?_
          refine AllReady.cons rfl (fun K hK => ?_) AllReady.nil
          go_simp
          refine hK _ _ ?_
          clear hK K
          try simp only [Act.put, List.getElem_toArray, List.getElem_cons_succ, List.getElem_cons_zero, List.setIfInBounds_toArray, List.set_cons_zero, List.set_cons_succ]
          refine wpAny_done (by kernel_rfl) ?_ _
          go_wp2
          exact ⟨⟨j + 1, ls ++ [xx], _, _, _, by omega, by omega, by go_num, HS1, HFin.out w4 ga capa HR4.out⟩, by simp [intOf]; omega⟩
    · have HCa : Hid (1 ≤ n ∧ n ≤ 12 → Ca n.toNat s.data.toList ⟨num, ok, es, ls⟩ st1) := fun hn => HCa0.out _ _ _ (LR_end hS.out (by omega) (by
        by_cases h1 : st1 = none
        · exact .inl h1
        · right
          by_cases h2 : (j : Int) < n
          · have : ¬ j < 12 := fun h3 => hcont ⟨h2, h3, h1⟩
            omega
          · omega))
      have HOk := hideIt (sAnswerText_any n num ok es ls k a c (by omega) j a' c' (by omega) wr (Es_of_own hM.2.2.1) (Is_of_own hM.2.1))
      unfold ansV at HOk
      have hex : ((j : Int) < n) = False ∨ (((j : Int) < n) = True ∧ ((j : Int) < 12) = False) ∨ (((j : Int) < n) = True ∧ ((j : Int) < 12) = True ∧ st1.isNone = true) := by
        by_cases h2 : (j : Int) < n
        · by_cases h3 : (j : Int) < 12
          · refine .inr (.inr ⟨by simp [h2], by simp [h3], ?_⟩)
            cases hs1 : st1 with
            | none => rfl
            | some M => exact absurd ⟨h2, by omega, by rw [hs1]; simp⟩ hcont
          · exact .inr (.inl ⟨by simp [h2], by simp [h3]⟩)
        · exact .inl (by simp [h2])
      clear hM hcont hS HO HE HN HCa0 HM6
      rcases hex with e1 | ⟨e1, e2⟩ | ⟨e1, e2, e3⟩
      · have d1 : decide ((j : Int) < n) = false := by rw [decide_eq_false_iff_not, e1]; exact id
        clear e1 cfl
        cases hB : aB n ⟨num, ok, es, ls⟩ with
        | false =>
          rw [atV_no hB] at HOk
          have HI : Hid (IsA n s.data.toList none) := by
            by_cases hn : 1 ≤ n ∧ n ≤ 12
            · exact IsA.back (m := n.toNat) (by omega) (HCa.out hn) (.inr (.inl hB))
            · exact IsA.out hn
          clear hB
          cases hst : st1 with
          | none =>
            go_wp2_with (go_at_call 36; refine HOk.out.mono ?_; rintro e w10 ⟨rfl, hb10⟩; refine Hid.out ?_)
            refine (show ∀ {p : Prop}, p → Hid p from fun h => h) ?_
            have R10 := HM.out.1.below hb10
            have cf := R10.rd.flag
            rw [hst] at cf
            obtain ⟨r0, r1, r2, r3⟩ := R10.cellsR
            have g0 := R10.frozenR 0
            have g1 := R10.frozenR 1
            have g2 := R10.frozenR 2
            have g3 := R10.frozenR 3
            have HB := hideIt R10.bel
            clear R10 q0 q1 q2 q3 hb10
            go_wp2
            refine bodyPost_ret (v := .tuple #[ansV 0 false none 0 0 none 0 0, .bool false]) (by simp [results, Try.results26, go_sem, r0, r1, r2, r3]) rfl ⟨none, HI.out, none, 0, 0, none, 0, 0, rfl, ⟨rfl, .inl ⟨rfl, rfl⟩⟩, ⟨rfl, .inl ⟨rfl, rfl⟩⟩, by omega, by omega, ?_⟩
            exact (((HB.out.setCell (Nat.le_refl _) _).setCell (Nat.le_refl _) _).setCell (Nat.le_refl _) _).setCell (Nat.le_refl _) _
          | some M =>
            go_wp2_with (go_at_call 36; refine HOk.out.mono ?_; rintro e w10 ⟨rfl, hb10⟩; refine Hid.out ?_)
            refine (show ∀ {p : Prop}, p → Hid p from fun h => h) ?_
            have R10 := HM.out.1.below hb10
            have cf := R10.rd.flag
            rw [hst] at cf
            obtain ⟨r0, r1, r2, r3⟩ := R10.cellsR
            have g0 := R10.frozenR 0
            have g1 := R10.frozenR 1
            have g2 := R10.frozenR 2
            have g3 := R10.frozenR 3
            have HB := hideIt R10.bel
            clear R10 q0 q1 q2 q3 hb10
            go_wp2
            refine bodyPost_ret (v := .tuple #[ansV 0 false none 0 0 none 0 0, .bool false]) (by simp [results, Try.results26, go_sem, r0, r1, r2, r3]) rfl ⟨none, HI.out, none, 0, 0, none, 0, 0, rfl, ⟨rfl, .inl ⟨rfl, rfl⟩⟩, ⟨rfl, .inl ⟨rfl, rfl⟩⟩, by omega, by omega, ?_⟩
            exact (((HB.out.setCell (Nat.le_refl _) _).setCell (Nat.le_refl _) _).setCell (Nat.le_refl _) _).setCell (Nat.le_refl _) _
        | true =>
          rw [atV_yes hB] at HOk
          have hn := (aB_parts hB).1
          have HC := hideIt (HCa.out hn)
          cases hst : st1 with
          | none =>
            have HI : Hid (IsA n s.data.toList none) := IsA.back (m := n.toNat) (by omega) HC.out (.inl hst)
            clear hB
            go_wp2_with (go_at_call 36; refine HOk.out.mono ?_; rintro e w10 ⟨rfl, hb10⟩; refine Hid.out ?_)
            refine (show ∀ {p : Prop}, p → Hid p from fun h => h) ?_
            have R10 := HM.out.1.below hb10
            have cf := R10.rd.flag
            rw [hst] at cf
            obtain ⟨r0, r1, r2, r3⟩ := R10.cellsR
            have g0 := R10.frozenR 0
            have g1 := R10.frozenR 1
            have g2 := R10.frozenR 2
            have g3 := R10.frozenR 3
            have HB := hideIt R10.bel
            clear R10 q0 q1 q2 q3 hb10
            go_wp2
            refine bodyPost_ret (v := .tuple #[ansV 0 false none 0 0 none 0 0, .bool false]) (by simp [results, Try.results26, go_sem, r0, r1, r2, r3]) rfl ⟨none, HI.out, none, 0, 0, none, 0, 0, rfl, ⟨rfl, .inl ⟨rfl, rfl⟩⟩, ⟨rfl, .inl ⟨rfl, rfl⟩⟩, by omega, by omega, ?_⟩
            exact (((HB.out.setCell (Nat.le_refl _) _).setCell (Nat.le_refl _) _).setCell (Nat.le_refl _) _).setCell (Nat.le_refl _) _
          | some M =>
            by_cases hT : aText ⟨num, ok, es, ls⟩ = s.data.toList
            · have HI : Hid (IsA n s.data.toList (some ⟨num, ok, es, ls⟩)) := ⟨hB, hT⟩
              rw [str_eq hT] at HOk
              clear hB hT
              go_wp2_with (go_at_call 36; refine HOk.out.mono ?_; rintro e w10 ⟨rfl, hb10⟩; refine Hid.out ?_)
              refine (show ∀ {p : Prop}, p → Hid p from fun h => h) ?_
              have R10 := HM.out.1.below hb10
              have cf := R10.rd.flag
              rw [hst] at cf
              obtain ⟨r0, r1, r2, r3⟩ := R10.cellsR
              have g0 := R10.frozenR 0
              have g1 := R10.frozenR 1
              have g2 := R10.frozenR 2
              have g3 := R10.frozenR 3
              have HB := hideIt R10.bel
              have own10 : Hid (w10.ownsRow B 78 2 (.slice a k c) k (ecells es)) := own_up10 HM.out.2.2.1 hb10
              have own10' : Hid (w10.ownsRow Bl 3 1 (.slice a' j c') j (ic ls)) := own_up10 HM.out.2.1 hb10
              clear q0 q1 q2 q3
              obtain ⟨q0, q1, q2, q3⟩ := R10.cells
              clear R10 hb10
              go_wp2
              refine bodyPost_ret (v := .tuple #[ansV num ok a k c a' j c', .bool true]) (by simp [results, Try.results26, go_sem, r0, r1, r2, r3]) rfl ⟨some ⟨num, ok, es, ls⟩, HI.out, a, k, c, a', j, c', rfl, ?_, ?_, by omega, by omega, ?_⟩
              · refine own_mono (B := B) ?_ hge4
                refine own_two own10.out (fun g hg hlt => ?_)
                have hne : g ≠ w.heap.size := by have := hz4.2.2; omega
                rw [heap_setCell_other _ _ _ _ (by exact hne), heap_setCell_other _ _ _ _ (by exact hne), heap_setCell_other _ _ _ _ (by exact hne), heap_setCell_other _ _ _ _ (by exact hne)]
              · refine own_mono (B := Bl) ?_ hgel
                refine own_two own10'.out (fun g hg hlt => ?_)
                have hne : g ≠ w.heap.size := by have := hzl.2.2; omega
                rw [heap_setCell_other _ _ _ _ (by exact hne), heap_setCell_other _ _ _ _ (by exact hne), heap_setCell_other _ _ _ _ (by exact hne), heap_setCell_other _ _ _ _ (by exact hne)]
              · exact (((HB.out.setCell (Nat.le_refl _) _).setCell (Nat.le_refl _) _).setCell (Nat.le_refl _) _).setCell (Nat.le_refl _) _
            · have HI : Hid (IsA n s.data.toList none) := IsA.back (m := n.toNat) (by omega) HC.out (.inr (.inr hT))
              have tq := str_neq hT
              generalize str (aText ⟨num, ok, es, ls⟩) = S at HOk tq
              clear hB hT
              go_wp2_with (go_at_call 36; refine HOk.out.mono ?_; rintro e w10 ⟨rfl, hb10⟩; refine Hid.out ?_)
              refine (show ∀ {p : Prop}, p → Hid p from fun h => h) ?_
              have R10 := HM.out.1.below hb10
              have cf := R10.rd.flag
              rw [hst] at cf
              obtain ⟨r0, r1, r2, r3⟩ := R10.cellsR
              have g0 := R10.frozenR 0
              have g1 := R10.frozenR 1
              have g2 := R10.frozenR 2
              have g3 := R10.frozenR 3
              have HB := hideIt R10.bel
              clear R10 q0 q1 q2 q3 hb10
              go_wp2
              refine bodyPost_ret (v := .tuple #[ansV 0 false none 0 0 none 0 0, .bool false]) (by simp [results, Try.results26, go_sem, r0, r1, r2, r3]) rfl ⟨none, HI.out, none, 0, 0, none, 0, 0, rfl, ⟨rfl, .inl ⟨rfl, rfl⟩⟩, ⟨rfl, .inl ⟨rfl, rfl⟩⟩, by omega, by omega, ?_⟩
              exact (((HB.out.setCell (Nat.le_refl _) _).setCell (Nat.le_refl _) _).setCell (Nat.le_refl _) _).setCell (Nat.le_refl _) _
      · have d1 : decide ((j : Int) < n) = true := by rw [decide_eq_true_eq, e1]; trivial
        have d2 : decide ((j : Int) < 12) = false := by rw [decide_eq_false_iff_not, e2]; exact id
        clear e1 e2 cfl
        cases hB : aB n ⟨num, ok, es, ls⟩ with
        | false =>
          rw [atV_no hB] at HOk
          have HI : Hid (IsA n s.data.toList none) := by
            by_cases hn : 1 ≤ n ∧ n ≤ 12
            · exact IsA.back (m := n.toNat) (by omega) (HCa.out hn) (.inr (.inl hB))
            · exact IsA.out hn
          clear hB
          cases hst : st1 with
          | none =>
            go_wp2_with (go_at_call 36; refine HOk.out.mono ?_; rintro e w10 ⟨rfl, hb10⟩; refine Hid.out ?_)
            refine (show ∀ {p : Prop}, p → Hid p from fun h => h) ?_
            have R10 := HM.out.1.below hb10
            have cf := R10.rd.flag
            rw [hst] at cf
            obtain ⟨r0, r1, r2, r3⟩ := R10.cellsR
            have g0 := R10.frozenR 0
            have g1 := R10.frozenR 1
            have g2 := R10.frozenR 2
            have g3 := R10.frozenR 3
            have HB := hideIt R10.bel
            clear R10 q0 q1 q2 q3 hb10
            go_wp2
            refine bodyPost_ret (v := .tuple #[ansV 0 false none 0 0 none 0 0, .bool false]) (by simp [results, Try.results26, go_sem, r0, r1, r2, r3]) rfl ⟨none, HI.out, none, 0, 0, none, 0, 0, rfl, ⟨rfl, .inl ⟨rfl, rfl⟩⟩, ⟨rfl, .inl ⟨rfl, rfl⟩⟩, by omega, by omega, ?_⟩
            exact (((HB.out.setCell (Nat.le_refl _) _).setCell (Nat.le_refl _) _).setCell (Nat.le_refl _) _).setCell (Nat.le_refl _) _
          | some M =>
            go_wp2_with (go_at_call 36; refine HOk.out.mono ?_; rintro e w10 ⟨rfl, hb10⟩; refine Hid.out ?_)
            refine (show ∀ {p : Prop}, p → Hid p from fun h => h) ?_
            have R10 := HM.out.1.below hb10
            have cf := R10.rd.flag
            rw [hst] at cf
            obtain ⟨r0, r1, r2, r3⟩ := R10.cellsR
            have g0 := R10.frozenR 0
            have g1 := R10.frozenR 1
            have g2 := R10.frozenR 2
            have g3 := R10.frozenR 3
            have HB := hideIt R10.bel
            clear R10 q0 q1 q2 q3 hb10
            go_wp2
            refine bodyPost_ret (v := .tuple #[ansV 0 false none 0 0 none 0 0, .bool false]) (by simp [results, Try.results26, go_sem, r0, r1, r2, r3]) rfl ⟨none, HI.out, none, 0, 0, none, 0, 0, rfl, ⟨rfl, .inl ⟨rfl, rfl⟩⟩, ⟨rfl, .inl ⟨rfl, rfl⟩⟩, by omega, by omega, ?_⟩
            exact (((HB.out.setCell (Nat.le_refl _) _).setCell (Nat.le_refl _) _).setCell (Nat.le_refl _) _).setCell (Nat.le_refl _) _
        | true =>
          rw [atV_yes hB] at HOk
          have hn := (aB_parts hB).1
          have HC := hideIt (HCa.out hn)
          cases hst : st1 with
          | none =>
            have HI : Hid (IsA n s.data.toList none) := IsA.back (m := n.toNat) (by omega) HC.out (.inl hst)
            clear hB
            go_wp2_with (go_at_call 36; refine HOk.out.mono ?_; rintro e w10 ⟨rfl, hb10⟩; refine Hid.out ?_)
            refine (show ∀ {p : Prop}, p → Hid p from fun h => h) ?_
            have R10 := HM.out.1.below hb10
            have cf := R10.rd.flag
            rw [hst] at cf
            obtain ⟨r0, r1, r2, r3⟩ := R10.cellsR
            have g0 := R10.frozenR 0
            have g1 := R10.frozenR 1
            have g2 := R10.frozenR 2
            have g3 := R10.frozenR 3
            have HB := hideIt R10.bel
            clear R10 q0 q1 q2 q3 hb10
            go_wp2
            refine bodyPost_ret (v := .tuple #[ansV 0 false none 0 0 none 0 0, .bool false]) (by simp [results, Try.results26, go_sem, r0, r1, r2, r3]) rfl ⟨none, HI.out, none, 0, 0, none, 0, 0, rfl, ⟨rfl, .inl ⟨rfl, rfl⟩⟩, ⟨rfl, .inl ⟨rfl, rfl⟩⟩, by omega, by omega, ?_⟩
            exact (((HB.out.setCell (Nat.le_refl _) _).setCell (Nat.le_refl _) _).setCell (Nat.le_refl _) _).setCell (Nat.le_refl _) _
          | some M =>
            by_cases hT : aText ⟨num, ok, es, ls⟩ = s.data.toList
            · have HI : Hid (IsA n s.data.toList (some ⟨num, ok, es, ls⟩)) := ⟨hB, hT⟩
              rw [str_eq hT] at HOk
              clear hB hT
              go_wp2_with (go_at_call 36; refine HOk.out.mono ?_; rintro e w10 ⟨rfl, hb10⟩; refine Hid.out ?_)
              refine (show ∀ {p : Prop}, p → Hid p from fun h => h) ?_
              have R10 := HM.out.1.below hb10
              have cf := R10.rd.flag
              rw [hst] at cf
              obtain ⟨r0, r1, r2, r3⟩ := R10.cellsR
              have g0 := R10.frozenR 0
              have g1 := R10.frozenR 1
              have g2 := R10.frozenR 2
              have g3 := R10.frozenR 3
              have HB := hideIt R10.bel
              have own10 : Hid (w10.ownsRow B 78 2 (.slice a k c) k (ecells es)) := own_up10 HM.out.2.2.1 hb10
              have own10' : Hid (w10.ownsRow Bl 3 1 (.slice a' j c') j (ic ls)) := own_up10 HM.out.2.1 hb10
              clear q0 q1 q2 q3
              obtain ⟨q0, q1, q2, q3⟩ := R10.cells
              clear R10 hb10
              go_wp2
              refine bodyPost_ret (v := .tuple #[ansV num ok a k c a' j c', .bool true]) (by simp [results, Try.results26, go_sem, r0, r1, r2, r3]) rfl ⟨some ⟨num, ok, es, ls⟩, HI.out, a, k, c, a', j, c', rfl, ?_, ?_, by omega, by omega, ?_⟩
              · refine own_mono (B := B) ?_ hge4
                refine own_two own10.out (fun g hg hlt => ?_)
                have hne : g ≠ w.heap.size := by have := hz4.2.2; omega
                rw [heap_setCell_other _ _ _ _ (by exact hne), heap_setCell_other _ _ _ _ (by exact hne), heap_setCell_other _ _ _ _ (by exact hne), heap_setCell_other _ _ _ _ (by exact hne)]
              · refine own_mono (B := Bl) ?_ hgel
                refine own_two own10'.out (fun g hg hlt => ?_)
                have hne : g ≠ w.heap.size := by have := hzl.2.2; omega
                rw [heap_setCell_other _ _ _ _ (by exact hne), heap_setCell_other _ _ _ _ (by exact hne), heap_setCell_other _ _ _ _ (by exact hne), heap_setCell_other _ _ _ _ (by exact hne)]
              · exact (((HB.out.setCell (Nat.le_refl _) _).setCell (Nat.le_refl _) _).setCell (Nat.le_refl _) _).setCell (Nat.le_refl _) _
            · have HI : Hid (IsA n s.data.toList none) := IsA.back (m := n.toNat) (by omega) HC.out (.inr (.inr hT))
              have tq := str_neq hT
              generalize str (aText ⟨num, ok, es, ls⟩) = S at HOk tq
              clear hB hT
              go_wp2_with (go_at_call 36; refine HOk.out.mono ?_; rintro e w10 ⟨rfl, hb10⟩; refine Hid.out ?_)
              refine (show ∀ {p : Prop}, p → Hid p from fun h => h) ?_
              have R10 := HM.out.1.below hb10
              have cf := R10.rd.flag
              rw [hst] at cf
              obtain ⟨r0, r1, r2, r3⟩ := R10.cellsR
              have g0 := R10.frozenR 0
              have g1 := R10.frozenR 1
              have g2 := R10.frozenR 2
              have g3 := R10.frozenR 3
              have HB := hideIt R10.bel
              clear R10 q0 q1 q2 q3 hb10
              go_wp2
              refine bodyPost_ret (v := .tuple #[ansV 0 false none 0 0 none 0 0, .bool false]) (by simp [results, Try.results26, go_sem, r0, r1, r2, r3]) rfl ⟨none, HI.out, none, 0, 0, none, 0, 0, rfl, ⟨rfl, .inl ⟨rfl, rfl⟩⟩, ⟨rfl, .inl ⟨rfl, rfl⟩⟩, by omega, by omega, ?_⟩
              exact (((HB.out.setCell (Nat.le_refl _) _).setCell (Nat.le_refl _) _).setCell (Nat.le_refl _) _).setCell (Nat.le_refl _) _
      · have d1 : decide ((j : Int) < n) = true := by rw [decide_eq_true_eq, e1]; trivial
        have d2 : decide ((j : Int) < 12) = true := by rw [decide_eq_true_eq, e2]; trivial
        rw [e3] at cfl
        clear e1 e2
        cases hB : aB n ⟨num, ok, es, ls⟩ with
        | false =>
          rw [atV_no hB] at HOk
          have HI : Hid (IsA n s.data.toList none) := by
            by_cases hn : 1 ≤ n ∧ n ≤ 12
            · exact IsA.back (m := n.toNat) (by omega) (HCa.out hn) (.inr (.inl hB))
            · exact IsA.out hn
          clear hB
          cases hst : st1 with
          | none =>
            go_wp2_with (go_at_call 36; refine HOk.out.mono ?_; rintro e w10 ⟨rfl, hb10⟩; refine Hid.out ?_)
            refine (show ∀ {p : Prop}, p → Hid p from fun h => h) ?_
            have R10 := HM.out.1.below hb10
            have cf := R10.rd.flag
            rw [hst] at cf
            obtain ⟨r0, r1, r2, r3⟩ := R10.cellsR
            have g0 := R10.frozenR 0
            have g1 := R10.frozenR 1
            have g2 := R10.frozenR 2
            have g3 := R10.frozenR 3
            have HB := hideIt R10.bel
            clear R10 q0 q1 q2 q3 hb10
            go_wp2
            refine bodyPost_ret (v := .tuple #[ansV 0 false none 0 0 none 0 0, .bool false]) (by simp [results, Try.results26, go_sem, r0, r1, r2, r3]) rfl ⟨none, HI.out, none, 0, 0, none, 0, 0, rfl, ⟨rfl, .inl ⟨rfl, rfl⟩⟩, ⟨rfl, .inl ⟨rfl, rfl⟩⟩, by omega, by omega, ?_⟩
            exact (((HB.out.setCell (Nat.le_refl _) _).setCell (Nat.le_refl _) _).setCell (Nat.le_refl _) _).setCell (Nat.le_refl _) _
          | some M =>
            go_wp2_with (go_at_call 36; refine HOk.out.mono ?_; rintro e w10 ⟨rfl, hb10⟩; refine Hid.out ?_)
            refine (show ∀ {p : Prop}, p → Hid p from fun h => h) ?_
            have R10 := HM.out.1.below hb10
            have cf := R10.rd.flag
            rw [hst] at cf
            obtain ⟨r0, r1, r2, r3⟩ := R10.cellsR
            have g0 := R10.frozenR 0
            have g1 := R10.frozenR 1
            have g2 := R10.frozenR 2
            have g3 := R10.frozenR 3
            have HB := hideIt R10.bel
            clear R10 q0 q1 q2 q3 hb10
            go_wp2
            refine bodyPost_ret (v := .tuple #[ansV 0 false none 0 0 none 0 0, .bool false]) (by simp [results, Try.results26, go_sem, r0, r1, r2, r3]) rfl ⟨none, HI.out, none, 0, 0, none, 0, 0, rfl, ⟨rfl, .inl ⟨rfl, rfl⟩⟩, ⟨rfl, .inl ⟨rfl, rfl⟩⟩, by omega, by omega, ?_⟩
            exact (((HB.out.setCell (Nat.le_refl _) _).setCell (Nat.le_refl _) _).setCell (Nat.le_refl _) _).setCell (Nat.le_refl _) _
        | true =>
          rw [atV_yes hB] at HOk
          have hn := (aB_parts hB).1
          have HC := hideIt (HCa.out hn)
          cases hst : st1 with
          | none =>
            have HI : Hid (IsA n s.data.toList none) := IsA.back (m := n.toNat) (by omega) HC.out (.inl hst)
            clear hB
            go_wp2_with (go_at_call 36; refine HOk.out.mono ?_; rintro e w10 ⟨rfl, hb10⟩; refine Hid.out ?_)
            refine (show ∀ {p : Prop}, p → Hid p from fun h => h) ?_
            have R10 := HM.out.1.below hb10
            have cf := R10.rd.flag
            rw [hst] at cf
            obtain ⟨r0, r1, r2, r3⟩ := R10.cellsR
            have g0 := R10.frozenR 0
            have g1 := R10.frozenR 1
            have g2 := R10.frozenR 2
            have g3 := R10.frozenR 3
            have HB := hideIt R10.bel
            clear R10 q0 q1 q2 q3 hb10
            go_wp2
            refine bodyPost_ret (v := .tuple #[ansV 0 false none 0 0 none 0 0, .bool false]) (by simp [results, Try.results26, go_sem, r0, r1, r2, r3]) rfl ⟨none, HI.out, none, 0, 0, none, 0, 0, rfl, ⟨rfl, .inl ⟨rfl, rfl⟩⟩, ⟨rfl, .inl ⟨rfl, rfl⟩⟩, by omega, by omega, ?_⟩
            exact (((HB.out.setCell (Nat.le_refl _) _).setCell (Nat.le_refl _) _).setCell (Nat.le_refl _) _).setCell (Nat.le_refl _) _
          | some M =>
            by_cases hT : aText ⟨num, ok, es, ls⟩ = s.data.toList
            · have HI : Hid (IsA n s.data.toList (some ⟨num, ok, es, ls⟩)) := ⟨hB, hT⟩
              rw [str_eq hT] at HOk
              clear hB hT
              go_wp2_with (go_at_call 36; refine HOk.out.mono ?_; rintro e w10 ⟨rfl, hb10⟩; refine Hid.out ?_)
              refine (show ∀ {p : Prop}, p → Hid p from fun h => h) ?_
              have R10 := HM.out.1.below hb10
              have cf := R10.rd.flag
              rw [hst] at cf
              obtain ⟨r0, r1, r2, r3⟩ := R10.cellsR
              have g0 := R10.frozenR 0
              have g1 := R10.frozenR 1
              have g2 := R10.frozenR 2
              have g3 := R10.frozenR 3
              have HB := hideIt R10.bel
              have own10 : Hid (w10.ownsRow B 78 2 (.slice a k c) k (ecells es)) := own_up10 HM.out.2.2.1 hb10
              have own10' : Hid (w10.ownsRow Bl 3 1 (.slice a' j c') j (ic ls)) := own_up10 HM.out.2.1 hb10
              clear q0 q1 q2 q3
              obtain ⟨q0, q1, q2, q3⟩ := R10.cells
              clear R10 hb10
              go_wp2
              refine bodyPost_ret (v := .tuple #[ansV num ok a k c a' j c', .bool true]) (by simp [results, Try.results26, go_sem, r0, r1, r2, r3]) rfl ⟨some ⟨num, ok, es, ls⟩, HI.out, a, k, c, a', j, c', rfl, ?_, ?_, by omega, by omega, ?_⟩
              · refine own_mono (B := B) ?_ hge4
                refine own_two own10.out (fun g hg hlt => ?_)
                have hne : g ≠ w.heap.size := by have := hz4.2.2; omega
                rw [heap_setCell_other _ _ _ _ (by exact hne), heap_setCell_other _ _ _ _ (by exact hne), heap_setCell_other _ _ _ _ (by exact hne), heap_setCell_other _ _ _ _ (by exact hne)]
              · refine own_mono (B := Bl) ?_ hgel
                refine own_two own10'.out (fun g hg hlt => ?_)
                have hne : g ≠ w.heap.size := by have := hzl.2.2; omega
                rw [heap_setCell_other _ _ _ _ (by exact hne), heap_setCell_other _ _ _ _ (by exact hne), heap_setCell_other _ _ _ _ (by exact hne), heap_setCell_other _ _ _ _ (by exact hne)]
              · exact (((HB.out.setCell (Nat.le_refl _) _).setCell (Nat.le_refl _) _).setCell (Nat.le_refl _) _).setCell (Nat.le_refl _) _
            · have HI : Hid (IsA n s.data.toList none) := IsA.back (m := n.toNat) (by omega) HC.out (.inr (.inr hT))
              have tq := str_neq hT
              generalize str (aText ⟨num, ok, es, ls⟩) = S at HOk tq
              clear hB hT
              go_wp2_with (go_at_call 36; refine HOk.out.mono ?_; rintro e w10 ⟨rfl, hb10⟩; refine Hid.out ?_)
              refine (show ∀ {p : Prop}, p → Hid p from fun h => h) ?_
              have R10 := HM.out.1.below hb10
              have cf := R10.rd.flag
              rw [hst] at cf
              obtain ⟨r0, r1, r2, r3⟩ := R10.cellsR
              have g0 := R10.frozenR 0
              have g1 := R10.frozenR 1
              have g2 := R10.frozenR 2
              have g3 := R10.frozenR 3
              have HB := hideIt R10.bel
              clear R10 q0 q1 q2 q3 hb10
              go_wp2
              refine bodyPost_ret (v := .tuple #[ansV 0 false none 0 0 none 0 0, .bool false]) (by simp [results, Try.results26, go_sem, r0, r1, r2, r3]) rfl ⟨none, HI.out, none, 0, 0, none, 0, 0, rfl, ⟨rfl, .inl ⟨rfl, rfl⟩⟩, ⟨rfl, .inl ⟨rfl, rfl⟩⟩, by omega, by omega, ?_⟩
              exact (((HB.out.setCell (Nat.le_refl _) _).setCell (Nat.le_refl _) _).setCell (Nat.le_refl _) _).setCell (Nat.le_refl _) _
end Go.Proofs.Ytkhhagjcmbbdpaa
namespace Go.Proofs.Ytkhhagjcmbbdpaa
open Go.RowKit Vt

set_option maxRecDepth 100000 in
set_option maxHeartbeats 4000000 in
theorem fnExactReadAnswer.walk (n : Int) (_hn : (Lit.int .i64 n).wf = true) (s : ByteArray) (hs : s.size ≤ maxLen) (w : World) :
    Calls Try.prog 9 #[.int .i64 n, .string s] w fun e w' => e = .returned (.bool true) ∧ Below w.heap.size w w' := by
  unfold maxLen at hs
  by_cases g : s.size ≤ 1048576
  · have d0 : decide ((1048576 : Int) < (s.size : Int)) = false := by simp; omega
    obtain ⟨r, hr⟩ : ∃ r, Hid (IsA n s.data.toList r) := by
      by_cases hx : ∃ o, aB n o = true ∧ aText o = s.data.toList
      · obtain ⟨o, h1, h2⟩ := hx
        exact ⟨some o, ⟨h1, h2⟩⟩
      · exact ⟨none, fun o h1 h2 => hx ⟨o, h1, h2⟩⟩
    have HS : Hid (∀ W, Calls Try.prog 26 #[.int .i64 n, .string s] W fun e w' => ∃ (a : Option Addr) (k c : Nat) (a' : Option Addr) (k' c' : Nat), e = .returned (.tuple #[.agg (ac (orA r).num (orA r).ok a k c a' k' c'), .bool r.isSome]) ∧ w'.ownsRow W.heap.size 78 2 (.slice a k c) k (ecells (orA r).es) ∧ w'.ownsRow W.heap.size 3 1 (.slice a' k' c') k' (ic (orA r).ls) ∧ k ≤ 100 ∧ k' ≤ 100 ∧ Below W.heap.size W w') := fun W =>
      (sReadAnswer_any n s g W).mono fun _ _ ⟨r', h1, h2⟩ => by rw [hr.out.uniq h1]; exact h2
    have HI : Hid (∀ W, Calls Try.prog 19 #[.int .i64 n, .string s] W fun e w' => ∃ (a : Option Addr) (k c : Nat) (a' : Option Addr) (k' c' : Nat), e = .returned (.tuple #[.agg (ac (orA r).num (orA r).ok a k c a' k' c'), .bool r.isSome]) ∧ w'.ownsRow W.heap.size 78 2 (.slice a k c) k (ecells (orA r).es) ∧ w'.ownsRow W.heap.size 3 1 (.slice a' k' c') k' (ic (orA r).ls) ∧ k ≤ 100 ∧ k' ≤ 100 ∧ Below W.heap.size W w') := fun W =>
      (iReadAnswer_any n s g W).mono fun _ _ ⟨r', h1, h2⟩ => by rw [hr.out.uniq h1]; exact h2
    clear hr
    generalize r.isSome = rb at HS HI
    generalize (orA r).num = num at HS HI
    generalize (orA r).ok = ok at HS HI
    generalize (orA r).ls = ls at HS HI
    generalize (orA r).es = es at HS HI
    clear r
    have dr : (rb != rb) = false := by simp
    go_enter Try.func9, Try.ntmps9
    go_wp2_with (go_at_call 26; refine (HS.out _).mono ?_; rintro e w1 ⟨a1, k1, c1, d1, l1, f1, rfl, o1, p1, z1, y1, b1⟩; refine Hid.out ?_)
    refine (show ∀ {p : Prop}, p → Hid p from fun h => h) ?_
    have X1 := ABox.laid (num := num) (ok := ok) b1.size o1 p1
    have G1 : Below w.heap.size w (w1.alloc (.cells (ac num ok a1 k1 c1 d1 l1 f1) 37)) := b1.alloc b1.size _
    have HX1 := hideIt X1
    have HG1 := hideIt G1
    clear o1 p1 b1 X1 G1
    go_wp2_with (go_at_call 19; refine (HI.out _).mono ?_; rintro e w2 ⟨a2, k2, c2, d2, l2, f2, rfl, o2, p2, z2, y2, b2⟩; refine Hid.out ?_)
    refine (show ∀ {p : Prop}, p → Hid p from fun h => h) ?_
    have X2 := ABox.laid (num := num) (ok := ok) b2.size o2 p2
    have B2 : Below (w1.alloc (.cells (ac num ok a1 k1 c1 d1 l1 f1) 37)).heap.size (w1.alloc (.cells (ac num ok a1 k1 c1 d1 l1 f1) 37)) (w2.alloc (.cells (ac num ok a2 k2 c2 d2 l2 f2) 37)) := b2.alloc b2.size _
    have Y1 := HX1.out.up B2
    have G2 := HG1.out.trans (B2.mono HG1.out.size)
    have HQ := hideIt (X2.eq Y1 (by omega) (by omega))
    obtain ⟨q0, q1, q2, q3⟩ := X2.cells
    obtain ⟨s0, s1, s2, s3⟩ := Y1.cells
    have HX2 := hideIt X2
    have HY1 := hideIt Y1
    have HG2 := hideIt G2
    have zl : w.heap.size ≤ w1.heap.size + 1 := by have := HG1.out.size; simp at this; omega
    have zm : w1.heap.size + 1 ≤ w2.heap.size := by have := b2.size; simpa using this
    clear o2 p2 b2 X2 Y1 G2 B2 HX1 HG1
    unfold ansV at HQ
    go_wp2_with (go_at_call 32; refine HQ.out.mono ?_; rintro e w3 ⟨rfl, b3⟩; refine Hid.out ?_)
    refine (show ∀ {p : Prop}, p → Hid p from fun h => h) ?_
    have X3 := HX2.out.up b3
    have Y3 := HY1.out.up b3
    have G3 := HG2.out.trans (b3.mono HG2.out.size)
    have HM := hideIt (X3.mark 1 (by omega) (by omega) (by omega))
    clear q0 q1 q2 q3 s0 s1 s2 s3 HQ HX2 HY1 HG2 b3
    obtain ⟨q0, q1, q2, q3⟩ := X3.cells
    have HY3 := hideIt Y3
    have HG3 := hideIt G3
    clear X3 Y3 G3
    unfold ansV at HM
    go_wp2_with (go_at_call 37; refine HM.out.mono ?_; rintro e w4 ⟨rfl, X4, r4⟩; refine Hid.out ?_)
    refine (show ∀ {p : Prop}, p → Hid p from fun h => h) ?_
    have Y4 := HY3.out.rng r4 (.inl (by simp))
    have G4 := HG3.out.trans (r4.below (by simp; omega) (HG3.out.size))
    have HH := hideIt (X4.held 1 (by omega) (by omega) (by omega))
    clear q0 q1 q2 q3 HM HY3 HG3 r4
    obtain ⟨q0, q1, q2, q3⟩ := X4.cells
    have HX4 := hideIt X4
    have HY4 := hideIt Y4
    have HG4 := hideIt G4
    clear X4 Y4 G4
    unfold ansV at HH
    go_wp2_with (go_at_call 38; refine HH.out.mono ?_; rintro e w5 ⟨rfl, b5⟩; refine Hid.out ?_)
    refine (show ∀ {p : Prop}, p → Hid p from fun h => h) ?_
    have X5 := HX4.out.up b5
    have Y5 := HY4.out.up b5
    have G5 := HG4.out.trans (b5.mono HG4.out.size)
    have HX5 := hideIt X5
    have HY5 := hideIt Y5
    have HG5 := hideIt G5
    clear q0 q1 q2 q3 HH HX4 HY4 HG4 X5 Y5 G5 b5
    have dq : decide ((1 : Int) + (k2 : Int) * 2 + (l2 : Int) < 0) = false := decide_eq_false (by omega)
    go_wp2_with (go_at_call 19; refine (HI.out _).mono ?_; rintro e w6 ⟨a3, k3, c3, d3, l3, f3, rfl, o6, p6, z6, y6, b6⟩; refine Hid.out ?_)
    refine (show ∀ {p : Prop}, p → Hid p from fun h => h) ?_
    have X6 := ABox.laid (num := num) (ok := ok) b6.size o6 p6
    have B6 : Below w5.heap.size w5 (w6.alloc (.cells (ac num ok a3 k3 c3 d3 l3 f3) 37)) := b6.alloc b6.size _
    have Y6 := HY5.out.up B6
    have V6 := HX5.out.up B6
    have G6 := HG5.out.trans (B6.mono HG5.out.size)
    have HQ := hideIt (X6.eq Y6 (by omega) (by omega))
    obtain ⟨q0, q1, q2, q3⟩ := X6.cells
    obtain ⟨s0, s1, s2, s3⟩ := Y6.cells
    have HV6 := hideIt V6
    have HG6 := hideIt G6
    clear o6 p6 b6 X6 Y6 V6 G6 B6 HX5 HY5 HG5
    unfold ansV at HQ
    go_wp2_with (go_at_call 32; refine HQ.out.mono ?_; rintro e w7 ⟨rfl, b7⟩; refine Hid.out ?_)
    refine (show ∀ {p : Prop}, p → Hid p from fun h => h) ?_
    have V7 := HV6.out.up b7
    have G7 := HG6.out.trans (b7.mono HG6.out.size)
    have HH := hideIt (V7.held 1 (by omega) (by omega) (by omega))
    clear q0 q1 q2 q3 s0 s1 s2 s3 HQ HV6 HG6 b7
    obtain ⟨q0, q1, q2, q3⟩ := V7.cells
    have HG7 := hideIt G7
    clear V7 G7
    unfold ansV at HH
    go_wp2_with (go_at_call 38; refine HH.out.mono ?_; rintro e w8 ⟨rfl, b8⟩; refine Hid.out ?_)
    refine (show ∀ {p : Prop}, p → Hid p from fun h => h) ?_
    clear q0 q1 q2 q3 HH
    go_wp2
    go_ret
    exact ⟨rfl, HG7.out.trans (b8.mono HG7.out.size)⟩
  · have d0 : decide ((1048576 : Int) < (s.size : Int)) = true := by simp; omega
    go_enter Try.func9, Try.ntmps9
    go_wp2
    go_ret
    exact ⟨rfl, Below.refl _ _⟩
end Go.Proofs.Ytkhhagjcmbbdpaa
