/- AnswerOk on both sides. The program's ReadOrder. What the laws' own functions over answers answer; answers in ranges of blocks of their own. Answers held against each other, marked and looked at again. An answer is marked and held, wherever its lists lie. Records as bytes, and how they are read: no program is named here. -/
import Derived.Test.YtcieanhbipbhgaaGreatDoorKAOk10
import Derived.Test.YtcieanhbipbhgaaGreatDoorKIntsO10
import Derived.Test.YtcieanhbipbhgaaGreatDoorKOr10
namespace Go.Proofs.YtcieanhbipbhgaaGreatDoor
open Go.RowKit Vt

set_option maxRecDepth 100000 in
set_option maxHeartbeats 4000000 in
theorem sAnswerOk_any (n num : Int) (ok : Bool) (es : List EdgeV) (ls : List Int) (k : Nat) (a : Option Addr) (c : Nat) (hk : k ≤ 1048576) (k' : Nat) (a' : Option Addr) (c' : Nat) (hk' : k' ≤ 1048576) (w : World) (h : Es w w.heap.size a k es) (h' : Is w w.heap.size a' k' ls) :
    Calls Tryz.prog 51 #[.int .i64 n, ansV num ok a k c a' k' c'] w fun e w' => e = .returned (.bool (aB n ⟨num, ok, es, ls⟩)) ∧ Below w.heap.size w w' := by
  unfold ansV
  have HI := hideIt l01In_any
  have HE : Hid (Calls Tryz.prog 66 #[.int .i64 n, .slice a k c] (w.alloc (.cells #[.int .i64 num, .bool ok, .slice a k c, .slice a' k' c'] 36)) fun e w' => e = .returned (.bool (eOk n es)) ∧ Below w.heap.size w w' ∧ w'.cell? ⟨w.heap.size, 3, none⟩ = some (.slice a' k' c') ∧ Hid (Is w' w'.heap.size a' k' ls)) :=
    (l05Edges_any n es k a c hk (w.alloc (.cells #[.int .i64 num, .bool ok, .slice a k c, .slice a' k' c'] 36)) ((h.alloc (Nat.le_refl _) _).mono (by simp))).mono fun _ _ ⟨he, hb⟩ =>
      ⟨he, (bel1 _ _).trans (hb.mono (by simp)), by rw [hb.cell (by simp)]; simp, (h'.alloc _).up hb⟩
  have HL : Hid (∀ W, Is W W.heap.size a' k' ls → Calls Tryz.prog 67 #[.int .i64 n, .slice a' k' c'] W fun e w' => e = .returned (.bool (lB n ls)) ∧ Below W.heap.size W w') := fun W hW => l09Labels_any n ls k' a' c' hk' W hW
  have B0 : Hid (Below w.heap.size w (w.alloc (.cells #[.int .i64 num, .bool ok, .slice a k c, .slice a' k' c'] 36))) := bel1 _ _
  clear h h'
  by_cases h1 : 1 ≤ n ∧ n ≤ 12
  · have r1 : decide (1 ≤ n ∧ n ≤ 12) = true := by simpa using h1
    by_cases h2 : 1 ≤ num ∧ num ≤ 100000
    · have r2 : decide (1 ≤ num ∧ num ≤ 100000) = true := by simpa using h2
      cases hE : eOk n es with
      | true =>
        rw [hE] at HE
        have HB := hideIt (aB_ls (o := ⟨num, ok, es, ls⟩) h1 h2 hE)
        generalize lB n ls = r at HL HB
        go_enter Tryz.func51, Tryz.ntmps51
        go_wp2_with (first | (go_at_call 26; refine (HI.out _ _ _ _).mono ?_; rintro e w1 ⟨rfl, rfl⟩) | (go_at_call 66; refine HE.out.mono ?_; rintro e w2 ⟨rfl, hb2, q3, h2'⟩) | (go_at_call 67; refine (HL.out _ h2'.out).mono ?_; rintro e w3 ⟨rfl, hb3⟩))
        go_ret
        exact ⟨rett HB.out.symm, hb2.trans (hb3.mono hb2.size)⟩
      | false =>
        rw [hE] at HE
        have HB := hideIt (aB_es (o := ⟨num, ok, es, ls⟩) hE)
        go_enter Tryz.func51, Tryz.ntmps51
        go_wp2_with (first | (go_at_call 26; refine (HI.out _ _ _ _).mono ?_; rintro e w1 ⟨rfl, rfl⟩) | (go_at_call 66; refine HE.out.mono ?_; rintro e w2 ⟨rfl, hb2, q3, h2'⟩))
        go_ret
        exact ⟨rett HB.out.symm, hb2⟩
    · have r2 : decide (1 ≤ num ∧ num ≤ 100000) = false := by simpa using h2
      have HB := hideIt (aB_num (n := n) (o := ⟨num, ok, es, ls⟩) h2)
      clear HE HL
      go_enter Tryz.func51, Tryz.ntmps51
      go_wp2_with (first | (go_at_call 26; refine (HI.out _ _ _ _).mono ?_; rintro e w1 ⟨rfl, rfl⟩))
      go_ret
      exact ⟨rett HB.out.symm, B0.out⟩
  · have r1 : decide (1 ≤ n ∧ n ≤ 12) = false := by simpa using h1
    have HB := hideIt (aB_n (o := ⟨num, ok, es, ls⟩) h1)
    clear HE HL
    go_enter Tryz.func51, Tryz.ntmps51
    go_wp2_with (first | (go_at_call 26; refine (HI.out _ _ _ _).mono ?_; rintro e w1 ⟨rfl, rfl⟩))
    go_ret
    exact ⟨rett HB.out.symm, B0.out⟩

set_option maxRecDepth 100000 in
set_option maxHeartbeats 4000000 in
theorem iAnswerOk_any (n num : Int) (ok : Bool) (es : List EdgeV) (ls : List Int) (k : Nat) (a : Option Addr) (c : Nat) (hk : k ≤ 1048576) (k' : Nat) (a' : Option Addr) (c' : Nat) (hk' : k' ≤ 1048576) (w : World) (h : Es w w.heap.size a k es) (h' : Is w w.heap.size a' k' ls) :
    Calls Tryz.prog 82 #[.int .i64 n, ansV num ok a k c a' k' c'] w fun e w' => e = .returned (.bool (aB n ⟨num, ok, es, ls⟩)) ∧ Below w.heap.size w w' := by
  unfold ansV
  have HI := hideIt vertsOk_any
  have HJ := hideIt numOk_any
  have HE : Hid (Calls Tryz.prog 88 #[.int .i64 n, .slice a k c] (w.alloc (.cells #[.int .i64 num, .bool ok, .slice a k c, .slice a' k' c'] 36)) fun e w' => e = .returned (.bool (eOk n es)) ∧ Below w.heap.size w w' ∧ w'.cell? ⟨w.heap.size, 3, none⟩ = some (.slice a' k' c') ∧ Hid (Is w' w'.heap.size a' k' ls)) :=
    (edgesOk_any n es k a c hk (w.alloc (.cells #[.int .i64 num, .bool ok, .slice a k c, .slice a' k' c'] 36)) ((h.alloc (Nat.le_refl _) _).mono (by simp))).mono fun _ _ ⟨he, hb⟩ =>
      ⟨he, (bel1 _ _).trans (hb.mono (by simp)), by rw [hb.cell (by simp)]; simp, (h'.alloc _).up hb⟩
  have HL : Hid (∀ W, Is W W.heap.size a' k' ls → Calls Tryz.prog 89 #[.int .i64 n, .slice a' k' c'] W fun e w' => e = .returned (.bool (lB n ls)) ∧ Below W.heap.size W w') := fun W hW => labelsOk_any n ls k' a' c' hk' W hW
  have B0 : Hid (Below w.heap.size w (w.alloc (.cells #[.int .i64 num, .bool ok, .slice a k c, .slice a' k' c'] 36))) := bel1 _ _
  clear h h'
  by_cases h1 : 1 ≤ n ∧ n ≤ 12
  · have r1 : decide (1 ≤ n ∧ n ≤ 12) = true := by simpa using h1
    by_cases h2 : 1 ≤ num ∧ num ≤ 100000
    · have r2 : decide (1 ≤ num ∧ num ≤ 100000) = true := by simpa using h2
      cases hE : eOk n es with
      | true =>
        rw [hE] at HE
        have HB := hideIt (aB_ls (o := ⟨num, ok, es, ls⟩) h1 h2 hE)
        generalize lB n ls = r at HL HB
        go_enter Tryz.func82, Tryz.ntmps82
        go_wp2_with (first | (go_at_call 76; refine (HI.out _ _).mono ?_; rintro e w1 ⟨rfl, rfl⟩) | (go_at_call 87; refine (HJ.out _ _).mono ?_; rintro e w1 ⟨rfl, rfl⟩) | (go_at_call 88; refine HE.out.mono ?_; rintro e w2 ⟨rfl, hb2, q3, h2'⟩) | (go_at_call 89; refine (HL.out _ h2'.out).mono ?_; rintro e w3 ⟨rfl, hb3⟩))
        go_ret
        exact ⟨rett HB.out.symm, hb2.trans (hb3.mono hb2.size)⟩
      | false =>
        rw [hE] at HE
        have HB := hideIt (aB_es (o := ⟨num, ok, es, ls⟩) hE)
        go_enter Tryz.func82, Tryz.ntmps82
        go_wp2_with (first | (go_at_call 76; refine (HI.out _ _).mono ?_; rintro e w1 ⟨rfl, rfl⟩) | (go_at_call 87; refine (HJ.out _ _).mono ?_; rintro e w1 ⟨rfl, rfl⟩) | (go_at_call 88; refine HE.out.mono ?_; rintro e w2 ⟨rfl, hb2, q3, h2'⟩))
        go_ret
        exact ⟨rett HB.out.symm, hb2⟩
    · have r2 : decide (1 ≤ num ∧ num ≤ 100000) = false := by simpa using h2
      have HB := hideIt (aB_num (n := n) (o := ⟨num, ok, es, ls⟩) h2)
      clear HE HL
      go_enter Tryz.func82, Tryz.ntmps82
      go_wp2_with (first | (go_at_call 76; refine (HI.out _ _).mono ?_; rintro e w1 ⟨rfl, rfl⟩) | (go_at_call 87; refine (HJ.out _ _).mono ?_; rintro e w1 ⟨rfl, rfl⟩))
      go_ret
      exact ⟨rett HB.out.symm, B0.out⟩
  · have r1 : decide (1 ≤ n ∧ n ≤ 12) = false := by simpa using h1
    have HB := hideIt (aB_n (o := ⟨num, ok, es, ls⟩) h1)
    clear HE HL
    go_enter Tryz.func82, Tryz.ntmps82
    go_wp2_with (first | (go_at_call 76; refine (HI.out _ _).mono ?_; rintro e w1 ⟨rfl, rfl⟩) | (go_at_call 87; refine (HJ.out _ _).mono ?_; rintro e w1 ⟨rfl, rfl⟩))
    go_ret
    exact ⟨rett HB.out.symm, B0.out⟩
end Go.Proofs.YtcieanhbipbhgaaGreatDoor
namespace Go.Proofs.YtcieanhbipbhgaaGreatDoor
open Go.RowKit Vt

theorem ed_es {e : Prop} {t : TypeId} {w w' : World} {G : Nat} {s : ByteArray} {st : Option (List UInt8)} {v : Value} {m : Nat} (h : EdAns e t w w' G s st v m) :
    ∃ (a : Option Addr) (n c : Nat) (es : List EdgeV) (st' : Option (List UInt8)), v = .slice a n c ∧ n ≤ m ∧ EB8 es ∧ w'.ownsRow w.heap.size 79 2 (.slice a n c) n (ecells es) ∧ ER st es st' ∧ RdAt e t w' G s st' ∧ w.grownBy w' (some G) := by
  obtain ⟨⟨a, n, c, es, st', h1, h2, h3, h4, h5, h6⟩, h7⟩ := h
  exact ⟨a, n, c, es, st', h1, h2, h3, h4, h5, h6, h7⟩

theorem own_block {w : World} {B T S n cap : Nat} {a : Option Addr} {xs : List Value} {W : World} (h : w.ownsRow B T S (.slice a n cap) n xs) (hb : ∀ g, B ≤ g → g < w.heap.size → W.heap[g]? = w.heap[g]?) : W.ownsRow B T S (.slice a n cap) n xs := by
  refine ⟨h.1, h.2.imp id ?_⟩
  rintro ⟨g, cp, cur, hv, hg, hc, rest⟩
  exact ⟨g, cp, cur, hv, hg, by rw [hb g hg (Array.getElem?_eq_some_iff.1 hc).1]; exact hc, rest⟩

set_option maxRecDepth 100000 in
set_option maxHeartbeats 4000000 in
theorem iReadOrder_any (n : Int) (s : ByteArray) (hs : s.size ≤ 1048576) (w : World) :
    Calls Tryz.prog 73 #[.int .i64 n, .string s] w fun e w' => ∃ r, IsO n s.data.toList r ∧ OrdAns w w' e r := by
  have HN : Hid (∀ W G st, RdAt True 115 W G s st → Calls Tryz.prog 77 #[.pointer (some ⟨G, 0, none⟩)] W fun e w' => e = .returned (.int .i64 (((nx pN st).1 : Nat) : Int)) ∧ RdAt True 115 w' G s (nx pN st).2 ∧ W.grownBy w' (some G)) := fun W G st h => rNumber_any s hs W G st h
  have HO : Hid (∀ W G st, RdAt True 115 W G s st → Calls Tryz.prog 84 #[.pointer (some ⟨G, 0, none⟩)] W fun e w' => e = .returned (.int .i64 (((nx pO st).1 : Nat) : Int)) ∧ RdAt True 115 w' G s (nx pO st).2 ∧ W.grownBy w' (some G)) := fun W G st h => rOctet_any s hs W G st h
  have HE : Hid (∀ W G st, RdAt True 115 W G s st → Calls Tryz.prog 79 #[.pointer (some ⟨G, 0, none⟩)] W fun e w' => ∃ v, e = .returned v ∧ EdAns True 115 W w' G s st v 66) := fun W G st h => rEdges_any s hs W G st h
  have HD : Hid (∀ W G st, RdAt True 115 W G s st → Calls Tryz.prog 81 #[.pointer (some ⟨G, 0, none⟩)] W fun e w' => e = .returned (.bool (endB st)) ∧ RdAt True 115 w' G s st ∧ W.grownBy w' (some G)) := fun W G st h => rEnded_any s W G st h
  have R0 : RO True 115 w (((w.alloc (.cells (oc 0 0 none 0 0 0) 38)).alloc (.cells #[.string s, .int .i64 0, .bool false] 115)).alloc (.cells (oc 0 0 none 0 0 0) 38)) (w.heap.size + 1) (w.heap.size + 2) w.heap.size s (some s.data.toList) 0 0 none 0 0 0 := by
    refine ⟨⟨0, false, ?_, by omega, .inl ⟨rfl, by simp [from_]⟩⟩, ?_, ?_, (((Below.refl _ _).alloc (Nat.le_refl _) _).alloc (by simp) _).alloc (by simp; omega) _, by omega, by omega⟩
    · rw [Below.heap_alloc _ _ _ (by simp)]
      have := heap_alloc_new (w.alloc (.cells (oc 0 0 none 0 0 0) 38)) (.cells #[.string s, .int .i64 0, .bool false] 115)
      simpa using this
    · have := heap_alloc_new ((w.alloc (.cells (oc 0 0 none 0 0 0) 38)).alloc (.cells #[.string s, .int .i64 0, .bool false] 115)) (.cells (oc 0 0 none 0 0 0) 38)
      simpa using this
    · rw [Below.heap_alloc _ _ _ (by simp; omega), Below.heap_alloc _ _ _ (by simp)]
      exact heap_alloc_new w _
  go_enter Tryz.func73, Tryz.ntmps73
  go_wp2_with (go_at_call 77; refine (HN.out _ _ _ R0.rd).mono ?_; rintro e w1 ⟨rfl, hr1, hg1⟩; refine Hid.out ?_)
  refine (show ∀ {p : Prop}, p → Hid p from fun h => h) ?_
  have R1 := R0.call hr1 hg1
  clear R0 hr1 hg1
  obtain ⟨c0, _, _, _⟩ := R1.cells
  have f0 := R1.frozen 0
  have R2 := R1.set 0 (.int .i64 (((nx pN (some s.data.toList)).1 : Nat) : Int)) rfl
  clear R1
  go_wp2_with (go_at_call 84; refine (HO.out _ _ _ R2.rd).mono ?_; rintro e w3 ⟨rfl, hr3, hg3⟩; refine Hid.out ?_)
  refine (show ∀ {p : Prop}, p → Hid p from fun h => h) ?_
  have R3 := R2.call hr3 hg3
  clear R2 hr3 hg3 c0 f0
  obtain ⟨_, c1, _, _⟩ := R3.cells
  have f1 := R3.frozen 1
  have R4 := R3.set 1 (.int .i64 (((nx pO (nx pN (some s.data.toList)).2).1 : Nat) : Int)) rfl
  clear R3
  go_wp2_with (go_at_call 77; refine (HN.out _ _ _ R4.rd).mono ?_; rintro e w5 ⟨rfl, hr5, hg5⟩; refine Hid.out ?_)
  refine (show ∀ {p : Prop}, p → Hid p from fun h => h) ?_
  have R5 := R4.call hr5 hg5
  clear R4 hr5 hg5 c1 f1
  obtain ⟨_, _, _, c3⟩ := R5.cells
  have f3 := R5.frozen 3
  have R6 := R5.set 3 (.int .i64 (((nx pN (nx pO (nx pN (some s.data.toList)).2).2).1 : Nat) : Int)) rfl
  clear R5
  go_wp2_with (go_at_call 79; refine (HE.out _ _ _ R6.rd).mono ?_; rintro e w7 ⟨v7, rfl, hA7⟩; refine Hid.out ?_)
  refine (show ∀ {p : Prop}, p → Hid p from fun h => h) ?_
  obtain ⟨a, k, c, es, st4, rfl, hk, hby, hown, hER, hr7, hg7⟩ := ed_es hA7
  have R7 := R6.call hr7 hg7
  have hz6 := R6.lt
  have hge6 := R6.bel.size
  clear R6 hr7 hg7 hA7 c3 f3
  obtain ⟨_, _, c2, _⟩ := R7.cells
  have f2 := R7.frozen 2
  have R8 := R7.set 2 (.slice a k c) rfl
  have own8 := own_block (W := w7.setCell ⟨w.heap.size + 2, 2, none⟩ (.slice a k c)) hown (fun g hg _ => heap_setCell_other _ _ _ _ (by intro h; simp at h; have := hz6.2.1; omega))
  clear R7 hown
  generalize hq1 : (((nx pN (some s.data.toList)).1 : Nat) : Int) = num at *
  generalize hq2 : (((nx pO (nx pN (some s.data.toList)).2).1 : Nat) : Int) = op at *
  generalize hq3 : (((nx pN (nx pO (nx pN (some s.data.toList)).2).2).1 : Nat) : Int) = v at *
  have HCh : Hid (Ch s.data.toList ⟨num, op, es, v⟩ st4) := ⟨_, _, _, hq1.symm, rfl, hq2.symm, rfl, hq3.symm, rfl, hER⟩
  clear hq1 hq2 hq3 hER
  generalize (w5.setCell ⟨w.heap.size + 2, 3, none⟩ (.int .i64 v)).heap.size = B at own8 hz6 hge6
  have own8 := hideIt own8
  go_wp2_with (go_at_call 81; refine (HD.out _ _ _ R8.rd).mono ?_; rintro e w9 ⟨rfl, hr9, hg9⟩; refine Hid.out ?_)
  refine (show ∀ {p : Prop}, p → Hid p from fun h => h) ?_
  have R9 := R8.call hr9 hg9
  have own9 : Hid (w9.ownsRow B 79 2 (.slice a k c) k (ecells es)) := own_block own8.out (fun g hg hlt => hg9.block g hlt (by simp; have := hz6.1; omega))
  clear R8 hr9 hg9 own8 c2 f2
  obtain ⟨q0, q1, q2, q3⟩ := R9.cells
  obtain ⟨r0, r1, r2, r3⟩ := R9.cellsR
  have g0 := R9.frozenR 0
  have g1 := R9.frozenR 1
  have g2 := R9.frozenR 2
  have g3 := R9.frozenR 3
  cases hE : endB st4 with
  | false =>
    have HI : Hid (IsO n s.data.toList none) := IsO.no HCh.out (.inl (fun h => by rw [(endB_iff st4).2 h] at hE; cases hE))
    have HB := hideIt R9.bel
    clear R9 hE q0 q1 q2 q3
    go_wp2
    refine bodyPost_ret (v := .tuple #[ordV 0 0 none 0 0 0, .bool false]) (by simp [results, Tryz.results73, go_sem, r0, r1, r2, r3]) rfl ⟨none, HI.out, none, 0, 0, rfl, ⟨rfl, .inl ⟨rfl, rfl⟩⟩, by omega, ?_⟩
    exact (((HB.out.setCell (Nat.le_refl _) _).setCell (Nat.le_refl _) _).setCell (Nat.le_refl _) _).setCell (Nat.le_refl _) _
  | true =>
    have hE := (endB_iff st4).1 hE
    subst hE
    have HOk := hideIt (iOrderOk_any n num op es v k a c (by omega) w9 (Es_of_own own9.out))
    unfold ordV at HOk
    cases hB : oB n ⟨num, op, es, v⟩ with
    | false =>
      rw [hB] at HOk
      have HI : Hid (IsO n s.data.toList none) := IsO.no HCh.out (.inr hB)
      have HR := hideIt R9
      clear R9 hB r0 r1 r2 r3 g0 g1 g2 g3
      go_wp2_with (go_at_call 85; refine HOk.out.mono ?_; rintro e w10 ⟨rfl, hb10⟩; refine Hid.out ?_)
      refine (show ∀ {p : Prop}, p → Hid p from fun h => h) ?_
      have R10 := HR.out.below hb10
      obtain ⟨r0, r1, r2, r3⟩ := R10.cellsR
      have g0 := R10.frozenR 0
      have g1 := R10.frozenR 1
      have g2 := R10.frozenR 2
      have g3 := R10.frozenR 3
      have HB := hideIt R10.bel
      clear R10 q0 q1 q2 q3 hb10
      go_wp2
      refine bodyPost_ret (v := .tuple #[ordV 0 0 none 0 0 0, .bool false]) (by simp [results, Tryz.results73, go_sem, r0, r1, r2, r3]) rfl ⟨none, HI.out, none, 0, 0, rfl, ⟨rfl, .inl ⟨rfl, rfl⟩⟩, by omega, ?_⟩
      exact (((HB.out.setCell (Nat.le_refl _) _).setCell (Nat.le_refl _) _).setCell (Nat.le_refl _) _).setCell (Nat.le_refl _) _
    | true =>
      rw [hB] at HOk
      have HI : Hid (IsO n s.data.toList (some ⟨num, op, es, v⟩)) := IsO.yes HCh.out hB
      have HR := hideIt R9
      clear R9 hB r0 r1 r2 r3 g0 g1 g2 g3
      go_wp2_with (go_at_call 85; refine HOk.out.mono ?_; rintro e w10 ⟨rfl, hb10⟩; refine Hid.out ?_)
      refine (show ∀ {p : Prop}, p → Hid p from fun h => h) ?_
      have R10 := HR.out.below hb10
      have own10 : Hid (w10.ownsRow B 79 2 (.slice a k c) k (ecells es)) := own_block own9.out (fun g _ hlt => hb10.block g hlt)
      clear q0 q1 q2 q3
      obtain ⟨q0, q1, q2, q3⟩ := R10.cells
      obtain ⟨r0, r1, r2, r3⟩ := R10.cellsR
      have g0 := R10.frozenR 0
      have g1 := R10.frozenR 1
      have g2 := R10.frozenR 2
      have g3 := R10.frozenR 3
      have HB := hideIt R10.bel
      clear R10 hb10
      go_wp2
      refine bodyPost_ret (v := .tuple #[ordV num op a k c v, .bool true]) (by simp [results, Tryz.results73, go_sem, r0, r1, r2, r3]) rfl ⟨some ⟨num, op, es, v⟩, HI.out, a, k, c, rfl, ?_, by omega, ?_⟩
      · refine own_mono (B := B) ?_ hge6
        refine own_block own10.out (fun g hg hlt => ?_)
        have hne : g ≠ w.heap.size := by have := hz6.2.2; omega
        rw [heap_setCell_other _ _ _ _ (by exact hne), heap_setCell_other _ _ _ _ (by exact hne), heap_setCell_other _ _ _ _ (by exact hne), heap_setCell_other _ _ _ _ (by exact hne)]
      · exact (((HB.out.setCell (Nat.le_refl _) _).setCell (Nat.le_refl _) _).setCell (Nat.le_refl _) _).setCell (Nat.le_refl _) _
end Go.Proofs.YtcieanhbipbhgaaGreatDoor
namespace Go.Proofs.YtcieanhbipbhgaaGreatDoor
open Go.RowKit Vt

abbrev ac (num : Int) (ok : Bool) (a : Option Addr) (k c : Nat) (a' : Option Addr) (k' c' : Nat) : Array Value := #[.int .i64 num, .bool ok, .slice a k c, .slice a' k' c']
def szA (n m : Nat) : Int := if n + m ≤ 1048576 then 1048576 - (n : Int) - (m : Int) else -1

theorem own_up10 {w w' : World} {B e s n : Nat} {v : Value} {xs : List Value} (h : w.ownsRow B e s v n xs) (hb : Below w.heap.size w w') : w'.ownsRow B e s v n xs := by
  refine ⟨h.1, h.2.imp id ?_⟩
  rintro ⟨g, cap, cur, hv, hg, hc, rest⟩
  exact ⟨g, cap, cur, hv, hg, by rw [hb.block g (Array.getElem?_eq_some_iff.1 hc).1]; exact hc, rest⟩

end Go.Proofs.YtcieanhbipbhgaaGreatDoor
namespace Go.Proofs.YtcieanhbipbhgaaGreatDoor
open Go.RowKit Vt

theorem eqAnswer_same (num : Int) (ok : Bool) (fs : List EdgeV) (ls : List Int) (n : Nat) (a b : Option Addr) (c d : Nat) (hn : n ≤ 1048576) (m : Nat) (a' b' : Option Addr) (c' d' : Nat) (hm : m ≤ 1048576) (w : World)
    (h1 : Es w w.heap.size a n fs) (h2 : Es w w.heap.size b n fs) (h3 : Is w w.heap.size a' m ls) (h4 : Is w w.heap.size b' m ls) :
    Calls Tryz.prog 34 #[ansV num ok a n c a' m c', ansV num ok b n d b' m d'] w fun e w' => e = .returned (.bool true) ∧ Below w.heap.size w w' := by
  unfold ansV
  have B2 : Below w.heap.size w ((w.alloc (.cells #[.int .i64 num, .bool ok, .slice a n c, .slice a' m c'] 36)).alloc (.cells #[.int .i64 num, .bool ok, .slice b n d, .slice b' m d'] 36)) := (bel1 _ _).alloc (by simp) _
  have HT := hideIt (eqEdgeS_same fs n a b c d hn _ (h1.up B2) (h2.up B2))
  have HI : Hid (∀ W, Below w.heap.size w W → Calls Tryz.prog 50 #[.slice a' m c', .slice b' m d'] W fun e w' => e = .returned (.bool true) ∧ Below W.heap.size W w') := fun W hW => eqIntS_same ls m a' b' c' d' hm W (h3.up hW) (h4.up hW)
  have HB2 := hideIt B2
  have dr : (ok != ok) = false := by simp
  clear h1 h2 h3 h4 B2
  go_enter Tryz.func34, Tryz.ntmps34
  go_wp2_with (go_at_call 49; refine HT.out.mono ?_; rintro e w1 ⟨rfl, hb1⟩; refine Hid.out ?_)
  refine (show ∀ {p : Prop}, p → Hid p from fun h => h) ?_
  obtain ⟨hc, hf⟩ := bcell hb1
  have HB := hideIt (HB2.out.trans (hb1.mono (by simp; omega)))
  have q0 : w1.cell? ⟨w.heap.size, 3, none⟩ = some (.slice a' m c') := by rw [hc _ _ (by simp; omega)]; simp
  have q1 : w1.cell? ⟨w.heap.size + 1, 3, none⟩ = some (.slice b' m d') := by rw [hc _ _ (by simp)]; simp
  clear hc hf hb1 HT
  go_wp2_with (go_at_call 50; refine (HI.out _ HB.out).mono ?_; rintro e w2 ⟨rfl, hb2⟩)
  go_ret
  exact ⟨rfl, HB.out.trans (hb2.mono HB.out.size)⟩

/-- rows of different sorts lie in different blocks -/
theorem rows_ne {w : World} {B B' S S' n n' : Nat} {e e' : TypeId} {v v' : Value} {xs xs' : List Value} (h : w.ownsRow B e S v n xs) (h' : w.ownsRow B' e' S' v' n' xs') (hne : e ≠ e') (g : Nat) (hg : v.ownBlock = some g) : v'.ownBlock ≠ some g := by
  intro hg'
  rcases h.2 with ⟨rfl, _⟩ | ⟨q, cap, cur, rfl, _, hc, _⟩
  · simp [Value.ownBlock] at hg
  · rcases h'.2 with ⟨rfl, _⟩ | ⟨q', cap', cur', rfl, _, hc', _⟩
    · simp [Value.ownBlock] at hg'
    · simp [Value.ownBlock] at hg hg'
      subst hg hg'
      rw [hc] at hc'
      simp at hc'
      exact hne hc'.2

/-- edges are marked, or there are none -/
theorem markE_any {w : World} {base n c k0 : Nat} {a : Option Addr} {fs : List EdgeV} (hn : n ≤ 1048576) (hk : k0 ≤ 10000000) (h : w.ownsRow base 79 2 (.slice a n c) n (ecells fs)) :
    Calls Tryz.prog 15 #[.slice a n c, .int .i64 (k0 : Int)] w fun e w' => e = .returned (.int .i64 ((k0 : Int) + (n : Int) * 2)) ∧ w'.ownsRow base 79 2 (.slice a n c) n (ecells (marks k0 n)) ∧ w.grownBy w' ((Value.slice a n c).ownBlock) := by
  by_cases h0 : n = 0
  · subst h0
    refine (markEdgeS_zero a c k0 w).mono ?_
    rintro e v ⟨rfl, rfl⟩
    refine ⟨by simp, ?_, gr_refl _ _⟩
    have hl := h.1
    rw [ecells_length] at hl
    have : fs = [] := List.length_eq_zero_iff.1 (by omega)
    subst this
    exact h
  · rcases h.2 with ⟨_, h3⟩ | ⟨g, cap, cur, hv, hg, _⟩
    · omega
    · simp at hv
      obtain ⟨rfl, rfl⟩ := hv
      exact markEdgeS_any base g c n k0 fs hn hk w h
theorem markI_any {w : World} {base n c k0 : Nat} {a : Option Addr} {ls : List Int} (hn : n ≤ 1048576) (hk : k0 ≤ 10000000) (h : w.ownsRow base 3 1 (.slice a n c) n (ic ls)) :
    Calls Tryz.prog 16 #[.slice a n c, .int .i64 (k0 : Int)] w fun e w' => e = .returned (.int .i64 ((k0 : Int) + (n : Int))) ∧ w'.ownsRow base 3 1 (.slice a n c) n (ic (imarks k0 n)) ∧ w.grownBy w' ((Value.slice a n c).ownBlock) := by
  by_cases h0 : n = 0
  · subst h0
    refine (markIntS_zero a c k0 w).mono ?_
    rintro e v ⟨rfl, rfl⟩
    refine ⟨by simp, ?_, gr_refl _ _⟩
    have hl := h.1
    rw [ic_len] at hl
    have : ls = [] := List.length_eq_zero_iff.1 (by omega)
    subst this
    exact h
  · rcases h.2 with ⟨_, h3⟩ | ⟨g, cap, cur, hv, hg, _⟩
    · omega
    · simp at hv
      obtain ⟨rfl, rfl⟩ := hv
      exact markIntS_any base g c n k0 _ hn hk w h

/-- an answer that is ours: its box, its edges and its labels lie in blocks lo .. hi -/
structure ABox (u : World) (lo hi b : Nat) (num : Int) (ok : Bool) (a : Option Addr) (m c : Nat) (a' : Option Addr) (m' c' : Nat) (gs : List EdgeV) (ls : List Int) : Prop where
  box : u.heap[b]? = some (.cells (ac num ok a m c a' m' c') 36 (0, 0))
  own : u.ownsRow lo 79 2 (.slice a m c) m (ecells gs)
  own2 : u.ownsRow lo 3 1 (.slice a' m' c') m' (ic ls)
  least : lo ≤ b
  most : b < hi
  row : ∀ g, (Value.slice a m c).ownBlock = some g → g < b
  row2 : ∀ g, (Value.slice a' m' c').ownBlock = some g → g < b
  there : hi ≤ u.heap.size

section
variable {u v : World} {lo hi b l2 h2 : Nat} {num : Int} {ok : Bool} {a : Option Addr} {m c : Nat} {a' : Option Addr} {m' c' : Nat} {gs : List EdgeV} {ls : List Int}
theorem ABox.len (h : ABox u lo hi b num ok a m c a' m' c' gs ls) : gs.length = m ∧ ls.length = m' := by
  have h1 := h.own.1; have h3 := h.own2.1; rw [ecells_length] at h1; rw [ic_len] at h3; omega
theorem ABox.es (h : ABox u lo hi b num ok a m c a' m' c' gs ls) : Es u u.heap.size a m gs := Es_of_own h.own
theorem ABox.is (h : ABox u lo hi b num ok a m c a' m' c' gs ls) : Is u u.heap.size a' m' ls := Is_of_own h.own2
theorem ABox.rng (h : ABox u lo hi b num ok a m c a' m' c' gs ls) (hr : Rng l2 h2 u v) (ho : hi ≤ l2 ∨ h2 ≤ lo) : ABox v lo hi b num ok a m c a' m' c' gs ls := by
  have hth := h.there
  have hb := h.least
  have hb' := h.most
  have g1 : ∀ k, lo ≤ k → k < hi → v.heap[k]? = u.heap[k]? := fun k h3 h4 => hr.block k (by omega) (by omega)
  refine ⟨?_, ?_, ?_, hb, hb', h.row, h.row2, Nat.le_trans hth hr.size⟩
  · rw [g1 b hb hb']; exact h.box
  · refine ⟨h.own.1, ?_⟩
    rcases h.own.2 with h3 | ⟨g, cap, cur, hv, hg, hcur, hrest⟩
    · exact .inl h3
    · refine .inr ⟨g, cap, cur, hv, hg, ?_, hrest⟩
      rw [g1 g hg (by have := h.row g (by rw [hv]; rfl); omega)]
      exact hcur
  · refine ⟨h.own2.1, ?_⟩
    rcases h.own2.2 with h3 | ⟨g, cap, cur, hv, hg, hcur, hrest⟩
    · exact .inl h3
    · refine .inr ⟨g, cap, cur, hv, hg, ?_, hrest⟩
      rw [g1 g hg (by have := h.row2 g (by rw [hv]; rfl); omega)]
      exact hcur
theorem ABox.up (h : ABox u lo hi b num ok a m c a' m' c' gs ls) (hb : Below u.heap.size u v) : ABox v lo hi b num ok a m c a' m' c' gs ls :=
  h.rng (l2 := hi) (h2 := hi) (Rng.of_below hb) (.inl (Nat.le_refl _))
theorem ABox.cells (h : ABox u lo hi b num ok a m c a' m' c' gs ls) : u.cell? ⟨b, 0, none⟩ = some (.int .i64 num) ∧ u.cell? ⟨b, 1, none⟩ = some (.bool ok) ∧ u.cell? ⟨b, 2, none⟩ = some (.slice a m c) ∧ u.cell? ⟨b, 3, none⟩ = some (.slice a' m' c') :=
  ⟨by rw [cell_of_row u b 0 _ _ _ h.box]; rfl, by rw [cell_of_row u b 1 _ _ _ h.box]; rfl, by rw [cell_of_row u b 2 _ _ _ h.box]; rfl, by rw [cell_of_row u b 3 _ _ _ h.box]; rfl⟩
theorem ABox.laid (hl : lo ≤ u.heap.size) (ho : u.ownsRow lo 79 2 (.slice a m c) m (ecells gs)) (ho2 : u.ownsRow lo 3 1 (.slice a' m' c') m' (ic ls)) :
    ABox (u.alloc (.cells (ac num ok a m c a' m' c') 36)) lo (u.heap.size + 1) u.heap.size num ok a m c a' m' c' gs ls :=
  ⟨heap_alloc_new u _, ho.alloc _, ho2.alloc _, hl, by omega, fun g hg => (ho.lt g hg).2, fun g hg => (ho2.lt g hg).2, by simp⟩

theorem gr_rng {w w' : World} {row : Option Nat} {lo b : Nat} (h : w.grownBy w' row) (h1 : ∀ g, row = some g → lo ≤ g ∧ g < b) : Rng lo b w w' :=
  ⟨h.os, h.tape, h.output, h.size, fun k hk ho => h.block k hk (fun e => by have := h1 k e.symm; omega)⟩
theorem Rng.trans {u v x : World} {lo b : Nat} (h : Rng lo b u v) (k : Rng lo b v x) : Rng lo b u x :=
  ⟨k.os.trans h.os, k.tape.trans h.tape, k.output.trans h.output, Nat.le_trans h.size k.size, fun i hi ho => (k.block i (Nat.lt_of_lt_of_le hi h.size) ho).trans (h.block i hi ho)⟩

theorem own_kept {w w' : World} {B e s n : Nat} {v : Value} {xs : List Value} {row : Option Nat} (h : w.ownsRow B e s v n xs) (hg : w.grownBy w' row) (hne : ∀ g, row = some g → v.ownBlock ≠ some g) : w'.ownsRow B e s v n xs :=
  h.kept hg (by
    cases row with
    | none => cases hv : v.ownBlock <;> simp
    | some g => exact .inr (hne g rfl))

theorem ABox.eq {lo' hi' b' : Nat} {d : Option Addr} {n e : Nat} {d' : Option Addr} {n' e' : Nat} (h : ABox u lo hi b num ok a m c a' m' c' gs ls) (h' : ABox u lo' hi' b' num ok d n e d' n' e' gs ls) (hm : m ≤ 1048576) (hm' : m' ≤ 1048576) :
    Calls Tryz.prog 34 #[ansV num ok a m c a' m' c', ansV num ok d n e d' n' e'] u fun e v => e = .returned (.bool true) ∧ Below u.heap.size u v := by
  have e1 : n = m := by rw [← h.len.1, ← h'.len.1]
  have e2 : n' = m' := by rw [← h.len.2, ← h'.len.2]
  subst e1 e2
  exact eqAnswer_same num ok gs ls n a d c e hm n' a' d' c' e' hm' u h.es h'.es h.is h'.is
end
end Go.Proofs.YtcieanhbipbhgaaGreatDoor
namespace Go.Proofs.YtcieanhbipbhgaaGreatDoor
open Go.RowKit

/-- nothing but what P names has turned -/
structure Trn (P : Nat → Prop) (u v : World) : Prop where
  os : v.os = u.os
  tape : v.tape = u.tape
  output : v.output = u.output
  size : u.heap.size ≤ v.heap.size
  block : ∀ k, k < u.heap.size → ¬ P k → v.heap[k]? = u.heap[k]?
theorem Trn.of_grown {u v : World} {r : Option Nat} (h : u.grownBy v r) : Trn (fun k => r = some k) u v := ⟨h.os, h.tape, h.output, h.size, fun k hk ho => h.block k hk (fun e => ho e.symm)⟩
theorem Trn.trans {P Q : Nat → Prop} {u v x : World} (h : Trn P u v) (k : Trn Q v x) : Trn (fun i => P i ∨ Q i) u x :=
  ⟨k.os.trans h.os, k.tape.trans h.tape, k.output.trans h.output, Nat.le_trans h.size k.size, fun i hi ho => (k.block i (Nat.lt_of_lt_of_le hi h.size) (fun hq => ho (.inr hq))).trans (h.block i hi (fun hp => ho (.inl hp)))⟩

end Go.Proofs.YtcieanhbipbhgaaGreatDoor
namespace Go.Proofs.YtcieanhbipbhgaaGreatDoor
open Go.RowKit Vt

/-- a record -/
structure RecV where
  kind : Int
  id : Int
  op : Int
  a : Int
  b : Int
  sh : Int
  an : AnsV
  o : OrdV
def zA : AnsV := ⟨0, false, [], []⟩
def zO : OrdV := ⟨0, 0, [], 0⟩
def zR : RecV := ⟨0, 0, 0, 0, 0, 0, zA, zO⟩
/-- a number that may stand in a record -/
def N5 (x : Int) : Prop := 0 ≤ x ∧ x ≤ 100000
/-- the record is right -/
def RecB (n : Int) (r : RecV) : Prop :=
  (r.kind = 1 ∧ (N5 r.id ∧ N5 r.op ∧ N5 r.a ∧ N5 r.b) ∧ r.sh = 0 ∧ r.an = zA ∧ r.o = zO) ∨
  (r.kind = 2 ∧ (r.id = 0 ∧ r.op = 0 ∧ r.a = 0 ∧ r.b = 0) ∧ N5 r.sh ∧ aB n r.an = true ∧ r.o = zO) ∨
  (r.kind = 3 ∧ (r.id = 0 ∧ r.op = 0 ∧ r.a = 0 ∧ r.b = 0) ∧ r.sh = 0 ∧ r.an = zA ∧ oB n r.o = true)
/-- a short text's bytes -/
def sht (T : List UInt8) : List UInt8 := vt T.length ++ T
/-- a record's bytes -/
def rText (r : RecV) : List UInt8 :=
  if r.kind = 1 then 1 :: (vt r.id.toNat ++ (vt r.op.toNat ++ (vt r.a.toNat ++ vt r.b.toNat)))
  else if r.kind = 2 then 2 :: (vt r.sh.toNat ++ sht (aText r.an))
  else 3 :: sht (oText r.o)
/-- what is the right record of these bytes, if there is one -/
def IsR (n : Int) (L : List UInt8) : Option RecV → Prop
  | none => ∀ r, RecB n r → rText r ≠ L
  | some r => RecB n r ∧ rText r = L

theorem vt_len14 (k : Nat) (h : k ≤ 1000000000) : (vt k).length ≤ 5 := by
  have h1 := rv_vt 0 k [] h
  have h2 := (rv_some h1)
  rw [List.append_nil] at h2
  unfold rv at h1
  rw [List.append_nil] at h1
  split at h1
  · cases h1
  · rename_i c r hd
    split at h1
    · rename_i hc
      simp only [Option.some.injEq, Prod.mk.injEq] at h1
      omega
    · cases h1
theorem et_len14 {es : List EdgeV} (h : es.length ≤ 66) : (et es).length ≤ 200 := by
  unfold et
  have h1 := vt_len14 es.length (by omega)
  have h2 := eb_length es
  rw [List.length_append]
  omega
theorem aText_len {n : Int} {a : AnsV} (h : aB n a = true) : (aText a).length ≤ 300 := by
  obtain ⟨p0, p1, ⟨_, p3⟩, p4⟩ := aB_parts h
  obtain ⟨p5, _⟩ := lB_bytes p0.2 p4
  unfold aText
  have h1 := vt_len14 a.num.toNat (by omega)
  have h2 := et_len14 p3
  rw [List.length_append, List.length_cons, List.length_append, List.length_map]
  omega
theorem oText_len {n : Int} {o : OrdV} (h : oB n o = true) : (oText o).length ≤ 300 := by
  obtain ⟨_, p1, ⟨_, p3⟩, _, p5⟩ := oB_parts h
  unfold oText
  have h1 := vt_len14 o.num.toNat (by omega)
  have h2 := et_len14 p3
  have h3 := vt_len14 o.v.toNat (by omega)
  rw [List.length_append, List.length_cons, List.length_append]
  omega
/-- a right record's first byte -/
theorem cand0 {n : Int} {r : RecV} {L : List UInt8} (h : RecB n r) (e : rText r = L) : ∃ c M, L = c :: M ∧ ((c = 1 ∧ r.kind = 1) ∨ (c = 2 ∧ r.kind = 2) ∨ (c = 3 ∧ r.kind = 3)) := by
  subst e
  unfold rText
  rcases h with h | h | h
  · rw [if_pos h.1]; exact ⟨_, _, rfl, .inl ⟨rfl, h.1⟩⟩
  · rw [if_neg (by omega), if_pos h.1]; exact ⟨_, _, rfl, .inr (.inl ⟨rfl, h.1⟩)⟩
  · rw [if_neg (by omega), if_neg (by omega)]; exact ⟨_, _, rfl, .inr (.inr ⟨rfl, h.1⟩)⟩
theorem cand1 {n : Int} {r : RecV} {L : List UInt8} (h : RecB n r) (e : rText r = 1 :: L) :
    ∃ L2 L3 L4, (nx pN (some L) = (r.id.toNat, some L2) ∧ nx pN (some L2) = (r.op.toNat, some L3) ∧ nx pN (some L3) = (r.a.toNat, some L4) ∧ nx pN (some L4) = (r.b.toNat, some [])) ∧ (N5 r.id ∧ N5 r.op ∧ N5 r.a ∧ N5 r.b) ∧ r.kind = 1 ∧ r.sh = 0 ∧ r.an = zA ∧ r.o = zO := by
  rcases h with ⟨hk, hn, h1, h2, h3⟩ | h | h
  · unfold rText at e
    rw [if_pos hk] at e
    simp only [List.cons.injEq, true_and] at e
    subst e
    obtain ⟨a1, a2, a3, a4⟩ := hn
    unfold N5 at a1 a2 a3 a4
    have e4 : pN (vt r.b.toNat) = some (r.b.toNat, []) := by have := pN_vt r.b.toNat [] (by omega); rwa [List.append_nil] at this
    exact ⟨_, _, _, ⟨nx_of (pN_vt _ _ (by omega)), nx_of (pN_vt _ _ (by omega)), nx_of (pN_vt _ _ (by omega)), nx_of e4⟩, ⟨a1, a2, a3, a4⟩, hk, h1, h2, h3⟩
  · exfalso
    unfold rText at e
    rw [if_neg (by omega), if_pos h.1] at e
    simp at e
  · exfalso
    unfold rText at e
    rw [if_neg (by omega), if_neg (by omega)] at e
    simp at e
theorem cand2 {n : Int} {r : RecV} {L : List UInt8} (h : RecB n r) (e : rText r = 2 :: L) :
    ∃ L2 T, (nx pN (some L) = (r.sh.toNat, some L2) ∧ nx pN (some L2) = (T.length, some T) ∧ T = aText r.an ∧ T.length ≤ 300) ∧ (r.id = 0 ∧ r.op = 0 ∧ r.a = 0 ∧ r.b = 0) ∧ r.kind = 2 ∧ N5 r.sh ∧ aB n r.an = true ∧ r.o = zO := by
  rcases h with h | ⟨hk, hz, h1, h2, h3⟩ | h
  · exfalso
    unfold rText at e
    rw [if_pos h.1] at e
    simp at e
  · unfold rText at e
    rw [if_neg (by omega), if_pos hk] at e
    simp only [List.cons.injEq, true_and] at e
    subst e
    have hl := aText_len h2
    have a1 := h1
    unfold N5 at a1
    exact ⟨_, _, ⟨nx_of (pN_vt _ _ (by omega)), nx_of (pN_vt _ _ (by omega)), rfl, hl⟩, hz, hk, h1, h2, h3⟩
  · exfalso
    unfold rText at e
    rw [if_neg (by omega), if_neg (by omega)] at e
    simp at e
theorem cand3 {n : Int} {r : RecV} {L : List UInt8} (h : RecB n r) (e : rText r = 3 :: L) :
    ∃ T, (nx pN (some L) = (T.length, some T) ∧ T = oText r.o ∧ T.length ≤ 300) ∧ (r.id = 0 ∧ r.op = 0 ∧ r.a = 0 ∧ r.b = 0) ∧ r.kind = 3 ∧ r.sh = 0 ∧ r.an = zA ∧ oB n r.o = true := by
  rcases h with h | h | ⟨hk, hz, h1, h2, h3⟩
  · exfalso
    unfold rText at e
    rw [if_pos h.1] at e
    simp at e
  · exfalso
    unfold rText at e
    rw [if_neg (by omega), if_pos h.1] at e
    simp at e
  · unfold rText at e
    rw [if_neg (by omega), if_neg (by omega)] at e
    simp only [List.cons.injEq, true_and] at e
    subst e
    have hl := oText_len h3
    exact ⟨_, ⟨nx_of (pN_vt _ _ (by omega)), rfl, hl⟩, hz, hk, h1, h2, h3⟩
theorem int_of_nat {x y : Int} {k : Nat} (h : k = x.toNat) (h' : k = y.toNat) (hx : N5 x) (hy : N5 y) : x = y := by unfold N5 at hx hy; omega
theorem IsR.uniq {n : Int} {L : List UInt8} : ∀ {r r' : Option RecV}, IsR n L r → IsR n L r' → r = r'
  | none, none, _, _ => rfl
  | none, some o, h, h' => absurd h'.2 (h o h'.1)
  | some o, none, h, h' => absurd h.2 (h' o h.1)
  | some r, some r', h, h' => by
    obtain ⟨hB, hT⟩ := h
    obtain ⟨hB', hT'⟩ := h'
    obtain ⟨c, M, rfl, hc⟩ := cand0 hB hT
    rcases hc with ⟨rfl, _⟩ | ⟨rfl, _⟩ | ⟨rfl, _⟩
    · obtain ⟨L2, L3, L4, ⟨e1, e2, e3, e4⟩, ⟨n1, n2, n3, n4⟩, k, z1, z2, z3⟩ := cand1 hB hT
      obtain ⟨M2, M3, M4, ⟨f1, f2, f3, f4⟩, ⟨m1, m2, m3, m4⟩, k', y1, y2, y3⟩ := cand1 hB' hT'
      rw [e1] at f1
      simp only [Prod.mk.injEq, Option.some.injEq] at f1
      obtain ⟨g1, rfl⟩ := f1
      rw [e2] at f2
      simp only [Prod.mk.injEq, Option.some.injEq] at f2
      obtain ⟨g2, rfl⟩ := f2
      rw [e3] at f3
      simp only [Prod.mk.injEq, Option.some.injEq] at f3
      obtain ⟨g3, rfl⟩ := f3
      rw [e4] at f4
      simp only [Prod.mk.injEq, and_true] at f4
      obtain ⟨a1, a2, a3, a4, a5, a6, a7, a8⟩ := r
      obtain ⟨b1, b2, b3, b4, b5, b6, b7, b8⟩ := r'
      dsimp only at *
      rw [int_of_nat rfl g1 n1 m1, int_of_nat rfl g2 n2 m2, int_of_nat rfl g3 n3 m3, int_of_nat rfl f4 n4 m4, k, k', z1, y1, z2, y2, z3, y3]
    · obtain ⟨L2, T, ⟨e1, e2, e3, _⟩, ⟨n1, n2, n3, n4⟩, k, z1, z2, z3⟩ := cand2 hB hT
      obtain ⟨M2, T', ⟨f1, f2, f3, _⟩, ⟨m1, m2, m3, m4⟩, k', y1, y2, y3⟩ := cand2 hB' hT'
      rw [e1] at f1
      simp only [Prod.mk.injEq, Option.some.injEq] at f1
      obtain ⟨g1, rfl⟩ := f1
      rw [e2] at f2
      simp only [Prod.mk.injEq, Option.some.injEq] at f2
      obtain ⟨_, rfl⟩ := f2
      have ha : some r.an = some r'.an := IsA.uniq (n := n) (L := T) ⟨z2, e3.symm⟩ ⟨y2, f3.symm⟩
      simp only [Option.some.injEq] at ha
      obtain ⟨a1, a2, a3, a4, a5, a6, a7, a8⟩ := r
      obtain ⟨b1, b2, b3, b4, b5, b6, b7, b8⟩ := r'
      dsimp only at *
      rw [int_of_nat rfl g1 z1 y1, k, k', n1, n2, n3, n4, m1, m2, m3, m4, z3, y3, ha]
    · obtain ⟨T, ⟨e2, e3, _⟩, ⟨n1, n2, n3, n4⟩, k, z1, z2, z3⟩ := cand3 hB hT
      obtain ⟨T', ⟨f2, f3, _⟩, ⟨m1, m2, m3, m4⟩, k', y1, y2, y3⟩ := cand3 hB' hT'
      rw [e2] at f2
      simp only [Prod.mk.injEq, Option.some.injEq] at f2
      obtain ⟨_, rfl⟩ := f2
      have ha : some r.o = some r'.o := IsO.uniq (n := n) (L := T) ⟨z3, e3.symm⟩ ⟨y3, f3.symm⟩
      simp only [Option.some.injEq] at ha
      obtain ⟨a1, a2, a3, a4, a5, a6, a7, a8⟩ := r
      obtain ⟨b1, b2, b3, b4, b5, b6, b7, b8⟩ := r'
      dsimp only at *
      rw [k, k', n1, n2, n3, n4, m1, m2, m3, m4, z1, y1, z2, y2, ha]
/-- what is read to its end is a record of these bytes -/
theorem yes1 {n : Int} {L L2 L3 L4 : List UInt8} {i o a b : Nat} (e1 : nx pN (some L) = (i, some L2)) (e2 : nx pN (some L2) = (o, some L3)) (e3 : nx pN (some L3) = (a, some L4)) (e4 : nx pN (some L4) = (b, some [])) (h1 : i ≤ 100000) (h2 : o ≤ 100000) (h3 : a ≤ 100000) (h4 : b ≤ 100000) :
    IsR n (1 :: L) (some ⟨1, i, o, a, b, 0, zA, zO⟩) := by
  obtain ⟨_, h, f1⟩ := nx_some e1
  cases h
  obtain ⟨_, h, f2⟩ := nx_some e2
  cases h
  obtain ⟨_, h, f3⟩ := nx_some e3
  cases h
  obtain ⟨_, h, f4⟩ := nx_some e4
  cases h
  have g1 := (pN_some f1).1
  have g2 := (pN_some f2).1
  have g3 := (pN_some f3).1
  have g4 := (pN_some f4).1
  refine ⟨.inl ⟨rfl, ⟨⟨by simp, by simp; omega⟩, ⟨by simp, by simp; omega⟩, ⟨by simp, by simp; omega⟩, ⟨by simp, by simp; omega⟩⟩, rfl, rfl, rfl⟩, ?_⟩
  unfold rText
  rw [if_pos rfl]
  rw [List.append_nil] at g4
  simp only [Int.toNat_natCast]
  rw [← g4, ← g3, ← g2, ← g1]
theorem yes2 {n : Int} {L L2 T : List UInt8} {k : Nat} {a : AnsV} (e1 : nx pN (some L) = (k, some L2)) (e2 : nx pN (some L2) = (T.length, some T)) (h1 : k ≤ 100000) (hA : IsA n T (some a)) : IsR n (2 :: L) (some ⟨2, 0, 0, 0, 0, k, a, zO⟩) := by
  obtain ⟨_, h, f1⟩ := nx_some e1
  cases h
  obtain ⟨_, h, f2⟩ := nx_some e2
  cases h
  have g1 := (pN_some f1).1
  have g2 := (pN_some f2).1
  refine ⟨.inr (.inl ⟨rfl, ⟨rfl, rfl, rfl, rfl⟩, ⟨by simp, by simp; omega⟩, hA.1, rfl⟩), ?_⟩
  unfold rText
  rw [if_neg (by simp), if_pos rfl]
  simp only [Int.toNat_natCast]
  unfold sht
  rw [hA.2, ← g2, ← g1]
theorem yes3 {n : Int} {L T : List UInt8} {o : OrdV} (e2 : nx pN (some L) = (T.length, some T)) (hO : IsO n T (some o)) : IsR n (3 :: L) (some ⟨3, 0, 0, 0, 0, 0, zA, o⟩) := by
  obtain ⟨_, h, f2⟩ := nx_some e2
  cases h
  have g2 := (pN_some f2).1
  refine ⟨.inr (.inr ⟨rfl, ⟨rfl, rfl, rfl, rfl⟩, rfl, rfl, hO.1⟩), ?_⟩
  unfold rText
  rw [if_neg (by simp), if_neg (by simp)]
  unfold sht
  rw [hO.2, ← g2]
end Go.Proofs.YtcieanhbipbhgaaGreatDoor
