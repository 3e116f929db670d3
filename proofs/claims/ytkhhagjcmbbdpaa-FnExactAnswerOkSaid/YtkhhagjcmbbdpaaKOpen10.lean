/- AnswerOk on both sides. The program's ReadOrder. What the laws' own functions over answers answer; answers in ranges of blocks of their own. Answers held against each other, marked and looked at again. The walk of FnExactAnswerOk. An order and an answer that come in, as the walks want them. -/
import Derived.Test.YtkhhagjcmbbdpaaKAOk10
import Derived.Test.YtkhhagjcmbbdpaaKIntsO10
import Derived.Test.YtkhhagjcmbbdpaaKMem
import Derived.ChangeSlices
import Derived.WalkKit
import Derived.ProofKit
import Derived.OpenShut
import Derived.ChangeOld
import Derived.ChangeArms
import Derived.Below
namespace Go.Proofs.Ytkhhagjcmbbdpaa
open Go.RowKit Vt

set_option maxRecDepth 100000 in
set_option maxHeartbeats 4000000 in
theorem sAnswerOk_any (n num : Int) (ok : Bool) (es : List EdgeV) (ls : List Int) (k : Nat) (a : Option Addr) (c : Nat) (hk : k ≤ 1048576) (k' : Nat) (a' : Option Addr) (c' : Nat) (hk' : k' ≤ 1048576) (w : World) (h : Es w w.heap.size a k es) (h' : Is w w.heap.size a' k' ls) :
    Calls Try.prog 20 #[.int .i64 n, ansV num ok a k c a' k' c'] w fun e w' => e = .returned (.bool (aB n ⟨num, ok, es, ls⟩)) ∧ Below w.heap.size w w' := by
  unfold ansV
  have HI := hideIt l01In_any
  have HE : Hid (Calls Try.prog 47 #[.int .i64 n, .slice a k c] (w.alloc (.cells #[.int .i64 num, .bool ok, .slice a k c, .slice a' k' c'] 37)) fun e w' => e = .returned (.bool (eOk n es)) ∧ Below w.heap.size w w' ∧ w'.cell? ⟨w.heap.size, 3, none⟩ = some (.slice a' k' c') ∧ Hid (Is w' w'.heap.size a' k' ls)) :=
    (l05Edges_any n es k a c hk (w.alloc (.cells #[.int .i64 num, .bool ok, .slice a k c, .slice a' k' c'] 37)) ((h.alloc (Nat.le_refl _) _).mono (by simp))).mono fun _ _ ⟨he, hb⟩ =>
      ⟨he, (bel1 _ _).trans (hb.mono (by simp)), by rw [hb.cell (by simp)]; simp, (h'.alloc _).up hb⟩
  have HL : Hid (∀ W, Is W W.heap.size a' k' ls → Calls Try.prog 55 #[.int .i64 n, .slice a' k' c'] W fun e w' => e = .returned (.bool (lB n ls)) ∧ Below W.heap.size W w') := fun W hW => l09Labels_any n ls k' a' c' hk' W hW
  have B0 : Hid (Below w.heap.size w (w.alloc (.cells #[.int .i64 num, .bool ok, .slice a k c, .slice a' k' c'] 37))) := bel1 _ _
  clear h h'
  by_cases h1 : 1 ≤ n ∧ n ≤ 12
  · have r1 : decide (1 ≤ n ∧ n ≤ 12) = true := by simpa using h1
    by_cases h2 : 1 ≤ num ∧ num ≤ 100000
    · have r2 : decide (1 ≤ num ∧ num ≤ 100000) = true := by simpa using h2
      cases hE : eOk n es with
      | true =>
        rw [hE] at HE
        have HB := hideIt (aB_ls (o := ⟨num, ok, es, ls⟩) h1 h2 hE)
        generalize lB n ls = r at HL HB
        go_enter Try.func20, Try.ntmps20
        go_wp2_with (first | (go_at_call 46; refine (HI.out _ _ _ _).mono ?_; rintro e w1 ⟨rfl, rfl⟩) | (go_at_call 47; refine HE.out.mono ?_; rintro e w2 ⟨rfl, hb2, q3, h2'⟩) | (go_at_call 55; refine (HL.out _ h2'.out).mono ?_; rintro e w3 ⟨rfl, hb3⟩))
        go_ret
        exact ⟨rett HB.out.symm, hb2.trans (hb3.mono hb2.size)⟩
      | false =>
        rw [hE] at HE
        have HB := hideIt (aB_es (o := ⟨num, ok, es, ls⟩) hE)
        go_enter Try.func20, Try.ntmps20
        go_wp2_with (first | (go_at_call 46; refine (HI.out _ _ _ _).mono ?_; rintro e w1 ⟨rfl, rfl⟩) | (go_at_call 47; refine HE.out.mono ?_; rintro e w2 ⟨rfl, hb2, q3, h2'⟩))
        go_ret
        exact ⟨rett HB.out.symm, hb2⟩
    · have r2 : decide (1 ≤ num ∧ num ≤ 100000) = false := by simpa using h2
      have HB := hideIt (aB_num (n := n) (o := ⟨num, ok, es, ls⟩) h2)
      clear HE HL
      go_enter Try.func20, Try.ntmps20
      go_wp2_with (first | (go_at_call 46; refine (HI.out _ _ _ _).mono ?_; rintro e w1 ⟨rfl, rfl⟩))
      go_ret
      exact ⟨rett HB.out.symm, B0.out⟩
  · have r1 : decide (1 ≤ n ∧ n ≤ 12) = false := by simpa using h1
    have HB := hideIt (aB_n (o := ⟨num, ok, es, ls⟩) h1)
    clear HE HL
    go_enter Try.func20, Try.ntmps20
    go_wp2_with (first | (go_at_call 46; refine (HI.out _ _ _ _).mono ?_; rintro e w1 ⟨rfl, rfl⟩))
    go_ret
    exact ⟨rett HB.out.symm, B0.out⟩

set_option maxRecDepth 100000 in
set_option maxHeartbeats 4000000 in
theorem iAnswerOk_any (n num : Int) (ok : Bool) (es : List EdgeV) (ls : List Int) (k : Nat) (a : Option Addr) (c : Nat) (hk : k ≤ 1048576) (k' : Nat) (a' : Option Addr) (c' : Nat) (hk' : k' ≤ 1048576) (w : World) (h : Es w w.heap.size a k es) (h' : Is w w.heap.size a' k' ls) :
    Calls Try.prog 21 #[.int .i64 n, ansV num ok a k c a' k' c'] w fun e w' => e = .returned (.bool (aB n ⟨num, ok, es, ls⟩)) ∧ Below w.heap.size w w' := by
  unfold ansV
  have HI := hideIt vertsOk_any
  have HJ := hideIt numOk_any
  have HE : Hid (Calls Try.prog 56 #[.int .i64 n, .slice a k c] (w.alloc (.cells #[.int .i64 num, .bool ok, .slice a k c, .slice a' k' c'] 37)) fun e w' => e = .returned (.bool (eOk n es)) ∧ Below w.heap.size w w' ∧ w'.cell? ⟨w.heap.size, 3, none⟩ = some (.slice a' k' c') ∧ Hid (Is w' w'.heap.size a' k' ls)) :=
    (edgesOk_any n es k a c hk (w.alloc (.cells #[.int .i64 num, .bool ok, .slice a k c, .slice a' k' c'] 37)) ((h.alloc (Nat.le_refl _) _).mono (by simp))).mono fun _ _ ⟨he, hb⟩ =>
      ⟨he, (bel1 _ _).trans (hb.mono (by simp)), by rw [hb.cell (by simp)]; simp, (h'.alloc _).up hb⟩
  have HL : Hid (∀ W, Is W W.heap.size a' k' ls → Calls Try.prog 57 #[.int .i64 n, .slice a' k' c'] W fun e w' => e = .returned (.bool (lB n ls)) ∧ Below W.heap.size W w') := fun W hW => labelsOk_any n ls k' a' c' hk' W hW
  have B0 : Hid (Below w.heap.size w (w.alloc (.cells #[.int .i64 num, .bool ok, .slice a k c, .slice a' k' c'] 37))) := bel1 _ _
  clear h h'
  by_cases h1 : 1 ≤ n ∧ n ≤ 12
  · have r1 : decide (1 ≤ n ∧ n ≤ 12) = true := by simpa using h1
    by_cases h2 : 1 ≤ num ∧ num ≤ 100000
    · have r2 : decide (1 ≤ num ∧ num ≤ 100000) = true := by simpa using h2
      cases hE : eOk n es with
      | true =>
        rw [hE] at HE
        have HB := hideIt (aB_ls (o := ⟨num, ok, es, ls⟩) h1 h2 hE)
        generalize lB n ls = r at HL HB
        go_enter Try.func21, Try.ntmps21
        go_wp2_with (first | (go_at_call 48; refine (HI.out _ _).mono ?_; rintro e w1 ⟨rfl, rfl⟩) | (go_at_call 49; refine (HJ.out _ _).mono ?_; rintro e w1 ⟨rfl, rfl⟩) | (go_at_call 56; refine HE.out.mono ?_; rintro e w2 ⟨rfl, hb2, q3, h2'⟩) | (go_at_call 57; refine (HL.out _ h2'.out).mono ?_; rintro e w3 ⟨rfl, hb3⟩))
        go_ret
        exact ⟨rett HB.out.symm, hb2.trans (hb3.mono hb2.size)⟩
      | false =>
        rw [hE] at HE
        have HB := hideIt (aB_es (o := ⟨num, ok, es, ls⟩) hE)
        go_enter Try.func21, Try.ntmps21
        go_wp2_with (first | (go_at_call 48; refine (HI.out _ _).mono ?_; rintro e w1 ⟨rfl, rfl⟩) | (go_at_call 49; refine (HJ.out _ _).mono ?_; rintro e w1 ⟨rfl, rfl⟩) | (go_at_call 56; refine HE.out.mono ?_; rintro e w2 ⟨rfl, hb2, q3, h2'⟩))
        go_ret
        exact ⟨rett HB.out.symm, hb2⟩
    · have r2 : decide (1 ≤ num ∧ num ≤ 100000) = false := by simpa using h2
      have HB := hideIt (aB_num (n := n) (o := ⟨num, ok, es, ls⟩) h2)
      clear HE HL
      go_enter Try.func21, Try.ntmps21
      go_wp2_with (first | (go_at_call 48; refine (HI.out _ _).mono ?_; rintro e w1 ⟨rfl, rfl⟩) | (go_at_call 49; refine (HJ.out _ _).mono ?_; rintro e w1 ⟨rfl, rfl⟩))
      go_ret
      exact ⟨rett HB.out.symm, B0.out⟩
  · have r1 : decide (1 ≤ n ∧ n ≤ 12) = false := by simpa using h1
    have HB := hideIt (aB_n (o := ⟨num, ok, es, ls⟩) h1)
    clear HE HL
    go_enter Try.func21, Try.ntmps21
    go_wp2_with (first | (go_at_call 48; refine (HI.out _ _).mono ?_; rintro e w1 ⟨rfl, rfl⟩) | (go_at_call 49; refine (HJ.out _ _).mono ?_; rintro e w1 ⟨rfl, rfl⟩))
    go_ret
    exact ⟨rett HB.out.symm, B0.out⟩
end Go.Proofs.Ytkhhagjcmbbdpaa
namespace Go.Proofs.Ytkhhagjcmbbdpaa
open Go.RowKit Vt

theorem ed_es {e : Prop} {t : TypeId} {w w' : World} {G : Nat} {s : ByteArray} {st : Option (List UInt8)} {v : Value} {m : Nat} (h : EdAns e t w w' G s st v m) :
    ∃ (a : Option Addr) (n c : Nat) (es : List EdgeV) (st' : Option (List UInt8)), v = .slice a n c ∧ n ≤ m ∧ EB8 es ∧ w'.ownsRow w.heap.size 78 2 (.slice a n c) n (ecells es) ∧ ER st es st' ∧ RdAt e t w' G s st' ∧ w.grownBy w' (some G) := by
  obtain ⟨⟨a, n, c, es, st', h1, h2, h3, h4, h5, h6⟩, h7⟩ := h
  exact ⟨a, n, c, es, st', h1, h2, h3, h4, h5, h6, h7⟩

theorem own_block {w : World} {B T S n cap : Nat} {a : Option Addr} {xs : List Value} {W : World} (h : w.ownsRow B T S (.slice a n cap) n xs) (hb : ∀ g, B ≤ g → g < w.heap.size → W.heap[g]? = w.heap[g]?) : W.ownsRow B T S (.slice a n cap) n xs := by
  refine ⟨h.1, h.2.imp id ?_⟩
  rintro ⟨g, cp, cur, hv, hg, hc, rest⟩
  exact ⟨g, cp, cur, hv, hg, by rw [hb g hg (Array.getElem?_eq_some_iff.1 hc).1]; exact hc, rest⟩

set_option maxRecDepth 100000 in
set_option maxHeartbeats 4000000 in
theorem iReadOrder_any (n : Int) (s : ByteArray) (hs : s.size ≤ 1048576) (w : World) :
    Calls Try.prog 13 #[.int .i64 n, .string s] w fun e w' => ∃ r, IsO n s.data.toList r ∧ OrdAns w w' e r := by
  have HN : Hid (∀ W G st, RdAt True 69 W G s st → Calls Try.prog 42 #[.pointer (some ⟨G, 0, none⟩)] W fun e w' => e = .returned (.int .i64 (((nx pN st).1 : Nat) : Int)) ∧ RdAt True 69 w' G s (nx pN st).2 ∧ W.grownBy w' (some G)) := fun W G st h => rNumber_any s hs W G st h
  have HO : Hid (∀ W G st, RdAt True 69 W G s st → Calls Try.prog 43 #[.pointer (some ⟨G, 0, none⟩)] W fun e w' => e = .returned (.int .i64 (((nx pO st).1 : Nat) : Int)) ∧ RdAt True 69 w' G s (nx pO st).2 ∧ W.grownBy w' (some G)) := fun W G st h => rOctet_any s hs W G st h
  have HE : Hid (∀ W G st, RdAt True 69 W G s st → Calls Try.prog 44 #[.pointer (some ⟨G, 0, none⟩)] W fun e w' => ∃ v, e = .returned v ∧ EdAns True 69 W w' G s st v 66) := fun W G st h => rEdges_any s hs W G st h
  have HD : Hid (∀ W G st, RdAt True 69 W G s st → Calls Try.prog 45 #[.pointer (some ⟨G, 0, none⟩)] W fun e w' => e = .returned (.bool (endB st)) ∧ RdAt True 69 w' G s st ∧ W.grownBy w' (some G)) := fun W G st h => rEnded_any s W G st h
  have R0 : RO True 69 w (((w.alloc (.cells (oc 0 0 none 0 0 0) 26)).alloc (.cells #[.string s, .int .i64 0, .bool false] 69)).alloc (.cells (oc 0 0 none 0 0 0) 26)) (w.heap.size + 1) (w.heap.size + 2) w.heap.size s (some s.data.toList) 0 0 none 0 0 0 := by
    refine ⟨⟨0, false, ?_, by omega, .inl ⟨rfl, by simp [from_]⟩⟩, ?_, ?_, (((Below.refl _ _).alloc (Nat.le_refl _) _).alloc (by simp) _).alloc (by simp; omega) _, by omega, by omega⟩
    · rw [Below.heap_alloc _ _ _ (by simp)]
      have := heap_alloc_new (w.alloc (.cells (oc 0 0 none 0 0 0) 26)) (.cells #[.string s, .int .i64 0, .bool false] 69)
      simpa using this
    · have := heap_alloc_new ((w.alloc (.cells (oc 0 0 none 0 0 0) 26)).alloc (.cells #[.string s, .int .i64 0, .bool false] 69)) (.cells (oc 0 0 none 0 0 0) 26)
      simpa using this
    · rw [Below.heap_alloc _ _ _ (by simp; omega), Below.heap_alloc _ _ _ (by simp)]
      exact heap_alloc_new w _
  go_enter Try.func13, Try.ntmps13
  go_wp2_with (go_at_call 42; refine (HN.out _ _ _ R0.rd).mono ?_; rintro e w1 ⟨rfl, hr1, hg1⟩; refine Hid.out ?_)
  refine (show ∀ {p : Prop}, p → Hid p from fun h => h) ?_
  have R1 := R0.call hr1 hg1
  clear R0 hr1 hg1
  obtain ⟨c0, _, _, _⟩ := R1.cells
  have f0 := R1.frozen 0
  have R2 := R1.set 0 (.int .i64 (((nx pN (some s.data.toList)).1 : Nat) : Int)) rfl
  clear R1
  go_wp2_with (go_at_call 43; refine (HO.out _ _ _ R2.rd).mono ?_; rintro e w3 ⟨rfl, hr3, hg3⟩; refine Hid.out ?_)
  refine (show ∀ {p : Prop}, p → Hid p from fun h => h) ?_
  have R3 := R2.call hr3 hg3
  clear R2 hr3 hg3 c0 f0
  obtain ⟨_, c1, _, _⟩ := R3.cells
  have f1 := R3.frozen 1
  have R4 := R3.set 1 (.int .i64 (((nx pO (nx pN (some s.data.toList)).2).1 : Nat) : Int)) rfl
  clear R3
  go_wp2_with (go_at_call 42; refine (HN.out _ _ _ R4.rd).mono ?_; rintro e w5 ⟨rfl, hr5, hg5⟩; refine Hid.out ?_)
  refine (show ∀ {p : Prop}, p → Hid p from fun h => h) ?_
  have R5 := R4.call hr5 hg5
  clear R4 hr5 hg5 c1 f1
  obtain ⟨_, _, _, c3⟩ := R5.cells
  have f3 := R5.frozen 3
  have R6 := R5.set 3 (.int .i64 (((nx pN (nx pO (nx pN (some s.data.toList)).2).2).1 : Nat) : Int)) rfl
  clear R5
  go_wp2_with (go_at_call 44; refine (HE.out _ _ _ R6.rd).mono ?_; rintro e w7 ⟨v7, rfl, hA7⟩; refine Hid.out ?_)
  refine (show ∀ {p : Prop}, p → Hid p from fun h => h) ?_
  obtain ⟨a, k, c, es, st4, rfl, hk, hby, hown, hER, hr7, hg7⟩ := ed_es hA7
  have R7 := R6.call hr7 hg7
  have hz6 := R6.lt
  have hge6 := R6.bel.size
  clear R6 hr7 hg7 hA7 c3 f3
  obtain ⟨_, _, c2, _⟩ := R7.cells
  have f2 := R7.frozen 2
  have R8 := R7.set 2 (.slice a k c) rfl
  have own8 := own_block (W := w7.setCell ⟨w.heap.size + 2, 2, none⟩ (.slice a k c)) hown (fun g hg _ => heap_setCell_other _ _ _ _ (by intro h; simp at h; have := hz6.2.1; omega))
  clear R7 hown
  generalize hq1 : (((nx pN (some s.data.toList)).1 : Nat) : Int) = num at *
  generalize hq2 : (((nx pO (nx pN (some s.data.toList)).2).1 : Nat) : Int) = op at *
  generalize hq3 : (((nx pN (nx pO (nx pN (some s.data.toList)).2).2).1 : Nat) : Int) = v at *
  have HCh : Hid (Ch s.data.toList ⟨num, op, es, v⟩ st4) := ⟨_, _, _, hq1.symm, rfl, hq2.symm, rfl, hq3.symm, rfl, hER⟩
  clear hq1 hq2 hq3 hER
  generalize (w5.setCell ⟨w.heap.size + 2, 3, none⟩ (.int .i64 v)).heap.size = B at own8 hz6 hge6
  have own8 := hideIt own8
  go_wp2_with (go_at_call 45; refine (HD.out _ _ _ R8.rd).mono ?_; rintro e w9 ⟨rfl, hr9, hg9⟩; refine Hid.out ?_)
  refine (show ∀ {p : Prop}, p → Hid p from fun h => h) ?_
  have R9 := R8.call hr9 hg9
  have own9 : Hid (w9.ownsRow B 78 2 (.slice a k c) k (ecells es)) := own_block own8.out (fun g hg hlt => hg9.block g hlt (by simp; have := hz6.1; omega))
  clear R8 hr9 hg9 own8 c2 f2
  obtain ⟨q0, q1, q2, q3⟩ := R9.cells
  obtain ⟨r0, r1, r2, r3⟩ := R9.cellsR
  have g0 := R9.frozenR 0
  have g1 := R9.frozenR 1
  have g2 := R9.frozenR 2
  have g3 := R9.frozenR 3
  cases hE : endB st4 with
  | false =>
    have HI : Hid (IsO n s.data.toList none) := IsO.no HCh.out (.inl (fun h => by rw [(endB_iff st4).2 h] at hE; cases hE))
    have HB := hideIt R9.bel
    clear R9 hE q0 q1 q2 q3
    go_wp2
    refine bodyPost_ret (v := .tuple #[ordV 0 0 none 0 0 0, .bool false]) (by simp [results, Try.results13, go_sem, r0, r1, r2, r3]) rfl ⟨none, HI.out, none, 0, 0, rfl, ⟨rfl, .inl ⟨rfl, rfl⟩⟩, by omega, ?_⟩
    exact (((HB.out.setCell (Nat.le_refl _) _).setCell (Nat.le_refl _) _).setCell (Nat.le_refl _) _).setCell (Nat.le_refl _) _
  | true =>
    have hE := (endB_iff st4).1 hE
    subst hE
    have HOk := hideIt (iOrderOk_any n num op es v k a c (by omega) w9 (Es_of_own own9.out))
    unfold ordV at HOk
    cases hB : oB n ⟨num, op, es, v⟩ with
    | false =>
      rw [hB] at HOk
      have HI : Hid (IsO n s.data.toList none) := IsO.no HCh.out (.inr hB)
      have HR := hideIt R9
      clear R9 hB r0 r1 r2 r3 g0 g1 g2 g3
      go_wp2_with (go_at_call 15; refine HOk.out.mono ?_; rintro e w10 ⟨rfl, hb10⟩; refine Hid.out ?_)
      refine (show ∀ {p : Prop}, p → Hid p from fun h => h) ?_
      have R10 := HR.out.below hb10
      obtain ⟨r0, r1, r2, r3⟩ := R10.cellsR
      have g0 := R10.frozenR 0
      have g1 := R10.frozenR 1
      have g2 := R10.frozenR 2
      have g3 := R10.frozenR 3
      have HB := hideIt R10.bel
      clear R10 q0 q1 q2 q3 hb10
      go_wp2
      refine bodyPost_ret (v := .tuple #[ordV 0 0 none 0 0 0, .bool false]) (by simp [results, Try.results13, go_sem, r0, r1, r2, r3]) rfl ⟨none, HI.out, none, 0, 0, rfl, ⟨rfl, .inl ⟨rfl, rfl⟩⟩, by omega, ?_⟩
      exact (((HB.out.setCell (Nat.le_refl _) _).setCell (Nat.le_refl _) _).setCell (Nat.le_refl _) _).setCell (Nat.le_refl _) _
    | true =>
      rw [hB] at HOk
      have HI : Hid (IsO n s.data.toList (some ⟨num, op, es, v⟩)) := IsO.yes HCh.out hB
      have HR := hideIt R9
      clear R9 hB r0 r1 r2 r3 g0 g1 g2 g3
      go_wp2_with (go_at_call 15; refine HOk.out.mono ?_; rintro e w10 ⟨rfl, hb10⟩; refine Hid.out ?_)
      refine (show ∀ {p : Prop}, p → Hid p from fun h => h) ?_
      have R10 := HR.out.below hb10
      have own10 : Hid (w10.ownsRow B 78 2 (.slice a k c) k (ecells es)) := own_block own9.out (fun g _ hlt => hb10.block g hlt)
      clear q0 q1 q2 q3
      obtain ⟨q0, q1, q2, q3⟩ := R10.cells
      obtain ⟨r0, r1, r2, r3⟩ := R10.cellsR
      have g0 := R10.frozenR 0
      have g1 := R10.frozenR 1
      have g2 := R10.frozenR 2
      have g3 := R10.frozenR 3
      have HB := hideIt R10.bel
      clear R10 hb10
      go_wp2
      refine bodyPost_ret (v := .tuple #[ordV num op a k c v, .bool true]) (by simp [results, Try.results13, go_sem, r0, r1, r2, r3]) rfl ⟨some ⟨num, op, es, v⟩, HI.out, a, k, c, rfl, ?_, by omega, ?_⟩
      · refine own_mono (B := B) ?_ hge6
        refine own_block own10.out (fun g hg hlt => ?_)
        have hne : g ≠ w.heap.size := by have := hz6.2.2; omega
        rw [heap_setCell_other _ _ _ _ (by exact hne), heap_setCell_other _ _ _ _ (by exact hne), heap_setCell_other _ _ _ _ (by exact hne), heap_setCell_other _ _ _ _ (by exact hne)]
      · exact (((HB.out.setCell (Nat.le_refl _) _).setCell (Nat.le_refl _) _).setCell (Nat.le_refl _) _).setCell (Nat.le_refl _) _
end Go.Proofs.Ytkhhagjcmbbdpaa
namespace Go.Proofs.Ytkhhagjcmbbdpaa
open Go.RowKit Vt

abbrev ac (num : Int) (ok : Bool) (a : Option Addr) (k c : Nat) (a' : Option Addr) (k' c' : Nat) : Array Value := #[.int .i64 num, .bool ok, .slice a k c, .slice a' k' c']
def szA (n m : Nat) : Int := if n + m ≤ 1048576 then 1048576 - (n : Int) - (m : Int) else -1

theorem szAnswer_any (num : Int) (ok : Bool) (n : Nat) (a : Option Addr) (c : Nat) (hn : n ≤ maxLen) (m : Nat) (a' : Option Addr) (c' : Nat) (hm : m ≤ maxLen) (w : World) :
    Calls Try.prog 30 #[ansV num ok a n c a' m c', .int .i64 1048576] w fun e w' => e = .returned (.int .i64 (szA n m)) ∧ Below w.heap.size w w' := by
  unfold maxLen at hn hm
  unfold ansV szA
  by_cases g : n ≤ 1048576
  · have d1 : decide (1048576 - (n : Int) < 0) = false := by simp; omega
    by_cases g2 : n + m ≤ 1048576
    · rw [if_pos g2]
      have d2 : decide (1048576 - (n : Int) - (m : Int) < 0) = false := by simp; omega
      go_enter Try.func30, Try.ntmps30
      go_wp2
      go_ret
      exact ⟨rfl, bel1 _ _⟩
    · rw [if_neg g2]
      have d2 : decide (1048576 - (n : Int) - (m : Int) < 0) = true := by simp; omega
      go_enter Try.func30, Try.ntmps30
      go_wp2
      go_ret
      exact ⟨rfl, bel1 _ _⟩
  · rw [if_neg (by omega)]
    have d1 : decide (1048576 - (n : Int) < 0) = true := by simp; omega
    go_enter Try.func30, Try.ntmps30
    go_wp2
    go_ret
    exact ⟨rfl, bel1 _ _⟩

theorem own_up10 {w w' : World} {B e s n : Nat} {v : Value} {xs : List Value} (h : w.ownsRow B e s v n xs) (hb : Below w.heap.size w w') : w'.ownsRow B e s v n xs := by
  refine ⟨h.1, h.2.imp id ?_⟩
  rintro ⟨g, cap, cur, hv, hg, hc, rest⟩
  exact ⟨g, cap, cur, hv, hg, by rw [hb.block g (Array.getElem?_eq_some_iff.1 hc).1]; exact hc, rest⟩

set_option maxHeartbeats 1000000 in
theorem toAnswer_any (num : Int) (ok : Bool) (fs : List EdgeV) (ls : List Int) (n : Nat) (a : Option Addr) (cap : Nat) (hn : n ≤ 1048576) (m : Nat) (a' : Option Addr) (cap' : Nat) (hm : m ≤ 1048576) (w : World) (hfs : Es w w.heap.size a n fs) (hls : Is w w.heap.size a' m ls) :
    Calls Try.prog 31 #[ansV num ok a n cap a' m cap'] w fun e w' => ∃ g g', e = .returned (ansV num ok (some ⟨g, 0, none⟩) n n (some ⟨g', 0, none⟩) m m) ∧ w'.ownsRow w.heap.size 78 2 (.slice (some ⟨g, 0, none⟩) n n) n (ecells fs) ∧ w'.ownsRow w.heap.size 3 1 (.slice (some ⟨g', 0, none⟩) m m) m (ic ls) ∧ Below w.heap.size w w' := by
  unfold ansV
  have hb3 := bel3 w (.cells #[.int .i64 num, .bool ok, .slice a n cap, .slice a' m cap'] 55) (.cells #[.int .i64 0, .bool false, .slice none 0 0, .slice none 0 0] 37) (.cells #[.int .i64 num, .bool ok, .slice none 0 0, .slice none 0 0] 37)
  have HT := hideIt (toEdgeS_any fs n a cap hn _ (hfs.up hb3))
  have HI : Hid (∀ W, Below w.heap.size w W → Calls Try.prog 73 #[.slice a' m cap'] W fun e w' => ∃ g, e = .returned (.slice (some ⟨g, 0, none⟩) m m) ∧ w'.ownsRow W.heap.size 3 1 (.slice (some ⟨g, 0, none⟩) m m) m (ic ls) ∧ Below W.heap.size W w') := fun W hW => toIntS_any ls m a' cap' hm W (hls.up hW)
  have HB3 := hideIt hb3
  clear hfs hls hb3
  go_enter Try.func31, Try.ntmps31
  go_wp2_with (go_at_call 70; refine HT.out.mono ?_; rintro e w1 ⟨g, rfl, hown, hb1⟩; refine Hid.out ?_)
  refine (show ∀ {p : Prop}, p → Hid p from fun h => h) ?_
  obtain ⟨hc, hf⟩ := bcell hb1
  have hgl := hown.lt g rfl
  have hz := hb1.size
  simp at hz hgl
  have hB1 := HB3.out.trans (hb1.mono (by simp; omega))
  have hx : w1.heap[w.heap.size]? = some (.cells #[.int .i64 num, .bool ok, .slice a n cap, .slice a' m cap'] 55 (0, 0)) := by
    rw [hb1.block _ (by simp; omega), Below.heap_alloc _ _ _ (by simp; omega), Below.heap_alloc _ _ _ (by simp)]
    exact heap_alloc_new w _
  have x0 : w1.cell? ⟨w.heap.size, 3, none⟩ = some (.slice a' m cap') := by rw [cell_of_row w1 _ 3 _ _ _ hx]; rfl
  have hB2 : Below w.heap.size w (w1.setCell ⟨w.heap.size + 1 + 1, 2, none⟩ (.slice (some ⟨g, 0, none⟩) n n)) := hB1.setCell (by simp; omega) _
  have hb2 : w1.heap[w.heap.size + 1 + 1]? = some (.cells #[.int .i64 num, .bool ok, .slice none 0 0, .slice none 0 0] 37 (0, 0)) := by
    rw [hb1.block _ (by simp)]
    have := heap_alloc_new ((w.alloc (.cells #[.int .i64 num, .bool ok, .slice a n cap, .slice a' m cap'] 55)).alloc (.cells #[.int .i64 0, .bool false, .slice none 0 0, .slice none 0 0] 37)) (.cells #[.int .i64 num, .bool ok, .slice none 0 0, .slice none 0 0] 37)
    simpa using this
  have hr2 : w1.heap[w.heap.size + 1]? = some (.cells #[.int .i64 0, .bool false, .slice none 0 0, .slice none 0 0] 37 (0, 0)) := by
    rw [hb1.block _ (by simp), Below.heap_alloc _ _ _ (by simp)]
    have := heap_alloc_new (w.alloc (.cells #[.int .i64 num, .bool ok, .slice a n cap, .slice a' m cap'] 55)) (.cells #[.int .i64 0, .bool false, .slice none 0 0, .slice none 0 0] 37)
    simpa using this
  have y2 : w1.cell? ⟨w.heap.size + 1 + 1, 2, none⟩ = some (.slice none 0 0) := by rw [cell_of_row w1 _ 2 _ _ _ hb2]; rfl
  have z2 : w1.frozen? ⟨w.heap.size + 1 + 1, 2, none⟩ = false := frozen_of_row w1 _ 2 _ _ hb2
  have hown2 := own_block (W := w1.setCell ⟨w.heap.size + 1 + 1, 2, none⟩ (.slice (some ⟨g, 0, none⟩) n n)) hown (fun q hq _ => heap_setCell_other _ _ _ _ (by simp at hq ⊢; omega))
  have hb22 : (w1.setCell ⟨w.heap.size + 1 + 1, 2, none⟩ (.slice (some ⟨g, 0, none⟩) n n)).heap[w.heap.size + 1 + 1]? = some (.cells #[.int .i64 num, .bool ok, .slice (some ⟨g, 0, none⟩) n n, .slice none 0 0] 37 (0, 0)) := by
    rw [heap_setCell_same w1 _ 2 _ _ _ hb2]; rfl
  have hr22 : (w1.setCell ⟨w.heap.size + 1 + 1, 2, none⟩ (.slice (some ⟨g, 0, none⟩) n n)).heap[w.heap.size + 1]? = some (.cells #[.int .i64 0, .bool false, .slice none 0 0, .slice none 0 0] 37 (0, 0)) := by
    rw [heap_setCell_other _ _ _ _ (by simp)]; exact hr2
  have HW2 := hideIt hown2
  have HB2 := hideIt hB2
  have Hb22 := hideIt hb22
  have Hr22 := hideIt hr22
  have hz2 : (w1.setCell ⟨w.heap.size + 1 + 1, 2, none⟩ (.slice (some ⟨g, 0, none⟩) n n)).heap.size = w1.heap.size := by simp [World.setCell]
  clear hc hf hown hb1 HT hB1 hb2 hr2 hx hown2 hB2 hb22 hr22
  go_wp2_with (go_at_call 73; refine (HI.out _ HB2.out).mono ?_; rintro e w2 ⟨g', rfl, hown', hb2⟩; refine Hid.out ?_)
  refine (show ∀ {p : Prop}, p → Hid p from fun h => h) ?_
  have hbx : w2.heap[w.heap.size + 1 + 1]? = some (.cells #[.int .i64 num, .bool ok, .slice (some ⟨g, 0, none⟩) n n, .slice none 0 0] 37 (0, 0)) := by
    rw [hb2.block _ (by rw [hz2]; omega)]; exact Hb22.out
  have hrx : w2.heap[w.heap.size + 1]? = some (.cells #[.int .i64 0, .bool false, .slice none 0 0, .slice none 0 0] 37 (0, 0)) := by
    rw [hb2.block _ (by rw [hz2]; omega)]; exact Hr22.out
  have e0 : w2.cell? ⟨w.heap.size + 1 + 1, 0, none⟩ = some (.int .i64 num) := by rw [cell_of_row w2 _ 0 _ _ _ hbx]; rfl
  have e1 : w2.cell? ⟨w.heap.size + 1 + 1, 1, none⟩ = some (.bool ok) := by rw [cell_of_row w2 _ 1 _ _ _ hbx]; rfl
  have e2 : w2.cell? ⟨w.heap.size + 1 + 1, 2, none⟩ = some (.slice (some ⟨g, 0, none⟩) n n) := by rw [cell_of_row w2 _ 2 _ _ _ hbx]; rfl
  have e3 : w2.cell? ⟨w.heap.size + 1 + 1, 3, none⟩ = some (.slice none 0 0) := by rw [cell_of_row w2 _ 3 _ _ _ hbx]; rfl
  have fz : w2.frozen? ⟨w.heap.size + 1 + 1, 3, none⟩ = false := frozen_of_row w2 _ 3 _ _ hbx
  have r0 : w2.cell? ⟨w.heap.size + 1, 0, none⟩ = some (.int .i64 0) := by rw [cell_of_row w2 _ 0 _ _ _ hrx]; rfl
  have r1 : w2.cell? ⟨w.heap.size + 1, 1, none⟩ = some (.bool false) := by rw [cell_of_row w2 _ 1 _ _ _ hrx]; rfl
  have r2 : w2.cell? ⟨w.heap.size + 1, 2, none⟩ = some (.slice none 0 0) := by rw [cell_of_row w2 _ 2 _ _ _ hrx]; rfl
  have r3 : w2.cell? ⟨w.heap.size + 1, 3, none⟩ = some (.slice none 0 0) := by rw [cell_of_row w2 _ 3 _ _ _ hrx]; rfl
  have s0 := frozen_of_row w2 _ 0 _ _ hrx
  have s1 := frozen_of_row w2 _ 1 _ _ hrx
  have s2 := frozen_of_row w2 _ 2 _ _ hrx
  have s3 := frozen_of_row w2 _ 3 _ _ hrx
  have HBx := hideIt (HB2.out.trans (hb2.mono HB2.out.size))
  have HOx := hideIt (own_up10 HW2.out hb2)
  have HIx := hideIt hown'
  clear hbx hrx hown' hb2 HW2 HB2 Hb22 Hr22 HI
  go_wp2
  refine bodyPost_ret (v := .agg #[.int .i64 num, .bool ok, .slice (some ⟨g, 0, none⟩) n n, .slice (some ⟨g', 0, none⟩) m m]) (by simp [results, Try.results31, go_sem, r0, r1, r2, r3]) rfl ⟨g, g', rfl, ?_, ?_, ?_⟩
  · refine own_mono (B := w.heap.size + 1 + 1 + 1) ?_ (by omega)
    have H0 : w2.ownsRow (w.heap.size + 1 + 1 + 1) 78 2 (.slice (some ⟨g, 0, none⟩) n n) n (ecells fs) := by have := HOx.out; simpa using this
    repeat refine own_setOther ?_ _ _ _ (by omega)
    exact H0
  · have hg' := (HIx.out.lt g' rfl).1
    rw [hz2] at hg'
    have H0 : w2.ownsRow w.heap.size 3 1 (.slice (some ⟨g', 0, none⟩) m m) m (ic ls) := own_mono HIx.out (by rw [hz2]; omega)
    repeat refine own_setOther ?_ _ _ _ (by omega)
    exact H0
  · have B3 := HBx.out
    repeat refine Below.setCell ?_ (by simp; try omega) _
    exact B3
end Go.Proofs.Ytkhhagjcmbbdpaa
namespace Go.Proofs.Ytkhhagjcmbbdpaa
open Go.RowKit Vt

theorem eqAnswer_same (num : Int) (ok : Bool) (fs : List EdgeV) (ls : List Int) (n : Nat) (a b : Option Addr) (c d : Nat) (hn : n ≤ 1048576) (m : Nat) (a' b' : Option Addr) (c' d' : Nat) (hm : m ≤ 1048576) (w : World)
    (h1 : Es w w.heap.size a n fs) (h2 : Es w w.heap.size b n fs) (h3 : Is w w.heap.size a' m ls) (h4 : Is w w.heap.size b' m ls) :
    Calls Try.prog 32 #[ansV num ok a n c a' m c', ansV num ok b n d b' m d'] w fun e w' => e = .returned (.bool true) ∧ Below w.heap.size w w' := by
  unfold ansV
  have B2 : Below w.heap.size w ((w.alloc (.cells #[.int .i64 num, .bool ok, .slice a n c, .slice a' m c'] 37)).alloc (.cells #[.int .i64 num, .bool ok, .slice b n d, .slice b' m d'] 37)) := (bel1 _ _).alloc (by simp) _
  have HT := hideIt (eqEdgeS_same fs n a b c d hn _ (h1.up B2) (h2.up B2))
  have HI : Hid (∀ W, Below w.heap.size w W → Calls Try.prog 74 #[.slice a' m c', .slice b' m d'] W fun e w' => e = .returned (.bool true) ∧ Below W.heap.size W w') := fun W hW => eqIntS_same ls m a' b' c' d' hm W (h3.up hW) (h4.up hW)
  have HB2 := hideIt B2
  have dr : (ok != ok) = false := by simp
  clear h1 h2 h3 h4 B2
  go_enter Try.func32, Try.ntmps32
  go_wp2_with (go_at_call 71; refine HT.out.mono ?_; rintro e w1 ⟨rfl, hb1⟩; refine Hid.out ?_)
  refine (show ∀ {p : Prop}, p → Hid p from fun h => h) ?_
  obtain ⟨hc, hf⟩ := bcell hb1
  have HB := hideIt (HB2.out.trans (hb1.mono (by simp; omega)))
  have q0 : w1.cell? ⟨w.heap.size, 3, none⟩ = some (.slice a' m c') := by rw [hc _ _ (by simp; omega)]; simp
  have q1 : w1.cell? ⟨w.heap.size + 1, 3, none⟩ = some (.slice b' m d') := by rw [hc _ _ (by simp)]; simp
  clear hc hf hb1 HT
  go_wp2_with (go_at_call 74; refine (HI.out _ HB.out).mono ?_; rintro e w2 ⟨rfl, hb2⟩)
  go_ret
  exact ⟨rfl, HB.out.trans (hb2.mono HB.out.size)⟩

/-- rows of different sorts lie in different blocks -/
theorem rows_ne {w : World} {B B' S S' n n' : Nat} {e e' : TypeId} {v v' : Value} {xs xs' : List Value} (h : w.ownsRow B e S v n xs) (h' : w.ownsRow B' e' S' v' n' xs') (hne : e ≠ e') (g : Nat) (hg : v.ownBlock = some g) : v'.ownBlock ≠ some g := by
  intro hg'
  rcases h.2 with ⟨rfl, _⟩ | ⟨q, cap, cur, rfl, _, hc, _⟩
  · simp [Value.ownBlock] at hg
  · rcases h'.2 with ⟨rfl, _⟩ | ⟨q', cap', cur', rfl, _, hc', _⟩
    · simp [Value.ownBlock] at hg'
    · simp [Value.ownBlock] at hg hg'
      subst hg hg'
      rw [hc] at hc'
      simp at hc'
      exact hne hc'.2

/-- edges are marked, or there are none -/
theorem markE_any {w : World} {base n c k0 : Nat} {a : Option Addr} {fs : List EdgeV} (hn : n ≤ 1048576) (hk : k0 ≤ 10000000) (h : w.ownsRow base 78 2 (.slice a n c) n (ecells fs)) :
    Calls Try.prog 78 #[.slice a n c, .int .i64 (k0 : Int)] w fun e w' => e = .returned (.int .i64 ((k0 : Int) + (n : Int) * 2)) ∧ w'.ownsRow base 78 2 (.slice a n c) n (ecells (marks k0 n)) ∧ w.grownBy w' ((Value.slice a n c).ownBlock) := by
  by_cases h0 : n = 0
  · subst h0
    refine (markEdgeS_zero a c k0 w).mono ?_
    rintro e v ⟨rfl, rfl⟩
    refine ⟨by simp, ?_, gr_refl _ _⟩
    have hl := h.1
    rw [ecells_length] at hl
    have : fs = [] := List.length_eq_zero_iff.1 (by omega)
    subst this
    exact h
  · rcases h.2 with ⟨_, h3⟩ | ⟨g, cap, cur, hv, hg, _⟩
    · omega
    · simp at hv
      obtain ⟨rfl, rfl⟩ := hv
      exact markEdgeS_any base g c n k0 fs hn hk w h
theorem markI_any {w : World} {base n c k0 : Nat} {a : Option Addr} {ls : List Int} (hn : n ≤ 1048576) (hk : k0 ≤ 10000000) (h : w.ownsRow base 3 1 (.slice a n c) n (ic ls)) :
    Calls Try.prog 81 #[.slice a n c, .int .i64 (k0 : Int)] w fun e w' => e = .returned (.int .i64 ((k0 : Int) + (n : Int))) ∧ w'.ownsRow base 3 1 (.slice a n c) n (ic (imarks k0 n)) ∧ w.grownBy w' ((Value.slice a n c).ownBlock) := by
  by_cases h0 : n = 0
  · subst h0
    refine (markIntS_zero a c k0 w).mono ?_
    rintro e v ⟨rfl, rfl⟩
    refine ⟨by simp, ?_, gr_refl _ _⟩
    have hl := h.1
    rw [ic_len] at hl
    have : ls = [] := List.length_eq_zero_iff.1 (by omega)
    subst this
    exact h
  · rcases h.2 with ⟨_, h3⟩ | ⟨g, cap, cur, hv, hg, _⟩
    · omega
    · simp at hv
      obtain ⟨rfl, rfl⟩ := hv
      exact markIntS_any base g c n k0 _ hn hk w h

/-- an answer that is ours: its box, its edges and its labels lie in blocks lo .. hi -/
structure ABox (u : World) (lo hi b : Nat) (num : Int) (ok : Bool) (a : Option Addr) (m c : Nat) (a' : Option Addr) (m' c' : Nat) (gs : List EdgeV) (ls : List Int) : Prop where
  box : u.heap[b]? = some (.cells (ac num ok a m c a' m' c') 37 (0, 0))
  own : u.ownsRow lo 78 2 (.slice a m c) m (ecells gs)
  own2 : u.ownsRow lo 3 1 (.slice a' m' c') m' (ic ls)
  least : lo ≤ b
  most : b < hi
  row : ∀ g, (Value.slice a m c).ownBlock = some g → g < b
  row2 : ∀ g, (Value.slice a' m' c').ownBlock = some g → g < b
  there : hi ≤ u.heap.size

section
variable {u v : World} {lo hi b l2 h2 : Nat} {num : Int} {ok : Bool} {a : Option Addr} {m c : Nat} {a' : Option Addr} {m' c' : Nat} {gs : List EdgeV} {ls : List Int}
theorem ABox.len (h : ABox u lo hi b num ok a m c a' m' c' gs ls) : gs.length = m ∧ ls.length = m' := by
  have h1 := h.own.1; have h3 := h.own2.1; rw [ecells_length] at h1; rw [ic_len] at h3; omega
theorem ABox.es (h : ABox u lo hi b num ok a m c a' m' c' gs ls) : Es u u.heap.size a m gs := Es_of_own h.own
theorem ABox.is (h : ABox u lo hi b num ok a m c a' m' c' gs ls) : Is u u.heap.size a' m' ls := Is_of_own h.own2
theorem ABox.rng (h : ABox u lo hi b num ok a m c a' m' c' gs ls) (hr : Rng l2 h2 u v) (ho : hi ≤ l2 ∨ h2 ≤ lo) : ABox v lo hi b num ok a m c a' m' c' gs ls := by
  have hth := h.there
  have hb := h.least
  have hb' := h.most
  have g1 : ∀ k, lo ≤ k → k < hi → v.heap[k]? = u.heap[k]? := fun k h3 h4 => hr.block k (by omega) (by omega)
  refine ⟨?_, ?_, ?_, hb, hb', h.row, h.row2, Nat.le_trans hth hr.size⟩
  · rw [g1 b hb hb']; exact h.box
  · refine ⟨h.own.1, ?_⟩
    rcases h.own.2 with h3 | ⟨g, cap, cur, hv, hg, hcur, hrest⟩
    · exact .inl h3
    · refine .inr ⟨g, cap, cur, hv, hg, ?_, hrest⟩
      rw [g1 g hg (by have := h.row g (by rw [hv]; rfl); omega)]
      exact hcur
  · refine ⟨h.own2.1, ?_⟩
    rcases h.own2.2 with h3 | ⟨g, cap, cur, hv, hg, hcur, hrest⟩
    · exact .inl h3
    · refine .inr ⟨g, cap, cur, hv, hg, ?_, hrest⟩
      rw [g1 g hg (by have := h.row2 g (by rw [hv]; rfl); omega)]
      exact hcur
theorem ABox.up (h : ABox u lo hi b num ok a m c a' m' c' gs ls) (hb : Below u.heap.size u v) : ABox v lo hi b num ok a m c a' m' c' gs ls :=
  h.rng (l2 := hi) (h2 := hi) (Rng.of_below hb) (.inl (Nat.le_refl _))
theorem ABox.cells (h : ABox u lo hi b num ok a m c a' m' c' gs ls) : u.cell? ⟨b, 0, none⟩ = some (.int .i64 num) ∧ u.cell? ⟨b, 1, none⟩ = some (.bool ok) ∧ u.cell? ⟨b, 2, none⟩ = some (.slice a m c) ∧ u.cell? ⟨b, 3, none⟩ = some (.slice a' m' c') :=
  ⟨by rw [cell_of_row u b 0 _ _ _ h.box]; rfl, by rw [cell_of_row u b 1 _ _ _ h.box]; rfl, by rw [cell_of_row u b 2 _ _ _ h.box]; rfl, by rw [cell_of_row u b 3 _ _ _ h.box]; rfl⟩
theorem ABox.laid (hl : lo ≤ u.heap.size) (ho : u.ownsRow lo 78 2 (.slice a m c) m (ecells gs)) (ho2 : u.ownsRow lo 3 1 (.slice a' m' c') m' (ic ls)) :
    ABox (u.alloc (.cells (ac num ok a m c a' m' c') 37)) lo (u.heap.size + 1) u.heap.size num ok a m c a' m' c' gs ls :=
  ⟨heap_alloc_new u _, ho.alloc _, ho2.alloc _, hl, by omega, fun g hg => (ho.lt g hg).2, fun g hg => (ho2.lt g hg).2, by simp⟩

theorem gr_rng {w w' : World} {row : Option Nat} {lo b : Nat} (h : w.grownBy w' row) (h1 : ∀ g, row = some g → lo ≤ g ∧ g < b) : Rng lo b w w' :=
  ⟨h.os, h.tape, h.output, h.size, fun k hk ho => h.block k hk (fun e => by have := h1 k e.symm; omega)⟩
theorem Rng.trans {u v x : World} {lo b : Nat} (h : Rng lo b u v) (k : Rng lo b v x) : Rng lo b u x :=
  ⟨k.os.trans h.os, k.tape.trans h.tape, k.output.trans h.output, Nat.le_trans h.size k.size, fun i hi ho => (k.block i (Nat.lt_of_lt_of_le hi h.size) ho).trans (h.block i hi ho)⟩

theorem own_kept {w w' : World} {B e s n : Nat} {v : Value} {xs : List Value} {row : Option Nat} (h : w.ownsRow B e s v n xs) (hg : w.grownBy w' row) (hne : ∀ g, row = some g → v.ownBlock ≠ some g) : w'.ownsRow B e s v n xs :=
  h.kept hg (by
    cases row with
    | none => cases hv : v.ownBlock <;> simp
    | some g => exact .inr (hne g rfl))

set_option maxHeartbeats 1000000 in
/-- it is marked -/
theorem ABox.mark (h : ABox u lo hi b num ok a m c a' m' c' gs ls) (k0 : Nat) (hm : m ≤ 100000) (hm' : m' ≤ 100000) (h1 : k0 ≤ 100000) :
    Calls Try.prog 37 #[ansV num ok a m c a' m' c', .int .i64 (k0 : Int)] u fun e v => e = .returned (.int .i64 ((k0 : Int) + (m : Int) * 2 + (m' : Int))) ∧ ABox v lo hi b num ok a m c a' m' c' (marks k0 m) (imarks (k0 + m * 2) m') ∧ Rng lo b u v := by
  unfold ansV
  have hth := h.there
  have hbm := h.most
  have HE := hideIt (markE_any (by omega) (by omega) (h.own.alloc (.cells #[.int .i64 num, .bool ok, .slice a m c, .slice a' m' c'] 37)) (k0 := k0))
  have HI : Hid (∀ W : World, W.ownsRow lo 3 1 (.slice a' m' c') m' (ic ls) → Calls Try.prog 81 #[.slice a' m' c', .int .i64 ((k0 : Int) + (m : Int) * 2)] W fun e w' => e = .returned (.int .i64 ((k0 : Int) + (m : Int) * 2 + (m' : Int))) ∧ w'.ownsRow lo 3 1 (.slice a' m' c') m' (ic (imarks (k0 + m * 2) m')) ∧ W.grownBy w' ((Value.slice a' m' c').ownBlock)) := fun W hW => by
    have := markI_any (k0 := k0 + m * 2) (by omega) (by omega) hW
    simpa using this
  have HA := hideIt h
  clear h
  go_enter Try.func37, Try.ntmps37
  go_wp2_with (go_at_call 78; refine HE.out.mono ?_; rintro e w1 ⟨rfl, o1, g1⟩; refine Hid.out ?_)
  refine (show ∀ {p : Prop}, p → Hid p from fun h => h) ?_
  have hq : w1.heap[u.heap.size]? = some (.cells #[.int .i64 num, .bool ok, .slice a m c, .slice a' m' c'] 37 (0, 0)) := by
    rw [g1.block _ (by simp) (fun e => by have := HA.out.row _ e.symm; omega)]
    exact heap_alloc_new u _
  have q3 : w1.cell? ⟨u.heap.size, 3, none⟩ = some (.slice a' m' c') := by rw [cell_of_row w1 _ 3 _ _ _ hq]; rfl
  have o2 : w1.ownsRow lo 3 1 (.slice a' m' c') m' (ic ls) := own_kept (HA.out.own2.alloc _) g1 (fun g hg => rows_ne HA.out.own HA.out.own2 (by decide) g hg)
  have HO1 := hideIt o1
  have HO2 := hideIt o2
  have HG1 := hideIt (gr_trans (World.grownBy_alloc u (.cells #[.int .i64 num, .bool ok, .slice a m c, .slice a' m' c'] 37) _) g1)
  clear o1 o2 g1 hq HE
  go_wp2_with (go_at_call 81; refine (HI.out _ HO2.out).mono ?_; rintro e w2 ⟨rfl, o3, g2⟩)
  go_ret
  refine ⟨rfl, ⟨?_, ?_, o3, HA.out.least, hbm, HA.out.row, HA.out.row2, Nat.le_trans hth (Nat.le_trans HG1.out.size g2.size)⟩, ?_⟩
  · rw [g2.block b (by have := HG1.out.size; omega) (fun e => by have := HA.out.row2 _ e.symm; omega), HG1.out.block b (by omega) (fun e => by have := HA.out.row _ e.symm; omega)]
    exact HA.out.box
  · exact own_kept HO1.out g2 (fun g hg => rows_ne HO2.out HO1.out (by decide) g hg)
  · refine (gr_rng HG1.out (fun g hg => ⟨(HA.out.own.lt g hg).1, HA.out.row g hg⟩)).trans (gr_rng g2 (fun g hg => ⟨(HA.out.own2.lt g hg).1, HA.out.row2 g hg⟩))

theorem ABox.held (k0 : Nat) (h : ABox u lo hi b num ok a m c a' m' c' (marks k0 m) (imarks (k0 + m * 2) m')) (hm : m ≤ 100000) (hm' : m' ≤ 100000) (h1 : k0 ≤ 100000) :
    Calls Try.prog 38 #[ansV num ok a m c a' m' c', .int .i64 (k0 : Int)] u fun e v => e = .returned (.int .i64 ((k0 : Int) + (m : Int) * 2 + (m' : Int))) ∧ Below u.heap.size u v := by
  unfold ansV
  have HE := hideIt (heldEdgeS_any m k0 a c (by omega) (by omega) (u.alloc (.cells #[.int .i64 num, .bool ok, .slice a m c, .slice a' m' c'] 37)) (h.es.up (bel1 _ _)))
  have HI := hideIt (heldIntS_any m' (k0 + m * 2) a' c' (by omega) (by omega) (u.alloc (.cells #[.int .i64 num, .bool ok, .slice a m c, .slice a' m' c'] 37)) (h.is.up (bel1 _ _)))
  have ek : ((k0 + m * 2 : Nat) : Int) = (k0 : Int) + (m : Int) * 2 := by omega
  rw [ek] at HI
  have d1 : decide ((k0 : Int) + (m : Int) * 2 < 0) = false := decide_eq_false (by omega)
  have d2 : decide ((k0 : Int) + (m : Int) * 2 + (m' : Int) < 0) = false := decide_eq_false (by omega)
  clear h ek
  go_enter Try.func38, Try.ntmps38
  go_wp2_with (first | (go_at_call 79; refine HE.out.mono ?_; rintro e w1 ⟨rfl, rfl⟩) | (go_at_call 82; refine HI.out.mono ?_; rintro e w1 ⟨rfl, rfl⟩))
  go_ret
  exact ⟨rfl, bel1 _ _⟩
theorem ABox.eq {lo' hi' b' : Nat} {d : Option Addr} {n e : Nat} {d' : Option Addr} {n' e' : Nat} (h : ABox u lo hi b num ok a m c a' m' c' gs ls) (h' : ABox u lo' hi' b' num ok d n e d' n' e' gs ls) (hm : m ≤ 1048576) (hm' : m' ≤ 1048576) :
    Calls Try.prog 32 #[ansV num ok a m c a' m' c', ansV num ok d n e d' n' e'] u fun e v => e = .returned (.bool true) ∧ Below u.heap.size u v := by
  have e1 : n = m := by rw [← h.len.1, ← h'.len.1]
  have e2 : n' = m' := by rw [← h.len.2, ← h'.len.2]
  subst e1 e2
  exact eqAnswer_same num ok gs ls n a d c e hm n' a' d' c' e' hm' u h.es h'.es h.is h'.is
end
end Go.Proofs.Ytkhhagjcmbbdpaa
namespace Go.Proofs.Ytkhhagjcmbbdpaa
open Go.RowKit Vt

/-- the world behind the law's boxes -/
def lwAnswerOk (w : World) (num : Int) (ok : Bool) (a : Option Addr) (m c : Nat) (a' : Option Addr) (m' c' : Nat) : World := w.alloc (.cells #[.int .i64 num, .bool ok, .slice a m c, .slice a' m' c'] 55)
set_option maxRecDepth 100000 in
set_option maxHeartbeats 4000000 in
theorem fnExactAnswerOk.walk (n : Int) (_hn : (Lit.int .i64 n).wf = true) (num : Int) (ok : Bool) (fs : List EdgeV) (ls : List Int) (m : Nat) (a : Option Addr) (c : Nat) (hm : m ≤ maxLen) (m' : Nat) (a' : Option Addr) (c' : Nat) (hm' : m' ≤ maxLen) (w : World) (h : Es w w.heap.size a m fs) (h' : Is w w.heap.size a' m' ls) :
    Calls Try.prog 5 #[.int .i64 n, .agg #[.int .i64 num, .bool ok, .slice a m c, .slice a' m' c']] w fun e w' => e = .returned (.bool true) ∧ Below w.heap.size w w' := by
  have bel : Below w.heap.size w (lwAnswerOk w num ok a m c a' m' c') := (Below.refl _ _).alloc (Nat.le_refl _) _
  have hsz : (lwAnswerOk w num ok a m c a' m' c').heap.size = w.heap.size + 1 := by simp [lwAnswerOk]
  have fA : Es (lwAnswerOk w num ok a m c a' m' c') (lwAnswerOk w num ok a m c a' m' c').heap.size a m fs := h.up bel
  have fB : Is (lwAnswerOk w num ok a m c a' m' c') (lwAnswerOk w num ok a m c a' m' c').heap.size a' m' ls := h'.up bel
  have q0 : (lwAnswerOk w num ok a m c a' m' c').cell? ⟨w.heap.size, 0, none⟩ = some (.int .i64 num) := by simp [lwAnswerOk, go_sem]
  have q1 : (lwAnswerOk w num ok a m c a' m' c').cell? ⟨w.heap.size, 1, none⟩ = some (.bool ok) := by simp [lwAnswerOk, go_sem]
  have q2 : (lwAnswerOk w num ok a m c a' m' c').cell? ⟨w.heap.size, 2, none⟩ = some (.slice a m c) := by simp [lwAnswerOk, go_sem]
  have q3 : (lwAnswerOk w num ok a m c a' m' c').cell? ⟨w.heap.size, 3, none⟩ = some (.slice a' m' c') := by simp [lwAnswerOk, go_sem]
  have HZ : Hid (∀ u, Good (lwAnswerOk w num ok a m c a' m' c') u → Below w.heap.size w u) := fun u hu => bel.trans (Below.mono hu (by omega))
  have HK : Hid (∀ u, Good (lwAnswerOk w num ok a m c a' m' c') u → (u.cell? ⟨w.heap.size, 0, none⟩ = some (.int .i64 num) ∧ u.cell? ⟨w.heap.size, 1, none⟩ = some (.bool ok) ∧ u.cell? ⟨w.heap.size, 2, none⟩ = some (.slice a m c) ∧ u.cell? ⟨w.heap.size, 3, none⟩ = some (.slice a' m' c'))) := fun u hu =>
    ⟨by rw [hu.cell (by omega)]; exact q0, by rw [hu.cell (by omega)]; exact q1, by rw [hu.cell (by omega)]; exact q2, by rw [hu.cell (by omega)]; exact q3⟩
  have HSZ : Hid (∀ u, Good (lwAnswerOk w num ok a m c a' m' c') u → Calls Try.prog 30 #[.agg #[.int .i64 num, .bool ok, .slice a m c, .slice a' m' c'], .int .i64 1048576] u fun e v => e = .returned (.int .i64 (szA m m')) ∧ Good (lwAnswerOk w num ok a m c a' m' c') v) := fun u hu =>
    (szAnswer_any num ok m a c hm m' a' c' hm' u).mono fun _ _ ⟨he, hb⟩ => ⟨he, hu.up hb⟩
  unfold szA at HSZ
  by_cases g0 : m + m' ≤ 1048576
  · rw [if_pos g0] at HSZ
    have g : m ≤ 1048576 := by omega
    have g' : m' ≤ 1048576 := by omega
    have HT : Hid (∀ u, Good (lwAnswerOk w num ok a m c a' m' c') u → Calls Try.prog 31 #[.agg #[.int .i64 num, .bool ok, .slice a m c, .slice a' m' c']] u fun e v => ∃ g h, e = .returned (.agg #[.int .i64 num, .bool ok, .slice (some ⟨g, 0, none⟩) m m, .slice (some ⟨h, 0, none⟩) m' m']) ∧ (Es v v.heap.size (some ⟨g, 0, none⟩) m fs ∧ Is v v.heap.size (some ⟨h, 0, none⟩) m' ls) ∧ Good (lwAnswerOk w num ok a m c a' m' c') v ∧ Below u.heap.size u v) := fun u hu =>
      (toAnswer_any num ok fs ls m a c g m' a' c' g' u (fA.up hu) (fB.up hu)).mono fun _ _ ⟨g, h, he, ho, ho2, hb⟩ => ⟨g, h, he, ⟨Es_of_own ho, Is_of_own ho2⟩, hu.up hb, hb⟩
    have HS : Hid (∀ u b d, Good (lwAnswerOk w num ok a m c a' m' c') u → (Es u u.heap.size (some ⟨b, 0, none⟩) m fs ∧ Is u u.heap.size (some ⟨d, 0, none⟩) m' ls) → Calls Try.prog 20 #[.int .i64 n, .agg #[.int .i64 num, .bool ok, .slice (some ⟨b, 0, none⟩) m m, .slice (some ⟨d, 0, none⟩) m' m']] u fun e v => e = .returned (.bool (aB n ⟨num, ok, fs, ls⟩)) ∧ Good (lwAnswerOk w num ok a m c a' m' c') v) := fun u b d hu hf =>
      (sAnswerOk_any n num ok fs ls m _ m g m' _ m' g' u hf.1 hf.2).mono fun _ _ ⟨he, hb⟩ => ⟨he, hu.up hb⟩
    have HI : Hid (∀ u b d, Good (lwAnswerOk w num ok a m c a' m' c') u → (Es u u.heap.size (some ⟨b, 0, none⟩) m fs ∧ Is u u.heap.size (some ⟨d, 0, none⟩) m' ls) → Calls Try.prog 21 #[.int .i64 n, .agg #[.int .i64 num, .bool ok, .slice (some ⟨b, 0, none⟩) m m, .slice (some ⟨d, 0, none⟩) m' m']] u fun e v => e = .returned (.bool (aB n ⟨num, ok, fs, ls⟩)) ∧ Below u.heap.size u v) := fun u b d hu hf =>
      (iAnswerOk_any n num ok fs ls m _ m g m' _ m' g' u hf.1 hf.2)
    have d1 : decide (1048576 - (m : Int) - (m' : Int) < 0) = false := decide_eq_false (by omega)
    have S1 := Good.refl (lwAnswerOk w num ok a m c a' m' c')
    have ZL : Hid (w.heap.size < (lwAnswerOk w num ok a m c a' m' c').heap.size) := by show _ < _; omega
    clear bel fA fB h h' hsz q0 q1 q2 q3
    generalize (aB n ⟨num, ok, fs, ls⟩) = r at HS HI
    have dr : (r != r) = false := by simp
    go_enter Try.func5, Try.ntmps5
    go_wp2_with (go_at_call 30; refine (HSZ.out _ S1).mono ?_; rintro e w2 ⟨rfl, S2⟩; refine Hid.out ?_)
    refine (show ∀ {p : Prop}, p → Hid p from fun h => h) ?_
    obtain ⟨k0, k1, k2, k3⟩ := HK.out _ S2
    go_wp2_with (go_at_call 31; refine (HT.out _ S2).mono ?_; rintro e w3 ⟨g3, h3, rfl, f3, S3, b3⟩; refine Hid.out ?_)
    refine (show ∀ {p : Prop}, p → Hid p from fun h => h) ?_
    clear k0 k1 k2 k3
    go_wp2_with (go_at_call 20; refine (HS.out _ g3 h3 S3 f3).mono ?_; rintro e w4 ⟨rfl, S4⟩; refine Hid.out ?_)
    refine (show ∀ {p : Prop}, p → Hid p from fun h => h) ?_
    obtain ⟨k0, k1, k2, k3⟩ := HK.out _ S4
    clear f3 b3 S3
    go_wp2_with (go_at_call 31; refine (HT.out _ S4).mono ?_; rintro e w5 ⟨g5, h5, rfl, f5, S5, b5⟩; refine Hid.out ?_)
    refine (show ∀ {p : Prop}, p → Hid p from fun h => h) ?_
    clear k0 k1 k2 k3
    have S6 : Good (lwAnswerOk w num ok a m c a' m' c') (w5.alloc (.cells #[.int .i64 num, .bool ok, .slice (some ⟨g5, 0, none⟩) m m, .slice (some ⟨h5, 0, none⟩) m' m'] 37)) := S5.alloc _
    have f6 : Es (w5.alloc (.cells #[.int .i64 num, .bool ok, .slice (some ⟨g5, 0, none⟩) m m, .slice (some ⟨h5, 0, none⟩) m' m'] 37)) (w5.alloc (.cells #[.int .i64 num, .bool ok, .slice (some ⟨g5, 0, none⟩) m m, .slice (some ⟨h5, 0, none⟩) m' m'] 37)).heap.size (some ⟨g5, 0, none⟩) m fs ∧ Is (w5.alloc (.cells #[.int .i64 num, .bool ok, .slice (some ⟨g5, 0, none⟩) m m, .slice (some ⟨h5, 0, none⟩) m' m'] 37)) (w5.alloc (.cells #[.int .i64 num, .bool ok, .slice (some ⟨g5, 0, none⟩) m m, .slice (some ⟨h5, 0, none⟩) m' m'] 37)).heap.size (some ⟨h5, 0, none⟩) m' ls := ⟨(f5.1.alloc (Nat.le_refl _) _).mono (by simp), f5.2.alloc _⟩
    go_wp2_with (go_at_call 21; refine (HI.out _ g5 h5 S6 f6).mono ?_; rintro e w7 ⟨rfl, b7⟩; refine Hid.out ?_)
    refine (show ∀ {p : Prop}, p → Hid p from fun h => h) ?_
    have S7 : Good (lwAnswerOk w num ok a m c a' m' c') w7 := S6.up b7
    have x0 : w7.cell? ⟨w5.heap.size, 0, none⟩ = some (.int .i64 num) := by rw [b7.cell (by simp)]; simp
    have x1 : w7.cell? ⟨w5.heap.size, 1, none⟩ = some (.bool ok) := by rw [b7.cell (by simp)]; simp
    have x2 : w7.cell? ⟨w5.heap.size, 2, none⟩ = some (.slice (some ⟨g5, 0, none⟩) m m) := by rw [b7.cell (by simp)]; simp
    have x3 : w7.cell? ⟨w5.heap.size, 3, none⟩ = some (.slice (some ⟨h5, 0, none⟩) m' m') := by rw [b7.cell (by simp)]; simp
    have z7 : w5.heap.size < w7.heap.size := by have := b7.size; simp at this; omega
    have y7 : w.heap.size < w7.heap.size := Nat.lt_of_lt_of_le ZL.out S7.size
    obtain ⟨k0, k1, k2, k3⟩ := HK.out _ S7
    have f7 := hideIt (show _ ∧ _ from ⟨f6.1.up b7, f6.2.up b7⟩)
    have S8 : Good w7 w7.drew := (Good.refl w7).drew
    have HT8 : Hid (∀ u, Good w7 u → Calls Try.prog 31 #[.agg #[.int .i64 num, .bool ok, .slice a m c, .slice a' m' c']] u fun e v => ∃ g h, e = .returned (.agg #[.int .i64 num, .bool ok, .slice (some ⟨g, 0, none⟩) m m, .slice (some ⟨h, 0, none⟩) m' m']) ∧ (Es v v.heap.size (some ⟨g, 0, none⟩) m fs ∧ Is v v.heap.size (some ⟨h, 0, none⟩) m' ls) ∧ Good w7 v) := fun u hu =>
      (HT.out u (S7.up hu)).mono fun _ _ ⟨g, h, he, hf, _, hb⟩ => ⟨g, h, he, hf, hu.up hb⟩
    have HE8 : Hid (∀ u g' h', Good w7 u → (Es u u.heap.size (some ⟨g', 0, none⟩) m fs ∧ Is u u.heap.size (some ⟨h', 0, none⟩) m' ls) → Calls Try.prog 32 #[.agg #[.int .i64 num, .bool ok, .slice (some ⟨g5, 0, none⟩) m m, .slice (some ⟨h5, 0, none⟩) m' m'], .agg #[.int .i64 num, .bool ok, .slice (some ⟨g', 0, none⟩) m m, .slice (some ⟨h', 0, none⟩) m' m']] u fun e v => e = .returned (.bool true) ∧ Good w7 v) := fun u g' h' hu hf =>
      (eqAnswer_same num ok fs ls m _ _ m m g m' _ _ m' m' (by omega) u (f7.out.1.up hu) hf.1 (f7.out.2.up hu) hf.2).mono fun _ _ ⟨he, hb⟩ => ⟨he, hu.up hb⟩
    have HK8 : Hid (∀ u, Good w7 u → (u.cell? ⟨w.heap.size, 0, none⟩ = some (.int .i64 num) ∧ u.cell? ⟨w.heap.size, 1, none⟩ = some (.bool ok) ∧ u.cell? ⟨w.heap.size, 2, none⟩ = some (.slice a m c) ∧ u.cell? ⟨w.heap.size, 3, none⟩ = some (.slice a' m' c')) ∧ (u.cell? ⟨w5.heap.size, 0, none⟩ = some (.int .i64 num) ∧ u.cell? ⟨w5.heap.size, 1, none⟩ = some (.bool ok) ∧ u.cell? ⟨w5.heap.size, 2, none⟩ = some (.slice (some ⟨g5, 0, none⟩) m m) ∧ u.cell? ⟨w5.heap.size, 3, none⟩ = some (.slice (some ⟨h5, 0, none⟩) m' m'))) := fun u hu =>
      ⟨⟨by rw [hu.cell y7]; exact k0, by rw [hu.cell y7]; exact k1, by rw [hu.cell y7]; exact k2, by rw [hu.cell y7]; exact k3⟩, by rw [hu.cell z7]; exact x0, by rw [hu.cell z7]; exact x1, by rw [hu.cell z7]; exact x2, by rw [hu.cell z7]; exact x3⟩
    have S7z := hideIt (HZ.out _ S7)
    have y8 := hideIt (show w.heap.size ≤ w7.heap.size by omega)
    clear f5 f6 b5 b7 S6 S5 S4 S2 S1
    go_wp2
    go_region_held3 (fun u => Good w7 u ∧ (u.cell? ⟨w.heap.size, 0, none⟩ = some (.int .i64 num) ∧ u.cell? ⟨w.heap.size, 1, none⟩ = some (.bool ok) ∧ u.cell? ⟨w.heap.size, 2, none⟩ = some (.slice a m c) ∧ u.cell? ⟨w.heap.size, 3, none⟩ = some (.slice a' m' c')) ∧ (u.cell? ⟨w5.heap.size, 0, none⟩ = some (.int .i64 num) ∧ u.cell? ⟨w5.heap.size, 1, none⟩ = some (.bool ok) ∧ u.cell? ⟨w5.heap.size, 2, none⟩ = some (.slice (some ⟨g5, 0, none⟩) m m) ∧ u.cell? ⟨w5.heap.size, 3, none⟩ = some (.slice (some ⟨h5, 0, none⟩) m' m')))
      (first | exact ⟨S10, HK8.out _ S10⟩ | exact ⟨S9, HK8.out _ S9⟩ | exact ⟨S8, HK8.out _ S8⟩)
      (first | (go_at_call 31; refine (HT8.out _ S8).mono ?_; rintro e w9 ⟨g9, h9, rfl, f9, S9⟩) | (go_at_call 32; refine (HE8.out _ _ _ S9 f9).mono ?_; rintro e w10 ⟨rfl, S10⟩))
    all_goals
      go_wp2
      go_ret
      exact ⟨rfl, S7z.out.trans (Below.mono S10 y8.out)⟩
  · rw [if_neg g0] at HSZ
    have S1 := Good.refl (lwAnswerOk w num ok a m c a' m' c')
    clear bel fA fB h h' hsz q0 q1 q2 q3
    go_enter Try.func5, Try.ntmps5
    go_wp2_with (go_at_call 30; refine (HSZ.out _ S1).mono ?_; rintro e w2 ⟨rfl, S2⟩; refine Hid.out ?_)
    refine (show ∀ {p : Prop}, p → Hid p from fun h => h) ?_
    go_wp2
    go_ret
    exact ⟨rfl, HZ.out _ S2⟩
end Go.Proofs.Ytkhhagjcmbbdpaa
namespace Go.Proofs.Ytkhhagjcmbbdpaa
open Go.ChangeShapes Go.WideShapes Go.ChangeAt Go.RowKit

theorem four10 {α : Type} {l : List α} (h : l.length = 4) : ∃ a b c d, l = [a, b, c, d] := by
  match l, h with
  | [a, b, c, d], _ => exact ⟨a, b, c, d, rfl⟩

theorem slice1 {H : Type} {enc : TypeId × Value → H} {W : World} {fuel : Nat} {t e : TypeId} {cs : List Value} {x : DataW H × List MemPlace} (hu : Try.prog.underlying t = some (.slice e))
    (h : DataW.trod enc Try.prog W 0 (fun _ => true) true fuel t cs = some x) : ∃ a n c, cs = [.slice a n c] := by
  rcases DataW.trod_slice hu h with ⟨hcs, _⟩ | ⟨ad, l, c, _, _, _, _, hcs, _⟩
  · exact ⟨_, _, _, hcs⟩
  · exact ⟨_, _, _, hcs⟩

theorem open_ints10 {H : Type} {enc : TypeId × Value → H} {W : World} {fuel : Nat} {a : Option Addr} {len cap : Nat} {y : DataW H × List MemPlace}
    (hf : DataW.trod enc Try.prog W 0 (fun _ => true) true fuel 35 [.slice a len cap] = some y) : len ≤ maxLen ∧ ∃ ls : List Int, Is W W.heap.size a len ls := by
  obtain ⟨d, p⟩ := y
  rcases open_ints Try.underlying35 Try.underlying3 (by kernel_rfl) hf with ⟨hcs, _⟩ | ⟨x, l, c, zs, hcs, _, hl, hm, hz, _, hcell, hwz⟩
  · simp at hcs
    obtain ⟨rfl, rfl, rfl⟩ := hcs
    exact ⟨by unfold maxLen; omega, [], ⟨rfl, .inl rfl⟩⟩
  · simp at hcs
    obtain ⟨rfl, rfl, rfl⟩ := hcs
    have hzl : zs.length = cap := by simpa using hz
    by_cases h0 : len = 0
    · subst h0
      exact ⟨by unfold maxLen; omega, [], ⟨rfl, .inl rfl⟩⟩
    · obtain ⟨b, off, rfl, hc⟩ := ints_at hcell (by omega)
      have hb : b < W.heap.size := World.block_lt_of_cell? W _ (hc 0 (by omega))
      refine ⟨by omega, zs.take len, ⟨by rw [List.length_take]; omega, .inr ⟨b, off, rfl, hb, fun j x hx => ?_⟩⟩⟩
      have hj : j < len := by have := (List.getElem?_eq_some_iff.1 hx).1; rw [List.length_take] at this; omega
      rw [List.getElem?_take_of_lt hj] at hx
      rw [hc j (by omega), List.getD_eq_getElem?_getD, hx]
      rfl

set_option maxRecDepth 100000 in
/-- an order that comes in -/
theorem open_order {H : Type} {enc : TypeId × Value → H} {W : World} {r : Reach} {base : Nat} {v : Value} {d : DataW H} {p : List MemPlace}
    (hv : Value.okWide Try.prog W r base 49 v) (h : DataW.Trod enc Try.prog W 0 (fun _ => true) true 49 v d p) :
    ∃ (num op x : Int) (a : Option Addr) (n c : Nat) (fs : List EdgeV), v = .agg #[.int .i64 num, .int .i64 op, .slice a n c, .int .i64 x] ∧ n ≤ maxLen ∧ Es W W.heap.size a n fs := by
  obtain ⟨cs, rfl, hcs⟩ := okWide_struct Try.underlying49 hv
  obtain ⟨fuel, hf⟩ := h
  obtain ⟨xs, n, _, _, hl, hlen, hfi⟩ := DataW.trod_struct Try.underlying49 hf
  rw [show Try.prog.cellsOf 49 = 4 by kernel_rfl] at hcs hl
  obtain ⟨l⟩ := cs
  obtain ⟨c0, c1, c2, c3, rfl⟩ := four10 (by simpa using hcs : l.length = 4)
  have ec : (Value.agg (List.toArray [c0, c1, c2, c3])).cells.toList = [c0, c1, c2, c3] := by simp [Value.cells]
  rw [ec] at hfi
  have h0 : DataW.trod enc Try.prog W 0 (fun _ => true) true n 3 (([c0, c1, c2, c3].drop 0).take (Try.prog.cellsOf 3)) = xs[0]? := hfi 0 _ rfl
  have h1 : DataW.trod enc Try.prog W 0 (fun _ => true) true n 3 (([c0, c1, c2, c3].drop 1).take (Try.prog.cellsOf 3)) = xs[1]? := hfi 1 _ rfl
  have h2 : DataW.trod enc Try.prog W 0 (fun _ => true) true n 47 (([c0, c1, c2, c3].drop 2).take (Try.prog.cellsOf 47)) = xs[2]? := hfi 2 _ rfl
  have h3 : DataW.trod enc Try.prog W 0 (fun _ => true) true n 3 (([c0, c1, c2, c3].drop 3).take (Try.prog.cellsOf 3)) = xs[3]? := hfi 3 _ rfl
  rw [cells3] at h0 h1 h3
  rw [show Try.prog.cellsOf 47 = 1 by kernel_rfl] at h2
  have g : ∀ i, i < 4 → ∃ z, xs[i]? = some z := fun i hi => ⟨xs[i]'(by simp at hlen; omega), List.getElem?_eq_getElem _⟩
  obtain ⟨z0, e0⟩ := g 0 (by omega)
  obtain ⟨z1, e1⟩ := g 1 (by omega)
  obtain ⟨z2, e2⟩ := g 2 (by omega)
  obtain ⟨z3, e3⟩ := g 3 (by omega)
  rw [e0] at h0
  rw [e1] at h1
  rw [e2] at h2
  rw [e3] at h3
  obtain ⟨k0, hk0, _⟩ := DataW.trod_int Try.underlying3 h0
  obtain ⟨k1, hk1, _⟩ := DataW.trod_int Try.underlying3 h1
  obtain ⟨k3, hk3, _⟩ := DataW.trod_int Try.underlying3 h3
  simp at hk0 hk1 hk3
  subst hk0 hk1 hk3
  have h2' : DataW.trod enc Try.prog W 0 (fun _ => true) true n 47 [c2] = some z2 := by simpa using h2
  obtain ⟨a, m, c, hx⟩ := slice1 Try.underlying47 h2'
  simp at hx
  subst hx
  obtain ⟨q1, fs, q2, _⟩ := open_edgeS h2'
  exact ⟨k0, k1, k3, a, m, c, fs, rfl, q1, q2⟩

set_option maxRecDepth 100000 in
/-- an answer that comes in -/
theorem open_answer {H : Type} {enc : TypeId × Value → H} {W : World} {r : Reach} {base : Nat} {v : Value} {d : DataW H} {p : List MemPlace}
    (hv : Value.okWide Try.prog W r base 55 v) (h : DataW.Trod enc Try.prog W 0 (fun _ => true) true 55 v d p) :
    ∃ (num : Int) (ok : Bool) (a : Option Addr) (n c : Nat) (fs : List EdgeV) (a' : Option Addr) (n' c' : Nat) (ls : List Int), v = .agg #[.int .i64 num, .bool ok, .slice a n c, .slice a' n' c'] ∧ n ≤ maxLen ∧ n' ≤ maxLen ∧ Es W W.heap.size a n fs ∧ Is W W.heap.size a' n' ls := by
  obtain ⟨cs, rfl, hcs⟩ := okWide_struct Try.underlying55 hv
  obtain ⟨fuel, hf⟩ := h
  obtain ⟨xs, n, _, _, hl, hlen, hfi⟩ := DataW.trod_struct Try.underlying55 hf
  rw [show Try.prog.cellsOf 55 = 4 by kernel_rfl] at hcs hl
  obtain ⟨l⟩ := cs
  obtain ⟨c0, c1, c2, c3, rfl⟩ := four10 (by simpa using hcs : l.length = 4)
  have ec : (Value.agg (List.toArray [c0, c1, c2, c3])).cells.toList = [c0, c1, c2, c3] := by simp [Value.cells]
  rw [ec] at hfi
  have h0 : DataW.trod enc Try.prog W 0 (fun _ => true) true n 3 (([c0, c1, c2, c3].drop 0).take (Try.prog.cellsOf 3)) = xs[0]? := hfi 0 _ rfl
  have h1 : DataW.trod enc Try.prog W 0 (fun _ => true) true n 4 (([c0, c1, c2, c3].drop 1).take (Try.prog.cellsOf 4)) = xs[1]? := hfi 1 _ rfl
  have h2 : DataW.trod enc Try.prog W 0 (fun _ => true) true n 47 (([c0, c1, c2, c3].drop 2).take (Try.prog.cellsOf 47)) = xs[2]? := hfi 2 _ rfl
  have h3 : DataW.trod enc Try.prog W 0 (fun _ => true) true n 35 (([c0, c1, c2, c3].drop 3).take (Try.prog.cellsOf 35)) = xs[3]? := hfi 3 _ rfl
  rw [cells3] at h0
  rw [show Try.prog.cellsOf 4 = 1 by kernel_rfl] at h1
  rw [show Try.prog.cellsOf 47 = 1 by kernel_rfl] at h2
  rw [show Try.prog.cellsOf 35 = 1 by kernel_rfl] at h3
  have g : ∀ i, i < 4 → ∃ z, xs[i]? = some z := fun i hi => ⟨xs[i]'(by simp at hlen; omega), List.getElem?_eq_getElem _⟩
  obtain ⟨z0, e0⟩ := g 0 (by omega)
  obtain ⟨z1, e1⟩ := g 1 (by omega)
  obtain ⟨z2, e2⟩ := g 2 (by omega)
  obtain ⟨z3, e3⟩ := g 3 (by omega)
  rw [e0] at h0
  rw [e1] at h1
  rw [e2] at h2
  rw [e3] at h3
  obtain ⟨k0, hk0, _⟩ := DataW.trod_int Try.underlying3 h0
  obtain ⟨k1, hk1, _⟩ := DataW.trod_bool Try.underlying4 h1
  simp at hk0 hk1
  subst hk0 hk1
  have h2' : DataW.trod enc Try.prog W 0 (fun _ => true) true n 47 [c2] = some z2 := by simpa using h2
  have h3' : DataW.trod enc Try.prog W 0 (fun _ => true) true n 35 [c3] = some z3 := by simpa using h3
  obtain ⟨a, m, c, hx⟩ := slice1 Try.underlying47 h2'
  obtain ⟨a', m', c', hx'⟩ := slice1 Try.underlying35 h3'
  simp at hx hx'
  subst hx hx'
  obtain ⟨q1, fs, q2, _⟩ := open_edgeS h2'
  obtain ⟨q3, ls, q4⟩ := open_ints10 h3'
  exact ⟨k0, k1, a, m, c, fs, a', m', c', ls, rfl, q1, q3, q2, q4⟩
end Go.Proofs.Ytkhhagjcmbbdpaa
