/- AnswerOk on both sides. The program's lastOk. The program's ShardOk. The specification's l08Tree. The specification's Reroot. The specification's walk along all edges. -/
import Derived.Test.YtpfkfbmghddepaaGreatKAOk10
import Derived.Test.YtpfkfbmghddepaaGreatKLd9
import Derived.Test.YtpfkfbmghddepaaGreatKILb9
import Derived.Test.YtpfkfbmghddepaaGreatKMem6
import Derived.Test.YtpfkfbmghddepaaGreatKSplit
import Derived.Test.YtpfkfbmghddepaaGreatKSTour
namespace Go.Proofs.YtpfkfbmghddepaaGreat.O
open Go.RowKit Vt

set_option maxRecDepth 100000 in
set_option maxHeartbeats 4000000 in
theorem sAnswerOk_any (n num : Int) (ok : Bool) (es : List EdgeV) (ls : List Int) (k : Nat) (a : Option Addr) (c : Nat) (hk : k ≤ 1048576) (k' : Nat) (a' : Option Addr) (c' : Nat) (hk' : k' ≤ 1048576) (w : World) (h : Es w w.heap.size a k es) (h' : Is w w.heap.size a' k' ls) :
    Calls Tryz.prog 117 #[.int .i64 n, ansV num ok a k c a' k' c'] w fun e w' => e = .returned (.bool (aB n ⟨num, ok, es, ls⟩)) ∧ Below w.heap.size w w' := by
  unfold ansV
  have HI := hideIt l01In_any
  have HE : Hid (Calls Tryz.prog 139 #[.int .i64 n, .slice a k c] (w.alloc (.cells #[.int .i64 num, .bool ok, .slice a k c, .slice a' k' c'] 65)) fun e w' => e = .returned (.bool (eOk n es)) ∧ Below w.heap.size w w' ∧ w'.cell? ⟨w.heap.size, 3, none⟩ = some (.slice a' k' c') ∧ Hid (Is w' w'.heap.size a' k' ls)) :=
    (l05Edges_any n es k a c hk (w.alloc (.cells #[.int .i64 num, .bool ok, .slice a k c, .slice a' k' c'] 65)) ((h.alloc (Nat.le_refl _) _).mono (by simp))).mono fun _ _ ⟨he, hb⟩ =>
      ⟨he, (bel1 _ _).trans (hb.mono (by simp)), by rw [hb.cell (by simp)]; simp, (h'.alloc _).up hb⟩
  have HL : Hid (∀ W, Is W W.heap.size a' k' ls → Calls Tryz.prog 180 #[.int .i64 n, .slice a' k' c'] W fun e w' => e = .returned (.bool (lB n ls)) ∧ Below W.heap.size W w') := fun W hW => l09Labels_any n ls k' a' c' hk' W hW
  have B0 : Hid (Below w.heap.size w (w.alloc (.cells #[.int .i64 num, .bool ok, .slice a k c, .slice a' k' c'] 65))) := bel1 _ _
  clear h h'
  by_cases h1 : 1 ≤ n ∧ n ≤ 12
  · have r1 : decide (1 ≤ n ∧ n ≤ 12) = true := by simpa using h1
    by_cases h2 : 1 ≤ num ∧ num ≤ 100000
    · have r2 : decide (1 ≤ num ∧ num ≤ 100000) = true := by simpa using h2
      cases hE : eOk n es with
      | true =>
        rw [hE] at HE
        have HB := hideIt (aB_ls (o := ⟨num, ok, es, ls⟩) h1 h2 hE)
        generalize lB n ls = r at HL HB
        go_enter Tryz.func117, Tryz.ntmps117
        go_wp2_with (first | (go_at_call 80; refine (HI.out _ _ _ _).mono ?_; rintro e w1 ⟨rfl, rfl⟩) | (go_at_call 139; refine HE.out.mono ?_; rintro e w2 ⟨rfl, hb2, q3, h2'⟩) | (go_at_call 180; refine (HL.out _ h2'.out).mono ?_; rintro e w3 ⟨rfl, hb3⟩))
        go_ret
        exact ⟨rett HB.out.symm, hb2.trans (hb3.mono hb2.size)⟩
      | false =>
        rw [hE] at HE
        have HB := hideIt (aB_es (o := ⟨num, ok, es, ls⟩) hE)
        go_enter Tryz.func117, Tryz.ntmps117
        go_wp2_with (first | (go_at_call 80; refine (HI.out _ _ _ _).mono ?_; rintro e w1 ⟨rfl, rfl⟩) | (go_at_call 139; refine HE.out.mono ?_; rintro e w2 ⟨rfl, hb2, q3, h2'⟩))
        go_ret
        exact ⟨rett HB.out.symm, hb2⟩
    · have r2 : decide (1 ≤ num ∧ num ≤ 100000) = false := by simpa using h2
      have HB := hideIt (aB_num (n := n) (o := ⟨num, ok, es, ls⟩) h2)
      clear HE HL
      go_enter Tryz.func117, Tryz.ntmps117
      go_wp2_with (first | (go_at_call 80; refine (HI.out _ _ _ _).mono ?_; rintro e w1 ⟨rfl, rfl⟩))
      go_ret
      exact ⟨rett HB.out.symm, B0.out⟩
  · have r1 : decide (1 ≤ n ∧ n ≤ 12) = false := by simpa using h1
    have HB := hideIt (aB_n (o := ⟨num, ok, es, ls⟩) h1)
    clear HE HL
    go_enter Tryz.func117, Tryz.ntmps117
    go_wp2_with (first | (go_at_call 80; refine (HI.out _ _ _ _).mono ?_; rintro e w1 ⟨rfl, rfl⟩))
    go_ret
    exact ⟨rett HB.out.symm, B0.out⟩

set_option maxRecDepth 100000 in
set_option maxHeartbeats 4000000 in
theorem iAnswerOk_any (n num : Int) (ok : Bool) (es : List EdgeV) (ls : List Int) (k : Nat) (a : Option Addr) (c : Nat) (hk : k ≤ 1048576) (k' : Nat) (a' : Option Addr) (c' : Nat) (hk' : k' ≤ 1048576) (w : World) (h : Es w w.heap.size a k es) (h' : Is w w.heap.size a' k' ls) :
    Calls Tryz.prog 170 #[.int .i64 n, ansV num ok a k c a' k' c'] w fun e w' => e = .returned (.bool (aB n ⟨num, ok, es, ls⟩)) ∧ Below w.heap.size w w' := by
  unfold ansV
  have HI := hideIt vertsOk_any
  have HJ := hideIt numOk_any
  have HE : Hid (Calls Tryz.prog 146 #[.int .i64 n, .slice a k c] (w.alloc (.cells #[.int .i64 num, .bool ok, .slice a k c, .slice a' k' c'] 65)) fun e w' => e = .returned (.bool (eOk n es)) ∧ Below w.heap.size w w' ∧ w'.cell? ⟨w.heap.size, 3, none⟩ = some (.slice a' k' c') ∧ Hid (Is w' w'.heap.size a' k' ls)) :=
    (edgesOk_any n es k a c hk (w.alloc (.cells #[.int .i64 num, .bool ok, .slice a k c, .slice a' k' c'] 65)) ((h.alloc (Nat.le_refl _) _).mono (by simp))).mono fun _ _ ⟨he, hb⟩ =>
      ⟨he, (bel1 _ _).trans (hb.mono (by simp)), by rw [hb.cell (by simp)]; simp, (h'.alloc _).up hb⟩
  have HL : Hid (∀ W, Is W W.heap.size a' k' ls → Calls Tryz.prog 210 #[.int .i64 n, .slice a' k' c'] W fun e w' => e = .returned (.bool (lB n ls)) ∧ Below W.heap.size W w') := fun W hW => labelsOk_any n ls k' a' c' hk' W hW
  have B0 : Hid (Below w.heap.size w (w.alloc (.cells #[.int .i64 num, .bool ok, .slice a k c, .slice a' k' c'] 65))) := bel1 _ _
  clear h h'
  by_cases h1 : 1 ≤ n ∧ n ≤ 12
  · have r1 : decide (1 ≤ n ∧ n ≤ 12) = true := by simpa using h1
    by_cases h2 : 1 ≤ num ∧ num ≤ 100000
    · have r2 : decide (1 ≤ num ∧ num ≤ 100000) = true := by simpa using h2
      cases hE : eOk n es with
      | true =>
        rw [hE] at HE
        have HB := hideIt (aB_ls (o := ⟨num, ok, es, ls⟩) h1 h2 hE)
        generalize lB n ls = r at HL HB
        go_enter Tryz.func170, Tryz.ntmps170
        go_wp2_with (first | (go_at_call 95; refine (HI.out _ _).mono ?_; rintro e w1 ⟨rfl, rfl⟩) | (go_at_call 160; refine (HJ.out _ _).mono ?_; rintro e w1 ⟨rfl, rfl⟩) | (go_at_call 146; refine HE.out.mono ?_; rintro e w2 ⟨rfl, hb2, q3, h2'⟩) | (go_at_call 210; refine (HL.out _ h2'.out).mono ?_; rintro e w3 ⟨rfl, hb3⟩))
        go_ret
        exact ⟨rett HB.out.symm, hb2.trans (hb3.mono hb2.size)⟩
      | false =>
        rw [hE] at HE
        have HB := hideIt (aB_es (o := ⟨num, ok, es, ls⟩) hE)
        go_enter Tryz.func170, Tryz.ntmps170
        go_wp2_with (first | (go_at_call 95; refine (HI.out _ _).mono ?_; rintro e w1 ⟨rfl, rfl⟩) | (go_at_call 160; refine (HJ.out _ _).mono ?_; rintro e w1 ⟨rfl, rfl⟩) | (go_at_call 146; refine HE.out.mono ?_; rintro e w2 ⟨rfl, hb2, q3, h2'⟩))
        go_ret
        exact ⟨rett HB.out.symm, hb2⟩
    · have r2 : decide (1 ≤ num ∧ num ≤ 100000) = false := by simpa using h2
      have HB := hideIt (aB_num (n := n) (o := ⟨num, ok, es, ls⟩) h2)
      clear HE HL
      go_enter Tryz.func170, Tryz.ntmps170
      go_wp2_with (first | (go_at_call 95; refine (HI.out _ _).mono ?_; rintro e w1 ⟨rfl, rfl⟩) | (go_at_call 160; refine (HJ.out _ _).mono ?_; rintro e w1 ⟨rfl, rfl⟩))
      go_ret
      exact ⟨rett HB.out.symm, B0.out⟩
  · have r1 : decide (1 ≤ n ∧ n ≤ 12) = false := by simpa using h1
    have HB := hideIt (aB_n (o := ⟨num, ok, es, ls⟩) h1)
    clear HE HL
    go_enter Tryz.func170, Tryz.ntmps170
    go_wp2_with (first | (go_at_call 95; refine (HI.out _ _).mono ?_; rintro e w1 ⟨rfl, rfl⟩) | (go_at_call 160; refine (HJ.out _ _).mono ?_; rintro e w1 ⟨rfl, rfl⟩))
    go_ret
    exact ⟨rett HB.out.symm, B0.out⟩
end Go.Proofs.YtpfkfbmghddepaaGreat.O
namespace Go.Proofs.YtpfkfbmghddepaaGreat
open Go.RowKit

/-- Last is zero, or right with the web's labels -/
noncomputable def laB (N : Int) (ls : List Ld) (num : Int) (ok : Bool) (es : List EdgeV) (lb : List Int) : Bool := azB num ok es.length lb.length || (O.aB N ⟨num, ok, es, lb⟩ && decide (lb = lbO N ls))
set_option maxRecDepth 100000 in
set_option maxHeartbeats 4000000 in
theorem lastOk_any (N : Int) (ls : List Ld) (n : Nat) (a : Option Addr) (c : Nat) (num : Int) (ok : Bool) (es : List EdgeV) (lb : List Int) (n1 : Nat) (a1 : Option Addr) (c1 : Nat) (n2 : Nat) (a2 : Option Addr) (c2 : Nat) (hn : n ≤ 1048576) (hn1 : n1 ≤ 1048576) (hn2 : n2 ≤ 1048576) (w : World)
    (h : Ls w w.heap.size a n ls) (h1 : Es w w.heap.size a1 n1 es) (h2 : Is w w.heap.size a2 n2 lb) :
    Calls Tryz.prog 106 #[.agg #[.int .i64 N, .slice a n c], .agg #[.int .i64 num, .bool ok, .slice a1 n1 c1, .slice a2 n2 c2]] w fun e w' => e = .returned (.bool (laB N ls num ok es lb)) ∧ Below w.heap.size w w' := by
  obtain ⟨W2, hW2⟩ : ∃ W2, W2 = (w.alloc (.cells #[.int .i64 N, .slice a n c] 26)).alloc (.cells #[.int .i64 num, .bool ok, .slice a1 n1 c1, .slice a2 n2 c2] 65) := ⟨_, rfl⟩
  have G2 : Good w W2 := by rw [hW2]; exact ((Good.refl w).alloc _).alloc _
  have l0 : w.heap.size < W2.heap.size := by rw [hW2]; simp; omega
  have l1 : w.heap.size + 1 < W2.heap.size := by rw [hW2]; simp
  have hlen1 := h1.1
  have hlen2 := h2.1
  have x0 : W2.cell? ⟨w.heap.size, 0, none⟩ = some (.int .i64 N) := by rw [hW2]; simp [go_sem]
  have x1 : W2.cell? ⟨w.heap.size, 1, none⟩ = some (.slice a n c) := by rw [hW2]; simp [go_sem]
  have y0 : W2.cell? ⟨w.heap.size + 1, 0, none⟩ = some (.int .i64 num) := by rw [hW2]; simp [go_sem]
  have y1 : W2.cell? ⟨w.heap.size + 1, 1, none⟩ = some (.bool ok) := by rw [hW2]; simp [go_sem]
  have y2 : W2.cell? ⟨w.heap.size + 1, 2, none⟩ = some (.slice a1 n1 c1) := by rw [hW2]; simp [go_sem]
  have y3 : W2.cell? ⟨w.heap.size + 1, 3, none⟩ = some (.slice a2 n2 c2) := by rw [hW2]; simp [go_sem]
  have HC : Hid (∀ u, Good W2 u → ((u.cell? ⟨w.heap.size, 0, none⟩ = some (.int .i64 N) ∧ u.cell? ⟨w.heap.size, 1, none⟩ = some (.slice a n c)) ∧ (u.cell? ⟨w.heap.size + 1, 0, none⟩ = some (.int .i64 num) ∧ u.cell? ⟨w.heap.size + 1, 1, none⟩ = some (.bool ok) ∧ u.cell? ⟨w.heap.size + 1, 2, none⟩ = some (.slice a1 n1 c1) ∧ u.cell? ⟨w.heap.size + 1, 3, none⟩ = some (.slice a2 n2 c2))) ∧ Good W2 u ) := fun u hu => ⟨⟨⟨by rw [hu.cell l0]; exact x0, by rw [hu.cell l0]; exact x1⟩, by rw [hu.cell l1]; exact y0, by rw [hu.cell l1]; exact y1, by rw [hu.cell l1]; exact y2, by rw [hu.cell l1]; exact y3⟩, hu⟩
  have HZ : Hid (∀ u, Good W2 u → Calls Tryz.prog 169 #[.agg #[.int .i64 num, .bool ok, .slice a1 n1 c1, .slice a2 n2 c2]] u fun e v => e = .returned (.bool (azB num ok n1 n2)) ∧ Good W2 v) := fun u hu => (isZero_any num ok a1 a2 n1 c1 n2 c2 u).mono fun _ _ ⟨he, hb⟩ => ⟨he, hu.up hb⟩
  have HA : Hid (∀ u, Good W2 u → Calls Tryz.prog 170 #[.int .i64 N, .agg #[.int .i64 num, .bool ok, .slice a1 n1 c1, .slice a2 n2 c2]] u fun e v => e = .returned (.bool (O.aB N ⟨num, ok, es, lb⟩)) ∧ Good W2 v) := fun u hu => (O.iAnswerOk_any N num ok es lb n1 a1 c1 hn1 n2 a2 c2 hn2 u (h1.up (G2.up hu)) (h2.up (G2.up hu))).mono fun _ _ ⟨he, hb⟩ => ⟨he, hu.up hb⟩
  have HL : Hid (∀ u, Good W2 u → Calls Tryz.prog 22 #[.agg #[.int .i64 N, .slice a n c]] u fun e v => ∃ a5 m5 c5, e = .returned (.slice a5 m5 c5) ∧ Hid (Is v v.heap.size a5 m5 (lbO N ls)) ∧ Good W2 v) := fun u hu => (iWebLabels_any N ls n a c hn u (h.up (G2.up hu))).mono fun _ _ ⟨a5, m5, c5, he, ho, hb⟩ => ⟨a5, m5, c5, he, Is_of_own ho, hu.up hb⟩
  have HE : Hid (∀ u (a5 : Option Addr) (m5 c5 : Nat), Good W2 u → Hid (Is u u.heap.size a5 m5 (lbO N ls)) → Calls Tryz.prog 171 #[.slice a2 n2 c2, .slice a5 m5 c5] u fun e v => e = .returned (.bool (decide (lb = lbO N ls))) ∧ Good W2 v) := fun u a5 m5 c5 hu h5 => (EqI_any lb (lbO N ls) n2 m5 a2 a5 c2 c5 hn2 (by have := h5.out.1; have := lbO_len N ls; omega) u (h2.up (G2.up hu)) h5.out).mono fun _ _ ⟨he, hb⟩ => ⟨he, hu.up hb⟩
  have hS := HC.out _ (Good.refl W2).drew
  have HG := hideIt G2
  have HV : Hid (laB N ls num ok es lb = (azB num ok n1 n2 || (O.aB N ⟨num, ok, es, lb⟩ && decide (lb = lbO N ls)))) := by show _ = _; unfold laB; rw [hlen1, hlen2]
  clear h h1 h2 G2 x0 x1 y0 y1 y2 y3 hlen1 hlen2
  generalize O.aB N ⟨num, ok, es, lb⟩ = av at *
  generalize azB num ok n1 n2 = zv at *
  cases zv with
  | true =>
    go_enter Tryz.func106, Tryz.ntmps106
    go_upto_region 1 with fail
    rw [← hW2]
    clear hW2
    refine wp_region_held_drew (S := (fun u => ((u.cell? ⟨w.heap.size, 0, none⟩ = some (.int .i64 N) ∧ u.cell? ⟨w.heap.size, 1, none⟩ = some (.slice a n c)) ∧ (u.cell? ⟨w.heap.size + 1, 0, none⟩ = some (.int .i64 num) ∧ u.cell? ⟨w.heap.size + 1, 1, none⟩ = some (.bool ok) ∧ u.cell? ⟨w.heap.size + 1, 2, none⟩ = some (.slice a1 n1 c1) ∧ u.cell? ⟨w.heap.size + 1, 3, none⟩ = some (.slice a2 n2 c2))) ∧ Good W2 u)) (by kernel_rfl) hS (fun hHeld => ?_)
    refine wpAnyH_take (i := 0) (v := ?_) rfl (by kernel_rfl) (by kernel_rfl) (by kernel_rfl) (fun _ _ _ h => h) (Or.inl ⟨by rfl, ?_⟩) (by assumption) ?_
    rotate_left
    · intro w hSw; (try dsimp only at hSw); go_simp; try with_reducible rfl
    try simp only [Act.put, List.getElem_toArray, List.getElem_cons_zero, List.setIfInBounds_toArray, List.set_cons_zero, List.set_cons_succ]
    refine wpAnyH_ready (rs := [1]) (by kernel_rfl) (by simp) ?_
    refine AllReadyH.cons rfl (fun K hK => ?_) AllReadyH.nil
    rw [if_pos]
    rotate_left
    · kernel_rfl
    go_wp2_with (go_at_call 169; refine (HZ.out _ (Good.refl W2).drew).mono ?_; rintro e w3 ⟨rfl, g3⟩; refine Hid.out ?_)
    refine (show ∀ {p : Prop}, p → Hid p from fun h => h) ?_
    refine hK.out _ _ (HC.out _ g3) (fun hHeld => ?_)
    clear hK K
    try simp only [Act.put, List.getElem_toArray, List.getElem_cons_succ, List.getElem_cons_zero, List.setIfInBounds_toArray, List.set_cons_zero, List.set_cons_succ]
    refine wpAnyH_take (i := 2) (v := ?_) rfl (by kernel_rfl) (by kernel_rfl) (by kernel_rfl) (fun _ _ _ h => h) (Or.inl ⟨by rfl, ?_⟩) (by assumption) ?_
    rotate_left
    · intro w hSw; (try dsimp only at hSw); go_simp; try with_reducible rfl
    try simp only [Act.put, List.getElem_toArray, List.getElem_cons_succ, List.getElem_cons_zero, List.setIfInBounds_toArray, List.set_cons_zero, List.set_cons_succ]
    refine wpAnyH_take (i := 3) rfl (by kernel_rfl) (by kernel_rfl) (by kernel_rfl) (fun _ _ _ h => h) (Or.inr ⟨by kernel_rfl, rfl⟩) (by assumption) ?_
    refine wpAnyH_take (i := 4) rfl (by kernel_rfl) (by kernel_rfl) (by kernel_rfl) (fun _ _ _ h => h) (Or.inr ⟨by kernel_rfl, rfl⟩) (by assumption) ?_
    refine wpAnyH_take (i := 5) rfl (by kernel_rfl) (by kernel_rfl) (by kernel_rfl) (fun _ _ _ h => h) (Or.inr ⟨by kernel_rfl, rfl⟩) (by assumption) ?_
    refine wpAnyH_take (i := 6) rfl (by kernel_rfl) (by kernel_rfl) (by kernel_rfl) (fun _ _ _ h => h) (Or.inr ⟨by kernel_rfl, rfl⟩) (by assumption) ?_
    refine wpAnyH_take (i := 7) rfl (by kernel_rfl) (by kernel_rfl) (by kernel_rfl) (fun _ _ _ h => h) (Or.inr ⟨by kernel_rfl, rfl⟩) (by assumption) ?_
    refine wpAnyH_take (i := 8) rfl (by kernel_rfl) (by kernel_rfl) (by kernel_rfl) (fun _ _ _ h => h) (Or.inr ⟨by kernel_rfl, rfl⟩) (by assumption) ?_
    refine wpAnyH_take (i := 9) rfl (by kernel_rfl) (by kernel_rfl) (by kernel_rfl) (fun _ _ _ h => h) (Or.inr ⟨by kernel_rfl, rfl⟩) (by assumption) ?_
    refine wpAnyH_take (i := 10) rfl (by kernel_rfl) (by kernel_rfl) (by kernel_rfl) (fun _ _ _ h => h) (Or.inr ⟨by kernel_rfl, rfl⟩) (by assumption) ?_
    refine wpAnyH_take (i := 11) rfl (by kernel_rfl) (by kernel_rfl) (by kernel_rfl) (fun _ _ _ h => h) (Or.inr ⟨by kernel_rfl, rfl⟩) (by assumption) ?_
    refine wpAnyH_take (i := 12) rfl (by kernel_rfl) (by kernel_rfl) (by kernel_rfl) (fun _ _ _ h => h) (Or.inr ⟨by kernel_rfl, rfl⟩) (by assumption) ?_
    refine wpAnyH_take (i := 13) rfl (by kernel_rfl) (by kernel_rfl) (by kernel_rfl) (fun _ _ _ h => h) (Or.inr ⟨by kernel_rfl, rfl⟩) (by assumption) ?_
    refine wpAnyH_take (i := 14) (v := ?_) rfl (by kernel_rfl) (by kernel_rfl) (by kernel_rfl) (fun _ _ _ h => h) (Or.inl ⟨by rfl, ?_⟩) (by assumption) ?_
    rotate_left
    · intro w hSw; (try dsimp only at hSw); go_simp; try with_reducible rfl
    try simp only [Act.put, List.getElem_toArray, List.getElem_cons_succ, List.getElem_cons_zero, List.setIfInBounds_toArray, List.set_cons_zero, List.set_cons_succ]
    refine wpAnyH_ready (rs := [15]) (by kernel_rfl) (by simp) ?_
    refine AllReadyH.cons rfl (fun K hK => ?_) AllReadyH.nil
    go_simp
    refine hK.out _ _ (by assumption) (fun hHeld => ?_)
    clear hK K
    try simp only [Act.put, List.getElem_toArray, List.getElem_cons_succ, List.getElem_cons_zero, List.setIfInBounds_toArray, List.set_cons_zero, List.set_cons_succ]
    refine wpAnyH_done (by kernel_rfl) ?_ _
    go_wp2
    go_ret
    exact ⟨by rw [HV.out]; rfl, HG.out.up g3⟩
  | false =>
    cases av with
    | false =>
      go_enter Tryz.func106, Tryz.ntmps106
      go_upto_region 1 with fail
      rw [← hW2]
      clear hW2
      refine wp_region_held_drew (S := (fun u => ((u.cell? ⟨w.heap.size, 0, none⟩ = some (.int .i64 N) ∧ u.cell? ⟨w.heap.size, 1, none⟩ = some (.slice a n c)) ∧ (u.cell? ⟨w.heap.size + 1, 0, none⟩ = some (.int .i64 num) ∧ u.cell? ⟨w.heap.size + 1, 1, none⟩ = some (.bool ok) ∧ u.cell? ⟨w.heap.size + 1, 2, none⟩ = some (.slice a1 n1 c1) ∧ u.cell? ⟨w.heap.size + 1, 3, none⟩ = some (.slice a2 n2 c2))) ∧ Good W2 u)) (by kernel_rfl) hS (fun hHeld => ?_)
      refine wpAnyH_take (i := 0) (v := ?_) rfl (by kernel_rfl) (by kernel_rfl) (by kernel_rfl) (fun _ _ _ h => h) (Or.inl ⟨by rfl, ?_⟩) (by assumption) ?_
      rotate_left
      · intro w hSw; (try dsimp only at hSw); go_simp; try with_reducible rfl
      try simp only [Act.put, List.getElem_toArray, List.getElem_cons_zero, List.setIfInBounds_toArray, List.set_cons_zero, List.set_cons_succ]
      refine wpAnyH_ready (rs := [1]) (by kernel_rfl) (by simp) ?_
      refine AllReadyH.cons rfl (fun K hK => ?_) AllReadyH.nil
      rw [if_pos]
      rotate_left
      · kernel_rfl
      go_wp2_with (go_at_call 169; refine (HZ.out _ (Good.refl W2).drew).mono ?_; rintro e w3 ⟨rfl, g3⟩; refine Hid.out ?_)
      refine (show ∀ {p : Prop}, p → Hid p from fun h => h) ?_
      refine hK.out _ _ (HC.out _ g3) (fun hHeld => ?_)
      clear hK K
      try simp only [Act.put, List.getElem_toArray, List.getElem_cons_succ, List.getElem_cons_zero, List.setIfInBounds_toArray, List.set_cons_zero, List.set_cons_succ]
      refine wpAnyH_take (i := 2) (v := ?_) rfl (by kernel_rfl) (by kernel_rfl) (by kernel_rfl) (fun _ _ _ h => h) (Or.inl ⟨by rfl, ?_⟩) (by assumption) ?_
      rotate_left
      · intro w hSw; (try dsimp only at hSw); go_simp; try with_reducible rfl
      try simp only [Act.put, List.getElem_toArray, List.getElem_cons_succ, List.getElem_cons_zero, List.setIfInBounds_toArray, List.set_cons_zero, List.set_cons_succ]
      refine wpAnyH_take (i := 3) (v := ?_) rfl (by kernel_rfl) (by kernel_rfl) (by kernel_rfl) (fun _ _ _ h => h) (Or.inl ⟨by rfl, ?_⟩) (by assumption) ?_
      rotate_left
      · intro w hSw; (try dsimp only at hSw); go_simp; try with_reducible rfl
      try simp only [Act.put, List.getElem_toArray, List.getElem_cons_succ, List.getElem_cons_zero, List.setIfInBounds_toArray, List.set_cons_zero, List.set_cons_succ]
      refine wpAnyH_take (i := 4) (v := ?_) rfl (by kernel_rfl) (by kernel_rfl) (by kernel_rfl) (fun _ _ _ h => h) (Or.inl ⟨by rfl, ?_⟩) (by assumption) ?_
      rotate_left
      · intro w hSw; (try dsimp only at hSw); go_simp; try with_reducible rfl
      try simp only [Act.put, List.getElem_toArray, List.getElem_cons_succ, List.getElem_cons_zero, List.setIfInBounds_toArray, List.set_cons_zero, List.set_cons_succ]
      refine wpAnyH_take (i := 5) (v := ?_) rfl (by kernel_rfl) (by kernel_rfl) (by kernel_rfl) (fun _ _ _ h => h) (Or.inl ⟨by rfl, ?_⟩) (by assumption) ?_
      rotate_left
      · intro w hSw; (try dsimp only at hSw); go_simp; try with_reducible rfl
      try simp only [Act.put, List.getElem_toArray, List.getElem_cons_succ, List.getElem_cons_zero, List.setIfInBounds_toArray, List.set_cons_zero, List.set_cons_succ]
      refine wpAnyH_ready (rs := [6]) (by kernel_rfl) (by simp) ?_
      refine AllReadyH.cons rfl (fun K hK => ?_) AllReadyH.nil
      rw [if_pos]
      rotate_left
      · kernel_rfl
      go_wp2_with (go_at_call 170; refine (HA.out _ g3).mono ?_; rintro e w4 ⟨rfl, g4⟩; refine Hid.out ?_)
      refine (show ∀ {p : Prop}, p → Hid p from fun h => h) ?_
      refine hK.out _ _ (HC.out _ g4) (fun hHeld => ?_)
      clear hK K
      try simp only [Act.put, List.getElem_toArray, List.getElem_cons_succ, List.getElem_cons_zero, List.setIfInBounds_toArray, List.set_cons_zero, List.set_cons_succ]
      refine wpAnyH_take (i := 7) (v := ?_) rfl (by kernel_rfl) (by kernel_rfl) (by kernel_rfl) (fun _ _ _ h => h) (Or.inl ⟨by rfl, ?_⟩) (by assumption) ?_
      rotate_left
      · intro w hSw; (try dsimp only at hSw); go_simp; try with_reducible rfl
      try simp only [Act.put, List.getElem_toArray, List.getElem_cons_succ, List.getElem_cons_zero, List.setIfInBounds_toArray, List.set_cons_zero, List.set_cons_succ]
      refine wpAnyH_take (i := 8) rfl (by kernel_rfl) (by kernel_rfl) (by kernel_rfl) (fun _ _ _ h => h) (Or.inr ⟨by kernel_rfl, rfl⟩) (by assumption) ?_
      refine wpAnyH_take (i := 9) rfl (by kernel_rfl) (by kernel_rfl) (by kernel_rfl) (fun _ _ _ h => h) (Or.inr ⟨by kernel_rfl, rfl⟩) (by assumption) ?_
      refine wpAnyH_take (i := 10) rfl (by kernel_rfl) (by kernel_rfl) (by kernel_rfl) (fun _ _ _ h => h) (Or.inr ⟨by kernel_rfl, rfl⟩) (by assumption) ?_
      refine wpAnyH_take (i := 11) rfl (by kernel_rfl) (by kernel_rfl) (by kernel_rfl) (fun _ _ _ h => h) (Or.inr ⟨by kernel_rfl, rfl⟩) (by assumption) ?_
      refine wpAnyH_take (i := 12) rfl (by kernel_rfl) (by kernel_rfl) (by kernel_rfl) (fun _ _ _ h => h) (Or.inr ⟨by kernel_rfl, rfl⟩) (by assumption) ?_
      refine wpAnyH_take (i := 13) (v := ?_) rfl (by kernel_rfl) (by kernel_rfl) (by kernel_rfl) (fun _ _ _ h => h) (Or.inl ⟨by rfl, ?_⟩) (by assumption) ?_
      rotate_left
      · intro w hSw; (try dsimp only at hSw); go_simp; try with_reducible rfl
      try simp only [Act.put, List.getElem_toArray, List.getElem_cons_succ, List.getElem_cons_zero, List.setIfInBounds_toArray, List.set_cons_zero, List.set_cons_succ]
      refine wpAnyH_take (i := 14) (v := ?_) rfl (by kernel_rfl) (by kernel_rfl) (by kernel_rfl) (fun _ _ _ h => h) (Or.inl ⟨by rfl, ?_⟩) (by assumption) ?_
      rotate_left
      · intro w hSw; (try dsimp only at hSw); go_simp; try with_reducible rfl
      try simp only [Act.put, List.getElem_toArray, List.getElem_cons_succ, List.getElem_cons_zero, List.setIfInBounds_toArray, List.set_cons_zero, List.set_cons_succ]
      refine wpAnyH_ready (rs := [15]) (by kernel_rfl) (by simp) ?_
      refine AllReadyH.cons rfl (fun K hK => ?_) AllReadyH.nil
      go_simp
      refine hK.out _ _ (by assumption) (fun hHeld => ?_)
      clear hK K
      try simp only [Act.put, List.getElem_toArray, List.getElem_cons_succ, List.getElem_cons_zero, List.setIfInBounds_toArray, List.set_cons_zero, List.set_cons_succ]
      refine wpAnyH_done (by kernel_rfl) ?_ _
      go_wp2
      go_ret
      exact ⟨by rw [HV.out]; rfl, HG.out.up g4⟩
    | true =>
      go_enter Tryz.func106, Tryz.ntmps106
      go_upto_region 1 with fail
      rw [← hW2]
      clear hW2
      refine wp_region_held_drew (S := (fun u => ((u.cell? ⟨w.heap.size, 0, none⟩ = some (.int .i64 N) ∧ u.cell? ⟨w.heap.size, 1, none⟩ = some (.slice a n c)) ∧ (u.cell? ⟨w.heap.size + 1, 0, none⟩ = some (.int .i64 num) ∧ u.cell? ⟨w.heap.size + 1, 1, none⟩ = some (.bool ok) ∧ u.cell? ⟨w.heap.size + 1, 2, none⟩ = some (.slice a1 n1 c1) ∧ u.cell? ⟨w.heap.size + 1, 3, none⟩ = some (.slice a2 n2 c2))) ∧ Good W2 u)) (by kernel_rfl) hS (fun hHeld => ?_)
      refine wpAnyH_take (i := 0) (v := ?_) rfl (by kernel_rfl) (by kernel_rfl) (by kernel_rfl) (fun _ _ _ h => h) (Or.inl ⟨by rfl, ?_⟩) (by assumption) ?_
      rotate_left
      · intro w hSw; (try dsimp only at hSw); go_simp; try with_reducible rfl
      try simp only [Act.put, List.getElem_toArray, List.getElem_cons_zero, List.setIfInBounds_toArray, List.set_cons_zero, List.set_cons_succ]
      refine wpAnyH_ready (rs := [1]) (by kernel_rfl) (by simp) ?_
      refine AllReadyH.cons rfl (fun K hK => ?_) AllReadyH.nil
      rw [if_pos]
      rotate_left
      · kernel_rfl
      go_wp2_with (go_at_call 169; refine (HZ.out _ (Good.refl W2).drew).mono ?_; rintro e w3 ⟨rfl, g3⟩; refine Hid.out ?_)
      refine (show ∀ {p : Prop}, p → Hid p from fun h => h) ?_
      refine hK.out _ _ (HC.out _ g3) (fun hHeld => ?_)
      clear hK K
      try simp only [Act.put, List.getElem_toArray, List.getElem_cons_succ, List.getElem_cons_zero, List.setIfInBounds_toArray, List.set_cons_zero, List.set_cons_succ]
      refine wpAnyH_take (i := 2) (v := ?_) rfl (by kernel_rfl) (by kernel_rfl) (by kernel_rfl) (fun _ _ _ h => h) (Or.inl ⟨by rfl, ?_⟩) (by assumption) ?_
      rotate_left
      · intro w hSw; (try dsimp only at hSw); go_simp; try with_reducible rfl
      try simp only [Act.put, List.getElem_toArray, List.getElem_cons_succ, List.getElem_cons_zero, List.setIfInBounds_toArray, List.set_cons_zero, List.set_cons_succ]
      refine wpAnyH_take (i := 3) (v := ?_) rfl (by kernel_rfl) (by kernel_rfl) (by kernel_rfl) (fun _ _ _ h => h) (Or.inl ⟨by rfl, ?_⟩) (by assumption) ?_
      rotate_left
      · intro w hSw; (try dsimp only at hSw); go_simp; try with_reducible rfl
      try simp only [Act.put, List.getElem_toArray, List.getElem_cons_succ, List.getElem_cons_zero, List.setIfInBounds_toArray, List.set_cons_zero, List.set_cons_succ]
      refine wpAnyH_take (i := 4) (v := ?_) rfl (by kernel_rfl) (by kernel_rfl) (by kernel_rfl) (fun _ _ _ h => h) (Or.inl ⟨by rfl, ?_⟩) (by assumption) ?_
      rotate_left
      · intro w hSw; (try dsimp only at hSw); go_simp; try with_reducible rfl
      try simp only [Act.put, List.getElem_toArray, List.getElem_cons_succ, List.getElem_cons_zero, List.setIfInBounds_toArray, List.set_cons_zero, List.set_cons_succ]
      refine wpAnyH_take (i := 5) (v := ?_) rfl (by kernel_rfl) (by kernel_rfl) (by kernel_rfl) (fun _ _ _ h => h) (Or.inl ⟨by rfl, ?_⟩) (by assumption) ?_
      rotate_left
      · intro w hSw; (try dsimp only at hSw); go_simp; try with_reducible rfl
      try simp only [Act.put, List.getElem_toArray, List.getElem_cons_succ, List.getElem_cons_zero, List.setIfInBounds_toArray, List.set_cons_zero, List.set_cons_succ]
      refine wpAnyH_ready (rs := [6]) (by kernel_rfl) (by simp) ?_
      refine AllReadyH.cons rfl (fun K hK => ?_) AllReadyH.nil
      rw [if_pos]
      rotate_left
      · kernel_rfl
      go_wp2_with (go_at_call 170; refine (HA.out _ g3).mono ?_; rintro e w4 ⟨rfl, g4⟩; refine Hid.out ?_)
      refine (show ∀ {p : Prop}, p → Hid p from fun h => h) ?_
      refine hK.out _ _ (HC.out _ g4) (fun hHeld => ?_)
      clear hK K
      try simp only [Act.put, List.getElem_toArray, List.getElem_cons_succ, List.getElem_cons_zero, List.setIfInBounds_toArray, List.set_cons_zero, List.set_cons_succ]
      refine wpAnyH_take (i := 7) (v := ?_) rfl (by kernel_rfl) (by kernel_rfl) (by kernel_rfl) (fun _ _ _ h => h) (Or.inl ⟨by rfl, ?_⟩) (by assumption) ?_
      rotate_left
      · intro w hSw; (try dsimp only at hSw); go_simp; try with_reducible rfl
      try simp only [Act.put, List.getElem_toArray, List.getElem_cons_succ, List.getElem_cons_zero, List.setIfInBounds_toArray, List.set_cons_zero, List.set_cons_succ]
      refine wpAnyH_take (i := 8) (v := ?_) rfl (by kernel_rfl) (by kernel_rfl) (by kernel_rfl) (fun _ _ _ h => h) (Or.inl ⟨by rfl, ?_⟩) (by assumption) ?_
      rotate_left
      · intro w hSw; (try dsimp only at hSw); go_simp; try with_reducible rfl
      try simp only [Act.put, List.getElem_toArray, List.getElem_cons_succ, List.getElem_cons_zero, List.setIfInBounds_toArray, List.set_cons_zero, List.set_cons_succ]
      refine wpAnyH_take (i := 9) (v := ?_) rfl (by kernel_rfl) (by kernel_rfl) (by kernel_rfl) (fun _ _ _ h => h) (Or.inl ⟨by rfl, ?_⟩) (by assumption) ?_
      rotate_left
      · intro w hSw; (try dsimp only at hSw); go_simp; try with_reducible rfl
      try simp only [Act.put, List.getElem_toArray, List.getElem_cons_succ, List.getElem_cons_zero, List.setIfInBounds_toArray, List.set_cons_zero, List.set_cons_succ]
      refine wpAnyH_take (i := 10) (v := ?_) rfl (by kernel_rfl) (by kernel_rfl) (by kernel_rfl) (fun _ _ _ h => h) (Or.inl ⟨by rfl, ?_⟩) (by assumption) ?_
      rotate_left
      · intro w hSw; (try dsimp only at hSw); go_simp; try with_reducible rfl
      try simp only [Act.put, List.getElem_toArray, List.getElem_cons_succ, List.getElem_cons_zero, List.setIfInBounds_toArray, List.set_cons_zero, List.set_cons_succ]
      refine wpAnyH_ready (rs := [11]) (by kernel_rfl) (by simp) ?_
      refine AllReadyH.cons rfl (fun K hK => ?_) AllReadyH.nil
      rw [if_pos]
      rotate_left
      · kernel_rfl
      go_wp2_with (go_at_call 22; refine (HL.out _ g4).mono ?_; rintro e w5 ⟨a5, m5, c5, rfl, ho5, g5⟩; refine Hid.out ?_)
      refine (show ∀ {p : Prop}, p → Hid p from fun h => h) ?_
      refine hK.out _ _ (HC.out _ g5) (fun hHeld => ?_)
      clear hK K
      try simp only [Act.put, List.getElem_toArray, List.getElem_cons_succ, List.getElem_cons_zero, List.setIfInBounds_toArray, List.set_cons_zero, List.set_cons_succ]
      refine wpAnyH_ready (rs := [12]) (by kernel_rfl) (by simp) ?_
      refine AllReadyH.cons rfl (fun K hK => ?_) AllReadyH.nil
      rw [if_pos]
      rotate_left
      · kernel_rfl
      go_wp2_with (go_at_call 171; refine (HE.out _ _ _ _ g5 ho5).mono ?_; rintro e w6 ⟨rfl, g6⟩; refine Hid.out ?_)
      refine (show ∀ {p : Prop}, p → Hid p from fun h => h) ?_
      refine hK.out _ _ (HC.out _ g6) (fun hHeld => ?_)
      clear hK K
      try simp only [Act.put, List.getElem_toArray, List.getElem_cons_succ, List.getElem_cons_zero, List.setIfInBounds_toArray, List.set_cons_zero, List.set_cons_succ]
      refine wpAnyH_take (i := 13) (v := ?_) rfl (by kernel_rfl) (by kernel_rfl) (by kernel_rfl) (fun _ _ _ h => h) (Or.inl ⟨by rfl, ?_⟩) (by assumption) ?_
      rotate_left
      · intro w hSw; (try dsimp only at hSw); go_simp; try with_reducible rfl
      try simp only [Act.put, List.getElem_toArray, List.getElem_cons_succ, List.getElem_cons_zero, List.setIfInBounds_toArray, List.set_cons_zero, List.set_cons_succ]
      refine wpAnyH_take (i := 14) (v := ?_) rfl (by kernel_rfl) (by kernel_rfl) (by kernel_rfl) (fun _ _ _ h => h) (Or.inl ⟨by rfl, ?_⟩) (by assumption) ?_
      rotate_left
      · intro w hSw; (try dsimp only at hSw); go_simp; try with_reducible rfl
      try simp only [Act.put, List.getElem_toArray, List.getElem_cons_succ, List.getElem_cons_zero, List.setIfInBounds_toArray, List.set_cons_zero, List.set_cons_succ]
      refine wpAnyH_ready (rs := [15]) (by kernel_rfl) (by simp) ?_
      refine AllReadyH.cons rfl (fun K hK => ?_) AllReadyH.nil
      go_simp
      refine hK.out _ _ (by assumption) (fun hHeld => ?_)
      clear hK K
      try simp only [Act.put, List.getElem_toArray, List.getElem_cons_succ, List.getElem_cons_zero, List.setIfInBounds_toArray, List.set_cons_zero, List.set_cons_succ]
      refine wpAnyH_done (by kernel_rfl) ?_ _
      go_wp2
      go_ret
      exact ⟨by rw [HV.out]; rfl, HG.out.up g6⟩
end Go.Proofs.YtpfkfbmghddepaaGreat
namespace Go.Proofs.YtpfkfbmghddepaaGreat
open Go.RowKit

theorem shardIdOk_any (x : Int) (w : World) : Calls Tryz.prog 105 #[.int .i64 x] w fun e w' => e = .returned (.bool (decide (1 ≤ x ∧ x ≤ 3))) ∧ w' = w := by
  by_cases h1 : 1 ≤ x
  · by_cases h2 : x ≤ 3
    · have d1 : decide (1 ≤ x) = true := by simpa using h1
      have d2 : decide (x ≤ 3) = true := by simpa using h2
      go_enter Tryz.func105, Tryz.ntmps105
      go_wp2
      go_ret
      exact ⟨by simp [h1, h2], rfl⟩
    · have d1 : decide (1 ≤ x) = true := by simpa using h1
      have d2 : decide (x ≤ 3) = false := by simpa using h2
      go_enter Tryz.func105, Tryz.ntmps105
      go_wp2
      go_ret
      exact ⟨by simp, rfl⟩
  · have d1 : decide (1 ≤ x) = false := by simpa using h1
    go_enter Tryz.func105, Tryz.ntmps105
    go_wp2
    go_ret
    exact ⟨by simp, rfl⟩

/-- a shard is right -/
noncomputable def shB (id N : Int) (ls : List Ld) (num : Int) (ok : Bool) (es : List EdgeV) (lb : List Int) : Bool := decide (1 ≤ id ∧ id ≤ 3) && (wB N ls && laB N ls num ok es lb)
set_option maxRecDepth 100000 in
set_option maxHeartbeats 4000000 in
theorem iShardOk_any (id N : Int) (ls : List Ld) (n : Nat) (a : Option Addr) (c : Nat) (num : Int) (ok : Bool) (es : List EdgeV) (lb : List Int) (n1 : Nat) (a1 : Option Addr) (c1 : Nat) (n2 : Nat) (a2 : Option Addr) (c2 : Nat) (hn : n ≤ 1048576) (hn1 : n1 ≤ 1048576) (hn2 : n2 ≤ 1048576) (w : World)
    (h : Ls w w.heap.size a n ls) (h1 : Es w w.heap.size a1 n1 es) (h2 : Is w w.heap.size a2 n2 lb) :
    Calls Tryz.prog 41 #[.agg #[.int .i64 id, .int .i64 N, .slice a n c, .int .i64 num, .bool ok, .slice a1 n1 c1, .slice a2 n2 c2]] w fun e w' => e = .returned (.bool (shB id N ls num ok es lb)) ∧ Below w.heap.size w w' := by
  obtain ⟨W1, hW1⟩ : ∃ W1, W1 = w.alloc (.cells #[.int .i64 id, .int .i64 N, .slice a n c, .int .i64 num, .bool ok, .slice a1 n1 c1, .slice a2 n2 c2] 67) := ⟨_, rfl⟩
  have G1 : Good w W1 := by rw [hW1]; exact (Good.refl w).alloc _
  have l0 : w.heap.size < W1.heap.size := by rw [hW1]; simp
  have HX : Hid (W1.cell? ⟨w.heap.size, 0, none⟩ = some (.int .i64 id) ∧ W1.cell? ⟨w.heap.size, 1, none⟩ = some (.int .i64 N) ∧ W1.cell? ⟨w.heap.size, 2, none⟩ = some (.slice a n c) ∧ W1.cell? ⟨w.heap.size, 3, none⟩ = some (.int .i64 num) ∧ W1.cell? ⟨w.heap.size, 4, none⟩ = some (.bool ok) ∧ W1.cell? ⟨w.heap.size, 5, none⟩ = some (.slice a1 n1 c1) ∧ W1.cell? ⟨w.heap.size, 6, none⟩ = some (.slice a2 n2 c2)) := by rw [hW1]; refine ⟨?_, ?_, ?_, ?_, ?_, ?_, ?_⟩ <;> simp [go_sem]
  have HC : Hid (∀ u, Good W1 u → u.cell? ⟨w.heap.size, 0, none⟩ = some (.int .i64 id) ∧ u.cell? ⟨w.heap.size, 1, none⟩ = some (.int .i64 N) ∧ u.cell? ⟨w.heap.size, 2, none⟩ = some (.slice a n c) ∧ u.cell? ⟨w.heap.size, 3, none⟩ = some (.int .i64 num) ∧ u.cell? ⟨w.heap.size, 4, none⟩ = some (.bool ok) ∧ u.cell? ⟨w.heap.size, 5, none⟩ = some (.slice a1 n1 c1) ∧ u.cell? ⟨w.heap.size, 6, none⟩ = some (.slice a2 n2 c2)) := fun u hu => by
    obtain ⟨x0, x1, x2, x3, x4, x5, x6⟩ := HX.out
    exact ⟨by rw [hu.cell l0]; exact x0, by rw [hu.cell l0]; exact x1, by rw [hu.cell l0]; exact x2, by rw [hu.cell l0]; exact x3, by rw [hu.cell l0]; exact x4, by rw [hu.cell l0]; exact x5, by rw [hu.cell l0]; exact x6⟩
  have HI := hideIt (shardIdOk_any id W1)
  have HW := hideIt (fun u (hu : Good W1 u) => iWebOk_any N ls n a c hn u (h.up (G1.up hu)))
  have HL := hideIt (fun u (hu : Good W1 u) => lastOk_any N ls n a c num ok es lb n1 a1 c1 n2 a2 c2 hn hn1 hn2 u (h.up (G1.up hu)) (h1.up (G1.up hu)) (h2.up (G1.up hu)))
  have HG := hideIt G1
  have HV : Hid (shB id N ls num ok es lb = (decide (1 ≤ id ∧ id ≤ 3) && (wB N ls && laB N ls num ok es lb))) := rfl
  clear h h1 h2 G1
  generalize decide (1 ≤ id ∧ id ≤ 3) = iv at *
  generalize wB N ls = wv at *
  generalize laB N ls num ok es lb = lv at *
  obtain ⟨x0, x1, x2, x3, x4, x5, x6⟩ := HX.out
  cases iv with
  | false =>
    go_enter Tryz.func41, Tryz.ntmps41
    go_upto_region 1 with fail
    rw [← hW1]
    clear hW1
    go_wp2_with (go_at_call 105; refine HI.out.mono ?_; rintro e w1 ⟨rfl, hw1⟩; have hw1' := hw1.symm; subst hw1')
    go_ret
    exact ⟨by rw [HV.out]; rfl, HG.out⟩
  | true =>
    cases wv with
    | false =>
      go_enter Tryz.func41, Tryz.ntmps41
      go_upto_region 1 with fail
      rw [← hW1]
      clear hW1
      go_wp2_with (first | (go_at_call 105; refine HI.out.mono ?_; rintro e w1 ⟨rfl, hw1⟩; have hw1' := hw1.symm; subst hw1') | (go_at_call 19; refine (HW.out _ (Good.refl _)).mono ?_; rintro e w2 ⟨rfl, hb2⟩))
      go_ret
      exact ⟨by rw [HV.out]; rfl, HG.out.up hb2⟩
    | true =>
      go_enter Tryz.func41, Tryz.ntmps41
      go_upto_region 1 with fail
      rw [← hW1]
      clear hW1
      go_wp2_with (first | (go_at_call 105; refine HI.out.mono ?_; rintro e w1 ⟨rfl, hw1⟩; have hw1' := hw1.symm; subst hw1') | (go_at_call 19; refine (HW.out _ (Good.refl _)).mono ?_; rintro e w2 ⟨rfl, hb2⟩; refine Hid.out ?_))
      refine (show ∀ {p : Prop}, p → Hid p from fun h => h) ?_
      obtain ⟨z0, z1, z2, z3, z4, z5, z6⟩ := HC.out _ hb2
      have HLc := hideIt (HL.out _ hb2)
      have HG2 := hideIt (HG.out.up hb2)
      clear hb2 x0 x1 x2 x3 x4 x5 x6
      go_wp2_with (go_at_call 106; refine HLc.out.mono ?_; rintro e w3 ⟨rfl, hb3⟩)
      go_ret
      exact ⟨by rw [HV.out]; cases lv <;> rfl, HG2.out.up hb3⟩
end Go.Proofs.YtpfkfbmghddepaaGreat
namespace Go.Proofs.YtpfkfbmghddepaaGreat
open Go.RowKit

set_option maxRecDepth 100000 in
set_option maxHeartbeats 4000000 in
theorem l08Tree_any (N : Int) (ls : List Ld) (lv : Int) (n : Nat) (a : Option Addr) (c : Nat) (hn : n ≤ 1048576) (w : World) (h : Ls w w.heap.size a n ls) :
    Calls Tryz.prog 147 #[.agg #[.int .i64 N, .slice a n c], .int .i64 lv] w fun e w' => ∃ g m c', e = .returned (.slice (some ⟨g, 0, none⟩) m c') ∧ w'.ownsRow w.heap.size 28 2 (.slice (some ⟨g, 0, none⟩) m c') m (ecells (fE ls lv)) ∧ Below w.heap.size w w' := by
  obtain ⟨i0, hi, hz0, hz1, hz2⟩ := info_parts infoIE
  have HR := hideIt h
  have hlen := h.1
  have HS0 := hideIt (FSt.start w N a n c)
  clear h
  go_enter Tryz.func147, Tryz.ntmps147
  go_wp2
  go_loopw [5, 6] (fun r i wr => ∃ (k g m c' : Nat), k ≤ n ∧ m ≤ k ∧ i = .int .i64 (k : Int) ∧ r = .slice (some ⟨g, 0, none⟩) m c' ∧ FSt w N a n c g m c' (fE (ls.take k) lv) wr) (fun _ i _ => n - (intOf i).toNat)
  case atStart => exact ⟨0, _, 0, 0, by omega, by omega, rfl, rfl, HS0.out⟩
  case round =>
    obtain ⟨k, g, m, c', hk, hm, rfl, rfl, hst⟩ := hrel
    clear HS0
    have hz := hst.size
    obtain ⟨cw0, cw1⟩ := wW_cells hst.bel
    by_cases hlt : k < n
    · obtain ⟨b, off, x, rfl, hbl, hxk, hat⟩ := (HR.out.below hst.good (Nat.le_refl _)).at hlt
      have e0 := hat.ca
      have e1 := hat.cb
      have e2 := hat.cl
      have e3 := hat.ct
      have b1 : (0 : Int) ≤ (k : Int) := by omega
      have b2 : (k : Int) < (n : Int) := by omega
      have hba : Below wr.heap.size wr (wr.alloc (.cells #[.int .i64 x.a, .int .i64 x.b, .int .i64 x.l, .bool x.t] 52)) := (Below.refl _ _).alloc (Nat.le_refl _) _
      have HS1 := hideIt (hst.up hba)
      cases hp : fP lv x with
      | true =>
        have HF := hideIt (fE_take_yes hxk hp)
        unfold fP at hp
        rw [Bool.and_eq_true, decide_eq_true_eq] at hp
        obtain ⟨ht, hle⟩ := hp
        rw [ht] at e3 HS1
        have z2 := HS1.out.size
        simp at z2
        clear hxk hat hba hst
        go_wp2_with (at_builtin; refine wpList_append_own _ rfl _ _ 31 rfl (w.heap.size + 1) 28 i0 _ 2 16 Tryz.underlying31 hi hz0 hz1 hz2 rfl (by decide) _ _ _ rfl (HS1.out.own.alloc _) ⟨wr.heap.size + 1, 0, none⟩ 1 1 [.int .i64 x.a, .int .i64 x.b] rfl rfl (by have := newsE9 (wr.alloc (.cells #[.int .i64 x.a, .int .i64 x.b, .int .i64 x.l, .bool true] 52)) (x.a, x.b); simpa using this) (by intro u hu; simp at hu; rcases hu with rfl | rfl <;> rfl) (by unfold maxLen; omega) (by omega) (by simp; omega) ?_)
        intro v2 w2 hown2 hg2 hn2
        obtain ⟨g2, c2, rfl, hst2⟩ := HS1.out.app (e := (x.a, x.b)) hown2 hg2
        have HS3 := hideIt hst2
        clear hown2 hg2 hn2 hst2 HS1 e0 e1 e2 e3
        go_wp2
        exact ⟨⟨k + 1, g2, m + 1, c2, by omega, by omega, by go_num, rfl, by rw [HF.out]; exact HS3.out⟩, by simp [intOf]; omega⟩
      | false =>
        have HF := hideIt (fE_take_no hxk hp)
        clear hxk hat hba hst
        cases ht : x.t with
        | false =>
          rw [ht] at e3 HS1
          clear hp
          go_wp2
          exact ⟨⟨k + 1, g, m, c', by omega, by omega, by go_num, rfl, by rw [HF.out]; exact HS1.out⟩, by simp [intOf]; omega⟩
        | true =>
          rw [ht] at e3 HS1
          have hle : ¬ lv ≤ x.l := fun h2 => by unfold fP at hp; rw [ht, decide_eq_true h2] at hp; cases hp
          clear hp
          go_wp2
          exact ⟨⟨k + 1, g, m, c', by omega, by omega, by go_num, rfl, by rw [HF.out]; exact HS1.out⟩, by simp [intOf]; omega⟩
    · have e : ls.take k = ls := List.take_of_length_le (by omega)
      rw [e] at hst
      have HST := hideIt hst
      clear hst e
      go_wp2
      go_ret
      exact ⟨g, m, c', rfl, own_mono HST.out.own (by omega), HST.out.good⟩
end Go.Proofs.YtpfkfbmghddepaaGreat
namespace Go.Proofs.YtpfkfbmghddepaaGreat
open Go.RowKit

theorem ISt.appL {wb : World} {a : Option Addr} {m c : Nat} {ls : List Int} {u : World} (h : ISt wb a m c ls u) {xs : List Int} {m3 : Nat} {v : Value} {u' : World}
    (ho : u'.ownsRow wb.heap.size 3 1 v m3 (ic ls ++ ic xs)) (hg : u.grownBy u' (Value.slice a m c).ownBlock) :
    ∃ a' c', v = .slice a' m3 c' ∧ ISt wb a' m3 c' (ls ++ xs) u' := by
  obtain ⟨a', c', rfl⟩ := own_form ho
  rw [← ic_append] at ho
  refine ⟨a', c', rfl, ho, ?_⟩
  exact h.bel.grown hg (by have := h.size; omega) (fun j hj => (h.own.lt j hj).1)
/-- from its root on a tour is as it is -/
theorem reT_zero {t : List Int} {v : Int} (hB : tB t = true) (hv : t[0]? = some v) : reT t 0 v = t := by
  obtain ⟨x, r, s, rfl, _, _, hr⟩ := tB_open hB
  simp at hv
  subst hv
  rcases hr with rfl | ⟨q, rfl⟩
  · simp [reT]
  · have e : x :: (q ++ [x]) = (x :: q) ++ [x] := rfl
    unfold reT
    rw [e, List.length_append, List.take_append_of_le_length (by simp), List.take_of_length_le (by simp)]
    simp
theorem tans_none {w u : World} {o : Option (List Int)} (ho : o = none) {g : Nat} (hown : u.ownsRow w.heap.size 3 1 (.slice (some ⟨g, 0, none⟩) 0 0) 0 (ic [])) (h : Below w.heap.size w u) : TAns w o (.returned (.tuple #[.slice (some ⟨g, 0, none⟩) 0 0, .bool false])) u := by
  subst ho
  exact ⟨_, 0, 0, rfl, hown, h⟩

end Go.Proofs.YtpfkfbmghddepaaGreat
namespace Go.Proofs.YtpfkfbmghddepaaGreat
open Go.RowKit

/-- the table of what was seen -/
structure Arr (u : World) (gs n : Nat) (seen : List Int) : Prop where
  cell : ∀ j : Nat, j < n → u.cell? ⟨gs, j, none⟩ = some (.bool (decide ((j : Int) ∈ seen)))
  frz : ∀ j : Nat, u.frozen? ⟨gs, j, none⟩ = false
  lt : gs < u.heap.size
theorem Arr.up {u v : World} {gs n : Nat} {seen : List Int} (h : Arr u gs n seen) (hb : Below u.heap.size u v) : Arr v gs n seen :=
  ⟨fun j hj => by rw [hb.cell (p := ⟨gs, j, none⟩) h.lt]; exact h.cell j hj, fun j => by rw [hb.frozen (p := ⟨gs, j, none⟩) h.lt]; exact h.frz j, Nat.lt_of_lt_of_le h.lt hb.size⟩
theorem Arr.grown {u v : World} {gs n X : Nat} {seen : List Int} (h : Arr u gs n seen) (hg : u.grownBy v (some X)) (hX : gs ≠ X) : Arr v gs n seen := by
  have hb : v.heap[gs]? = u.heap[gs]? := hg.block gs h.lt (by simp; exact fun e => hX e)
  exact ⟨fun j hj => by rw [World.cell?_of_block (w := u) (a := ⟨gs, j, none⟩) hb]; exact h.cell j hj, fun j => by rw [World.frozen?_of_block (w := u) (a := ⟨gs, j, none⟩) hb]; exact h.frz j, Nat.lt_of_lt_of_le h.lt hg.size⟩
theorem Arr.put {u : World} {gs n : Nat} {seen : List Int} (h : Arr u gs n seen) (x : Nat) (hx : x < n) : Arr (u.setCell ⟨gs, x, none⟩ (.bool true)) gs n ((x : Int) :: seen) := by
  refine ⟨fun j hj => ?_, fun j => ?_, by simp [World.setCell]; exact h.lt⟩
  · by_cases hjx : j = x
    · subst hjx
      rw [World.cell?_setCell_same u ⟨gs, j, none⟩ _ (h.cell j hj)]
      simp
    · rw [World.cell?_setCell_other]
      · rw [h.cell j hj]
        have : ¬ ((j : Int) = (x : Int)) := by omega
        simp [this]
      · exact fun e => hjx (by simpa using e.symm)
  · rw [World.frozen?_setCell]; exact h.frz j
/-- the walk under way: the list in the making, and the table -/
structure WSt (w : World) (gs n : Nat) (a : Option Addr) (m c : Nat) (out seen : List Int) (u : World) : Prop where
  own : u.ownsRow w.heap.size 3 1 (.slice a m c) m (ic out)
  arr : Arr u gs n seen
  grown : w.grownBy u (some gs)
theorem Es.grown {w u : World} {gs : Nat} {a : Option Addr} {n : Nat} {fs : List EdgeV} (h : Es w gs a n fs) (hgs : gs ≤ w.heap.size) (hg : w.grownBy u (some gs)) : Es u gs a n fs := by
  refine ⟨h.1, h.2.imp id ?_⟩
  rintro ⟨b, off, h1, h2, h3⟩
  have hb : u.heap[b]? = w.heap[b]? := hg.block b (by omega) (by simp; omega)
  exact ⟨b, off, h1, h2, fun j x hx => by
    have := h3 j x hx
    rw [World.cell?_of_block (w := w) (a := ⟨b, _, none⟩) hb, World.cell?_of_block (w := w) (a := ⟨b, _, none⟩) hb]
    exact this⟩
theorem wkGo_len {rec : Int → Int → List Int → Option (List Int × List Int)} {es : List EdgeV} {n : Nat} {v fr : Int} {rem : Nat} {out seen t sn : List Int} (h : wkGo rec es n v fr rem out seen = some (t, sn)) : out.length ≤ t.length := by
  induction rem generalizing out seen with
  | zero => simp [wkGo] at h; rw [h.1]; exact Nat.le_refl _
  | succ rem ih =>
    rw [wkGo] at h
    split at h
    · exact ih h
    · split at h
      · simp at h
      · cases hr : rec ((n - (rem + 1) : Nat) : Int) v seen with
        | none => rw [hr] at h; simp at h
        | some p =>
          rw [hr] at h
          have := ih h
          simp at this
          omega
theorem grown_up {w u v : World} {G : Nat} (h : w.grownBy u (some G)) (hb : Below w.heap.size u v) : w.grownBy v (some G) :=
  ⟨hb.os.trans h.os, hb.tape.trans h.tape, hb.output.trans h.output, Nat.le_trans h.size hb.size, fun k hk hr => (hb.block k hk).trans (h.block k hk hr)⟩
theorem WSt.up {w : World} {gs n : Nat} {a : Option Addr} {m c : Nat} {out seen : List Int} {u v : World} (h : WSt w gs n a m c out seen u) (hb : Below u.heap.size u v) : WSt w gs n a m c out seen v :=
  ⟨own_up h.own hb, h.arr.up hb, grown_up h.grown (hb.mono h.grown.size)⟩
theorem WSt.turned {w : World} {gs n : Nat} {a : Option Addr} {m c : Nat} {out seen sn : List Int} {u v : World} (h : WSt w gs n a m c out seen u) (hgs : gs < w.heap.size) (hg : u.grownBy v (some gs)) (ha : Arr v gs n sn) : WSt w gs n a m c out sn v :=
  ⟨World.ownsRow.kept h.own hg (.inr (fun e => by have := (h.own.lt gs e).1; omega)), ha, grown_trans h.grown hg⟩
theorem WSt.app {w : World} {gs n : Nat} {a : Option Addr} {m c : Nat} {out seen : List Int} {u : World} (h : WSt w gs n a m c out seen u) (hgs : gs < w.heap.size) {xs : List Int} {m3 : Nat} {v : Value} {u' : World}
    (ho : u'.ownsRow w.heap.size 3 1 v (m + m3) (ic out ++ ic xs)) (hg : u.grownBy u' (Value.slice a m c).ownBlock) : ∃ a' c', v = .slice a' (m + m3) c' ∧ WSt w gs n a' (m + m3) c' (out ++ xs) seen u' := by
  obtain ⟨a', c', rfl⟩ := own_form ho
  rw [← ic_append] at ho
  have hb : Below w.heap.size u u' := (Below.refl _ u).grown hg h.grown.size (fun j hj => (h.own.lt j hj).1)
  have hne : (Value.slice a m c).ownBlock ≠ some gs := fun e => by have := (h.own.lt gs e).1; omega
  have hbl : u'.heap[gs]? = u.heap[gs]? := hg.block gs h.arr.lt (fun e => hne e.symm)
  exact ⟨a', c', rfl, ho, ⟨fun j hj => by rw [World.cell?_of_block (w := u) (a := ⟨gs, j, none⟩) hbl]; exact h.arr.cell j hj, fun j => by rw [World.frozen?_of_block (w := u) (a := ⟨gs, j, none⟩) hbl]; exact h.arr.frz j, Nat.lt_of_lt_of_le h.arr.lt hg.size⟩, grown_up h.grown hb⟩
theorem WSt.len {w : World} {gs n : Nat} {a : Option Addr} {m c : Nat} {out seen : List Int} {u : World} (h : WSt w gs n a m c out seen u) : out.length = m := by have := h.own.1; rw [ic_len] at this; omega
theorem wk_head {es : List EdgeV} {n f : Nat} {v fr : Int} {seen t sn : List Int} (h : wk es n f v fr seen = some (t, sn)) : 0 < t.length := by
  cases f with
  | zero => simp [wk] at h
  | succ f => rw [wk] at h; have := wkGo_len h; simp at this; omega
set_option maxRecDepth 100000 in
set_option maxHeartbeats 8000000 in
theorem l06Walk_any (es : List EdgeV) (n ne : Nat) (a : Option Addr) (c gs cs : Nat) (hn : n ≤ 12) (hne : ne ≤ 1000) (f : Nat) : ∀ (v : Nat) (fr : Int) (seen : List Int) (w : World) (t sn : List Int), wk es n f (v : Int) fr seen = some (t, sn) → t.length ≤ 1000 → v < n → Es w gs a ne es → Arr w gs n seen →
    Calls Tryz.prog 193 #[.int .i64 (n : Int), .slice a ne c, .int .i64 (v : Int), .int .i64 fr, .slice (some ⟨gs, 0, none⟩) n cs] w fun e w' => ∃ a' m c', e = .returned (.tuple #[.slice a' m c', .bool false]) ∧ w'.ownsRow w.heap.size 3 1 (.slice a' m c') m (ic t) ∧ w.grownBy w' (some gs) ∧ Arr w' gs n sn := by
  obtain ⟨i0, hi, hz0, hz1, hz2⟩ := info_parts info3i
  induction f with
  | zero => intro v fr seen w t sn h; simp [wk] at h
  | succ f ih =>
    intro v fr seen w t sn hwk htl hvn hes harr
    have IH := hideIt ih
    clear ih
    rw [wk] at hwk
    have HW := hideIt hwk
    clear hwk
    have HE := hideIt hes
    have hgl := harr.lt
    have b1 : (0 : Int) ≤ (v : Int) := by omega
    have b2 : (v : Int) < (n : Int) := by omega
    have c0 := harr.cell v hvn
    have c1 := harr.frz v
    have H0 : Hid (WSt w gs n (some ⟨w.heap.size, 0, none⟩) 1 1 [(v : Int)] ((v : Int) :: seen) ((w.setCell ⟨gs, v, none⟩ (.bool true)).alloc (.cells #[.int .i64 (v : Int)] 3))) := by
      have hsz : (w.setCell ⟨gs, v, none⟩ (.bool true)).heap.size = w.heap.size := by simp [World.setCell]
      have o1 := World.ownsRow_lit (base := w.heap.size) (e := 3) (size := 1) (w.setCell ⟨gs, v, none⟩ (.bool true)) #[.int .i64 (v : Int)] 1 (by rw [hsz]; exact Nat.le_refl _) (by unfold maxLen; omega) (by simp)
      rw [hsz] at o1
      have hb := (Below.refl _ (w.setCell ⟨gs, v, none⟩ (.bool true))).alloc (Nat.le_refl _) (.cells #[.int .i64 (v : Int)] 3)
      exact ⟨by simpa [ic] using o1, (harr.put v hvn).up hb, grown_trans (grownSet _ gs v _) (grown_of_below hb _)⟩
    clear hes harr
    go_enter Tryz.func193, Tryz.ntmps193
    go_wp2
    go_loopw [12, 13] (fun r i wr => ∃ (k m c1 : Nat) (a1 : Option Addr) (out sk : List Int), k ≤ n ∧ i = .int .i64 (k : Int) ∧ r = .slice a1 m c1 ∧ Hid (wkGo (wk es n f) es n (v : Int) fr (n - k) out sk = some (t, sn)) ∧ Hid (WSt w gs n a1 m c1 out sk wr)) (fun _ i _ => n - (intOf i).toNat)
    case atStart => exact ⟨0, 1, 1, _, [(v : Int)], (v : Int) :: seen, by omega, rfl, rfl, HW, H0⟩
    case round =>
      obtain ⟨k, m, c2, a1, out, sk, hk, rfl, rfl, HG, HS⟩ := hrel
      clear H0 HW c0 c1
      have hml := HS.out.len
      by_cases hlt : k < n
      · have b3 : (0 : Int) ≤ (k : Int) := by omega
        have b4 : (k : Int) < (n : Int) := by omega
        by_cases hvk : (v : Int) < (k : Int)
        · have d1 : decide ((v : Int) < (k : Int)) = true := decide_eq_true hvk
          have HEe : Hid (mkE (v : Int) (k : Int) = ((v : Int), (k : Int))) := by show _ = _; unfold mkE; rw [if_pos hvk]
          have hb1 : Below wr.heap.size wr (wr.alloc (.cells #[.int .i64 (v : Int), .int .i64 (k : Int)] 28)) := (Below.refl _ _).alloc (Nat.le_refl _) _
          have HS1 := hideIt (HS.out.up hb1)
          clear hb1
          obtain ⟨rem, hrem⟩ : ∃ rem, n - k = rem + 1 := ⟨n - k - 1, by omega⟩
          have hrem2 : n - (k + 1) = rem := by omega
          have hrem3 : n - (rem + 1) = k := by omega
          rw [hrem] at HG
          have Hrem := hideIt (And.intro hrem (And.intro hrem2 hrem3))
          clear hrem hrem2 hrem3
          by_cases hkf : (k : Int) = fr
          · have d2 : ((k : Int) == fr) = true := by simpa using hkf
            have HG2 : Hid (wkGo (wk es n f) es n (v : Int) fr (n - (k + 1)) out sk = some (t, sn)) := by show _ = _; rw [Hrem.out.2.1, ← wkGo_skip Hrem.out.2.2 (.inl hkf)]; exact HG.out
            clear HG HS hkf
            go_wp2
            exact ⟨⟨k + 1, m, c2, a1, out, sk, by omega, by go_num, rfl, HG2, HS1⟩, by simp [intOf]; omega⟩
          · have d2 : ((k : Int) == fr) = false := by simpa using hkf
            have HH := hideIt (l05Has_any es ((v : Int), (k : Int)) ne a c (by omega) _ ((HE.out.grown (by omega) HS1.out.grown).mono (by have := HS1.out.grown.size; omega)))
            cases hb : hasB es ((v : Int), (k : Int)) with
            | false =>
              rw [hb] at HH
              have HG2 : Hid (wkGo (wk es n f) es n (v : Int) fr (n - (k + 1)) out sk = some (t, sn)) := by
                show _ = _
                rw [Hrem.out.2.1, ← wkGo_skip Hrem.out.2.2 (.inr (by rw [HEe.out]; exact of_decide_eq_false hb))]
                exact HG.out
              clear HG HS hb
              go_wp2_with (go_at_call 67; refine HH.out.mono ?_; rintro e w3 ⟨rfl, hb3⟩)
              exact ⟨⟨k + 1, m, c2, a1, out, sk, by omega, by go_num, rfl, HG2, hideIt (HS1.out.up hb3)⟩, by simp [intOf]; omega⟩
            | true =>
              rw [hb] at HH
              obtain ⟨hks, p, hp, hgo⟩ := wkGo_go Hrem.out.2.2 hkf (by rw [HEe.out]; exact of_decide_eq_true hb) HG.out
              have hln := wkGo_len hgo
              simp at hln
              have hp0 := wk_head hp
              have HG2 : Hid (wkGo (wk es n f) es n (v : Int) fr (n - (k + 1)) (out ++ p.1 ++ [(v : Int)]) p.2 = some (t, sn)) := by show _ = _; rw [Hrem.out.2.1]; exact hgo
              have HP := hideIt hp
              have HK := hideIt hks
              clear HG HS hb hp hgo hks Hrem
              go_wp2_with (go_at_call 67; refine HH.out.mono ?_; rintro e w3 ⟨rfl, hb3⟩; refine Hid.out ?_)
              refine (show ∀ {p : Prop}, p → Hid p from fun h => h) ?_
              have HS3 := hideIt (HS1.out.up hb3)
              have e0 := HS3.out.arr.cell k hlt
              rw [decide_eq_false HK.out] at e0
              have HR := hideIt (IH.out k (v : Int) sk w3 p.1 p.2 HP.out (by omega) hlt (HE.out.grown (by omega) HS3.out.grown) HS3.out.arr)
              clear HS1 HH hb3
              go_wp2_with (go_at_call 193; refine HR.out.mono ?_; rintro e w4 ⟨a4, m4, c4, rfl, ho4, hg4, har4⟩; refine Hid.out ?_)
              refine (show ∀ {p : Prop}, p → Hid p from fun h => h) ?_
              have HS4 := hideIt (HS3.out.turned hgl hg4 har4)
              have I4 := Is_of_own ho4
              have hm4 : p.1.length = m4 := I4.1
              obtain ⟨g4, c4', hform, _⟩ := ho4.form (by omega)
              simp at hform
              obtain ⟨rfl, rfl⟩ := hform
              have HN4 := hideIt I4.news
              have HN4l : Hid ((ic p.1).length = m4 * 1) := by show _ = _; rw [ic_len]; omega
              have z4 := HS4.out.grown.size
              clear HS3 HR ho4 hg4 har4 e0 I4
              go_wp2_with (at_builtin; refine wpList_append_own _ rfl _ _ 44 rfl w.heap.size 3 i0 _ 1 8 Tryz.underlying44 hi hz0 hz1 hz2 rfl (by decide) _ _ _ rfl HS4.out.own ⟨g4, 0, none⟩ m4 c4 (ic p.1) rfl HN4l.out HN4.out ic_one (by unfold maxLen; omega) (by omega) z4 ?_)
              intro v5 w5 hown5 hg5 _
              obtain ⟨a5, c5, rfl, S5⟩ := HS4.out.app hgl hown5 hg5
              clear hown5 hg5 HS4 HN4 HN4l
              refine Hid.out ?_
              refine (show ∀ {p : Prop}, p → Hid p from fun h => h) ?_
              have HS5 := hideIt (S5.up ((Below.refl _ w5).alloc (Nat.le_refl _) (.cells #[.int .i64 (v : Int)] 3)))
              have z5 := HS5.out.grown.size
              simp at z5
              clear S5
              go_wp2_with (at_builtin; refine wpList_append_own _ rfl _ _ 44 rfl w.heap.size 3 i0 _ 1 8 Tryz.underlying44 hi hz0 hz1 hz2 rfl (by decide) _ _ _ rfl HS5.out.own ⟨w5.heap.size, 0, none⟩ 1 1 [.int .i64 (v : Int)] rfl rfl (newsI w5 (v : Int)) (by intro u hu; simp at hu; subst hu; rfl) (by unfold maxLen; omega) (by omega) (by simp; omega) ?_)
              intro v6 w6 hown6 hg6 _
              obtain ⟨a6, c6, rfl, S6⟩ := HS5.out.app hgl (xs := [(v : Int)]) hown6 hg6
              have HS6 := hideIt S6
              clear hown6 hg6 HS5 S6
              go_wp2
              exact ⟨⟨k + 1, _, c6, a6, _, p.2, by omega, by go_num, rfl, HG2, HS6⟩, by simp [intOf]; omega⟩
        · have d1 : decide ((v : Int) < (k : Int)) = false := decide_eq_false hvk
          have HEe : Hid (mkE (v : Int) (k : Int) = ((k : Int), (v : Int))) := by show _ = _; unfold mkE; rw [if_neg hvk]
          have hb1 : Below wr.heap.size wr (wr.alloc (.cells #[.int .i64 (k : Int), .int .i64 (v : Int)] 28)) := (Below.refl _ _).alloc (Nat.le_refl _) _
          have HS1 := hideIt (HS.out.up hb1)
          clear hb1
          obtain ⟨rem, hrem⟩ : ∃ rem, n - k = rem + 1 := ⟨n - k - 1, by omega⟩
          have hrem2 : n - (k + 1) = rem := by omega
          have hrem3 : n - (rem + 1) = k := by omega
          rw [hrem] at HG
          have Hrem := hideIt (And.intro hrem (And.intro hrem2 hrem3))
          clear hrem hrem2 hrem3
          by_cases hkf : (k : Int) = fr
          · have d2 : ((k : Int) == fr) = true := by simpa using hkf
            have HG2 : Hid (wkGo (wk es n f) es n (v : Int) fr (n - (k + 1)) out sk = some (t, sn)) := by show _ = _; rw [Hrem.out.2.1, ← wkGo_skip Hrem.out.2.2 (.inl hkf)]; exact HG.out
            clear HG HS hkf
            go_wp2
            exact ⟨⟨k + 1, m, c2, a1, out, sk, by omega, by go_num, rfl, HG2, HS1⟩, by simp [intOf]; omega⟩
          · have d2 : ((k : Int) == fr) = false := by simpa using hkf
            have HH := hideIt (l05Has_any es ((k : Int), (v : Int)) ne a c (by omega) _ ((HE.out.grown (by omega) HS1.out.grown).mono (by have := HS1.out.grown.size; omega)))
            cases hb : hasB es ((k : Int), (v : Int)) with
            | false =>
              rw [hb] at HH
              have HG2 : Hid (wkGo (wk es n f) es n (v : Int) fr (n - (k + 1)) out sk = some (t, sn)) := by
                show _ = _
                rw [Hrem.out.2.1, ← wkGo_skip Hrem.out.2.2 (.inr (by rw [HEe.out]; exact of_decide_eq_false hb))]
                exact HG.out
              clear HG HS hb
              go_wp2_with (go_at_call 67; refine HH.out.mono ?_; rintro e w3 ⟨rfl, hb3⟩)
              exact ⟨⟨k + 1, m, c2, a1, out, sk, by omega, by go_num, rfl, HG2, hideIt (HS1.out.up hb3)⟩, by simp [intOf]; omega⟩
            | true =>
              rw [hb] at HH
              obtain ⟨hks, p, hp, hgo⟩ := wkGo_go Hrem.out.2.2 hkf (by rw [HEe.out]; exact of_decide_eq_true hb) HG.out
              have hln := wkGo_len hgo
              simp at hln
              have hp0 := wk_head hp
              have HG2 : Hid (wkGo (wk es n f) es n (v : Int) fr (n - (k + 1)) (out ++ p.1 ++ [(v : Int)]) p.2 = some (t, sn)) := by show _ = _; rw [Hrem.out.2.1]; exact hgo
              have HP := hideIt hp
              have HK := hideIt hks
              clear HG HS hb hp hgo hks Hrem
              go_wp2_with (go_at_call 67; refine HH.out.mono ?_; rintro e w3 ⟨rfl, hb3⟩; refine Hid.out ?_)
              refine (show ∀ {p : Prop}, p → Hid p from fun h => h) ?_
              have HS3 := hideIt (HS1.out.up hb3)
              have e0 := HS3.out.arr.cell k hlt
              rw [decide_eq_false HK.out] at e0
              have HR := hideIt (IH.out k (v : Int) sk w3 p.1 p.2 HP.out (by omega) hlt (HE.out.grown (by omega) HS3.out.grown) HS3.out.arr)
              clear HS1 HH hb3
              go_wp2_with (go_at_call 193; refine HR.out.mono ?_; rintro e w4 ⟨a4, m4, c4, rfl, ho4, hg4, har4⟩; refine Hid.out ?_)
              refine (show ∀ {p : Prop}, p → Hid p from fun h => h) ?_
              have HS4 := hideIt (HS3.out.turned hgl hg4 har4)
              have I4 := Is_of_own ho4
              have hm4 : p.1.length = m4 := I4.1
              obtain ⟨g4, c4', hform, _⟩ := ho4.form (by omega)
              simp at hform
              obtain ⟨rfl, rfl⟩ := hform
              have HN4 := hideIt I4.news
              have HN4l : Hid ((ic p.1).length = m4 * 1) := by show _ = _; rw [ic_len]; omega
              have z4 := HS4.out.grown.size
              clear HS3 HR ho4 hg4 har4 e0 I4
              go_wp2_with (at_builtin; refine wpList_append_own _ rfl _ _ 44 rfl w.heap.size 3 i0 _ 1 8 Tryz.underlying44 hi hz0 hz1 hz2 rfl (by decide) _ _ _ rfl HS4.out.own ⟨g4, 0, none⟩ m4 c4 (ic p.1) rfl HN4l.out HN4.out ic_one (by unfold maxLen; omega) (by omega) z4 ?_)
              intro v5 w5 hown5 hg5 _
              obtain ⟨a5, c5, rfl, S5⟩ := HS4.out.app hgl hown5 hg5
              clear hown5 hg5 HS4 HN4 HN4l
              refine Hid.out ?_
              refine (show ∀ {p : Prop}, p → Hid p from fun h => h) ?_
              have HS5 := hideIt (S5.up ((Below.refl _ w5).alloc (Nat.le_refl _) (.cells #[.int .i64 (v : Int)] 3)))
              have z5 := HS5.out.grown.size
              simp at z5
              clear S5
              go_wp2_with (at_builtin; refine wpList_append_own _ rfl _ _ 44 rfl w.heap.size 3 i0 _ 1 8 Tryz.underlying44 hi hz0 hz1 hz2 rfl (by decide) _ _ _ rfl HS5.out.own ⟨w5.heap.size, 0, none⟩ 1 1 [.int .i64 (v : Int)] rfl rfl (newsI w5 (v : Int)) (by intro u hu; simp at hu; subst hu; rfl) (by unfold maxLen; omega) (by omega) (by simp; omega) ?_)
              intro v6 w6 hown6 hg6 _
              obtain ⟨a6, c6, rfl, S6⟩ := HS5.out.app hgl (xs := [(v : Int)]) hown6 hg6
              have HS6 := hideIt S6
              clear hown6 hg6 HS5 S6
              go_wp2
              exact ⟨⟨k + 1, _, c6, a6, _, p.2, by omega, by go_num, rfl, HG2, HS6⟩, by simp [intOf]; omega⟩
      · obtain rfl : k = n := by omega
        have HT : Hid (out = t ∧ sk = sn) := by
          show _ ∧ _
          have := HG.out
          rw [Nat.sub_self, wkGo] at this
          simpa using this
        clear HG
        go_wp2
        go_ret2
        exact ⟨a1, m, c2, rfl, by rw [← HT.out.1]; exact HS.out.own, HS.out.grown, by rw [← HT.out.2]; exact HS.out.arr⟩
end Go.Proofs.YtpfkfbmghddepaaGreat
