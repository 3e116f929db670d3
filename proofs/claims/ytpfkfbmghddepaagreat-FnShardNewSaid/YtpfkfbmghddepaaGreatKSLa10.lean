/- The specification's ShardOk. The laws' own functions over webs. The program's ReadOrder. What the laws' own functions over answers answer; answers in ranges of blocks of their own. Answers held against each other, marked and looked at again. What the laws' own functions over shards answer: szShard, toShard, eqShard. -/
import Derived.Test.YtpfkfbmghddepaaGreatKSWalk
import Derived.Test.YtpfkfbmghddepaaGreatKSLb9
import Derived.Test.YtpfkfbmghddepaaGreatKMem6
import Derived.Deep.RegionHeld3
import Derived.Test.YtpfkfbmghddepaaGreatKIntsO10
import Derived.Test.YtpfkfbmghddepaaGreatKAOk10
import Derived.Deep.DeepCutAuto
namespace Go.Proofs.YtpfkfbmghddepaaGreat
open Go.RowKit

set_option maxRecDepth 100000 in
theorem SameE_nil (n1 : Nat) (a1 : Option Addr) (c1 : Nat) (w : World) : Calls Tryz.prog 215 #[.slice a1 n1 c1, .slice none 0 0] w fun e w' => e = .returned (.bool (decide (n1 = 0))) ∧ w' = w := by
  by_cases h : n1 = 0
  · subst h
    go_enter Tryz.func215, Tryz.ntmps215
    go_wp2
    go_loopw [5] (fun q wr => q = .int .i64 0 ∧ wr = w) (fun _ _ => 0)
    case atStart => exact ⟨rfl, rfl⟩
    case round =>
      obtain ⟨rfl, rfl⟩ := hrel
      go_wp2
      go_ret
      exact ⟨rfl, rfl⟩
  · have d : ((n1 : Int) != 0) = true := by simpa using h
    have e : decide (n1 = 0) = false := decide_eq_false h
    rw [e]
    go_enter Tryz.func215, Tryz.ntmps215
    go_wp2
    go_ret
    exact ⟨rfl, rfl⟩
set_option maxRecDepth 100000 in
theorem sameAns_any (num : Int) (ok : Bool) (a1 a2 : Option Addr) (n1 c1 n2 c2 : Nat) (hn2 : n2 ≤ 1048576) (lb : List Int) (w : World) (h2 : Is w w.heap.size a2 n2 lb) :
    Calls Tryz.prog 179 #[.agg #[.int .i64 num, .bool ok, .slice a1 n1 c1, .slice a2 n2 c2], .agg #[.int .i64 0, .bool false, .slice none 0 0, .slice none 0 0]] w fun e w' => e = .returned (.bool (azB num ok n1 n2)) ∧ Below w.heap.size w w' := by
  obtain ⟨W2, hW2⟩ : ∃ W2, W2 = (w.alloc (.cells #[.int .i64 num, .bool ok, .slice a1 n1 c1, .slice a2 n2 c2] 65)).alloc (.cells #[.int .i64 0, .bool false, .slice none 0 0, .slice none 0 0] 65) := ⟨_, rfl⟩
  have G2 : Good w W2 := by rw [hW2]; exact ((Good.refl w).alloc _).alloc _
  have HG := hideIt G2
  have HE := hideIt (SameE_nil n1 a1 c1 W2)
  have hI := SameI_any lb [] n2 0 a2 none c2 0 hn2 (by omega) W2 (h2.up G2) ⟨rfl, .inl rfl⟩
  have hl : decide (lb = []) = decide (n2 = 0) := by
    have := h2.1
    by_cases e : lb = []
    · subst e; simp at this; simp [← this]
    · rw [decide_eq_false e, decide_eq_false (fun e2 => e (List.length_eq_zero_iff.1 (by omega)))]
  rw [hl] at hI
  have HI := hideIt hI
  have y0 : W2.cell? ⟨w.heap.size, 0, none⟩ = some (.int .i64 num) := by rw [hW2]; simp [go_sem]
  have y1 : W2.cell? ⟨w.heap.size, 1, none⟩ = some (.bool ok) := by rw [hW2]; simp [go_sem]
  have y2 : W2.cell? ⟨w.heap.size, 2, none⟩ = some (.slice a1 n1 c1) := by rw [hW2]; simp [go_sem]
  have y3 : W2.cell? ⟨w.heap.size, 3, none⟩ = some (.slice a2 n2 c2) := by rw [hW2]; simp [go_sem]
  have z0 : W2.cell? ⟨w.heap.size + 1, 0, none⟩ = some (.int .i64 0) := by rw [hW2]; simp [go_sem]
  have z1 : W2.cell? ⟨w.heap.size + 1, 1, none⟩ = some (.bool false) := by rw [hW2]; simp [go_sem]
  have z2 : W2.cell? ⟨w.heap.size + 1, 2, none⟩ = some (.slice none 0 0) := by rw [hW2]; simp [go_sem]
  have z3 : W2.cell? ⟨w.heap.size + 1, 3, none⟩ = some (.slice none 0 0) := by rw [hW2]; simp [go_sem]
  clear h2 G2 hI hl
  have HV : Hid (azB num ok n1 n2 = (decide (num = 0) && (decide (ok = false) && (decide (n1 = 0) && decide (n2 = 0))))) := by
    show _ = _
    unfold azB
    by_cases e1 : num = 0 <;> by_cases e2 : ok = false <;> by_cases e3 : n1 = 0 <;> by_cases e4 : n2 = 0 <;> simp [e1, e2, e3, e4]
  by_cases q1 : num = 0
  · have d1 : (num == 0) = true := by simpa using q1
    have v1 : decide (num = 0) = true := decide_eq_true q1
    rw [v1] at HV
    cases ok with
    | true =>
      clear q1 v1
      go_enter Tryz.func179, Tryz.ntmps179
      go_upto_region 1 with fail
      rw [← hW2]
      clear hW2
      go_wp2
      go_ret
      exact ⟨by rw [HV.out]; rfl, HG.out⟩
    | false =>
      clear q1 v1
      generalize decide (n1 = 0) = v3 at *
      generalize decide (n2 = 0) = v4 at *
      cases v3 with
      | false =>
        go_enter Tryz.func179, Tryz.ntmps179
        go_upto_region 1 with fail
        rw [← hW2]
        clear hW2
        go_wp2_with (go_at_call 215; refine HE.out.mono ?_; rintro e w3 ⟨rfl, hw3⟩; have hw3' := hw3.symm; subst hw3')
        go_ret
        exact ⟨by rw [HV.out]; rfl, HG.out⟩
      | true =>
        go_enter Tryz.func179, Tryz.ntmps179
        go_upto_region 1 with fail
        rw [← hW2]
        clear hW2
        go_wp2_with (first | (go_at_call 215; refine HE.out.mono ?_; rintro e w3 ⟨rfl, hw3⟩; have hw3' := hw3.symm; subst hw3') | (go_at_call 118; refine HI.out.mono ?_; rintro e w4 ⟨rfl, hb4⟩))
        go_ret
        exact ⟨by rw [HV.out]; cases v4 <;> rfl, HG.out.up hb4⟩
  · have d1 : (num == 0) = false := by simpa using q1
    have v1 : decide (num = 0) = false := decide_eq_false q1
    rw [v1] at HV
    clear q1 v1
    go_enter Tryz.func179, Tryz.ntmps179
    go_upto_region 1 with fail
    rw [← hW2]
    clear hW2
    go_wp2
    go_ret
    exact ⟨by rw [HV.out]; rfl, HG.out⟩
set_option maxRecDepth 100000 in
theorem blank_any (num : Int) (ok : Bool) (a1 a2 : Option Addr) (n1 c1 n2 c2 : Nat) (hn2 : n2 ≤ 1048576) (lb : List Int) (w : World) (h2 : Is w w.heap.size a2 n2 lb) :
    Calls Tryz.prog 116 #[.agg #[.int .i64 num, .bool ok, .slice a1 n1 c1, .slice a2 n2 c2]] w fun e w' => e = .returned (.bool (azB num ok n1 n2)) ∧ Below w.heap.size w w' := by
  have G1 : Good w (w.alloc (.cells #[.int .i64 num, .bool ok, .slice a1 n1 c1, .slice a2 n2 c2] 65)) := (Good.refl w).alloc _
  have HS := hideIt (sameAns_any num ok a1 a2 n1 c1 n2 c2 hn2 lb _ (h2.up G1))
  have HG := hideIt G1
  clear h2 G1
  go_enter Tryz.func116, Tryz.ntmps116
  go_wp2_with (go_at_call 179; refine HS.out.mono ?_; rintro e w3 ⟨rfl, hb3⟩)
  go_ret
  exact ⟨rfl, HG.out.up hb3⟩
set_option maxRecDepth 100000 in
set_option maxHeartbeats 4000000 in
theorem sShardOk_any (id N : Int) (ls : List Ld) (n : Nat) (a : Option Addr) (c : Nat) (num : Int) (ok : Bool) (es : List EdgeV) (lb : List Int) (n1 : Nat) (a1 : Option Addr) (c1 : Nat) (n2 : Nat) (a2 : Option Addr) (c2 : Nat) (hn : n ≤ 1048576) (hn1 : n1 ≤ 1048576) (hn2 : n2 ≤ 1048576) (w : World)
    (h : Ls w w.heap.size a n ls) (h1 : Es w w.heap.size a1 n1 es) (h2 : Is w w.heap.size a2 n2 lb) :
    Calls Tryz.prog 49 #[.agg #[.int .i64 id, .int .i64 N, .slice a n c, .int .i64 num, .bool ok, .slice a1 n1 c1, .slice a2 n2 c2]] w fun e w' => e = .returned (.bool (shB id N ls num ok es lb)) ∧ Below w.heap.size w w' := by
  obtain ⟨W1, hW1⟩ : ∃ W1, W1 = w.alloc (.cells #[.int .i64 id, .int .i64 N, .slice a n c, .int .i64 num, .bool ok, .slice a1 n1 c1, .slice a2 n2 c2] 67) := ⟨_, rfl⟩
  have G1 : Good w W1 := by rw [hW1]; exact (Good.refl w).alloc _
  have l0 : w.heap.size < W1.heap.size := by rw [hW1]; simp
  have hlen1 := h1.1
  have hlen2 := h2.1
  have HX : Hid (W1.cell? ⟨w.heap.size, 0, none⟩ = some (.int .i64 id) ∧ W1.cell? ⟨w.heap.size, 1, none⟩ = some (.int .i64 N) ∧ W1.cell? ⟨w.heap.size, 2, none⟩ = some (.slice a n c) ∧ W1.cell? ⟨w.heap.size, 3, none⟩ = some (.int .i64 num) ∧ W1.cell? ⟨w.heap.size, 4, none⟩ = some (.bool ok) ∧ W1.cell? ⟨w.heap.size, 5, none⟩ = some (.slice a1 n1 c1) ∧ W1.cell? ⟨w.heap.size, 6, none⟩ = some (.slice a2 n2 c2)) := by rw [hW1]; refine ⟨?_, ?_, ?_, ?_, ?_, ?_, ?_⟩ <;> simp [go_sem]
  have HC1 : Hid (∀ u, Good W1 u → u.cell? ⟨w.heap.size, 0, none⟩ = some (.int .i64 id) ∧ u.cell? ⟨w.heap.size, 1, none⟩ = some (.int .i64 N) ∧ u.cell? ⟨w.heap.size, 2, none⟩ = some (.slice a n c) ∧ u.cell? ⟨w.heap.size, 3, none⟩ = some (.int .i64 num) ∧ u.cell? ⟨w.heap.size, 4, none⟩ = some (.bool ok) ∧ u.cell? ⟨w.heap.size, 5, none⟩ = some (.slice a1 n1 c1) ∧ u.cell? ⟨w.heap.size, 6, none⟩ = some (.slice a2 n2 c2)) := fun u hu => by
    obtain ⟨x0, x1, x2, x3, x4, x5, x6⟩ := HX.out
    exact ⟨by rw [hu.cell l0]; exact x0, by rw [hu.cell l0]; exact x1, by rw [hu.cell l0]; exact x2, by rw [hu.cell l0]; exact x3, by rw [hu.cell l0]; exact x4, by rw [hu.cell l0]; exact x5, by rw [hu.cell l0]; exact x6⟩
  have HI := hideIt (l01In_any id 1 3 W1)
  have HW := hideIt (fun u (hu : Good W1 u) => sWebOk_any N ls n a c hn u (h.up (G1.up hu)))
  have HZ1 : Hid (∀ w2 u, Good W1 w2 → Good w2 u → Calls Tryz.prog 116 #[.agg #[.int .i64 num, .bool ok, .slice a1 n1 c1, .slice a2 n2 c2]] u fun e v => e = .returned (.bool (azB num ok n1 n2)) ∧ Good w2 v) := fun w2 u g hu => (blank_any num ok a1 a2 n1 c1 n2 c2 hn2 lb u (h2.up ((G1.up g).up hu))).mono fun _ _ ⟨he, hb⟩ => ⟨he, hu.up hb⟩
  have HA1 : Hid (∀ w2 u, Good W1 w2 → Good w2 u → Calls Tryz.prog 117 #[.int .i64 N, .agg #[.int .i64 num, .bool ok, .slice a1 n1 c1, .slice a2 n2 c2]] u fun e v => e = .returned (.bool (O.aB N ⟨num, ok, es, lb⟩)) ∧ Good w2 v) := fun w2 u g hu => (O.sAnswerOk_any N num ok es lb n1 a1 c1 hn1 n2 a2 c2 hn2 u (h1.up ((G1.up g).up hu)) (h2.up ((G1.up g).up hu))).mono fun _ _ ⟨he, hb⟩ => ⟨he, hu.up hb⟩
  have HL1 : Hid (∀ w2 u, Good W1 w2 → Good w2 u → Calls Tryz.prog 42 #[.agg #[.int .i64 N, .slice a n c]] u fun e v => ∃ a5 m5 c5, e = .returned (.slice a5 m5 c5) ∧ Hid (Is v v.heap.size a5 m5 (lbO N ls)) ∧ Good w2 v) := fun w2 u g hu => (sWebLabels_any N ls n a c hn u (h.up ((G1.up g).up hu))).mono fun _ _ ⟨a5, m5, c5, he, ho, hb⟩ => ⟨a5, m5, c5, he, Is_of_own ho, hu.up hb⟩
  have HE1 : Hid (∀ w2 u (a5 : Option Addr) (m5 c5 : Nat), Good W1 w2 → Good w2 u → Hid (Is u u.heap.size a5 m5 (lbO N ls)) → Calls Tryz.prog 118 #[.slice a2 n2 c2, .slice a5 m5 c5] u fun e v => e = .returned (.bool (decide (lb = lbO N ls))) ∧ Good w2 v) := fun w2 u a5 m5 c5 g hu h5 => (SameI_any lb (lbO N ls) n2 m5 a2 a5 c2 c5 hn2 (by have := h5.out.1; have := lbO_len N ls; omega) u (h2.up ((G1.up g).up hu)) h5.out).mono fun _ _ ⟨he, hb⟩ => ⟨he, hu.up hb⟩
  have HG := hideIt G1
  have HV : Hid (shB id N ls num ok es lb = (decide (1 ≤ id ∧ id ≤ 3) && (wB N ls && (azB num ok n1 n2 || (O.aB N ⟨num, ok, es, lb⟩ && decide (lb = lbO N ls)))))) := by show _ = _; unfold shB laB; rw [hlen1, hlen2]
  clear h h1 h2 G1 hlen1 hlen2
  generalize decide (1 ≤ id ∧ id ≤ 3) = iv at *
  generalize wB N ls = wv at *
  generalize O.aB N ⟨num, ok, es, lb⟩ = av at *
  generalize azB num ok n1 n2 = zv at *
  obtain ⟨x0, x1, x2, x3, x4, x5, x6⟩ := HX.out
  cases iv with
  | false =>
    go_enter Tryz.func49, Tryz.ntmps49
    go_upto_region 1 with fail
    rw [← hW1]
    clear hW1
    go_wp2_with (go_at_call 80; refine HI.out.mono ?_; rintro e w1 ⟨rfl, hw1⟩; have hw1' := hw1.symm; subst hw1')
    go_ret
    exact ⟨by rw [HV.out]; rfl, HG.out⟩
  | true =>
    cases wv with
    | false =>
      go_enter Tryz.func49, Tryz.ntmps49
      go_upto_region 1 with fail
      rw [← hW1]
      clear hW1
      go_wp2_with (first | (go_at_call 80; refine HI.out.mono ?_; rintro e w1 ⟨rfl, hw1⟩; have hw1' := hw1.symm; subst hw1') | (go_at_call 20; refine (HW.out _ (Good.refl _)).mono ?_; rintro e w2 ⟨rfl, hb2⟩))
      go_ret
      exact ⟨by rw [HV.out]; rfl, HG.out.up hb2⟩
    | true =>
      go_enter Tryz.func49, Tryz.ntmps49
      go_upto_region 1 with fail
      rw [← hW1]
      clear hW1
      go_wp2_with (first | (go_at_call 80; refine HI.out.mono ?_; rintro e w1 ⟨rfl, hw1⟩; have hw1' := hw1.symm; subst hw1') | (go_at_call 20; refine (HW.out _ (Good.refl _)).mono ?_; rintro e w2 ⟨rfl, hb2⟩; refine Hid.out ?_))
      refine (show ∀ {p : Prop}, p → Hid p from fun h => h) ?_
      have HC : Hid (∀ u, Good w2 u → (u.cell? ⟨w.heap.size, 0, none⟩ = some (.int .i64 id) ∧ u.cell? ⟨w.heap.size, 1, none⟩ = some (.int .i64 N) ∧ u.cell? ⟨w.heap.size, 2, none⟩ = some (.slice a n c) ∧ u.cell? ⟨w.heap.size, 3, none⟩ = some (.int .i64 num) ∧ u.cell? ⟨w.heap.size, 4, none⟩ = some (.bool ok) ∧ u.cell? ⟨w.heap.size, 5, none⟩ = some (.slice a1 n1 c1) ∧ u.cell? ⟨w.heap.size, 6, none⟩ = some (.slice a2 n2 c2)) ∧ Good w2 u) := fun u hu => ⟨HC1.out u (Good.up hb2 hu), hu⟩
      have HZ := hideIt (fun u hu => HZ1.out w2 u hb2 hu)
      have HA := hideIt (fun u hu => HA1.out w2 u hb2 hu)
      have HL := hideIt (fun u hu => HL1.out w2 u hb2 hu)
      have HE := hideIt (fun u a5 m5 c5 hu h5 => HE1.out w2 u a5 m5 c5 hb2 hu h5)
      have HG2 := hideIt (HG.out.up hb2)
      have hS := HC.out _ (Good.refl w2).drew
      clear hb2 x0 x1 x2 x3 x4 x5 x6 HZ1 HA1 HL1 HE1
      go_upto_region 3 with fail
      cases zv with
      | true =>
        refine wp_region_held_drew (S := (fun u => (u.cell? ⟨w.heap.size, 0, none⟩ = some (.int .i64 id) ∧ u.cell? ⟨w.heap.size, 1, none⟩ = some (.int .i64 N) ∧ u.cell? ⟨w.heap.size, 2, none⟩ = some (.slice a n c) ∧ u.cell? ⟨w.heap.size, 3, none⟩ = some (.int .i64 num) ∧ u.cell? ⟨w.heap.size, 4, none⟩ = some (.bool ok) ∧ u.cell? ⟨w.heap.size, 5, none⟩ = some (.slice a1 n1 c1) ∧ u.cell? ⟨w.heap.size, 6, none⟩ = some (.slice a2 n2 c2)) ∧ Good w2 u)) (by kernel_rfl) hS (fun hHeld => ?_)
        refine wpAnyH_take (i := 0) (v := ?_) rfl (by kernel_rfl) (by kernel_rfl) (by kernel_rfl) (fun _ _ _ h => h) (Or.inl ⟨by rfl, ?_⟩) (by assumption) ?_
        rotate_left
        · intro w hSw; (try dsimp only at hSw); go_simp; try with_reducible rfl
        try simp only [Act.put, List.getElem_toArray, List.getElem_cons_zero, List.setIfInBounds_toArray, List.set_cons_zero, List.set_cons_succ]
        refine wpAnyH_take (i := 1) (v := ?_) rfl (by kernel_rfl) (by kernel_rfl) (by kernel_rfl) (fun _ _ _ h => h) (Or.inl ⟨by rfl, ?_⟩) (by assumption) ?_
        rotate_left
        · intro w hSw; (try dsimp only at hSw); go_simp; try with_reducible rfl
        try simp only [Act.put, List.getElem_toArray, List.getElem_cons_succ, List.getElem_cons_zero, List.setIfInBounds_toArray, List.set_cons_zero, List.set_cons_succ]
        refine wpAnyH_ready (rs := [2]) (by kernel_rfl) (by simp) ?_
        refine AllReadyH.cons rfl (fun K hK => ?_) AllReadyH.nil
        rw [if_pos]
        rotate_left
        · kernel_rfl
        go_wp2_with (go_at_call 116; refine (HZ.out _ (Good.refl w2).drew).mono ?_; rintro e w3 ⟨rfl, g3⟩; refine Hid.out ?_)
        refine (show ∀ {p : Prop}, p → Hid p from fun h => h) ?_
        refine hK.out _ _ (HC.out _ g3) (fun hHeld => ?_)
        clear hK K
        try simp only [Act.put, List.getElem_toArray, List.getElem_cons_succ, List.getElem_cons_zero, List.setIfInBounds_toArray, List.set_cons_zero, List.set_cons_succ]
        refine wpAnyH_take (i := 3) (v := ?_) rfl (by kernel_rfl) (by kernel_rfl) (by kernel_rfl) (fun _ _ _ h => h) (Or.inl ⟨by rfl, ?_⟩) (by assumption) ?_
        rotate_left
        · intro w hSw; (try dsimp only at hSw); go_simp; try with_reducible rfl
        try simp only [Act.put, List.getElem_toArray, List.getElem_cons_succ, List.getElem_cons_zero, List.setIfInBounds_toArray, List.set_cons_zero, List.set_cons_succ]
        refine wpAnyH_take (i := 4) rfl (by kernel_rfl) (by kernel_rfl) (by kernel_rfl) (fun _ _ _ h => h) (Or.inr ⟨by kernel_rfl, rfl⟩) (by assumption) ?_
        refine wpAnyH_take (i := 5) rfl (by kernel_rfl) (by kernel_rfl) (by kernel_rfl) (fun _ _ _ h => h) (Or.inr ⟨by kernel_rfl, rfl⟩) (by assumption) ?_
        refine wpAnyH_take (i := 6) rfl (by kernel_rfl) (by kernel_rfl) (by kernel_rfl) (fun _ _ _ h => h) (Or.inr ⟨by kernel_rfl, rfl⟩) (by assumption) ?_
        refine wpAnyH_take (i := 7) rfl (by kernel_rfl) (by kernel_rfl) (by kernel_rfl) (fun _ _ _ h => h) (Or.inr ⟨by kernel_rfl, rfl⟩) (by assumption) ?_
        refine wpAnyH_take (i := 8) rfl (by kernel_rfl) (by kernel_rfl) (by kernel_rfl) (fun _ _ _ h => h) (Or.inr ⟨by kernel_rfl, rfl⟩) (by assumption) ?_
        refine wpAnyH_take (i := 9) rfl (by kernel_rfl) (by kernel_rfl) (by kernel_rfl) (fun _ _ _ h => h) (Or.inr ⟨by kernel_rfl, rfl⟩) (by assumption) ?_
        refine wpAnyH_take (i := 10) rfl (by kernel_rfl) (by kernel_rfl) (by kernel_rfl) (fun _ _ _ h => h) (Or.inr ⟨by kernel_rfl, rfl⟩) (by assumption) ?_
        refine wpAnyH_take (i := 11) rfl (by kernel_rfl) (by kernel_rfl) (by kernel_rfl) (fun _ _ _ h => h) (Or.inr ⟨by kernel_rfl, rfl⟩) (by assumption) ?_
        refine wpAnyH_take (i := 12) rfl (by kernel_rfl) (by kernel_rfl) (by kernel_rfl) (fun _ _ _ h => h) (Or.inr ⟨by kernel_rfl, rfl⟩) (by assumption) ?_
        refine wpAnyH_take (i := 13) rfl (by kernel_rfl) (by kernel_rfl) (by kernel_rfl) (fun _ _ _ h => h) (Or.inr ⟨by kernel_rfl, rfl⟩) (by assumption) ?_
        refine wpAnyH_take (i := 14) rfl (by kernel_rfl) (by kernel_rfl) (by kernel_rfl) (fun _ _ _ h => h) (Or.inr ⟨by kernel_rfl, rfl⟩) (by assumption) ?_
        refine wpAnyH_take (i := 15) rfl (by kernel_rfl) (by kernel_rfl) (by kernel_rfl) (fun _ _ _ h => h) (Or.inr ⟨by kernel_rfl, rfl⟩) (by assumption) ?_
        refine wpAnyH_take (i := 16) rfl (by kernel_rfl) (by kernel_rfl) (by kernel_rfl) (fun _ _ _ h => h) (Or.inr ⟨by kernel_rfl, rfl⟩) (by assumption) ?_
        refine wpAnyH_take (i := 17) rfl (by kernel_rfl) (by kernel_rfl) (by kernel_rfl) (fun _ _ _ h => h) (Or.inr ⟨by kernel_rfl, rfl⟩) (by assumption) ?_
        refine wpAnyH_take (i := 18) rfl (by kernel_rfl) (by kernel_rfl) (by kernel_rfl) (fun _ _ _ h => h) (Or.inr ⟨by kernel_rfl, rfl⟩) (by assumption) ?_
        refine wpAnyH_take (i := 19) (v := ?_) rfl (by kernel_rfl) (by kernel_rfl) (by kernel_rfl) (fun _ _ _ h => h) (Or.inl ⟨by rfl, ?_⟩) (by assumption) ?_
        rotate_left
        · intro w hSw; (try dsimp only at hSw); go_simp; try with_reducible rfl
        try simp only [Act.put, List.getElem_toArray, List.getElem_cons_succ, List.getElem_cons_zero, List.setIfInBounds_toArray, List.set_cons_zero, List.set_cons_succ]
        refine wpAnyH_ready (rs := [20]) (by kernel_rfl) (by simp) ?_
        refine AllReadyH.cons rfl (fun K hK => ?_) AllReadyH.nil
        go_simp
        refine hK.out _ _ (by assumption) (fun hHeld => ?_)
        clear hK K
        try simp only [Act.put, List.getElem_toArray, List.getElem_cons_succ, List.getElem_cons_zero, List.setIfInBounds_toArray, List.set_cons_zero, List.set_cons_succ]
        refine wpAnyH_done (by kernel_rfl) ?_ _
        go_wp2
        go_ret
        exact ⟨by rw [HV.out]; rfl, HG2.out.up g3⟩
      | false =>
        cases av with
        | false =>
          refine wp_region_held_drew (S := (fun u => (u.cell? ⟨w.heap.size, 0, none⟩ = some (.int .i64 id) ∧ u.cell? ⟨w.heap.size, 1, none⟩ = some (.int .i64 N) ∧ u.cell? ⟨w.heap.size, 2, none⟩ = some (.slice a n c) ∧ u.cell? ⟨w.heap.size, 3, none⟩ = some (.int .i64 num) ∧ u.cell? ⟨w.heap.size, 4, none⟩ = some (.bool ok) ∧ u.cell? ⟨w.heap.size, 5, none⟩ = some (.slice a1 n1 c1) ∧ u.cell? ⟨w.heap.size, 6, none⟩ = some (.slice a2 n2 c2)) ∧ Good w2 u)) (by kernel_rfl) hS (fun hHeld => ?_)
          refine wpAnyH_take (i := 0) (v := ?_) rfl (by kernel_rfl) (by kernel_rfl) (by kernel_rfl) (fun _ _ _ h => h) (Or.inl ⟨by rfl, ?_⟩) (by assumption) ?_
          rotate_left
          · intro w hSw; (try dsimp only at hSw); go_simp; try with_reducible rfl
          try simp only [Act.put, List.getElem_toArray, List.getElem_cons_zero, List.setIfInBounds_toArray, List.set_cons_zero, List.set_cons_succ]
          refine wpAnyH_take (i := 1) (v := ?_) rfl (by kernel_rfl) (by kernel_rfl) (by kernel_rfl) (fun _ _ _ h => h) (Or.inl ⟨by rfl, ?_⟩) (by assumption) ?_
          rotate_left
          · intro w hSw; (try dsimp only at hSw); go_simp; try with_reducible rfl
          try simp only [Act.put, List.getElem_toArray, List.getElem_cons_succ, List.getElem_cons_zero, List.setIfInBounds_toArray, List.set_cons_zero, List.set_cons_succ]
          refine wpAnyH_ready (rs := [2]) (by kernel_rfl) (by simp) ?_
          refine AllReadyH.cons rfl (fun K hK => ?_) AllReadyH.nil
          rw [if_pos]
          rotate_left
          · kernel_rfl
          go_wp2_with (go_at_call 116; refine (HZ.out _ (Good.refl w2).drew).mono ?_; rintro e w3 ⟨rfl, g3⟩; refine Hid.out ?_)
          refine (show ∀ {p : Prop}, p → Hid p from fun h => h) ?_
          refine hK.out _ _ (HC.out _ g3) (fun hHeld => ?_)
          clear hK K
          try simp only [Act.put, List.getElem_toArray, List.getElem_cons_succ, List.getElem_cons_zero, List.setIfInBounds_toArray, List.set_cons_zero, List.set_cons_succ]
          refine wpAnyH_take (i := 3) (v := ?_) rfl (by kernel_rfl) (by kernel_rfl) (by kernel_rfl) (fun _ _ _ h => h) (Or.inl ⟨by rfl, ?_⟩) (by assumption) ?_
          rotate_left
          · intro w hSw; (try dsimp only at hSw); go_simp; try with_reducible rfl
          try simp only [Act.put, List.getElem_toArray, List.getElem_cons_succ, List.getElem_cons_zero, List.setIfInBounds_toArray, List.set_cons_zero, List.set_cons_succ]
          refine wpAnyH_take (i := 4) (v := ?_) rfl (by kernel_rfl) (by kernel_rfl) (by kernel_rfl) (fun _ _ _ h => h) (Or.inl ⟨by rfl, ?_⟩) (by assumption) ?_
          rotate_left
          · intro w hSw; (try dsimp only at hSw); go_simp; try with_reducible rfl
          try simp only [Act.put, List.getElem_toArray, List.getElem_cons_succ, List.getElem_cons_zero, List.setIfInBounds_toArray, List.set_cons_zero, List.set_cons_succ]
          refine wpAnyH_take (i := 5) (v := ?_) rfl (by kernel_rfl) (by kernel_rfl) (by kernel_rfl) (fun _ _ _ h => h) (Or.inl ⟨by rfl, ?_⟩) (by assumption) ?_
          rotate_left
          · intro w hSw; (try dsimp only at hSw); go_simp; try with_reducible rfl
          try simp only [Act.put, List.getElem_toArray, List.getElem_cons_succ, List.getElem_cons_zero, List.setIfInBounds_toArray, List.set_cons_zero, List.set_cons_succ]
          refine wpAnyH_take (i := 6) (v := ?_) rfl (by kernel_rfl) (by kernel_rfl) (by kernel_rfl) (fun _ _ _ h => h) (Or.inl ⟨by rfl, ?_⟩) (by assumption) ?_
          rotate_left
          · intro w hSw; (try dsimp only at hSw); go_simp; try with_reducible rfl
          try simp only [Act.put, List.getElem_toArray, List.getElem_cons_succ, List.getElem_cons_zero, List.setIfInBounds_toArray, List.set_cons_zero, List.set_cons_succ]
          refine wpAnyH_take (i := 7) (v := ?_) rfl (by kernel_rfl) (by kernel_rfl) (by kernel_rfl) (fun _ _ _ h => h) (Or.inl ⟨by rfl, ?_⟩) (by assumption) ?_
          rotate_left
          · intro w hSw; (try dsimp only at hSw); go_simp; try with_reducible rfl
          try simp only [Act.put, List.getElem_toArray, List.getElem_cons_succ, List.getElem_cons_zero, List.setIfInBounds_toArray, List.set_cons_zero, List.set_cons_succ]
          refine wpAnyH_take (i := 8) (v := ?_) rfl (by kernel_rfl) (by kernel_rfl) (by kernel_rfl) (fun _ _ _ h => h) (Or.inl ⟨by rfl, ?_⟩) (by assumption) ?_
          rotate_left
          · intro w hSw; (try dsimp only at hSw); go_simp; try with_reducible rfl
          try simp only [Act.put, List.getElem_toArray, List.getElem_cons_succ, List.getElem_cons_zero, List.setIfInBounds_toArray, List.set_cons_zero, List.set_cons_succ]
          refine wpAnyH_ready (rs := [9]) (by kernel_rfl) (by simp) ?_
          refine AllReadyH.cons rfl (fun K hK => ?_) AllReadyH.nil
          rw [if_pos]
          rotate_left
          · kernel_rfl
          go_wp2_with (go_at_call 117; refine (HA.out _ g3).mono ?_; rintro e w4 ⟨rfl, g4⟩; refine Hid.out ?_)
          refine (show ∀ {p : Prop}, p → Hid p from fun h => h) ?_
          refine hK.out _ _ (HC.out _ g4) (fun hHeld => ?_)
          clear hK K
          try simp only [Act.put, List.getElem_toArray, List.getElem_cons_succ, List.getElem_cons_zero, List.setIfInBounds_toArray, List.set_cons_zero, List.set_cons_succ]
          refine wpAnyH_take (i := 10) (v := ?_) rfl (by kernel_rfl) (by kernel_rfl) (by kernel_rfl) (fun _ _ _ h => h) (Or.inl ⟨by rfl, ?_⟩) (by assumption) ?_
          rotate_left
          · intro w hSw; (try dsimp only at hSw); go_simp; try with_reducible rfl
          try simp only [Act.put, List.getElem_toArray, List.getElem_cons_succ, List.getElem_cons_zero, List.setIfInBounds_toArray, List.set_cons_zero, List.set_cons_succ]
          refine wpAnyH_take (i := 11) rfl (by kernel_rfl) (by kernel_rfl) (by kernel_rfl) (fun _ _ _ h => h) (Or.inr ⟨by kernel_rfl, rfl⟩) (by assumption) ?_
          refine wpAnyH_take (i := 12) rfl (by kernel_rfl) (by kernel_rfl) (by kernel_rfl) (fun _ _ _ h => h) (Or.inr ⟨by kernel_rfl, rfl⟩) (by assumption) ?_
          refine wpAnyH_take (i := 13) rfl (by kernel_rfl) (by kernel_rfl) (by kernel_rfl) (fun _ _ _ h => h) (Or.inr ⟨by kernel_rfl, rfl⟩) (by assumption) ?_
          refine wpAnyH_take (i := 14) rfl (by kernel_rfl) (by kernel_rfl) (by kernel_rfl) (fun _ _ _ h => h) (Or.inr ⟨by kernel_rfl, rfl⟩) (by assumption) ?_
          refine wpAnyH_take (i := 15) rfl (by kernel_rfl) (by kernel_rfl) (by kernel_rfl) (fun _ _ _ h => h) (Or.inr ⟨by kernel_rfl, rfl⟩) (by assumption) ?_
          refine wpAnyH_take (i := 16) rfl (by kernel_rfl) (by kernel_rfl) (by kernel_rfl) (fun _ _ _ h => h) (Or.inr ⟨by kernel_rfl, rfl⟩) (by assumption) ?_
          refine wpAnyH_take (i := 17) rfl (by kernel_rfl) (by kernel_rfl) (by kernel_rfl) (fun _ _ _ h => h) (Or.inr ⟨by kernel_rfl, rfl⟩) (by assumption) ?_
          refine wpAnyH_take (i := 18) (v := ?_) rfl (by kernel_rfl) (by kernel_rfl) (by kernel_rfl) (fun _ _ _ h => h) (Or.inl ⟨by rfl, ?_⟩) (by assumption) ?_
          rotate_left
          · intro w hSw; (try dsimp only at hSw); go_simp; try with_reducible rfl
          try simp only [Act.put, List.getElem_toArray, List.getElem_cons_succ, List.getElem_cons_zero, List.setIfInBounds_toArray, List.set_cons_zero, List.set_cons_succ]
          refine wpAnyH_take (i := 19) (v := ?_) rfl (by kernel_rfl) (by kernel_rfl) (by kernel_rfl) (fun _ _ _ h => h) (Or.inl ⟨by rfl, ?_⟩) (by assumption) ?_
          rotate_left
          · intro w hSw; (try dsimp only at hSw); go_simp; try with_reducible rfl
          try simp only [Act.put, List.getElem_toArray, List.getElem_cons_succ, List.getElem_cons_zero, List.setIfInBounds_toArray, List.set_cons_zero, List.set_cons_succ]
          refine wpAnyH_ready (rs := [20]) (by kernel_rfl) (by simp) ?_
          refine AllReadyH.cons rfl (fun K hK => ?_) AllReadyH.nil
          go_simp
          refine hK.out _ _ (by assumption) (fun hHeld => ?_)
          clear hK K
          try simp only [Act.put, List.getElem_toArray, List.getElem_cons_succ, List.getElem_cons_zero, List.setIfInBounds_toArray, List.set_cons_zero, List.set_cons_succ]
          refine wpAnyH_done (by kernel_rfl) ?_ _
          go_wp2
          go_ret
          exact ⟨by rw [HV.out]; rfl, HG2.out.up g4⟩
        | true =>
          refine wp_region_held_drew (S := (fun u => (u.cell? ⟨w.heap.size, 0, none⟩ = some (.int .i64 id) ∧ u.cell? ⟨w.heap.size, 1, none⟩ = some (.int .i64 N) ∧ u.cell? ⟨w.heap.size, 2, none⟩ = some (.slice a n c) ∧ u.cell? ⟨w.heap.size, 3, none⟩ = some (.int .i64 num) ∧ u.cell? ⟨w.heap.size, 4, none⟩ = some (.bool ok) ∧ u.cell? ⟨w.heap.size, 5, none⟩ = some (.slice a1 n1 c1) ∧ u.cell? ⟨w.heap.size, 6, none⟩ = some (.slice a2 n2 c2)) ∧ Good w2 u)) (by kernel_rfl) hS (fun hHeld => ?_)
          refine wpAnyH_take (i := 0) (v := ?_) rfl (by kernel_rfl) (by kernel_rfl) (by kernel_rfl) (fun _ _ _ h => h) (Or.inl ⟨by rfl, ?_⟩) (by assumption) ?_
          rotate_left
          · intro w hSw; (try dsimp only at hSw); go_simp; try with_reducible rfl
          try simp only [Act.put, List.getElem_toArray, List.getElem_cons_zero, List.setIfInBounds_toArray, List.set_cons_zero, List.set_cons_succ]
          refine wpAnyH_take (i := 1) (v := ?_) rfl (by kernel_rfl) (by kernel_rfl) (by kernel_rfl) (fun _ _ _ h => h) (Or.inl ⟨by rfl, ?_⟩) (by assumption) ?_
          rotate_left
          · intro w hSw; (try dsimp only at hSw); go_simp; try with_reducible rfl
          try simp only [Act.put, List.getElem_toArray, List.getElem_cons_succ, List.getElem_cons_zero, List.setIfInBounds_toArray, List.set_cons_zero, List.set_cons_succ]
          refine wpAnyH_ready (rs := [2]) (by kernel_rfl) (by simp) ?_
          refine AllReadyH.cons rfl (fun K hK => ?_) AllReadyH.nil
          rw [if_pos]
          rotate_left
          · kernel_rfl
          go_wp2_with (go_at_call 116; refine (HZ.out _ (Good.refl w2).drew).mono ?_; rintro e w3 ⟨rfl, g3⟩; refine Hid.out ?_)
          refine (show ∀ {p : Prop}, p → Hid p from fun h => h) ?_
          refine hK.out _ _ (HC.out _ g3) (fun hHeld => ?_)
          clear hK K
          try simp only [Act.put, List.getElem_toArray, List.getElem_cons_succ, List.getElem_cons_zero, List.setIfInBounds_toArray, List.set_cons_zero, List.set_cons_succ]
          refine wpAnyH_take (i := 3) (v := ?_) rfl (by kernel_rfl) (by kernel_rfl) (by kernel_rfl) (fun _ _ _ h => h) (Or.inl ⟨by rfl, ?_⟩) (by assumption) ?_
          rotate_left
          · intro w hSw; (try dsimp only at hSw); go_simp; try with_reducible rfl
          try simp only [Act.put, List.getElem_toArray, List.getElem_cons_succ, List.getElem_cons_zero, List.setIfInBounds_toArray, List.set_cons_zero, List.set_cons_succ]
          refine wpAnyH_take (i := 4) (v := ?_) rfl (by kernel_rfl) (by kernel_rfl) (by kernel_rfl) (fun _ _ _ h => h) (Or.inl ⟨by rfl, ?_⟩) (by assumption) ?_
          rotate_left
          · intro w hSw; (try dsimp only at hSw); go_simp; try with_reducible rfl
          try simp only [Act.put, List.getElem_toArray, List.getElem_cons_succ, List.getElem_cons_zero, List.setIfInBounds_toArray, List.set_cons_zero, List.set_cons_succ]
          refine wpAnyH_take (i := 5) (v := ?_) rfl (by kernel_rfl) (by kernel_rfl) (by kernel_rfl) (fun _ _ _ h => h) (Or.inl ⟨by rfl, ?_⟩) (by assumption) ?_
          rotate_left
          · intro w hSw; (try dsimp only at hSw); go_simp; try with_reducible rfl
          try simp only [Act.put, List.getElem_toArray, List.getElem_cons_succ, List.getElem_cons_zero, List.setIfInBounds_toArray, List.set_cons_zero, List.set_cons_succ]
          refine wpAnyH_take (i := 6) (v := ?_) rfl (by kernel_rfl) (by kernel_rfl) (by kernel_rfl) (fun _ _ _ h => h) (Or.inl ⟨by rfl, ?_⟩) (by assumption) ?_
          rotate_left
          · intro w hSw; (try dsimp only at hSw); go_simp; try with_reducible rfl
          try simp only [Act.put, List.getElem_toArray, List.getElem_cons_succ, List.getElem_cons_zero, List.setIfInBounds_toArray, List.set_cons_zero, List.set_cons_succ]
          refine wpAnyH_take (i := 7) (v := ?_) rfl (by kernel_rfl) (by kernel_rfl) (by kernel_rfl) (fun _ _ _ h => h) (Or.inl ⟨by rfl, ?_⟩) (by assumption) ?_
          rotate_left
          · intro w hSw; (try dsimp only at hSw); go_simp; try with_reducible rfl
          try simp only [Act.put, List.getElem_toArray, List.getElem_cons_succ, List.getElem_cons_zero, List.setIfInBounds_toArray, List.set_cons_zero, List.set_cons_succ]
          refine wpAnyH_take (i := 8) (v := ?_) rfl (by kernel_rfl) (by kernel_rfl) (by kernel_rfl) (fun _ _ _ h => h) (Or.inl ⟨by rfl, ?_⟩) (by assumption) ?_
          rotate_left
          · intro w hSw; (try dsimp only at hSw); go_simp; try with_reducible rfl
          try simp only [Act.put, List.getElem_toArray, List.getElem_cons_succ, List.getElem_cons_zero, List.setIfInBounds_toArray, List.set_cons_zero, List.set_cons_succ]
          refine wpAnyH_ready (rs := [9]) (by kernel_rfl) (by simp) ?_
          refine AllReadyH.cons rfl (fun K hK => ?_) AllReadyH.nil
          rw [if_pos]
          rotate_left
          · kernel_rfl
          go_wp2_with (go_at_call 117; refine (HA.out _ g3).mono ?_; rintro e w4 ⟨rfl, g4⟩; refine Hid.out ?_)
          refine (show ∀ {p : Prop}, p → Hid p from fun h => h) ?_
          refine hK.out _ _ (HC.out _ g4) (fun hHeld => ?_)
          clear hK K
          try simp only [Act.put, List.getElem_toArray, List.getElem_cons_succ, List.getElem_cons_zero, List.setIfInBounds_toArray, List.set_cons_zero, List.set_cons_succ]
          refine wpAnyH_take (i := 10) (v := ?_) rfl (by kernel_rfl) (by kernel_rfl) (by kernel_rfl) (fun _ _ _ h => h) (Or.inl ⟨by rfl, ?_⟩) (by assumption) ?_
          rotate_left
          · intro w hSw; (try dsimp only at hSw); go_simp; try with_reducible rfl
          try simp only [Act.put, List.getElem_toArray, List.getElem_cons_succ, List.getElem_cons_zero, List.setIfInBounds_toArray, List.set_cons_zero, List.set_cons_succ]
          refine wpAnyH_take (i := 11) (v := ?_) rfl (by kernel_rfl) (by kernel_rfl) (by kernel_rfl) (fun _ _ _ h => h) (Or.inl ⟨by rfl, ?_⟩) (by assumption) ?_
          rotate_left
          · intro w hSw; (try dsimp only at hSw); go_simp; try with_reducible rfl
          try simp only [Act.put, List.getElem_toArray, List.getElem_cons_succ, List.getElem_cons_zero, List.setIfInBounds_toArray, List.set_cons_zero, List.set_cons_succ]
          refine wpAnyH_take (i := 12) (v := ?_) rfl (by kernel_rfl) (by kernel_rfl) (by kernel_rfl) (fun _ _ _ h => h) (Or.inl ⟨by rfl, ?_⟩) (by assumption) ?_
          rotate_left
          · intro w hSw; (try dsimp only at hSw); go_simp; try with_reducible rfl
          try simp only [Act.put, List.getElem_toArray, List.getElem_cons_succ, List.getElem_cons_zero, List.setIfInBounds_toArray, List.set_cons_zero, List.set_cons_succ]
          refine wpAnyH_take (i := 13) (v := ?_) rfl (by kernel_rfl) (by kernel_rfl) (by kernel_rfl) (fun _ _ _ h => h) (Or.inl ⟨by rfl, ?_⟩) (by assumption) ?_
          rotate_left
          · intro w hSw; (try dsimp only at hSw); go_simp; try with_reducible rfl
          try simp only [Act.put, List.getElem_toArray, List.getElem_cons_succ, List.getElem_cons_zero, List.setIfInBounds_toArray, List.set_cons_zero, List.set_cons_succ]
          refine wpAnyH_take (i := 14) (v := ?_) rfl (by kernel_rfl) (by kernel_rfl) (by kernel_rfl) (fun _ _ _ h => h) (Or.inl ⟨by rfl, ?_⟩) (by assumption) ?_
          rotate_left
          · intro w hSw; (try dsimp only at hSw); go_simp; try with_reducible rfl
          try simp only [Act.put, List.getElem_toArray, List.getElem_cons_succ, List.getElem_cons_zero, List.setIfInBounds_toArray, List.set_cons_zero, List.set_cons_succ]
          refine wpAnyH_take (i := 15) (v := ?_) rfl (by kernel_rfl) (by kernel_rfl) (by kernel_rfl) (fun _ _ _ h => h) (Or.inl ⟨by rfl, ?_⟩) (by assumption) ?_
          rotate_left
          · intro w hSw; (try dsimp only at hSw); go_simp; try with_reducible rfl
          try simp only [Act.put, List.getElem_toArray, List.getElem_cons_succ, List.getElem_cons_zero, List.setIfInBounds_toArray, List.set_cons_zero, List.set_cons_succ]
          refine wpAnyH_ready (rs := [16]) (by kernel_rfl) (by simp) ?_
          refine AllReadyH.cons rfl (fun K hK => ?_) AllReadyH.nil
          rw [if_pos]
          rotate_left
          · kernel_rfl
          go_wp2_with (go_at_call 42; refine (HL.out _ g4).mono ?_; rintro e w5 ⟨a5, m5, c5, rfl, ho5, g5⟩; refine Hid.out ?_)
          refine (show ∀ {p : Prop}, p → Hid p from fun h => h) ?_
          refine hK.out _ _ (HC.out _ g5) (fun hHeld => ?_)
          clear hK K
          try simp only [Act.put, List.getElem_toArray, List.getElem_cons_succ, List.getElem_cons_zero, List.setIfInBounds_toArray, List.set_cons_zero, List.set_cons_succ]
          refine wpAnyH_ready (rs := [17]) (by kernel_rfl) (by simp) ?_
          refine AllReadyH.cons rfl (fun K hK => ?_) AllReadyH.nil
          rw [if_pos]
          rotate_left
          · kernel_rfl
          go_wp2_with (go_at_call 118; refine (HE.out _ _ _ _ g5 ho5).mono ?_; rintro e w6 ⟨rfl, g6⟩; refine Hid.out ?_)
          refine (show ∀ {p : Prop}, p → Hid p from fun h => h) ?_
          refine hK.out _ _ (HC.out _ g6) (fun hHeld => ?_)
          clear hK K
          try simp only [Act.put, List.getElem_toArray, List.getElem_cons_succ, List.getElem_cons_zero, List.setIfInBounds_toArray, List.set_cons_zero, List.set_cons_succ]
          refine wpAnyH_take (i := 18) (v := ?_) rfl (by kernel_rfl) (by kernel_rfl) (by kernel_rfl) (fun _ _ _ h => h) (Or.inl ⟨by rfl, ?_⟩) (by assumption) ?_
          rotate_left
          · intro w hSw; (try dsimp only at hSw); go_simp; try with_reducible rfl
          try simp only [Act.put, List.getElem_toArray, List.getElem_cons_succ, List.getElem_cons_zero, List.setIfInBounds_toArray, List.set_cons_zero, List.set_cons_succ]
          refine wpAnyH_take (i := 19) (v := ?_) rfl (by kernel_rfl) (by kernel_rfl) (by kernel_rfl) (fun _ _ _ h => h) (Or.inl ⟨by rfl, ?_⟩) (by assumption) ?_
          rotate_left
          · intro w hSw; (try dsimp only at hSw); go_simp; try with_reducible rfl
          try simp only [Act.put, List.getElem_toArray, List.getElem_cons_succ, List.getElem_cons_zero, List.setIfInBounds_toArray, List.set_cons_zero, List.set_cons_succ]
          refine wpAnyH_ready (rs := [20]) (by kernel_rfl) (by simp) ?_
          refine AllReadyH.cons rfl (fun K hK => ?_) AllReadyH.nil
          go_simp
          refine hK.out _ _ (by assumption) (fun hHeld => ?_)
          clear hK K
          try simp only [Act.put, List.getElem_toArray, List.getElem_cons_succ, List.getElem_cons_zero, List.setIfInBounds_toArray, List.set_cons_zero, List.set_cons_succ]
          refine wpAnyH_done (by kernel_rfl) ?_ _
          go_wp2
          go_ret
          exact ⟨by rw [HV.out]; rfl, HG2.out.up g6⟩
end Go.Proofs.YtpfkfbmghddepaaGreat
namespace Go.Proofs.YtpfkfbmghddepaaGreat
open Go.RowKit

theorem take_set4 (xs : List Value) (m : Nat) (a b c d : Value) (h : m + 4 ≤ xs.length) : ((((xs.set m a).set (m + 1) b).set (m + 2) c).set (m + 3) d).take (m + 4) = xs.take m ++ [a, b, c, d] := by
  apply List.ext_getElem?
  intro i
  have hl : (xs.take m).length = m := by simp; omega
  by_cases h1 : i < m
  · rw [List.getElem?_append_left (by omega), List.getElem?_take_of_lt h1, List.getElem?_take_of_lt (by omega), List.getElem?_set_ne (by omega), List.getElem?_set_ne (by omega), List.getElem?_set_ne (by omega), List.getElem?_set_ne (by omega)]
  · rw [List.getElem?_append_right (by omega), hl]
    by_cases h2 : i < m + 4
    · rw [List.getElem?_take_of_lt h2]
      rcases (show i = m ∨ i = m + 1 ∨ i = m + 2 ∨ i = m + 3 by omega) with rfl | rfl | rfl | rfl
      · rw [List.getElem?_set_ne (by omega), List.getElem?_set_ne (by omega), List.getElem?_set_ne (by omega), List.getElem?_set_self (by omega)]; simp
      · rw [List.getElem?_set_ne (by omega), List.getElem?_set_ne (by omega), List.getElem?_set_self (by simp; omega)]; simp
      · rw [List.getElem?_set_ne (by omega), List.getElem?_set_self (by simp; omega)]; simp
      · rw [List.getElem?_set_self (by simp; omega)]; simp
    · rw [List.getElem?_eq_none (by simp; omega), List.getElem?_eq_none (by simp; omega)]

/-- what is left of the room -/
def szw (n : Nat) : Int := if n ≤ 1048576 then 1048576 - (n : Int) else -1
theorem szLedgeS_any (n : Nat) (a : Option Addr) (c : Nat) (hn : n ≤ maxLen) (w : World) : Calls Tryz.prog 177 #[.slice a n c, .int .i64 1048576] w fun e w' => e = .returned (.int .i64 (szw n)) ∧ w' = w := by
  unfold maxLen at hn
  by_cases h : n ≤ 1048576
  · have d1 : decide (1048576 - (n : Int) < 0) = false := decide_eq_false (by omega)
    have HS : Hid (szw n = 1048576 - (n : Int)) := by show _ = _; unfold szw; rw [if_pos h]
    go_enter Tryz.func177, Tryz.ntmps177
    go_wp2
    go_ret
    exact ⟨by rw [HS.out]; rfl, rfl⟩
  · have d1 : decide (1048576 - (n : Int) < 0) = true := decide_eq_true (by omega)
    have HS : Hid (szw n = -1) := by show _ = _; unfold szw; rw [if_neg h]
    go_enter Tryz.func177, Tryz.ntmps177
    go_wp2
    go_ret
    exact ⟨by rw [HS.out]; rfl, rfl⟩
theorem szWeb_any (N : Int) (n : Nat) (a : Option Addr) (c : Nat) (hn : n ≤ maxLen) (w : World) : Calls Tryz.prog 114 #[.agg #[.int .i64 N, .slice a n c], .int .i64 1048576] w fun e w' => e = .returned (.int .i64 (szw n)) ∧ Below w.heap.size w w' := by
  have HS := hideIt (szLedgeS_any n a c hn)
  by_cases h : n ≤ 1048576
  · have e1 : szw n = 1048576 - (n : Int) := by unfold szw; rw [if_pos h]
    rw [e1] at HS ⊢
    have d1 : decide (1048576 - (n : Int) < 0) = false := decide_eq_false (by omega)
    clear e1
    go_enter Tryz.func114, Tryz.ntmps114
    go_wp2_with (go_at_call 177; refine (HS.out _).mono ?_; rintro e w1 ⟨rfl, rfl⟩)
    go_ret
    exact ⟨rfl, (Below.refl _ _).alloc (Nat.le_refl _) _⟩
  · have e1 : szw n = -1 := by unfold szw; rw [if_neg h]
    rw [e1] at HS ⊢
    clear e1
    go_enter Tryz.func114, Tryz.ntmps114
    go_wp2_with (go_at_call 177; refine (HS.out _).mono ?_; rintro e w1 ⟨rfl, rfl⟩)
    go_ret
    exact ⟨rfl, (Below.refl _ _).alloc (Nat.le_refl _) _⟩

theorem toLedge_any (x : Ld) (w : World) : Calls Tryz.prog 216 #[.agg #[.int .i64 x.a, .int .i64 x.b, .int .i64 x.l, .bool x.t]] w fun e w' => e = .returned (.agg #[.int .i64 x.a, .int .i64 x.b, .int .i64 x.l, .bool x.t]) ∧ Below w.heap.size w w' := by
  obtain ⟨a, b, l, t⟩ := x
  dsimp only
  go_enter Tryz.func216, Tryz.ntmps216
  go_wp2
  exact bodyPost_ret (v := .agg #[.int .i64 a, .int .i64 b, .int .i64 l, .bool t]) (by simp [results, Tryz.results216, go_sem]) rfl ⟨rfl, (((Below.refl _ _).alloc (Nat.le_refl _) _).alloc (by simp) _).alloc (by simp; omega) _⟩

set_option maxRecDepth 100000 in
set_option maxHeartbeats 4000000 in
theorem toLedgeS_any (ls : List Ld) (n : Nat) (a : Option Addr) (cap : Nat) (hn : n ≤ 1048576) (w : World) (h : Ls w w.heap.size a n ls) :
    Calls Tryz.prog 181 #[.slice a n cap] w fun e w' => ∃ g, e = .returned (.slice (some ⟨g, 0, none⟩) n n) ∧ w'.ownsRow w.heap.size 52 4 (.slice (some ⟨g, 0, none⟩) n n) n (lcells ls) ∧ Below w.heap.size w w' := by
  obtain ⟨i0, hi, hz0, hz1, hz2⟩ := info_parts infoIL
  have hmk : ∀ u : World, (Instr.makeSlice 24 (.int .i64 (n : Int)) (.int .i64 (n : Int))).run Tryz.prog u =
      .ok (.slice (some ⟨u.heap.size, 0, none⟩) n n) (u.alloc (.cells (madeCells #[.int .i64 0, .int .i64 0, .int .i64 0, .bool false] (n * 4)) 52)) := fun u => by
    have h := run_make (P := Tryz.prog) u 24 52 i0 _ Tryz.underlying24 hi hz0 .i64 .i64 (n : Int) (n : Int) (by omega) (by omega) (by rw [hz2]; omega) (by omega)
    rw [Int.toNat_natCast] at h
    simpa [hz1, Value.cells] using h
  have HR := hideIt h
  have hlen := h.1
  clear h
  go_enter Tryz.func181, Tryz.ntmps181
  go_wp2
  go_loopw [4] (fun i wr => ∃ (k : Nat) (xs : List Value), k ≤ n ∧ i = .int .i64 (k : Int) ∧ Hid (xs.take (k * 4) = lcells (ls.take k)) ∧ wr.ownsRow w.heap.size 52 4 (.slice (some ⟨w.heap.size, 0, none⟩) n n) n xs ∧ Below w.heap.size w wr)
    (fun i _ => n - (intOf i).toNat)
  case atStart => exact ⟨0, _, by omega, rfl, by show _ = _; simp [lcells], World.ownsRow_lit (base := w.heap.size) (e := 52) (size := 4) w (madeCells #[.int .i64 0, .int .i64 0, .int .i64 0, .bool false] (n * 4)) n (Nat.le_refl _) (by unfold maxLen; omega) (by simp [madeCells]), (Below.refl _ _).alloc (Nat.le_refl _) _⟩
  case round =>
    obtain ⟨k, xs, hk, rfl, hx, hown, hb⟩ := hrel
    by_cases hlt : k < n
    · obtain ⟨b, off, x, rfl, hbl, hxk, hat⟩ := (HR.out.below hb (Nat.le_refl _)).at hlt
      have e0 := hat.ca
      have e1 := hat.cb
      have e2 := hat.cl
      have e3 := hat.ct
      have b1 : (0 : Int) ≤ (k : Int) := by omega
      have b2 : (k : Int) < (n : Int) := by omega
      have HT := hideIt (toLedge_any x wr)
      have HTk := hideIt (take_snocF ls k x hxk)
      clear hat hxk
      go_wp2_with (go_at_call 216; refine HT.out.mono ?_; rintro e w1 ⟨rfl, hb1⟩; refine Hid.out ?_)
      refine (show ∀ {p : Prop}, p → Hid p from fun h => h) ?_
      have hown1 := own_up hown hb1
      have hl3 : xs.length = n * 4 := hown1.1
      have f0 := hown1.frozenAt (k * 4)
      have f1 := hown1.frozenAt (k * 4 + 1)
      have f2 := hown1.frozenAt (k * 4 + 2)
      have f3 := hown1.frozenAt (k * 4 + 3)
      have x0 : w1.cell? ⟨w.heap.size, k * 4, none⟩ = some (xs[k * 4]'(by omega)) := by rw [hown1.cellAt (k * 4) (by omega)]; exact List.getElem?_eq_getElem (by omega)
      have x1 : w1.cell? ⟨w.heap.size, k * 4 + 1, none⟩ = some (xs[k * 4 + 1]'(by omega)) := by rw [hown1.cellAt (k * 4 + 1) (by omega)]; exact List.getElem?_eq_getElem (by omega)
      have x2 : w1.cell? ⟨w.heap.size, k * 4 + 2, none⟩ = some (xs[k * 4 + 2]'(by omega)) := by rw [hown1.cellAt (k * 4 + 2) (by omega)]; exact List.getElem?_eq_getElem (by omega)
      have x3 : w1.cell? ⟨w.heap.size, k * 4 + 3, none⟩ = some (xs[k * 4 + 3]'(by omega)) := by rw [hown1.cellAt (k * 4 + 3) (by omega)]; exact List.getElem?_eq_getElem (by omega)
      clear e0 e1 e2 e3 HT
      go_wp2
      refine ⟨⟨k + 1, (((xs.set (k * 4) (.int .i64 x.a)).set (k * 4 + 1) (.int .i64 x.b)).set (k * 4 + 2) (.int .i64 x.l)).set (k * 4 + 3) (.bool x.t), by omega, by go_num, ?_, ?_, ?_⟩, by simp [intOf]; omega⟩
      · show _ = _
        rw [show (k + 1) * 4 = k * 4 + 4 by omega, take_set4 _ _ _ _ _ _ (by omega), hx.out, HTk.out, lcells_snoc]
      · exact ((((hown1.stored (k * 4) _).1.stored (k * 4 + 1) _).1.stored (k * 4 + 2) _).1.stored (k * 4 + 3) _).1
      · exact ((((hb.trans (hb1.mono hb.size)).setCell (Nat.le_refl _) _).setCell (Nat.le_refl _) _).setCell (Nat.le_refl _) _).setCell (Nat.le_refl _) _
    · have e : ls.take k = ls := List.take_of_length_le (by omega)
      have hl3 : xs.length = n * 4 := hown.1
      have HX : Hid (xs = lcells ls) := by
        show _ = _
        have := hx.out
        rw [e, List.take_of_length_le (by omega)] at this
        exact this
      have HO := hideIt hown
      clear hx e hown hl3
      go_wp2
      go_ret
      exact ⟨w.heap.size, rfl, by rw [← HX.out]; exact HO.out, hb⟩
theorem toWeb_any (N : Int) (ls : List Ld) (n : Nat) (a : Option Addr) (cap : Nat) (hn : n ≤ 1048576) (w : World) (h : Ls w w.heap.size a n ls) :
    Calls Tryz.prog 119 #[.agg #[.int .i64 N, .slice a n cap]] w fun e w' => ∃ g, e = .returned (.agg #[.int .i64 N, .slice (some ⟨g, 0, none⟩) n n]) ∧ w'.ownsRow w.heap.size 52 4 (.slice (some ⟨g, 0, none⟩) n n) n (lcells ls) ∧ Below w.heap.size w w' := by
  have g3 : Good w (((w.alloc (.cells #[.int .i64 N, .slice a n cap] 84)).alloc (.cells #[.int .i64 0, .slice none 0 0] 26)).alloc (.cells #[.int .i64 N, .slice none 0 0] 26)) := (((Good.refl w).alloc _).alloc _).alloc _
  have HT := hideIt (toLedgeS_any ls n a cap hn _ (h.up g3))
  clear h g3
  go_enter Tryz.func119, Tryz.ntmps119
  go_wp2_with (go_at_call 181; refine HT.out.mono ?_; rintro e w1 ⟨g, rfl, hown, hb1⟩; refine Hid.out ?_)
  refine (show ∀ {p : Prop}, p → Hid p from fun h => h) ?_
  obtain ⟨hc, hf⟩ := bcell hb1
  have HO := hideIt hown
  have hgl := hown.lt g rfl
  have hz := hb1.size
  clear hown HT
  simp at hz hgl
  go_wp2
  refine bodyPost_ret (v := .agg #[.int .i64 N, .slice (some ⟨g, 0, none⟩) n n]) (by simp [results, Tryz.results119, go_sem, hc]) rfl ⟨g, rfl, ?_, ?_⟩
  · exact own_mono (own_setOther (own_setOther (own_setOther HO.out _ _ _ (by omega)) _ _ _ (by omega)) _ _ _ (by omega)) (by simp; omega)
  · exact ((((((((Below.refl _ _).alloc (Nat.le_refl _) _).alloc (by simp) _).alloc (by simp; omega) _).trans (hb1.mono (by simp; omega))).setCell (by simp; omega) _).setCell (by simp) _)).setCell (by simp) _

theorem eqLedge_yes (x : Ld) (w : World) :
    Calls Tryz.prog 217 #[.agg #[.int .i64 x.a, .int .i64 x.b, .int .i64 x.l, .bool x.t], .agg #[.int .i64 x.a, .int .i64 x.b, .int .i64 x.l, .bool x.t]] w fun e w' => e = .returned (.bool true) ∧ Below w.heap.size w w' := by
  obtain ⟨a, b, l, t⟩ := x
  dsimp only
  cases t with
  | true =>
    go_enter Tryz.func217, Tryz.ntmps217
    go_wp2
    go_ret
    exact ⟨rfl, ((Below.refl _ _).alloc (Nat.le_refl _) _).alloc (by simp) _⟩
  | false =>
    go_enter Tryz.func217, Tryz.ntmps217
    go_wp2
    go_ret
    exact ⟨rfl, ((Below.refl _ _).alloc (Nat.le_refl _) _).alloc (by simp) _⟩

set_option maxRecDepth 100000 in
set_option maxHeartbeats 4000000 in
theorem eqLedgeS_same (ls : List Ld) (n : Nat) (a a' : Option Addr) (c c' : Nat) (hn : n ≤ 1048576) (w : World) (h : Ls w w.heap.size a n ls) (h' : Ls w w.heap.size a' n ls) :
    Calls Tryz.prog 183 #[.slice a n c, .slice a' n c'] w fun e w' => e = .returned (.bool true) ∧ Below w.heap.size w w' := by
  have HR := hideIt h
  have HR' := hideIt h'
  clear h h'
  go_enter Tryz.func183, Tryz.ntmps183
  go_wp2
  go_loopw [5] (fun i wr => ∃ k : Nat, k ≤ n ∧ i = .int .i64 (k : Int) ∧ Below w.heap.size w wr) (fun i _ => n - (intOf i).toNat)
  case atStart => exact ⟨0, by omega, rfl, Below.refl _ _⟩
  case round =>
    obtain ⟨k, hk, rfl, hb⟩ := hrel
    by_cases hlt : k < n
    · obtain ⟨b, off, x, rfl, hbl, hxk, hat⟩ := HR.out.at hlt
      obtain ⟨b', off', x', rfl, hbl', hxk', hat'⟩ := HR'.out.at hlt
      rw [hxk] at hxk'
      obtain rfl := Option.some.inj hxk'
      have b1 : (0 : Int) ≤ (k : Int) := by omega
      have b2 : (k : Int) < (n : Int) := by omega
      have HT : Hid (∀ W : World, Below w.heap.size w W → Calls Tryz.prog 217 #[.agg #[.int .i64 x.a, .int .i64 x.b, .int .i64 x.l, .bool x.t], .agg #[.int .i64 x.a, .int .i64 x.b, .int .i64 x.l, .bool x.t]] W fun e w' => e = .returned (.bool true) ∧ Below w.heap.size w w') := fun W hW =>
        (eqLedge_yes x W).mono fun _ _ ⟨he, hb'⟩ => ⟨he, hW.trans (hb'.mono hW.size)⟩
      have HK : Hid (∀ W : World, Below w.heap.size w W → ((W.cell? ⟨b, off + k * 4, none⟩ = some (.int .i64 x.a) ∧ W.cell? ⟨b, off + k * 4 + 1, none⟩ = some (.int .i64 x.b)) ∧ (W.cell? ⟨b, off + k * 4 + 2, none⟩ = some (.int .i64 x.l) ∧ W.cell? ⟨b, off + k * 4 + 3, none⟩ = some (.bool x.t))) ∧ ((W.cell? ⟨b', off' + k * 4, none⟩ = some (.int .i64 x.a) ∧ W.cell? ⟨b', off' + k * 4 + 1, none⟩ = some (.int .i64 x.b)) ∧ (W.cell? ⟨b', off' + k * 4 + 2, none⟩ = some (.int .i64 x.l) ∧ W.cell? ⟨b', off' + k * 4 + 3, none⟩ = some (.bool x.t)))) := fun W hW => by
        have h1 := hat.below hW hbl
        have h2 := hat'.below hW hbl'
        exact ⟨⟨⟨h1.ca, h1.cb⟩, h1.cl, h1.ct⟩, ⟨h2.ca, h2.cb⟩, h2.cl, h2.ct⟩
      have e := HK.out wr hb
      obtain ⟨⟨⟨e0, e1⟩, e2, e3⟩, ⟨e4, e5⟩, e6, e7⟩ := e
      have hbd := hb.drew
      clear hat hat' hxk hxk'
      go_wp2
      go_region_held3 (fun W => Below w.heap.size w W ∧ ((W.cell? ⟨b, off + k * 4, none⟩ = some (.int .i64 x.a) ∧ W.cell? ⟨b, off + k * 4 + 1, none⟩ = some (.int .i64 x.b)) ∧ (W.cell? ⟨b, off + k * 4 + 2, none⟩ = some (.int .i64 x.l) ∧ W.cell? ⟨b, off + k * 4 + 3, none⟩ = some (.bool x.t))) ∧ ((W.cell? ⟨b', off' + k * 4, none⟩ = some (.int .i64 x.a) ∧ W.cell? ⟨b', off' + k * 4 + 1, none⟩ = some (.int .i64 x.b)) ∧ (W.cell? ⟨b', off' + k * 4 + 2, none⟩ = some (.int .i64 x.l) ∧ W.cell? ⟨b', off' + k * 4 + 3, none⟩ = some (.bool x.t))))
        (first | exact ⟨hb3, HK.out _ hb3⟩ | exact ⟨hbd, HK.out _ hbd⟩)
        ((go_at_call 217; refine (HT.out _ hbd).mono ?_; rintro e w1 ⟨rfl, hb3⟩))
      clear hbd
      go_wp2
      exact ⟨⟨k + 1, by omega, by go_num, hb3⟩, by simp [intOf]; omega⟩
    · go_wp2
      go_ret
      exact ⟨rfl, hb⟩
theorem eqWeb_same (N : Int) (ls : List Ld) (n : Nat) (a a' : Option Addr) (c c' : Nat) (hn : n ≤ 1048576) (w : World) (h : Ls w w.heap.size a n ls) (h' : Ls w w.heap.size a' n ls) :
    Calls Tryz.prog 121 #[.agg #[.int .i64 N, .slice a n c], .agg #[.int .i64 N, .slice a' n c']] w fun e w' => e = .returned (.bool true) ∧ Below w.heap.size w w' := by
  have g2 : Good w ((w.alloc (.cells #[.int .i64 N, .slice a n c] 26)).alloc (.cells #[.int .i64 N, .slice a' n c'] 26)) := ((Good.refl w).alloc _).alloc _
  have HT := hideIt (eqLedgeS_same ls n a a' c c' hn _ (h.up g2) (h'.up g2))
  clear h h'
  go_enter Tryz.func121, Tryz.ntmps121
  go_wp2_with (go_at_call 183; refine HT.out.mono ?_; rintro e w1 ⟨rfl, hb1⟩)
  go_ret
  exact ⟨rfl, g2.up hb1⟩

/-- n marked ones from k0 on -/
def lmarks (k0 n : Nat) : List Ld := (List.range n).map fun (t : Nat) => ⟨(k0 : Int) + (t : Int) * 4, (k0 : Int) + (t : Int) * 4 + 1, (k0 : Int) + (t : Int) * 4 + 1 + 1, decide (((k0 : Int) + (t : Int) * 4 + 1 + 1 + 1) % 3 = 0)⟩
theorem lmarks_snoc (k0 n : Nat) : lmarks k0 (n + 1) = lmarks k0 n ++ [⟨(k0 : Int) + (n : Int) * 4, (k0 : Int) + (n : Int) * 4 + 1, (k0 : Int) + (n : Int) * 4 + 1 + 1, decide (((k0 : Int) + (n : Int) * 4 + 1 + 1 + 1) % 3 = 0)⟩] := by simp [lmarks, List.range_succ]
theorem lmarks_length (k0 n : Nat) : (lmarks k0 n).length = n := by simp [lmarks]
theorem lmarks_at (k0 n j : Nat) (h : j < n) : (lmarks k0 n)[j]? = some ⟨(k0 : Int) + (j : Int) * 4, (k0 : Int) + (j : Int) * 4 + 1, (k0 : Int) + (j : Int) * 4 + 1 + 1, decide (((k0 : Int) + (j : Int) * 4 + 1 + 1 + 1) % 3 = 0)⟩ := by simp [lmarks, h]
theorem markLedgeS_zero (a : Option Addr) (c : Nat) (k0 : Int) (w : World) :
    Calls Tryz.prog 186 #[.slice a 0 c, .int .i64 k0] w fun e w' => e = .returned (.int .i64 k0) ∧ w' = w := by
  go_enter Tryz.func186, Tryz.ntmps186
  go_wp2
  refine wp_loop_rounds 1 ?_
  rw [rounds_succ]
  go_wp2
  go_ret
  exact ⟨rfl, rfl⟩
set_option maxRecDepth 100000 in
set_option maxHeartbeats 4000000 in
theorem markLedgeS_any (base g c n k0 : Nat) (ls : List Ld) (hn : n ≤ 1048576) (hk1 : k0 ≤ 10000000) (w : World)
    (h : w.ownsRow base 52 4 (.slice (some ⟨g, 0, none⟩) n c) n (lcells ls)) :
    Calls Tryz.prog 186 #[.slice (some ⟨g, 0, none⟩) n c, .int .i64 (k0 : Int)] w fun e w' => e = .returned (.int .i64 ((k0 : Int) + (n : Int) * 4)) ∧
      w'.ownsRow base 52 4 (.slice (some ⟨g, 0, none⟩) n c) n (lcells (lmarks k0 n)) ∧ w.grownBy w' (some g) := by
  have HO0 := hideIt h
  clear h
  go_enter Tryz.func186, Tryz.ntmps186
  go_wp2
  go_loopw [1, 5] (fun kk i wr => ∃ (j : Nat) (xs : List Value), j ≤ n ∧ i = .int .i64 (j : Int) ∧ kk = .int .i64 ((k0 : Int) + (j : Int) * 4) ∧ Hid (xs.take (j * 4) = lcells (lmarks k0 j)) ∧
      wr.ownsRow base 52 4 (.slice (some ⟨g, 0, none⟩) n c) n xs ∧ w.grownBy wr (some g)) (fun _ i _ => n - (intOf i).toNat)
  case atStart => exact ⟨0, _, by omega, rfl, by simp, by show _ = _; simp [lcells, lmarks], HO0.out, ⟨rfl, rfl, rfl, Nat.le_refl _, fun _ _ _ => rfl⟩⟩
  case round =>
    obtain ⟨j, xs, hj, rfl, rfl, hx, hown, hgr⟩ := hrel
    clear HO0
    have hl3 : xs.length = n * 4 := hown.1
    by_cases hlt : j < n
    · have b1 : (0 : Int) ≤ (j : Int) := by omega
      have b2 : (j : Int) < (n : Int) := by omega
      have cc : ∀ q, q < 4 → ∃ y, wr.cell? ⟨g, j * 4 + q, none⟩ = some y := fun q hq => ⟨_, by rw [hown.cellAt (j * 4 + q) (by omega)]; exact List.getElem?_eq_getElem (by omega)⟩
      obtain ⟨y0, c0⟩ := cc 0 (by omega)
      rw [Nat.add_zero] at c0
      obtain ⟨y1, c1⟩ := cc 1 (by omega)
      obtain ⟨y2, c2⟩ := cc 2 (by omega)
      obtain ⟨y3, c3⟩ := cc 3 (by omega)
      have f0 := hown.frozenAt (j * 4)
      have f1 := hown.frozenAt (j * 4 + 1)
      have f2 := hown.frozenAt (j * 4 + 2)
      have f3 := hown.frozenAt (j * 4 + 3)
      obtain ⟨B, hB⟩ : ∃ B, decide (((k0 : Int) + (j : Int) * 4 + 1 + 1 + 1) % 3 = 0) = B := ⟨_, rfl⟩
      have hst1 := hown.stored (j * 4) (.int .i64 ((k0 : Int) + (j : Int) * 4))
      have hst2 := hst1.1.stored (j * 4 + 1) (.int .i64 ((k0 : Int) + (j : Int) * 4 + 1))
      have hst3 := hst2.1.stored (j * 4 + 2) (.int .i64 ((k0 : Int) + (j : Int) * 4 + 1 + 1))
      have hst4 := hst3.1.stored (j * 4 + 3) (.bool B)
      have HO2 := hideIt hst4.1
      have HG2 := hideIt (grown_trans (grown_trans (grown_trans (grown_trans hgr hst1.2) hst2.2) hst3.2) hst4.2)
      have HX : Hid (((((xs.set (j * 4) (.int .i64 ((k0 : Int) + (j : Int) * 4))).set (j * 4 + 1) (.int .i64 ((k0 : Int) + (j : Int) * 4 + 1))).set (j * 4 + 2) (.int .i64 ((k0 : Int) + (j : Int) * 4 + 1 + 1))).set (j * 4 + 3) (.bool B)).take ((j + 1) * 4) = lcells (lmarks k0 (j + 1))) := by
        show _ = _
        rw [show (j + 1) * 4 = j * 4 + 4 by omega, take_set4 _ _ _ _ _ _ (by omega), hx.out, lmarks_snoc, lcells_snoc, hB]
      have dB : ((((k0 : Int) + (j : Int) * 4 + 1 + 1 + 1) % 3) == 0) = B := by rw [← hB]; rfl
      clear hst1 hst2 hst3 hst4 hx hown hgr hB cc
      go_wp2
      all_goals exact ⟨⟨j + 1, _, by omega, by go_num, by go_num, HX, HO2.out, HG2.out⟩, by simp [intOf]; omega⟩
    · obtain rfl : j = n := by omega
      have HX : Hid (xs = lcells (lmarks k0 j)) := by
        show _ = _
        have := hx.out
        rw [List.take_of_length_le (by omega)] at this
        exact this
      have HO := hideIt hown
      clear hx hown
      go_wp2
      go_ret
      exact ⟨rfl, by rw [← HX.out]; exact HO.out, hgr⟩
set_option maxRecDepth 100000 in
set_option maxHeartbeats 4000000 in
theorem heldLedgeS_any (n k0 : Nat) (a : Option Addr) (c : Nat) (hn : n ≤ 1048576) (hk1 : k0 ≤ 10000000) (w : World) (h : Ls w w.heap.size a n (lmarks k0 n)) :
    Calls Tryz.prog 187 #[.slice a n c, .int .i64 (k0 : Int)] w fun e w' => e = .returned (.int .i64 ((k0 : Int) + (n : Int) * 4)) ∧ w' = w := by
  have HR := hideIt h
  clear h
  go_enter Tryz.func187, Tryz.ntmps187
  go_wp2
  go_loopw [1, 5] (fun kk i wr => ∃ j : Nat, j ≤ n ∧ i = .int .i64 (j : Int) ∧ kk = .int .i64 ((k0 : Int) + (j : Int) * 4) ∧ wr = w) (fun _ i _ => n - (intOf i).toNat)
  case atStart => exact ⟨0, by omega, rfl, by simp, rfl⟩
  case round =>
    obtain ⟨j, hj, rfl, rfl, hw⟩ := hrel
    have hw' := hw.symm
    subst hw'
    clear hw
    by_cases hlt : j < n
    · obtain ⟨b, off, x, rfl, hbl, hxk, hat⟩ := HR.out.at hlt
      rw [lmarks_at k0 n j hlt] at hxk
      obtain rfl := Option.some.inj hxk
      have c0 := hat.ca
      have c1 := hat.cb
      have c2 := hat.cl
      have c3 := hat.ct
      dsimp only at c0 c1 c2 c3
      obtain ⟨B, hB⟩ : ∃ B, decide (((k0 : Int) + (j : Int) * 4 + 1 + 1 + 1) % 3 = 0) = B := ⟨_, rfl⟩
      rw [hB] at c3
      have dB : ((((k0 : Int) + (j : Int) * 4 + 1 + 1 + 1) % 3) == 0) = B := by rw [← hB]; rfl
      have b1 : (0 : Int) ≤ (j : Int) := by omega
      have b2 : (j : Int) < (n : Int) := by omega
      clear hat hxk hB
      cases B
      all_goals
        go_wp2
        exact ⟨⟨j + 1, by omega, by go_num, by go_num, by first | trivial | rfl⟩, by simp [intOf]; omega⟩
    · obtain rfl : j = n := by omega
      go_wp2
      go_ret
      exact ⟨rfl, rfl⟩
theorem markWeb_zero (N : Int) (a : Option Addr) (c : Nat) (k0 : Int) (w : World) :
    Calls Tryz.prog 126 #[.agg #[.int .i64 N, .slice a 0 c], .int .i64 k0] w fun e w' => e = .returned (.int .i64 k0) ∧ Below w.heap.size w w' := by
  have HT := hideIt (markLedgeS_zero a c k0)
  go_enter Tryz.func126, Tryz.ntmps126
  go_wp2_with (go_at_call 186; refine (HT.out _).mono ?_; rintro e w1 ⟨rfl, rfl⟩)
  go_ret
  exact ⟨rfl, (Below.refl _ _).alloc (Nat.le_refl _) _⟩
theorem markWeb_any (N : Int) (base g c n k0 : Nat) (ls : List Ld) (hn : n ≤ 1048576) (hk1 : k0 ≤ 10000000) (w : World)
    (h : w.ownsRow base 52 4 (.slice (some ⟨g, 0, none⟩) n c) n (lcells ls)) :
    Calls Tryz.prog 126 #[.agg #[.int .i64 N, .slice (some ⟨g, 0, none⟩) n c], .int .i64 (k0 : Int)] w fun e w' => e = .returned (.int .i64 ((k0 : Int) + (n : Int) * 4)) ∧
      w'.ownsRow base 52 4 (.slice (some ⟨g, 0, none⟩) n c) n (lcells (lmarks k0 n)) ∧ w.grownBy w' (some g) := by
  have HT := hideIt (markLedgeS_any base g c n k0 ls hn hk1 _ (h.alloc (.cells #[.int .i64 N, .slice (some ⟨g, 0, none⟩) n c] 26)))
  clear h
  go_enter Tryz.func126, Tryz.ntmps126
  go_wp2_with (go_at_call 186; refine HT.out.mono ?_; rintro e w1 ⟨rfl, ho, hg⟩; refine Hid.out ?_)
  refine (show ∀ {p : Prop}, p → Hid p from fun h => h) ?_
  have HO := hideIt ho
  have HG := hideIt hg
  clear ho hg HT
  go_wp2
  go_ret
  exact ⟨rfl, HO.out, grown_trans (grown_of_below ((Below.refl _ _).alloc (Nat.le_refl _) _) _) HG.out⟩
theorem heldWeb_any (N : Int) (n k0 : Nat) (a : Option Addr) (c : Nat) (hn : n ≤ 1048576) (hk1 : k0 ≤ 10000000) (w : World) (h : Ls w w.heap.size a n (lmarks k0 n)) :
    Calls Tryz.prog 129 #[.agg #[.int .i64 N, .slice a n c], .int .i64 (k0 : Int)] w fun e w' => e = .returned (.int .i64 ((k0 : Int) + (n : Int) * 4)) ∧ Below w.heap.size w w' := by
  have g1 : Good w (w.alloc (.cells #[.int .i64 N, .slice a n c] 26)) := (Good.refl w).alloc _
  have HT := hideIt (heldLedgeS_any n k0 a c hn hk1 _ (h.up g1))
  have d1 : decide ((k0 : Int) + (n : Int) * 4 < 0) = false := decide_eq_false (by omega)
  clear h
  go_enter Tryz.func129, Tryz.ntmps129
  go_wp2_with (go_at_call 187; refine HT.out.mono ?_; rintro e w1 ⟨rfl, rfl⟩)
  go_ret
  exact ⟨rfl, (Below.refl _ _).alloc (Nat.le_refl _) _⟩
end Go.Proofs.YtpfkfbmghddepaaGreat
namespace Go.Proofs.YtpfkfbmghddepaaGreat.O
open Go.RowKit Vt

theorem ed_es {e : Prop} {t : TypeId} {w w' : World} {G : Nat} {s : ByteArray} {st : Option (List UInt8)} {v : Value} {m : Nat} (h : EdAns e t w w' G s st v m) :
    ∃ (a : Option Addr) (n c : Nat) (es : List EdgeV) (st' : Option (List UInt8)), v = .slice a n c ∧ n ≤ m ∧ EB8 es ∧ w'.ownsRow w.heap.size 28 2 (.slice a n c) n (ecells es) ∧ ER st es st' ∧ RdAt e t w' G s st' ∧ w.grownBy w' (some G) := by
  obtain ⟨⟨a, n, c, es, st', h1, h2, h3, h4, h5, h6⟩, h7⟩ := h
  exact ⟨a, n, c, es, st', h1, h2, h3, h4, h5, h6, h7⟩

theorem own_block {w : World} {B T S n cap : Nat} {a : Option Addr} {xs : List Value} {W : World} (h : w.ownsRow B T S (.slice a n cap) n xs) (hb : ∀ g, B ≤ g → g < w.heap.size → W.heap[g]? = w.heap[g]?) : W.ownsRow B T S (.slice a n cap) n xs := by
  refine ⟨h.1, h.2.imp id ?_⟩
  rintro ⟨g, cp, cur, hv, hg, hc, rest⟩
  exact ⟨g, cp, cur, hv, hg, by rw [hb g hg (Array.getElem?_eq_some_iff.1 hc).1]; exact hc, rest⟩

end Go.Proofs.YtpfkfbmghddepaaGreat.O
namespace Go.Proofs.YtpfkfbmghddepaaGreat.O
open Go.RowKit Vt

abbrev ac (num : Int) (ok : Bool) (a : Option Addr) (k c : Nat) (a' : Option Addr) (k' c' : Nat) : Array Value := #[.int .i64 num, .bool ok, .slice a k c, .slice a' k' c']
def szA (n m : Nat) : Int := if n + m ≤ 1048576 then 1048576 - (n : Int) - (m : Int) else -1

theorem szAnswer_any (num : Int) (ok : Bool) (n : Nat) (a : Option Addr) (c : Nat) (hn : n ≤ maxLen) (m : Nat) (a' : Option Addr) (c' : Nat) (hm : m ≤ maxLen) (w : World) :
    Calls Tryz.prog 115 #[ansV num ok a n c a' m c', .int .i64 1048576] w fun e w' => e = .returned (.int .i64 (szA n m)) ∧ Below w.heap.size w w' := by
  unfold maxLen at hn hm
  unfold ansV szA
  by_cases g : n ≤ 1048576
  · have d1 : decide (1048576 - (n : Int) < 0) = false := by simp; omega
    by_cases g2 : n + m ≤ 1048576
    · rw [if_pos g2]
      have d2 : decide (1048576 - (n : Int) - (m : Int) < 0) = false := by simp; omega
      go_enter Tryz.func115, Tryz.ntmps115
      go_wp2
      go_ret
      exact ⟨rfl, bel1 _ _⟩
    · rw [if_neg g2]
      have d2 : decide (1048576 - (n : Int) - (m : Int) < 0) = true := by simp; omega
      go_enter Tryz.func115, Tryz.ntmps115
      go_wp2
      go_ret
      exact ⟨rfl, bel1 _ _⟩
  · rw [if_neg (by omega)]
    have d1 : decide (1048576 - (n : Int) < 0) = true := by simp; omega
    go_enter Tryz.func115, Tryz.ntmps115
    go_wp2
    go_ret
    exact ⟨rfl, bel1 _ _⟩

theorem own_up10 {w w' : World} {B e s n : Nat} {v : Value} {xs : List Value} (h : w.ownsRow B e s v n xs) (hb : Below w.heap.size w w') : w'.ownsRow B e s v n xs := by
  refine ⟨h.1, h.2.imp id ?_⟩
  rintro ⟨g, cap, cur, hv, hg, hc, rest⟩
  exact ⟨g, cap, cur, hv, hg, by rw [hb.block g (Array.getElem?_eq_some_iff.1 hc).1]; exact hc, rest⟩

set_option maxHeartbeats 1000000 in
theorem toAnswer_any (num : Int) (ok : Bool) (fs : List EdgeV) (ls : List Int) (n : Nat) (a : Option Addr) (cap : Nat) (hn : n ≤ 1048576) (m : Nat) (a' : Option Addr) (cap' : Nat) (hm : m ≤ 1048576) (w : World) (hfs : Es w w.heap.size a n fs) (hls : Is w w.heap.size a' m ls) :
    Calls Tryz.prog 120 #[ansV num ok a n cap a' m cap'] w fun e w' => ∃ g g', e = .returned (ansV num ok (some ⟨g, 0, none⟩) n n (some ⟨g', 0, none⟩) m m) ∧ w'.ownsRow w.heap.size 28 2 (.slice (some ⟨g, 0, none⟩) n n) n (ecells fs) ∧ w'.ownsRow w.heap.size 3 1 (.slice (some ⟨g', 0, none⟩) m m) m (ic ls) ∧ Below w.heap.size w w' := by
  unfold ansV
  have hb3 := bel3 w (.cells #[.int .i64 num, .bool ok, .slice a n cap, .slice a' m cap'] 87) (.cells #[.int .i64 0, .bool false, .slice none 0 0, .slice none 0 0] 65) (.cells #[.int .i64 num, .bool ok, .slice none 0 0, .slice none 0 0] 65)
  have HT := hideIt (toEdgeS_any fs n a cap hn _ (hfs.up hb3))
  have HI : Hid (∀ W, Below w.heap.size w W → Calls Tryz.prog 182 #[.slice a' m cap'] W fun e w' => ∃ g, e = .returned (.slice (some ⟨g, 0, none⟩) m m) ∧ w'.ownsRow W.heap.size 3 1 (.slice (some ⟨g, 0, none⟩) m m) m (ic ls) ∧ Below W.heap.size W w') := fun W hW => toIntS_any ls m a' cap' hm W (hls.up hW)
  have HB3 := hideIt hb3
  clear hfs hls hb3
  go_enter Tryz.func120, Tryz.ntmps120
  go_wp2_with (go_at_call 123; refine HT.out.mono ?_; rintro e w1 ⟨g, rfl, hown, hb1⟩; refine Hid.out ?_)
  refine (show ∀ {p : Prop}, p → Hid p from fun h => h) ?_
  obtain ⟨hc, hf⟩ := bcell hb1
  have hgl := hown.lt g rfl
  have hz := hb1.size
  simp at hz hgl
  have hB1 := HB3.out.trans (hb1.mono (by simp; omega))
  have hx : w1.heap[w.heap.size]? = some (.cells #[.int .i64 num, .bool ok, .slice a n cap, .slice a' m cap'] 87 (0, 0)) := by
    rw [hb1.block _ (by simp; omega), Below.heap_alloc _ _ _ (by simp; omega), Below.heap_alloc _ _ _ (by simp)]
    exact heap_alloc_new w _
  have x0 : w1.cell? ⟨w.heap.size, 3, none⟩ = some (.slice a' m cap') := by rw [cell_of_row w1 _ 3 _ _ _ hx]; rfl
  have hB2 : Below w.heap.size w (w1.setCell ⟨w.heap.size + 1 + 1, 2, none⟩ (.slice (some ⟨g, 0, none⟩) n n)) := hB1.setCell (by simp; omega) _
  have hb2 : w1.heap[w.heap.size + 1 + 1]? = some (.cells #[.int .i64 num, .bool ok, .slice none 0 0, .slice none 0 0] 65 (0, 0)) := by
    rw [hb1.block _ (by simp)]
    have := heap_alloc_new ((w.alloc (.cells #[.int .i64 num, .bool ok, .slice a n cap, .slice a' m cap'] 87)).alloc (.cells #[.int .i64 0, .bool false, .slice none 0 0, .slice none 0 0] 65)) (.cells #[.int .i64 num, .bool ok, .slice none 0 0, .slice none 0 0] 65)
    simpa using this
  have hr2 : w1.heap[w.heap.size + 1]? = some (.cells #[.int .i64 0, .bool false, .slice none 0 0, .slice none 0 0] 65 (0, 0)) := by
    rw [hb1.block _ (by simp), Below.heap_alloc _ _ _ (by simp)]
    have := heap_alloc_new (w.alloc (.cells #[.int .i64 num, .bool ok, .slice a n cap, .slice a' m cap'] 87)) (.cells #[.int .i64 0, .bool false, .slice none 0 0, .slice none 0 0] 65)
    simpa using this
  have y2 : w1.cell? ⟨w.heap.size + 1 + 1, 2, none⟩ = some (.slice none 0 0) := by rw [cell_of_row w1 _ 2 _ _ _ hb2]; rfl
  have z2 : w1.frozen? ⟨w.heap.size + 1 + 1, 2, none⟩ = false := frozen_of_row w1 _ 2 _ _ hb2
  have hown2 := own_block (W := w1.setCell ⟨w.heap.size + 1 + 1, 2, none⟩ (.slice (some ⟨g, 0, none⟩) n n)) hown (fun q hq _ => heap_setCell_other _ _ _ _ (by simp at hq ⊢; omega))
  have hb22 : (w1.setCell ⟨w.heap.size + 1 + 1, 2, none⟩ (.slice (some ⟨g, 0, none⟩) n n)).heap[w.heap.size + 1 + 1]? = some (.cells #[.int .i64 num, .bool ok, .slice (some ⟨g, 0, none⟩) n n, .slice none 0 0] 65 (0, 0)) := by
    rw [heap_setCell_same w1 _ 2 _ _ _ hb2]; rfl
  have hr22 : (w1.setCell ⟨w.heap.size + 1 + 1, 2, none⟩ (.slice (some ⟨g, 0, none⟩) n n)).heap[w.heap.size + 1]? = some (.cells #[.int .i64 0, .bool false, .slice none 0 0, .slice none 0 0] 65 (0, 0)) := by
    rw [heap_setCell_other _ _ _ _ (by simp)]; exact hr2
  have HW2 := hideIt hown2
  have HB2 := hideIt hB2
  have Hb22 := hideIt hb22
  have Hr22 := hideIt hr22
  have hz2 : (w1.setCell ⟨w.heap.size + 1 + 1, 2, none⟩ (.slice (some ⟨g, 0, none⟩) n n)).heap.size = w1.heap.size := by simp [World.setCell]
  clear hc hf hown hb1 HT hB1 hb2 hr2 hx hown2 hB2 hb22 hr22
  go_wp2_with (go_at_call 182; refine (HI.out _ HB2.out).mono ?_; rintro e w2 ⟨g', rfl, hown', hb2⟩; refine Hid.out ?_)
  refine (show ∀ {p : Prop}, p → Hid p from fun h => h) ?_
  have hbx : w2.heap[w.heap.size + 1 + 1]? = some (.cells #[.int .i64 num, .bool ok, .slice (some ⟨g, 0, none⟩) n n, .slice none 0 0] 65 (0, 0)) := by
    rw [hb2.block _ (by rw [hz2]; omega)]; exact Hb22.out
  have hrx : w2.heap[w.heap.size + 1]? = some (.cells #[.int .i64 0, .bool false, .slice none 0 0, .slice none 0 0] 65 (0, 0)) := by
    rw [hb2.block _ (by rw [hz2]; omega)]; exact Hr22.out
  have e0 : w2.cell? ⟨w.heap.size + 1 + 1, 0, none⟩ = some (.int .i64 num) := by rw [cell_of_row w2 _ 0 _ _ _ hbx]; rfl
  have e1 : w2.cell? ⟨w.heap.size + 1 + 1, 1, none⟩ = some (.bool ok) := by rw [cell_of_row w2 _ 1 _ _ _ hbx]; rfl
  have e2 : w2.cell? ⟨w.heap.size + 1 + 1, 2, none⟩ = some (.slice (some ⟨g, 0, none⟩) n n) := by rw [cell_of_row w2 _ 2 _ _ _ hbx]; rfl
  have e3 : w2.cell? ⟨w.heap.size + 1 + 1, 3, none⟩ = some (.slice none 0 0) := by rw [cell_of_row w2 _ 3 _ _ _ hbx]; rfl
  have fz : w2.frozen? ⟨w.heap.size + 1 + 1, 3, none⟩ = false := frozen_of_row w2 _ 3 _ _ hbx
  have r0 : w2.cell? ⟨w.heap.size + 1, 0, none⟩ = some (.int .i64 0) := by rw [cell_of_row w2 _ 0 _ _ _ hrx]; rfl
  have r1 : w2.cell? ⟨w.heap.size + 1, 1, none⟩ = some (.bool false) := by rw [cell_of_row w2 _ 1 _ _ _ hrx]; rfl
  have r2 : w2.cell? ⟨w.heap.size + 1, 2, none⟩ = some (.slice none 0 0) := by rw [cell_of_row w2 _ 2 _ _ _ hrx]; rfl
  have r3 : w2.cell? ⟨w.heap.size + 1, 3, none⟩ = some (.slice none 0 0) := by rw [cell_of_row w2 _ 3 _ _ _ hrx]; rfl
  have s0 := frozen_of_row w2 _ 0 _ _ hrx
  have s1 := frozen_of_row w2 _ 1 _ _ hrx
  have s2 := frozen_of_row w2 _ 2 _ _ hrx
  have s3 := frozen_of_row w2 _ 3 _ _ hrx
  have HBx := hideIt (HB2.out.trans (hb2.mono HB2.out.size))
  have HOx := hideIt (own_up10 HW2.out hb2)
  have HIx := hideIt hown'
  clear hbx hrx hown' hb2 HW2 HB2 Hb22 Hr22 HI
  go_wp2
  refine bodyPost_ret (v := .agg #[.int .i64 num, .bool ok, .slice (some ⟨g, 0, none⟩) n n, .slice (some ⟨g', 0, none⟩) m m]) (by simp [results, Tryz.results120, go_sem, r0, r1, r2, r3]) rfl ⟨g, g', rfl, ?_, ?_, ?_⟩
  · refine own_mono (B := w.heap.size + 1 + 1 + 1) ?_ (by omega)
    have H0 : w2.ownsRow (w.heap.size + 1 + 1 + 1) 28 2 (.slice (some ⟨g, 0, none⟩) n n) n (ecells fs) := by have := HOx.out; simpa using this
    repeat refine own_setOther ?_ _ _ _ (by omega)
    exact H0
  · have hg' := (HIx.out.lt g' rfl).1
    rw [hz2] at hg'
    have H0 : w2.ownsRow w.heap.size 3 1 (.slice (some ⟨g', 0, none⟩) m m) m (ic ls) := own_mono HIx.out (by rw [hz2]; omega)
    repeat refine own_setOther ?_ _ _ _ (by omega)
    exact H0
  · have B3 := HBx.out
    repeat refine Below.setCell ?_ (by simp; try omega) _
    exact B3
end Go.Proofs.YtpfkfbmghddepaaGreat.O
namespace Go.Proofs.YtpfkfbmghddepaaGreat.O
open Go.RowKit Vt

theorem eqAnswer_same (num : Int) (ok : Bool) (fs : List EdgeV) (ls : List Int) (n : Nat) (a b : Option Addr) (c d : Nat) (hn : n ≤ 1048576) (m : Nat) (a' b' : Option Addr) (c' d' : Nat) (hm : m ≤ 1048576) (w : World)
    (h1 : Es w w.heap.size a n fs) (h2 : Es w w.heap.size b n fs) (h3 : Is w w.heap.size a' m ls) (h4 : Is w w.heap.size b' m ls) :
    Calls Tryz.prog 54 #[ansV num ok a n c a' m c', ansV num ok b n d b' m d'] w fun e w' => e = .returned (.bool true) ∧ Below w.heap.size w w' := by
  unfold ansV
  have B2 : Below w.heap.size w ((w.alloc (.cells #[.int .i64 num, .bool ok, .slice a n c, .slice a' m c'] 65)).alloc (.cells #[.int .i64 num, .bool ok, .slice b n d, .slice b' m d'] 65)) := (bel1 _ _).alloc (by simp) _
  have HT := hideIt (eqEdgeS_same fs n a b c d hn _ (h1.up B2) (h2.up B2))
  have HI : Hid (∀ W, Below w.heap.size w W → Calls Tryz.prog 125 #[.slice a' m c', .slice b' m d'] W fun e w' => e = .returned (.bool true) ∧ Below W.heap.size W w') := fun W hW => eqIntS_same ls m a' b' c' d' hm W (h3.up hW) (h4.up hW)
  have HB2 := hideIt B2
  have dr : (ok != ok) = false := by simp
  clear h1 h2 h3 h4 B2
  go_enter Tryz.func54, Tryz.ntmps54
  go_wp2_with (go_at_call 124; refine HT.out.mono ?_; rintro e w1 ⟨rfl, hb1⟩; refine Hid.out ?_)
  refine (show ∀ {p : Prop}, p → Hid p from fun h => h) ?_
  obtain ⟨hc, hf⟩ := bcell hb1
  have HB := hideIt (HB2.out.trans (hb1.mono (by simp; omega)))
  have q0 : w1.cell? ⟨w.heap.size, 3, none⟩ = some (.slice a' m c') := by rw [hc _ _ (by simp; omega)]; simp
  have q1 : w1.cell? ⟨w.heap.size + 1, 3, none⟩ = some (.slice b' m d') := by rw [hc _ _ (by simp)]; simp
  clear hc hf hb1 HT
  go_wp2_with (go_at_call 125; refine (HI.out _ HB.out).mono ?_; rintro e w2 ⟨rfl, hb2⟩)
  go_ret
  exact ⟨rfl, HB.out.trans (hb2.mono HB.out.size)⟩

/-- rows of different sorts lie in different blocks -/
theorem rows_ne {w : World} {B B' S S' n n' : Nat} {e e' : TypeId} {v v' : Value} {xs xs' : List Value} (h : w.ownsRow B e S v n xs) (h' : w.ownsRow B' e' S' v' n' xs') (hne : e ≠ e') (g : Nat) (hg : v.ownBlock = some g) : v'.ownBlock ≠ some g := by
  intro hg'
  rcases h.2 with ⟨rfl, _⟩ | ⟨q, cap, cur, rfl, _, hc, _⟩
  · simp [Value.ownBlock] at hg
  · rcases h'.2 with ⟨rfl, _⟩ | ⟨q', cap', cur', rfl, _, hc', _⟩
    · simp [Value.ownBlock] at hg'
    · simp [Value.ownBlock] at hg hg'
      subst hg hg'
      rw [hc] at hc'
      simp at hc'
      exact hne hc'.2

/-- edges are marked, or there are none -/
theorem markE_any {w : World} {base n c k0 : Nat} {a : Option Addr} {fs : List EdgeV} (hn : n ≤ 1048576) (hk : k0 ≤ 10000000) (h : w.ownsRow base 28 2 (.slice a n c) n (ecells fs)) :
    Calls Tryz.prog 127 #[.slice a n c, .int .i64 (k0 : Int)] w fun e w' => e = .returned (.int .i64 ((k0 : Int) + (n : Int) * 2)) ∧ w'.ownsRow base 28 2 (.slice a n c) n (ecells (marks k0 n)) ∧ w.grownBy w' ((Value.slice a n c).ownBlock) := by
  by_cases h0 : n = 0
  · subst h0
    refine (markEdgeS_zero a c k0 w).mono ?_
    rintro e v ⟨rfl, rfl⟩
    refine ⟨by simp, ?_, gr_refl _ _⟩
    have hl := h.1
    rw [ecells_length] at hl
    have : fs = [] := List.length_eq_zero_iff.1 (by omega)
    subst this
    exact h
  · rcases h.2 with ⟨_, h3⟩ | ⟨g, cap, cur, hv, hg, _⟩
    · omega
    · simp at hv
      obtain ⟨rfl, rfl⟩ := hv
      exact markEdgeS_any base g c n k0 fs hn hk w h
theorem markI_any {w : World} {base n c k0 : Nat} {a : Option Addr} {ls : List Int} (hn : n ≤ 1048576) (hk : k0 ≤ 10000000) (h : w.ownsRow base 3 1 (.slice a n c) n (ic ls)) :
    Calls Tryz.prog 128 #[.slice a n c, .int .i64 (k0 : Int)] w fun e w' => e = .returned (.int .i64 ((k0 : Int) + (n : Int))) ∧ w'.ownsRow base 3 1 (.slice a n c) n (ic (imarks k0 n)) ∧ w.grownBy w' ((Value.slice a n c).ownBlock) := by
  by_cases h0 : n = 0
  · subst h0
    refine (markIntS_zero a c k0 w).mono ?_
    rintro e v ⟨rfl, rfl⟩
    refine ⟨by simp, ?_, gr_refl _ _⟩
    have hl := h.1
    rw [ic_len] at hl
    have : ls = [] := List.length_eq_zero_iff.1 (by omega)
    subst this
    exact h
  · rcases h.2 with ⟨_, h3⟩ | ⟨g, cap, cur, hv, hg, _⟩
    · omega
    · simp at hv
      obtain ⟨rfl, rfl⟩ := hv
      exact markIntS_any base g c n k0 _ hn hk w h

/-- an answer that is ours: its box, its edges and its labels lie in blocks lo .. hi -/
structure ABox (u : World) (lo hi b : Nat) (num : Int) (ok : Bool) (a : Option Addr) (m c : Nat) (a' : Option Addr) (m' c' : Nat) (gs : List EdgeV) (ls : List Int) : Prop where
  box : u.heap[b]? = some (.cells (ac num ok a m c a' m' c') 65 (0, 0))
  own : u.ownsRow lo 28 2 (.slice a m c) m (ecells gs)
  own2 : u.ownsRow lo 3 1 (.slice a' m' c') m' (ic ls)
  least : lo ≤ b
  most : b < hi
  row : ∀ g, (Value.slice a m c).ownBlock = some g → g < b
  row2 : ∀ g, (Value.slice a' m' c').ownBlock = some g → g < b
  there : hi ≤ u.heap.size

section
variable {u v : World} {lo hi b l2 h2 : Nat} {num : Int} {ok : Bool} {a : Option Addr} {m c : Nat} {a' : Option Addr} {m' c' : Nat} {gs : List EdgeV} {ls : List Int}
theorem ABox.len (h : ABox u lo hi b num ok a m c a' m' c' gs ls) : gs.length = m ∧ ls.length = m' := by
  have h1 := h.own.1; have h3 := h.own2.1; rw [ecells_length] at h1; rw [ic_len] at h3; omega
theorem ABox.es (h : ABox u lo hi b num ok a m c a' m' c' gs ls) : Es u u.heap.size a m gs := Es_of_own h.own
theorem ABox.is (h : ABox u lo hi b num ok a m c a' m' c' gs ls) : Is u u.heap.size a' m' ls := Is_of_own h.own2
theorem ABox.rng (h : ABox u lo hi b num ok a m c a' m' c' gs ls) (hr : Rng l2 h2 u v) (ho : hi ≤ l2 ∨ h2 ≤ lo) : ABox v lo hi b num ok a m c a' m' c' gs ls := by
  have hth := h.there
  have hb := h.least
  have hb' := h.most
  have g1 : ∀ k, lo ≤ k → k < hi → v.heap[k]? = u.heap[k]? := fun k h3 h4 => hr.block k (by omega) (by omega)
  refine ⟨?_, ?_, ?_, hb, hb', h.row, h.row2, Nat.le_trans hth hr.size⟩
  · rw [g1 b hb hb']; exact h.box
  · refine ⟨h.own.1, ?_⟩
    rcases h.own.2 with h3 | ⟨g, cap, cur, hv, hg, hcur, hrest⟩
    · exact .inl h3
    · refine .inr ⟨g, cap, cur, hv, hg, ?_, hrest⟩
      rw [g1 g hg (by have := h.row g (by rw [hv]; rfl); omega)]
      exact hcur
  · refine ⟨h.own2.1, ?_⟩
    rcases h.own2.2 with h3 | ⟨g, cap, cur, hv, hg, hcur, hrest⟩
    · exact .inl h3
    · refine .inr ⟨g, cap, cur, hv, hg, ?_, hrest⟩
      rw [g1 g hg (by have := h.row2 g (by rw [hv]; rfl); omega)]
      exact hcur
theorem ABox.up (h : ABox u lo hi b num ok a m c a' m' c' gs ls) (hb : Below u.heap.size u v) : ABox v lo hi b num ok a m c a' m' c' gs ls :=
  h.rng (l2 := hi) (h2 := hi) (Rng.of_below hb) (.inl (Nat.le_refl _))
theorem ABox.cells (h : ABox u lo hi b num ok a m c a' m' c' gs ls) : u.cell? ⟨b, 0, none⟩ = some (.int .i64 num) ∧ u.cell? ⟨b, 1, none⟩ = some (.bool ok) ∧ u.cell? ⟨b, 2, none⟩ = some (.slice a m c) ∧ u.cell? ⟨b, 3, none⟩ = some (.slice a' m' c') :=
  ⟨by rw [cell_of_row u b 0 _ _ _ h.box]; rfl, by rw [cell_of_row u b 1 _ _ _ h.box]; rfl, by rw [cell_of_row u b 2 _ _ _ h.box]; rfl, by rw [cell_of_row u b 3 _ _ _ h.box]; rfl⟩
theorem ABox.laid (hl : lo ≤ u.heap.size) (ho : u.ownsRow lo 28 2 (.slice a m c) m (ecells gs)) (ho2 : u.ownsRow lo 3 1 (.slice a' m' c') m' (ic ls)) :
    ABox (u.alloc (.cells (ac num ok a m c a' m' c') 65)) lo (u.heap.size + 1) u.heap.size num ok a m c a' m' c' gs ls :=
  ⟨heap_alloc_new u _, ho.alloc _, ho2.alloc _, hl, by omega, fun g hg => (ho.lt g hg).2, fun g hg => (ho2.lt g hg).2, by simp⟩

theorem gr_rng {w w' : World} {row : Option Nat} {lo b : Nat} (h : w.grownBy w' row) (h1 : ∀ g, row = some g → lo ≤ g ∧ g < b) : Rng lo b w w' :=
  ⟨h.os, h.tape, h.output, h.size, fun k hk ho => h.block k hk (fun e => by have := h1 k e.symm; omega)⟩
theorem Rng.trans {u v x : World} {lo b : Nat} (h : Rng lo b u v) (k : Rng lo b v x) : Rng lo b u x :=
  ⟨k.os.trans h.os, k.tape.trans h.tape, k.output.trans h.output, Nat.le_trans h.size k.size, fun i hi ho => (k.block i (Nat.lt_of_lt_of_le hi h.size) ho).trans (h.block i hi ho)⟩

theorem own_kept {w w' : World} {B e s n : Nat} {v : Value} {xs : List Value} {row : Option Nat} (h : w.ownsRow B e s v n xs) (hg : w.grownBy w' row) (hne : ∀ g, row = some g → v.ownBlock ≠ some g) : w'.ownsRow B e s v n xs :=
  h.kept hg (by
    cases row with
    | none => cases hv : v.ownBlock <;> simp
    | some g => exact .inr (hne g rfl))

set_option maxHeartbeats 1000000 in
/-- it is marked -/
theorem ABox.mark (h : ABox u lo hi b num ok a m c a' m' c' gs ls) (k0 : Nat) (hm : m ≤ 100000) (hm' : m' ≤ 100000) (h1 : k0 ≤ 100000) :
    Calls Tryz.prog 58 #[ansV num ok a m c a' m' c', .int .i64 (k0 : Int)] u fun e v => e = .returned (.int .i64 ((k0 : Int) + (m : Int) * 2 + (m' : Int))) ∧ ABox v lo hi b num ok a m c a' m' c' (marks k0 m) (imarks (k0 + m * 2) m') ∧ Rng lo b u v := by
  unfold ansV
  have hth := h.there
  have hbm := h.most
  have HE := hideIt (markE_any (by omega) (by omega) (h.own.alloc (.cells #[.int .i64 num, .bool ok, .slice a m c, .slice a' m' c'] 65)) (k0 := k0))
  have HI : Hid (∀ W : World, W.ownsRow lo 3 1 (.slice a' m' c') m' (ic ls) → Calls Tryz.prog 128 #[.slice a' m' c', .int .i64 ((k0 : Int) + (m : Int) * 2)] W fun e w' => e = .returned (.int .i64 ((k0 : Int) + (m : Int) * 2 + (m' : Int))) ∧ w'.ownsRow lo 3 1 (.slice a' m' c') m' (ic (imarks (k0 + m * 2) m')) ∧ W.grownBy w' ((Value.slice a' m' c').ownBlock)) := fun W hW => by
    have := markI_any (k0 := k0 + m * 2) (by omega) (by omega) hW
    simpa using this
  have HA := hideIt h
  clear h
  go_enter Tryz.func58, Tryz.ntmps58
  go_wp2_with (go_at_call 127; refine HE.out.mono ?_; rintro e w1 ⟨rfl, o1, g1⟩; refine Hid.out ?_)
  refine (show ∀ {p : Prop}, p → Hid p from fun h => h) ?_
  have hq : w1.heap[u.heap.size]? = some (.cells #[.int .i64 num, .bool ok, .slice a m c, .slice a' m' c'] 65 (0, 0)) := by
    rw [g1.block _ (by simp) (fun e => by have := HA.out.row _ e.symm; omega)]
    exact heap_alloc_new u _
  have q3 : w1.cell? ⟨u.heap.size, 3, none⟩ = some (.slice a' m' c') := by rw [cell_of_row w1 _ 3 _ _ _ hq]; rfl
  have o2 : w1.ownsRow lo 3 1 (.slice a' m' c') m' (ic ls) := own_kept (HA.out.own2.alloc _) g1 (fun g hg => rows_ne HA.out.own HA.out.own2 (by decide) g hg)
  have HO1 := hideIt o1
  have HO2 := hideIt o2
  have HG1 := hideIt (gr_trans (World.grownBy_alloc u (.cells #[.int .i64 num, .bool ok, .slice a m c, .slice a' m' c'] 65) _) g1)
  clear o1 o2 g1 hq HE
  go_wp2_with (go_at_call 128; refine (HI.out _ HO2.out).mono ?_; rintro e w2 ⟨rfl, o3, g2⟩)
  go_ret
  refine ⟨rfl, ⟨?_, ?_, o3, HA.out.least, hbm, HA.out.row, HA.out.row2, Nat.le_trans hth (Nat.le_trans HG1.out.size g2.size)⟩, ?_⟩
  · rw [g2.block b (by have := HG1.out.size; omega) (fun e => by have := HA.out.row2 _ e.symm; omega), HG1.out.block b (by omega) (fun e => by have := HA.out.row _ e.symm; omega)]
    exact HA.out.box
  · exact own_kept HO1.out g2 (fun g hg => rows_ne HO2.out HO1.out (by decide) g hg)
  · refine (gr_rng HG1.out (fun g hg => ⟨(HA.out.own.lt g hg).1, HA.out.row g hg⟩)).trans (gr_rng g2 (fun g hg => ⟨(HA.out.own2.lt g hg).1, HA.out.row2 g hg⟩))

theorem ABox.held (k0 : Nat) (h : ABox u lo hi b num ok a m c a' m' c' (marks k0 m) (imarks (k0 + m * 2) m')) (hm : m ≤ 100000) (hm' : m' ≤ 100000) (h1 : k0 ≤ 100000) :
    Calls Tryz.prog 60 #[ansV num ok a m c a' m' c', .int .i64 (k0 : Int)] u fun e v => e = .returned (.int .i64 ((k0 : Int) + (m : Int) * 2 + (m' : Int))) ∧ Below u.heap.size u v := by
  unfold ansV
  have HE := hideIt (heldEdgeS_any m k0 a c (by omega) (by omega) (u.alloc (.cells #[.int .i64 num, .bool ok, .slice a m c, .slice a' m' c'] 65)) (h.es.up (bel1 _ _)))
  have HI := hideIt (heldIntS_any m' (k0 + m * 2) a' c' (by omega) (by omega) (u.alloc (.cells #[.int .i64 num, .bool ok, .slice a m c, .slice a' m' c'] 65)) (h.is.up (bel1 _ _)))
  have ek : ((k0 + m * 2 : Nat) : Int) = (k0 : Int) + (m : Int) * 2 := by omega
  rw [ek] at HI
  have d1 : decide ((k0 : Int) + (m : Int) * 2 < 0) = false := decide_eq_false (by omega)
  have d2 : decide ((k0 : Int) + (m : Int) * 2 + (m' : Int) < 0) = false := decide_eq_false (by omega)
  clear h ek
  go_enter Tryz.func60, Tryz.ntmps60
  go_wp2_with (first | (go_at_call 130; refine HE.out.mono ?_; rintro e w1 ⟨rfl, rfl⟩) | (go_at_call 131; refine HI.out.mono ?_; rintro e w1 ⟨rfl, rfl⟩))
  go_ret
  exact ⟨rfl, bel1 _ _⟩
theorem ABox.eq {lo' hi' b' : Nat} {d : Option Addr} {n e : Nat} {d' : Option Addr} {n' e' : Nat} (h : ABox u lo hi b num ok a m c a' m' c' gs ls) (h' : ABox u lo' hi' b' num ok d n e d' n' e' gs ls) (hm : m ≤ 1048576) (hm' : m' ≤ 1048576) :
    Calls Tryz.prog 54 #[ansV num ok a m c a' m' c', ansV num ok d n e d' n' e'] u fun e v => e = .returned (.bool true) ∧ Below u.heap.size u v := by
  have e1 : n = m := by rw [← h.len.1, ← h'.len.1]
  have e2 : n' = m' := by rw [← h.len.2, ← h'.len.2]
  subst e1 e2
  exact eqAnswer_same num ok gs ls n a d c e hm n' a' d' c' e' hm' u h.es h'.es h.is h'.is
end
end Go.Proofs.YtpfkfbmghddepaaGreat.O
namespace Go.Proofs.YtpfkfbmghddepaaGreat
open Go.RowKit

/-- a shard as a value -/
abbrev shV (id N : Int) (a : Option Addr) (n c : Nat) (num : Int) (ok : Bool) (a1 : Option Addr) (n1 c1 : Nat) (a2 : Option Addr) (n2 c2 : Nat) : Value := .agg #[.int .i64 id, .int .i64 N, .slice a n c, .int .i64 num, .bool ok, .slice a1 n1 c1, .slice a2 n2 c2]
def szS (n n1 n2 : Nat) : Int := if n + n1 + n2 ≤ 1048576 then 1048576 - (n : Int) - (n1 : Int) - (n2 : Int) else -1

/-- a shard in a block of its own -/
def Bx7 (w : World) (b : Nat) (t : TypeId) (v0 v1 v2 v3 v4 v5 v6 : Value) : Prop := w.heap[b]? = some (.cells #[v0, v1, v2, v3, v4, v5, v6] t (0, 0))
section
variable {w u : World} {b : Nat} {t : TypeId} {v0 v1 v2 v3 v4 v5 v6 : Value}
theorem Bx7.new (w : World) (t : TypeId) (v0 v1 v2 v3 v4 v5 v6 : Value) : Bx7 (w.alloc (.cells #[v0, v1, v2, v3, v4, v5, v6] t)) w.heap.size t v0 v1 v2 v3 v4 v5 v6 := heap_alloc_new w _
theorem Bx7.lt (h : Bx7 w b t v0 v1 v2 v3 v4 v5 v6) : b < w.heap.size := (Array.getElem?_eq_some_iff.1 h).1
theorem Bx7.up (h : Bx7 w b t v0 v1 v2 v3 v4 v5 v6) (hb : Below w.heap.size w u) : Bx7 u b t v0 v1 v2 v3 v4 v5 v6 := by unfold Bx7; rw [hb.block b h.lt]; exact h
theorem Bx7.cells (h : Bx7 w b t v0 v1 v2 v3 v4 v5 v6) : w.cell? ⟨b, 0, none⟩ = some v0 ∧ w.cell? ⟨b, 1, none⟩ = some v1 ∧ w.cell? ⟨b, 2, none⟩ = some v2 ∧ w.cell? ⟨b, 3, none⟩ = some v3 ∧ w.cell? ⟨b, 4, none⟩ = some v4 ∧ w.cell? ⟨b, 5, none⟩ = some v5 ∧ w.cell? ⟨b, 6, none⟩ = some v6 :=
  ⟨by rw [cell_of_row w b 0 _ _ _ h]; rfl, by rw [cell_of_row w b 1 _ _ _ h]; rfl, by rw [cell_of_row w b 2 _ _ _ h]; rfl, by rw [cell_of_row w b 3 _ _ _ h]; rfl, by rw [cell_of_row w b 4 _ _ _ h]; rfl, by rw [cell_of_row w b 5 _ _ _ h]; rfl, by rw [cell_of_row w b 6 _ _ _ h]; rfl⟩
theorem Bx7.set2 (h : Bx7 w b t v0 v1 v2 v3 v4 v5 v6) (u1 u2 : Value) : Bx7 ((w.setCell ⟨b, 1, none⟩ u1).setCell ⟨b, 2, none⟩ u2) b t v0 u1 u2 v3 v4 v5 v6 := by
  have h1 : (w.setCell ⟨b, 1, none⟩ u1).heap[b]? = some (.cells #[v0, u1, v2, v3, v4, v5, v6] t (0, 0)) := by rw [heap_setCell_same w b 1 _ t u1 h]; rfl
  unfold Bx7
  rw [heap_setCell_same _ b 2 _ t u2 h1]; rfl
theorem Bx7.set4 (h : Bx7 w b t v0 v1 v2 v3 v4 v5 v6) (u3 u4 u5 u6 : Value) : Bx7 ((((w.setCell ⟨b, 3, none⟩ u3).setCell ⟨b, 4, none⟩ u4).setCell ⟨b, 5, none⟩ u5).setCell ⟨b, 6, none⟩ u6) b t v0 v1 v2 u3 u4 u5 u6 := by
  have h1 : (w.setCell ⟨b, 3, none⟩ u3).heap[b]? = some (.cells #[v0, v1, v2, u3, v4, v5, v6] t (0, 0)) := by rw [heap_setCell_same w b 3 _ t u3 h]; rfl
  have h2 : ((w.setCell ⟨b, 3, none⟩ u3).setCell ⟨b, 4, none⟩ u4).heap[b]? = some (.cells #[v0, v1, v2, u3, u4, v5, v6] t (0, 0)) := by rw [heap_setCell_same _ b 4 _ t u4 h1]; rfl
  have h3 : (((w.setCell ⟨b, 3, none⟩ u3).setCell ⟨b, 4, none⟩ u4).setCell ⟨b, 5, none⟩ u5).heap[b]? = some (.cells #[v0, v1, v2, u3, u4, u5, v6] t (0, 0)) := by rw [heap_setCell_same _ b 5 _ t u5 h2]; rfl
  unfold Bx7
  rw [heap_setCell_same _ b 6 _ t u6 h3]; rfl
/-- all seven -/
def sev (w : World) (b : Nat) (v0 v1 v2 v3 v4 v5 v6 : Value) : World := ((((((w.setCell ⟨b, 0, none⟩ v0).setCell ⟨b, 1, none⟩ v1).setCell ⟨b, 2, none⟩ v2).setCell ⟨b, 3, none⟩ v3).setCell ⟨b, 4, none⟩ v4).setCell ⟨b, 5, none⟩ v5).setCell ⟨b, 6, none⟩ v6
theorem Bx7.set7 (h : Bx7 w b t v0 v1 v2 v3 v4 v5 v6) (u0 u1 u2 u3 u4 u5 u6 : Value) : Bx7 (sev w b u0 u1 u2 u3 u4 u5 u6) b t u0 u1 u2 u3 u4 u5 u6 := by
  have h0 : Bx7 (w.setCell ⟨b, 0, none⟩ u0) b t u0 v1 v2 v3 v4 v5 v6 := by unfold Bx7; rw [heap_setCell_same w b 0 _ t u0 h]; rfl
  exact (h0.set2 u1 u2).set4 u3 u4 u5 u6
theorem Bx7.setO {G j : Nat} (h : Bx7 w b t v0 v1 v2 v3 v4 v5 v6) (u1 : Value) (hG : b ≠ G) : Bx7 (w.setCell ⟨G, j, none⟩ u1) b t v0 v1 v2 v3 v4 v5 v6 := by
  unfold Bx7
  rw [heap_setCell_other _ _ _ _ (by first | exact hG | exact fun e => hG e.symm)]
  exact h
theorem sev_below {C G : Nat} (h : Below C w u) (hb : C ≤ G) (v0 v1 v2 v3 v4 v5 v6 : Value) : Below C w (sev u G v0 v1 v2 v3 v4 v5 v6) :=
  ((((((h.setCell (p := ⟨G, 0, none⟩) hb _).setCell (p := ⟨G, 1, none⟩) hb _).setCell (p := ⟨G, 2, none⟩) hb _).setCell (p := ⟨G, 3, none⟩) hb _).setCell (p := ⟨G, 4, none⟩) hb _).setCell (p := ⟨G, 5, none⟩) hb _).setCell (p := ⟨G, 6, none⟩) hb _
theorem own_low {B e s n G j : Nat} {x : Value} {xs : List Value} {y : Value} (h : w.ownsRow B e s x n xs) (hG : G < B) : (w.setCell ⟨G, j, none⟩ y).ownsRow B e s x n xs :=
  World.ownsRow.kept h (grownSet w G j y) (.inr (fun e => by have := (h.lt G e).1; omega))
theorem own_sev {B e s n G : Nat} {x : Value} {xs : List Value} (h : w.ownsRow B e s x n xs) (hG : G < B) (v0 v1 v2 v3 v4 v5 v6 : Value) : (sev w G v0 v1 v2 v3 v4 v5 v6).ownsRow B e s x n xs :=
  own_low (own_low (own_low (own_low (own_low (own_low (own_low h hG) hG) hG) hG) hG) hG) hG
theorem Bx7.frozen (h : Bx7 w b t v0 v1 v2 v3 v4 v5 v6) (j : Nat) : w.frozen? ⟨b, j, none⟩ = false := frozen_of_row w b j _ _ h
end

set_option maxRecDepth 100000 in
set_option maxHeartbeats 2000000 in
theorem szShard_any (id N : Int) (a : Option Addr) (n c : Nat) (num : Int) (ok : Bool) (a1 : Option Addr) (n1 c1 : Nat) (a2 : Option Addr) (n2 c2 : Nat) (hn : n ≤ maxLen) (hn1 : n1 ≤ maxLen) (hn2 : n2 ≤ maxLen) (w : World) :
    Calls Tryz.prog 48 #[shV id N a n c num ok a1 n1 c1 a2 n2 c2, .int .i64 1048576] w fun e w' => e = .returned (.int .i64 (szS n n1 n2)) ∧ Below w.heap.size w w' := by
  unfold maxLen at hn hn1 hn2
  have HW := hideIt (fun u => szWeb_any N n a c (by unfold maxLen; omega) u)
  have hb0 := (Below.refl w.heap.size w).alloc (Nat.le_refl _) (.cells #[.int .i64 id, .int .i64 N, .slice a n c, .int .i64 num, .bool ok, .slice a1 n1 c1, .slice a2 n2 c2] 89)
  have HX := hideIt (Bx7.new w 89 (.int .i64 id) (.int .i64 N) (.slice a n c) (.int .i64 num) (.bool ok) (.slice a1 n1 c1) (.slice a2 n2 c2))
  unfold szS
  by_cases g : n ≤ 1048576
  · have hs : szw n = 1048576 - (n : Int) := by unfold szw; rw [if_pos g]
    rw [hs] at HW
    clear hs
    have d0 : decide (1048576 - (n : Int) < 0) = false := decide_eq_false (by omega)
    by_cases g1 : n + n1 ≤ 1048576
    · have d1 : decide (1048576 - (n : Int) - (n1 : Int) < 0) = false := decide_eq_false (by omega)
      by_cases g2 : n + n1 + n2 ≤ 1048576
      · rw [if_pos g2]
        have d2 : decide (1048576 - (n : Int) - (n1 : Int) - (n2 : Int) < 0) = false := decide_eq_false (by omega)
        go_enter Tryz.func48, Tryz.ntmps48
        go_wp2_with (go_at_call 114; refine (HW.out _).mono ?_; rintro e w2 ⟨rfl, b2⟩; refine Hid.out ?_)
        refine (show ∀ {p : Prop}, p → Hid p from fun h => h) ?_
        obtain ⟨x0, x1, x2, x3, x4, x5, x6⟩ := (HX.out.up b2).cells
        have HB := hideIt (hb0.trans (b2.mono (by simp)))
        have hz2 : w.heap.size < w2.heap.size := by have := b2.size; simp at this; omega
        clear HX hb0 b2
        go_wp2
        go_ret
        exact ⟨rfl, HB.out.alloc HB.out.size _⟩
      · rw [if_neg g2]
        have d2 : decide (1048576 - (n : Int) - (n1 : Int) - (n2 : Int) < 0) = true := decide_eq_true (by omega)
        go_enter Tryz.func48, Tryz.ntmps48
        go_wp2_with (go_at_call 114; refine (HW.out _).mono ?_; rintro e w2 ⟨rfl, b2⟩; refine Hid.out ?_)
        refine (show ∀ {p : Prop}, p → Hid p from fun h => h) ?_
        obtain ⟨x0, x1, x2, x3, x4, x5, x6⟩ := (HX.out.up b2).cells
        have HB := hideIt (hb0.trans (b2.mono (by simp)))
        have hz2 : w.heap.size < w2.heap.size := by have := b2.size; simp at this; omega
        clear HX hb0 b2
        go_wp2
        go_ret
        exact ⟨rfl, HB.out.alloc HB.out.size _⟩
    · rw [if_neg (by omega)]
      have d1 : decide (1048576 - (n : Int) - (n1 : Int) < 0) = true := decide_eq_true (by omega)
      go_enter Tryz.func48, Tryz.ntmps48
      go_wp2_with (go_at_call 114; refine (HW.out _).mono ?_; rintro e w2 ⟨rfl, b2⟩; refine Hid.out ?_)
      refine (show ∀ {p : Prop}, p → Hid p from fun h => h) ?_
      obtain ⟨x0, x1, x2, x3, x4, x5, x6⟩ := (HX.out.up b2).cells
      have HB := hideIt (hb0.trans (b2.mono (by simp)))
      have hz2 : w.heap.size < w2.heap.size := by have := b2.size; simp at this; omega
      clear HX hb0 b2
      go_wp2
      go_ret
      exact ⟨rfl, HB.out.alloc HB.out.size _⟩
  · have hs : szw n = -1 := by unfold szw; rw [if_neg g]
    rw [if_neg (by omega)]
    rw [hs] at HW
    clear hs
    go_enter Tryz.func48, Tryz.ntmps48
    go_wp2_with (go_at_call 114; refine (HW.out _).mono ?_; rintro e w2 ⟨rfl, b2⟩)
    go_ret
    exact ⟨rfl, hb0.trans (b2.mono (by simp))⟩

theorem eqA {num : Int} {ok : Bool} {fs : List EdgeV} {ls : List Int} {n : Nat} {a b : Option Addr} {c d : Nat} (hn : n ≤ 1048576) {m : Nat} {a' b' : Option Addr} {c' d' : Nat} (hm : m ≤ 1048576) {w : World} (h1 : Es w w.heap.size a n fs) (h2 : Is w w.heap.size a' m ls) (h3 : Es w w.heap.size b n fs) (h4 : Is w w.heap.size b' m ls) :
    Calls Tryz.prog 54 #[.agg #[.int .i64 num, .bool ok, .slice a n c, .slice a' m c'], .agg #[.int .i64 num, .bool ok, .slice b n d, .slice b' m d']] w fun e w' => e = .returned (.bool true) ∧ Below w.heap.size w w' :=
  O.eqAnswer_same num ok fs ls n a b c d hn m a' b' c' d' hm w h1 h3 h2 h4

set_option maxRecDepth 100000 in
set_option maxHeartbeats 2000000 in
theorem eqShard_same (id N : Int) (ls : List Ld) (n : Nat) (a b : Option Addr) (c d : Nat) (num : Int) (ok : Bool) (es : List EdgeV) (lb : List Int) (n1 : Nat) (a1 b1 : Option Addr) (c1 d1 : Nat) (n2 : Nat) (a2 b2 : Option Addr) (c2 d2 : Nat) (hn : n ≤ 1048576) (hn1 : n1 ≤ 1048576) (hn2 : n2 ≤ 1048576) (w : World)
    (h : Ls w w.heap.size a n ls) (h' : Ls w w.heap.size b n ls) (h1 : Es w w.heap.size a1 n1 es) (h1' : Es w w.heap.size b1 n1 es) (h2 : Is w w.heap.size a2 n2 lb) (h2' : Is w w.heap.size b2 n2 lb) :
    Calls Tryz.prog 51 #[shV id N a n c num ok a1 n1 c1 a2 n2 c2, shV id N b n d num ok b1 n1 d1 b2 n2 d2] w fun e w' => e = .returned (.bool true) ∧ Below w.heap.size w w' := by
  obtain ⟨W1, hW1⟩ : ∃ W1, W1 = (w.alloc (.cells #[.int .i64 id, .int .i64 N, .slice a n c, .int .i64 num, .bool ok, .slice a1 n1 c1, .slice a2 n2 c2] 67)).alloc (.cells #[.int .i64 id, .int .i64 N, .slice b n d, .int .i64 num, .bool ok, .slice b1 n1 d1, .slice b2 n2 d2] 67) := ⟨_, rfl⟩
  have bW : Below w.heap.size w W1 := by rw [hW1]; exact ((Below.refl _ _).alloc (Nat.le_refl _) _).alloc (by simp) _
  have X1 : Bx7 W1 w.heap.size 67 (.int .i64 id) (.int .i64 N) (.slice a n c) (.int .i64 num) (.bool ok) (.slice a1 n1 c1) (.slice a2 n2 c2) := by rw [hW1]; exact (Bx7.new w 67 _ _ _ _ _ _ _).up ((Below.refl _ _).alloc (Nat.le_refl _) _)
  have X2 : Bx7 W1 (w.heap.size + 1) 67 (.int .i64 id) (.int .i64 N) (.slice b n d) (.int .i64 num) (.bool ok) (.slice b1 n1 d1) (.slice b2 n2 d2) := by
    rw [hW1]
    have := Bx7.new (w.alloc (.cells #[.int .i64 id, .int .i64 N, .slice a n c, .int .i64 num, .bool ok, .slice a1 n1 c1, .slice a2 n2 c2] 67)) 67 (.int .i64 id) (.int .i64 N) (.slice b n d) (.int .i64 num) (.bool ok) (.slice b1 n1 d1) (.slice b2 n2 d2)
    simpa using this
  have HE := hideIt (eqWeb_same N ls n a b c d hn W1 (h.up bW) (h'.up bW))
  have HA := hideIt (fun u (hu : Below W1.heap.size W1 u) => eqA (num := num) (ok := ok) (c := c1) (d := d1) (c' := c2) (d' := d2) hn1 hn2 ((h1.up bW).up hu) ((h2.up bW).up hu) ((h1'.up bW).up hu) ((h2'.up bW).up hu))
  have HB := hideIt bW
  have di : (id != id) = false := by simp
  obtain ⟨x0, x1, x2, x3, x4, x5, x6⟩ := X1.cells
  obtain ⟨y0, y1, y2, y3, y4, y5, y6⟩ := X2.cells
  clear h h' h1 h1' h2 h2' bW
  go_enter Tryz.func51, Tryz.ntmps51
  go_upto_region 1 with fail
  rw [← hW1]
  clear hW1
  go_wp2_with (go_at_call 121; refine HE.out.mono ?_; rintro e w2 ⟨rfl, b2⟩; refine Hid.out ?_)
  refine (show ∀ {p : Prop}, p → Hid p from fun h => h) ?_
  clear x0 x1 x2 x3 x4 x5 x6 y0 y1 y2 y3 y4 y5 y6
  obtain ⟨x0, x1, x2, x3, x4, x5, x6⟩ := (X1.up b2).cells
  obtain ⟨y0, y1, y2, y3, y4, y5, y6⟩ := (X2.up b2).cells
  have HA2 := hideIt (HA.out w2 b2)
  go_wp2_with (go_at_call 54; refine HA2.out.mono ?_; rintro e w3 ⟨rfl, b3⟩)
  go_ret
  exact ⟨rfl, HB.out.trans ((b2.trans (b3.mono b2.size)).mono HB.out.size)⟩

theorem toA {num : Int} {ok : Bool} {fs : List EdgeV} {ls : List Int} {n : Nat} {a : Option Addr} {c : Nat} (hn : n ≤ 1048576) {m : Nat} {a' : Option Addr} {c' : Nat} (hm : m ≤ 1048576) {w : World} (h1 : Es w w.heap.size a n fs) (h2 : Is w w.heap.size a' m ls) :
    Calls Tryz.prog 120 #[.agg #[.int .i64 num, .bool ok, .slice a n c, .slice a' m c']] w fun e w' => ∃ g g', e = .returned (.agg #[.int .i64 num, .bool ok, .slice (some ⟨g, 0, none⟩) n n, .slice (some ⟨g', 0, none⟩) m m]) ∧ w'.ownsRow w.heap.size 28 2 (.slice (some ⟨g, 0, none⟩) n n) n (ecells fs) ∧ w'.ownsRow w.heap.size 3 1 (.slice (some ⟨g', 0, none⟩) m m) m (ic ls) ∧ Below w.heap.size w w' :=
  O.toAnswer_any num ok fs ls n a c hn m a' c' hm w h1 h2

set_option maxRecDepth 100000 in
set_option maxHeartbeats 4000000 in
theorem toShard_any (id N : Int) (ls : List Ld) (n : Nat) (a : Option Addr) (c : Nat) (num : Int) (ok : Bool) (es : List EdgeV) (lb : List Int) (n1 : Nat) (a1 : Option Addr) (c1 : Nat) (n2 : Nat) (a2 : Option Addr) (c2 : Nat) (hn : n ≤ 1048576) (hn1 : n1 ≤ 1048576) (hn2 : n2 ≤ 1048576) (w : World)
    (h : Ls w w.heap.size a n ls) (h1 : Es w w.heap.size a1 n1 es) (h2 : Is w w.heap.size a2 n2 lb) :
    Calls Tryz.prog 50 #[shV id N a n c num ok a1 n1 c1 a2 n2 c2] w fun e w' => ∃ g g1 g2, e = .returned (shV id N (some ⟨g, 0, none⟩) n n num ok (some ⟨g1, 0, none⟩) n1 n1 (some ⟨g2, 0, none⟩) n2 n2) ∧
      w'.ownsRow w.heap.size 52 4 (.slice (some ⟨g, 0, none⟩) n n) n (lcells ls) ∧ w'.ownsRow w.heap.size 28 2 (.slice (some ⟨g1, 0, none⟩) n1 n1) n1 (ecells es) ∧ w'.ownsRow w.heap.size 3 1 (.slice (some ⟨g2, 0, none⟩) n2 n2) n2 (ic lb) ∧ Below w.heap.size w w' := by
  obtain ⟨W1, hW1⟩ : ∃ W1, W1 = ((w.alloc (.cells #[.int .i64 id, .int .i64 N, .slice a n c, .int .i64 num, .bool ok, .slice a1 n1 c1, .slice a2 n2 c2] 89)).alloc (.cells #[.int .i64 0, .int .i64 0, .slice none 0 0, .int .i64 0, .bool false, .slice none 0 0, .slice none 0 0] 67)).alloc (.cells #[.int .i64 id, .int .i64 0, .slice none 0 0, .int .i64 0, .bool false, .slice none 0 0, .slice none 0 0] 67) := ⟨_, rfl⟩
  have bW : Below w.heap.size w W1 := by rw [hW1]; exact (((Below.refl _ _).alloc (Nat.le_refl _) _).alloc (by simp) _).alloc (by simp; omega) _
  have zW : W1.heap.size = w.heap.size + 3 := by rw [hW1]; simp
  have X0 : Bx7 W1 w.heap.size 89 (.int .i64 id) (.int .i64 N) (.slice a n c) (.int .i64 num) (.bool ok) (.slice a1 n1 c1) (.slice a2 n2 c2) := by rw [hW1]; exact ((Bx7.new w 89 _ _ _ _ _ _ _).up ((Below.refl _ _).alloc (Nat.le_refl _) _)).up ((Below.refl _ _).alloc (Nat.le_refl _) _)
  have X1 : Bx7 W1 (w.heap.size + 1) 67 (.int .i64 0) (.int .i64 0) (.slice none 0 0) (.int .i64 0) (.bool false) (.slice none 0 0) (.slice none 0 0) := by
    rw [hW1]
    have := (Bx7.new (w.alloc (.cells #[.int .i64 id, .int .i64 N, .slice a n c, .int .i64 num, .bool ok, .slice a1 n1 c1, .slice a2 n2 c2] 89)) 67 (.int .i64 0) (.int .i64 0) (.slice none 0 0) (.int .i64 0) (.bool false) (.slice none 0 0) (.slice none 0 0)).up ((Below.refl _ _).alloc (Nat.le_refl _) (.cells #[.int .i64 id, .int .i64 0, .slice none 0 0, .int .i64 0, .bool false, .slice none 0 0, .slice none 0 0] 67))
    simpa using this
  have X2 : Bx7 W1 (w.heap.size + 1 + 1) 67 (.int .i64 id) (.int .i64 0) (.slice none 0 0) (.int .i64 0) (.bool false) (.slice none 0 0) (.slice none 0 0) := by
    rw [hW1]
    have := Bx7.new ((w.alloc (.cells #[.int .i64 id, .int .i64 N, .slice a n c, .int .i64 num, .bool ok, .slice a1 n1 c1, .slice a2 n2 c2] 89)).alloc (.cells #[.int .i64 0, .int .i64 0, .slice none 0 0, .int .i64 0, .bool false, .slice none 0 0, .slice none 0 0] 67)) 67 (.int .i64 id) (.int .i64 0) (.slice none 0 0) (.int .i64 0) (.bool false) (.slice none 0 0) (.slice none 0 0)
    simpa using this
  have HT := hideIt (toWeb_any N ls n a c hn W1 (h.up bW))
  have HTA := hideIt (fun u (hu : Below w.heap.size w u) => toA (num := num) (ok := ok) (c := c1) (c' := c2) hn1 hn2 (h1.up hu) (h2.up hu))
  obtain ⟨x0, x1, x2, x3, x4, x5, x6⟩ := X0.cells
  clear h h1 h2
  go_enter Tryz.func50, Tryz.ntmps50
  go_upto_region 3 with fail
  rw [← hW1]
  clear hW1
  go_wp2_with (go_at_call 119; refine HT.out.mono ?_; rintro e w2 ⟨g, rfl, o2, b2⟩; refine Hid.out ?_)
  refine (show ∀ {p : Prop}, p → Hid p from fun h => h) ?_
  have Y0 := X0.up b2
  have Y1 := X1.up b2
  have Y2 := X2.up b2
  have z2 := b2.size
  obtain ⟨W2, hW2⟩ : ∃ W2, W2 = (w2.setCell ⟨w.heap.size + 1 + 1, 1, none⟩ (.int .i64 N)).setCell ⟨w.heap.size + 1 + 1, 2, none⟩ (.slice (some ⟨g, 0, none⟩) n n) := ⟨_, rfl⟩
  have V0 : Bx7 W2 w.heap.size 89 (.int .i64 id) (.int .i64 N) (.slice a n c) (.int .i64 num) (.bool ok) (.slice a1 n1 c1) (.slice a2 n2 c2) := by rw [hW2]; exact (Y0.setO _ (by omega)).setO _ (by omega)
  have V1 : Bx7 W2 (w.heap.size + 1) 67 (.int .i64 0) (.int .i64 0) (.slice none 0 0) (.int .i64 0) (.bool false) (.slice none 0 0) (.slice none 0 0) := by rw [hW2]; exact (Y1.setO _ (by omega)).setO _ (by omega)
  have V2 : Bx7 W2 (w.heap.size + 1 + 1) 67 (.int .i64 id) (.int .i64 N) (.slice (some ⟨g, 0, none⟩) n n) (.int .i64 0) (.bool false) (.slice none 0 0) (.slice none 0 0) := by rw [hW2]; exact Y2.set2 _ _
  have bW2 : Below w.heap.size w W2 := by rw [hW2]; exact ((bW.trans (b2.mono (by omega))).setCell (p := ⟨w.heap.size + 1 + 1, 1, none⟩) (by show w.heap.size ≤ w.heap.size + 1 + 1; omega) _).setCell (p := ⟨w.heap.size + 1 + 1, 2, none⟩) (by show w.heap.size ≤ w.heap.size + 1 + 1; omega) _
  have oW2 : W2.ownsRow (w.heap.size + 3) 52 4 (.slice (some ⟨g, 0, none⟩) n n) n (lcells ls) := by rw [hW2, ← zW]; exact own_low (own_low o2 (by omega)) (by omega)
  have zW2 : w.heap.size + 3 ≤ W2.heap.size := by rw [hW2]; simp [World.setCell]; omega
  have HTA2 := hideIt (HTA.out W2 bW2)
  obtain ⟨y0, y1, y2, y3, y4, y5, y6⟩ := Y2.cells
  have f1 := Y2.frozen 1
  have f2 := Y2.frozen 2
  obtain ⟨u0, u1, u2, u3, u4, u5, u6⟩ := V0.cells
  clear HT o2 b2 x0 x1 x2 x3 x4 x5 x6 X0 X1 X2 bW zW Y0 Y1 Y2 HTA
  go_upto_region 4 with fail
  rw [← hW2]
  clear hW2 y0 y1 y2 y3 y4 y5 y6 f1 f2
  go_wp2_with (go_at_call 120; refine HTA2.out.mono ?_; rintro e w3 ⟨g1, g2, rfl, o3, o4, b3⟩; refine Hid.out ?_)
  refine (show ∀ {p : Prop}, p → Hid p from fun h => h) ?_
  have Y1 := V1.up b3
  have Y2 := V2.up b3
  have z3 := b3.size
  have oW := own_up oW2 b3
  obtain ⟨W3, hW3⟩ : ∃ W3, W3 = (((w3.setCell ⟨w.heap.size + 1 + 1, 3, none⟩ (.int .i64 num)).setCell ⟨w.heap.size + 1 + 1, 4, none⟩ (.bool ok)).setCell ⟨w.heap.size + 1 + 1, 5, none⟩ (.slice (some ⟨g1, 0, none⟩) n1 n1)).setCell ⟨w.heap.size + 1 + 1, 6, none⟩ (.slice (some ⟨g2, 0, none⟩) n2 n2) := ⟨_, rfl⟩
  have U1 : Bx7 W3 (w.heap.size + 1) 67 (.int .i64 0) (.int .i64 0) (.slice none 0 0) (.int .i64 0) (.bool false) (.slice none 0 0) (.slice none 0 0) := by rw [hW3]; exact (((Y1.setO _ (by omega)).setO _ (by omega)).setO _ (by omega)).setO _ (by omega)
  have U2 : Bx7 W3 (w.heap.size + 1 + 1) 67 (.int .i64 id) (.int .i64 N) (.slice (some ⟨g, 0, none⟩) n n) (.int .i64 num) (.bool ok) (.slice (some ⟨g1, 0, none⟩) n1 n1) (.slice (some ⟨g2, 0, none⟩) n2 n2) := by rw [hW3]; exact Y2.set4 _ _ _ _
  have bW3 : Below w.heap.size w W3 := by
    rw [hW3]
    have h0 := bW2.trans (b3.mono bW2.size)
    exact (((h0.setCell (p := ⟨w.heap.size + 1 + 1, 3, none⟩) (by show w.heap.size ≤ w.heap.size + 1 + 1; omega) _).setCell (p := ⟨w.heap.size + 1 + 1, 4, none⟩) (by show w.heap.size ≤ w.heap.size + 1 + 1; omega) _).setCell (p := ⟨w.heap.size + 1 + 1, 5, none⟩) (by show w.heap.size ≤ w.heap.size + 1 + 1; omega) _).setCell (p := ⟨w.heap.size + 1 + 1, 6, none⟩) (by show w.heap.size ≤ w.heap.size + 1 + 1; omega) _
  have p1 : W3.ownsRow (w.heap.size + 3) 52 4 (.slice (some ⟨g, 0, none⟩) n n) n (lcells ls) := by rw [hW3]; exact own_low (own_low (own_low (own_low oW (by omega)) (by omega)) (by omega)) (by omega)
  have p2 : W3.ownsRow (w.heap.size + 3) 28 2 (.slice (some ⟨g1, 0, none⟩) n1 n1) n1 (ecells es) := by rw [hW3]; exact own_low (own_low (own_low (own_low (own_mono o3 zW2) (by omega)) (by omega)) (by omega)) (by omega)
  have p3 : W3.ownsRow (w.heap.size + 3) 3 1 (.slice (some ⟨g2, 0, none⟩) n2 n2) n2 (ic lb) := by rw [hW3]; exact own_low (own_low (own_low (own_low (own_mono o4 zW2) (by omega)) (by omega)) (by omega)) (by omega)
  obtain ⟨y0, y1, y2, y3, y4, y5, y6⟩ := Y2.cells
  have f3 := Y2.frozen 3
  have f4 := Y2.frozen 4
  have f5 := Y2.frozen 5
  have f6 := Y2.frozen 6
  have HF : Hid ((sev W3 (w.heap.size + 1) (.int .i64 id) (.int .i64 N) (.slice (some ⟨g, 0, none⟩) n n) (.int .i64 num) (.bool ok) (.slice (some ⟨g1, 0, none⟩) n1 n1) (.slice (some ⟨g2, 0, none⟩) n2 n2)).ownsRow w.heap.size 52 4 (.slice (some ⟨g, 0, none⟩) n n) n (lcells ls) ∧ (sev W3 (w.heap.size + 1) (.int .i64 id) (.int .i64 N) (.slice (some ⟨g, 0, none⟩) n n) (.int .i64 num) (.bool ok) (.slice (some ⟨g1, 0, none⟩) n1 n1) (.slice (some ⟨g2, 0, none⟩) n2 n2)).ownsRow w.heap.size 28 2 (.slice (some ⟨g1, 0, none⟩) n1 n1) n1 (ecells es) ∧ (sev W3 (w.heap.size + 1) (.int .i64 id) (.int .i64 N) (.slice (some ⟨g, 0, none⟩) n n) (.int .i64 num) (.bool ok) (.slice (some ⟨g1, 0, none⟩) n1 n1) (.slice (some ⟨g2, 0, none⟩) n2 n2)).ownsRow w.heap.size 3 1 (.slice (some ⟨g2, 0, none⟩) n2 n2) n2 (ic lb) ∧ Below w.heap.size w (sev W3 (w.heap.size + 1) (.int .i64 id) (.int .i64 N) (.slice (some ⟨g, 0, none⟩) n n) (.int .i64 num) (.bool ok) (.slice (some ⟨g1, 0, none⟩) n1 n1) (.slice (some ⟨g2, 0, none⟩) n2 n2))) :=
    ⟨own_mono (own_sev p1 (by omega) _ _ _ _ _ _ _) (by omega), own_mono (own_sev p2 (by omega) _ _ _ _ _ _ _) (by omega), own_mono (own_sev p3 (by omega) _ _ _ _ _ _ _) (by omega), sev_below bW3 (by omega) _ _ _ _ _ _ _⟩
  have XF := U1.set7 (.int .i64 id) (.int .i64 N) (.slice (some ⟨g, 0, none⟩) n n) (.int .i64 num) (.bool ok) (.slice (some ⟨g1, 0, none⟩) n1 n1) (.slice (some ⟨g2, 0, none⟩) n2 n2)
  obtain ⟨r0, r1, r2, r3, r4, r5, r6⟩ := XF.cells
  obtain ⟨s0, s1, s2, s3, s4, s5, s6⟩ := U2.cells
  obtain ⟨t0, t1, t2, t3, t4, t5, t6⟩ := U1.cells
  have q0 := U1.frozen 0
  have q1 := U1.frozen 1
  have q2 := U1.frozen 2
  have q3 := U1.frozen 3
  have q4 := U1.frozen 4
  have q5 := U1.frozen 5
  have q6 := U1.frozen 6
  clear HTA2 o3 o4 b3 u0 u1 u2 u3 u4 u5 u6 V0 V1 V2 bW2 Y1 Y2 oW oW2 p1 p2 p3 bW3 XF U1 U2
  go_upto_region 5 with fail
  rw [← hW3]
  clear hW3 y0 y1 y2 y3 y4 y5 y6 f3 f4 f5 f6
  unfold sev at *
  go_wp2
  exact bodyPost_ret (v := shV id N (some ⟨g, 0, none⟩) n n num ok (some ⟨g1, 0, none⟩) n1 n1 (some ⟨g2, 0, none⟩) n2 n2) (by simp [results, Tryz.results50, go_sem, r0, r1, r2, r3, r4, r5, r6]) rfl ⟨g, g1, g2, rfl, HF.out.1, HF.out.2.1, HF.out.2.2.1, HF.out.2.2.2⟩
end Go.Proofs.YtpfkfbmghddepaaGreat
