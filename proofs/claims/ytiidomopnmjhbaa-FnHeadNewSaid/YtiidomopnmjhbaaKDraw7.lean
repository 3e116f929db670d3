/- The specification's HeadNew. Bytes in memory of the call's own. What the draws' cursor gives: some byte, some number below a bound, some text; the cursor stays right, and nothing else that was there turns. Draws for forests. -/
import Derived.Test.YtiidomopnmjhbaaKNhB17
import Derived.Test.YtiidomopnmjhbaaProg
import GoSem.Claim
import GoSem.ClaimJoined
import GoSem.ClaimMapViews
import Derived.JoinedTies
import Derived.KernelRfl
import Derived.RowKit
import Derived.WalkKit
import Derived.OwnWalk
import Derived.Laws.IdiomStrings
import Derived.Test.YtiidomopnmjhbaaKVerts
import Derived.Laws.Bits64b
import Derived.WalkSpells
import Derived.WalkSmall
import Derived.BigQuiet
import Derived.Deep.QuietTactic
import Derived.Deep.RegionHeld3
import Derived.Deep.AppendLies
namespace Go.Proofs.Ytiidomopnmjhbaa
open Go.RowKit

set_option maxRecDepth 100000 in
set_option maxHeartbeats 8000000 in
theorem sHeadNew_any (n sh : Int) (w : World) : Calls Try.prog 8 #[.int .i64 n, .int .i64 sh] w fun e w' => HnA w n sh e w' := by
  have HV := hideIt l01In_any
  have HB0 := hideIt (belA w (.cells #[.int .i64 0, .slice none 0 0, .slice none 0 0, .slice none 0 0, .slice none 0 0, .int .i64 0, .int .i64 0, .int .i64 0, .int .i64 0, .int .i64 0, .int .i64 0, .int .i64 0, .slice none 0 0, .int .i64 0, .slice none 0 0] 37))
  by_cases h1 : 1 ≤ n ∧ n ≤ 12
  case neg =>
    have r1 : decide (1 ≤ n ∧ n ≤ 12) = false := decide_eq_false h1
    have HH := hideIt h1
    clear h1
    go_enter Try.func8, Try.ntmps8
    go_wp2_with (go_at_call 23; refine (HV.out _ _ _ _).mono ?_; rintro e w1 ⟨rfl, rfl⟩)
    exact bodyPost_ret (v := .tuple #[.agg #[.int .i64 0, .slice none 0 0, .slice none 0 0, .slice none 0 0, .slice none 0 0, .int .i64 0, .int .i64 0, .int .i64 0, .int .i64 0, .int .i64 0, .int .i64 0, .int .i64 0, .slice none 0 0, .int .i64 0, .slice none 0 0], .bool false]) (by simp [results, Try.results8, go_sem]) rfl (hna_no (fun h => HH.out h.1) HB0.out)
  case pos =>
    by_cases h2 : 1 ≤ sh ∧ sh ≤ 3
    case neg =>
      have r1 : decide (1 ≤ n ∧ n ≤ 12) = true := decide_eq_true h1
      have r2 : decide (1 ≤ sh ∧ sh ≤ 3) = false := decide_eq_false h2
      have HH := hideIt h2
      clear h1 h2
      go_enter Try.func8, Try.ntmps8
      go_wp2_with (go_at_call 23; refine (HV.out _ _ _ _).mono ?_; rintro e w1 ⟨rfl, rfl⟩)
      exact bodyPost_ret (v := .tuple #[.agg #[.int .i64 0, .slice none 0 0, .slice none 0 0, .slice none 0 0, .slice none 0 0, .int .i64 0, .int .i64 0, .int .i64 0, .int .i64 0, .int .i64 0, .int .i64 0, .int .i64 0, .slice none 0 0, .int .i64 0, .slice none 0 0], .bool false]) (by simp [results, Try.results8, go_sem]) rfl (hna_no (fun h => HH.out h.2) HB0.out)
    case pos =>
      obtain ⟨nn, rfl⟩ : ∃ nn : Nat, n = (nn : Int) := ⟨n.toNat, by omega⟩
      obtain ⟨s, rfl⟩ : ∃ s : Nat, sh = (s : Int) := ⟨sh.toNat, by omega⟩
      have r1 : decide (1 ≤ (nn : Int) ∧ (nn : Int) ≤ 12) = true := decide_eq_true h1
      have r2 : decide (1 ≤ (s : Int) ∧ (s : Int) ≤ 3) = true := decide_eq_true h2
      have hn1 : 1 ≤ nn ∧ nn ≤ 12 := by omega
      have hs1 : 1 ≤ s ∧ s ≤ 3 := by omega
      have HY := hideIt (hn_yes ⟨hn1, hs1⟩)
      obtain ⟨i0, hi, hz0, hz1, hz2⟩ := info_parts info3i
      obtain ⟨i1, hi', hy0, hy1, hy2⟩ := info_parts infoIT
      have hmk : ∀ u : World, (Instr.makeSlice 26 (.int .i64 (s : Int)) (.int .i64 (s : Int))).run Try.prog u =
          .ok (.slice (some ⟨u.heap.size, 0, none⟩) s s) (u.alloc (.cells (madeCells #[.int .i64 0] s) 3)) := fun u => by
        have h := run_make (P := Try.prog) u 26 3 i0 _ Try.underlying26 hi hz0 .i64 .i64 (s : Int) (s : Int) (by omega) (by omega) (by rw [hz2]; omega) (by omega)
        rw [Int.toNat_natCast] at h
        simpa [hz1, Value.cells] using h
      obtain ⟨W1, hW1⟩ : ∃ W1, W1 = ((w.alloc (.cells #[.int .i64 0, .slice none 0 0, .slice none 0 0, .slice none 0 0, .slice none 0 0, .int .i64 0, .int .i64 0, .int .i64 0, .int .i64 0, .int .i64 0, .int .i64 0, .int .i64 0, .slice none 0 0, .int .i64 0, .slice none 0 0] 37)).alloc (.cells (madeCells #[.int .i64 0] s) 3)).alloc (.cells (hnC (nn : Int) none 0 0 none 0 0 (some ⟨w.heap.size + 1, 0, none⟩) s) 37) := ⟨_, rfl⟩
      have N1 : HN w nn s 0 none 0 [] 0 none 0 W1 := by
        have q1 := ((BxA.new w 37 #[.int .i64 0, .slice none 0 0, .slice none 0 0, .slice none 0 0, .slice none 0 0, .int .i64 0, .int .i64 0, .int .i64 0, .int .i64 0, .int .i64 0, .int .i64 0, .int .i64 0, .slice none 0 0, .int .i64 0, .slice none 0 0]).up (belA _ (.cells (madeCells #[.int .i64 0] s) 3))).up (belA _ (.cells (hnC (nn : Int) none 0 0 none 0 0 (some ⟨w.heap.size + 1, 0, none⟩) s) 37))
        have q2 := BxA.new ((w.alloc (.cells #[.int .i64 0, .slice none 0 0, .slice none 0 0, .slice none 0 0, .slice none 0 0, .int .i64 0, .int .i64 0, .int .i64 0, .int .i64 0, .int .i64 0, .int .i64 0, .int .i64 0, .slice none 0 0, .int .i64 0, .slice none 0 0] 37)).alloc (.cells (madeCells #[.int .i64 0] s) 3)) 37 (hnC (nn : Int) none 0 0 none 0 0 (some ⟨w.heap.size + 1, 0, none⟩) s)
        have q3 := own_up (World.ownsRow_lit (base := (w.alloc (.cells #[.int .i64 0, .slice none 0 0, .slice none 0 0, .slice none 0 0, .slice none 0 0, .int .i64 0, .int .i64 0, .int .i64 0, .int .i64 0, .int .i64 0, .int .i64 0, .int .i64 0, .slice none 0 0, .int .i64 0, .slice none 0 0] 37)).heap.size) (e := 3) (size := 1) (w.alloc (.cells #[.int .i64 0, .slice none 0 0, .slice none 0 0, .slice none 0 0, .slice none 0 0, .int .i64 0, .int .i64 0, .int .i64 0, .int .i64 0, .int .i64 0, .int .i64 0, .int .i64 0, .slice none 0 0, .int .i64 0, .slice none 0 0] 37)) (madeCells #[.int .i64 0] s) s (Nat.le_refl _) (by unfold maxLen; omega) (by simp [madeCells])) (belA _ (.cells (hnC (nn : Int) none 0 0 none 0 0 (some ⟨w.heap.size + 1, 0, none⟩) s) 37))
        rw [← hW1] at q1 q2 q3
        have e1 : (w.alloc (.cells #[.int .i64 0, .slice none 0 0, .slice none 0 0, .slice none 0 0, .slice none 0 0, .int .i64 0, .int .i64 0, .int .i64 0, .int .i64 0, .int .i64 0, .int .i64 0, .int .i64 0, .slice none 0 0, .int .i64 0, .slice none 0 0] 37)).heap.size = w.heap.size + 1 := by simp
        have e2 : ((w.alloc (.cells #[.int .i64 0, .slice none 0 0, .slice none 0 0, .slice none 0 0, .slice none 0 0, .int .i64 0, .int .i64 0, .int .i64 0, .int .i64 0, .int .i64 0, .int .i64 0, .int .i64 0, .slice none 0 0, .int .i64 0, .slice none 0 0] 37)).alloc (.cells (madeCells #[.int .i64 0] s) 3)).heap.size = w.heap.size + 1 + 1 := by simp
        rw [e1] at q3
        rw [e2] at q2
        have e3 : (madeCells #[Value.int .i64 0] s).toList = ic (List.replicate s 0) := by rw [made1]; simp [ic]
        rw [e3] at q3
        refine ⟨q1, q2, q3, FB.nil _ _, rfl, World.ownsRow_nil _ _ _ _, by simp, ?_⟩
        rw [hW1]
        exact (((Below.refl _ _).alloc (Nat.le_refl _) _).alloc (by simp) _).alloc (by simp; omega) _
      have hE0 : O.EsIn [] nn := fun e he => by simp at he
      have HLb : Hid (∀ u (b : Nat), Calls Try.prog 24 #[.int .i64 (nn : Int), .slice (some ⟨b, 0, none⟩) 0 0] u fun e v => ∃ g c, e = .returned (.slice (some ⟨g, 0, none⟩) nn c) ∧ Hid (v.ownsRow u.heap.size 3 1 (.slice (some ⟨g, 0, none⟩) nn c) nn (ic (O.labs [] nn nn))) ∧ Below u.heap.size u v) := fun u b => by
        have h := O.l05Labels_any nn hn1.1 hn1.2 [] hE0 0 (some ⟨b, 0, none⟩) 0 (by omega) u ⟨rfl, .inl rfl⟩
        refine h.mono fun e v ⟨a2, m2, c2, h1, h2, h3⟩ => ?_
        have hl : (ic (O.labs [] nn nn)).length = m2 * 1 := h2.1
        rw [ic_len, O.labs_len] at hl
        have hm : m2 = nn := by omega
        subst hm
        rcases h2.2 with ⟨_, h0⟩ | ⟨g, cap, cur, hv, hr⟩
        · omega
        · simp at hv
          obtain ⟨rfl, rfl⟩ := hv
          exact ⟨g, c2, h1, h2, h3⟩
      clear h1 h2
      go_enter Try.func8, Try.ntmps8
      go_wp2_with (go_at_call 23; refine (HV.out _ _ _ _).mono ?_; rintro e w1 ⟨rfl, rfl⟩)
      rw [← hW1]
      clear hW1 hmk
      have hk0 : ¬ s = 0 := by omega
      go_loopw [7] (fun i wr => ∃ (v cO : Nat) (aO : Option Addr), v ≤ nn ∧ i = .int .i64 (v : Int) ∧ Hid (HN w nn s 0 none 0 [] v aO cO wr)) (fun i _ => nn - (intOf i).toNat)
      case atStart => exact ⟨0, 0, none, by omega, rfl, N1⟩
      case round =>
        obtain ⟨v, cO, aO, hv, rfl, HS⟩ := hrel
        clear N1
        by_cases hlt : v < nn
        · have b2 : (v : Int) < (nn : Int) := by omega
          have x1 : wr.drew.cell? ⟨w.heap.size + 1 + 1, 1, none⟩ = some (.slice aO v cO) := HS.out.drew.hb.cell 1 rfl
          have y1 : (wr.drew.alloc (.cells #[.int .i64 (1 + (v : Int).tmod (s : Int))] 3)).cell? ⟨w.heap.size + 1 + 1, 1, none⟩ = some (.slice aO v cO) := (HS.out.drew.up (belA _ _)).hb.cell 1 rfl
          rw [drew_alloc13] at y1
          have HOw := hideIt (HS.out.drew.ow.alloc (.cells #[.int .i64 (1 + (v : Int).tmod (s : Int))] 3))
          rw [drew_alloc13] at HOw
          have HNw := hideIt (newsI wr.drew (1 + (v : Int).tmod (s : Int)))
          rw [drew_alloc13] at HNw
          have ht1 : 0 ≤ (v : Int).tmod (s : Int) := Int.tmod_nonneg _ (by omega)
          have ht2 : (v : Int).tmod (s : Int) < 3 := by have := Int.tmod_lt_of_pos (v : Int) (b := (s : Int)) (by omega); omega
          have hwr : IntKind.i64.wrap (1 + (v : Int).tmod (s : Int)) = 1 + (v : Int).tmod (s : Int) := by rw [IntKind.wrap_i64]; omega
          go_upto_region 7 with fail
          refine wp_region_any (by kernel_rfl) ?_
          change wpAny _ _ _ _ _ _ _ (World.drew _)
          refine takeOp (i := 0) (v := ?_) rfl (by kernel_rfl) (by kernel_rfl) (by kernel_rfl) (fun _ _ _ h => h) (by kernel_rfl) ?_ ?_
          rotate_left
          · intro w; go_simp; try with_reducible rfl
          try simp only [Act.put, List.getElem_toArray, List.getElem_cons_zero, List.setIfInBounds_toArray, List.set_cons_zero, List.set_cons_succ]
          refine takeOp (i := 2) (v := ?_) rfl (by kernel_rfl) (by kernel_rfl) (by kernel_rfl) (fun _ _ _ h => h) (by kernel_rfl) ?_ ?_
          rotate_left
          · intro w; go_simp; try with_reducible rfl
          try simp only [Act.put, List.getElem_toArray, List.getElem_cons_succ, List.getElem_cons_zero, List.setIfInBounds_toArray, List.set_cons_zero, List.set_cons_succ]
          refine takeOp (i := 3) (v := ?_) rfl (by kernel_rfl) (by kernel_rfl) (by kernel_rfl) (fun _ _ _ h => h) (by kernel_rfl) ?_ ?_
          rotate_left
          · intro w; go_simp; try with_reducible rfl
          try simp only [Act.put, List.getElem_toArray, List.getElem_cons_succ, List.getElem_cons_zero, List.setIfInBounds_toArray, List.set_cons_zero, List.set_cons_succ]
          refine takeOp (i := 4) (v := ?_) rfl (by kernel_rfl) (by kernel_rfl) (by kernel_rfl) (fun _ _ _ h => h) (by kernel_rfl) ?_ ?_
          rotate_left
          · intro w; go_simp; try with_reducible rfl
          try simp only [Act.put, List.getElem_toArray, List.getElem_cons_succ, List.getElem_cons_zero, List.setIfInBounds_toArray, List.set_cons_zero, List.set_cons_succ]
          refine takeOp (i := 5) (v := ?_) rfl (by kernel_rfl) (by kernel_rfl) (by kernel_rfl) (fun _ _ _ h => h) (by kernel_rfl) ?_ ?_
          rotate_left
          · intro w; go_simp; try with_reducible rfl
          try simp only [Act.put, List.getElem_toArray, List.getElem_cons_succ, List.getElem_cons_zero, List.setIfInBounds_toArray, List.set_cons_zero, List.set_cons_succ]
          refine wpAny_ready (rs := [1, 6]) (by kernel_rfl) (by simp) ?_
          refine AllReady.cons rfl (fun K hK => ?_) (AllReady.cons rfl (fun K hK => ?_) AllReady.nil)
          · go_simp
            refine hK _ _ ?_
            clear hK K
            try simp only [Act.put, List.getElem_toArray, List.getElem_cons_succ, List.getElem_cons_zero, List.setIfInBounds_toArray, List.set_cons_zero, List.set_cons_succ]
            refine wpAny_ready (rs := [6]) (by kernel_rfl) (by simp) ?_
            refine AllReady.cons rfl (fun K hK => ?_) AllReady.nil
            go_simp
            refine hK _ _ ?_
            clear hK K
            try simp only [Act.put, List.getElem_toArray, List.getElem_cons_succ, List.getElem_cons_zero, List.setIfInBounds_toArray, List.set_cons_zero, List.set_cons_succ]
            refine wpAny_ready (rs := [7]) (by kernel_rfl) (by simp) ?_
            refine AllReady.cons rfl (fun K hK => ?_) AllReady.nil
            refine step_append_lies _ rfl _ _ 26 rfl (w.heap.size + 3) 3 i0 _ 1 8 Try.underlying26 hi hz0 hz1 hz2 rfl (by decide) _ _ _ rfl (HOw.out) ⟨wr.heap.size, 0, none⟩ 1 1 [.int .i64 (1 + (v : Int).tmod (s : Int))] rfl rfl (HNw.out) (by intro u hu; simp at hu; subst hu; rfl) (by omega) (by unfold maxLen; omega) (by omega) (by have := HS.out.lt; simp; omega) (wr.heap.size + 1) (by simp) ?_
            intro g5 c5 w5 hown5 hg5 hat5 hlt5
            rw [← drew_alloc13] at hg5
            have Q5 := HS.out.drew.boxO hg5
            have x5 := Q5.cell 1 rfl
            have f5 := Q5.frozen 1
            have HS5 := hideIt (HS.out.drew.own hown5 hg5 hat5)
            clear hown5 hg5 hat5 hlt5 Q5
            refine hK _ _ ?_
            clear hK K
            try simp only [Act.put, List.getElem_toArray, List.getElem_cons_succ, List.getElem_cons_zero, List.setIfInBounds_toArray, List.set_cons_zero, List.set_cons_succ]
            refine wpAny_ready (rs := [8]) (by kernel_rfl) (by simp) ?_
            refine AllReady.cons rfl (fun K hK => ?_) AllReady.nil
            go_simp
            refine hK _ _ ?_
            clear hK K
            try simp only [Act.put, List.getElem_toArray, List.getElem_cons_succ, List.getElem_cons_zero, List.setIfInBounds_toArray, List.set_cons_zero, List.set_cons_succ]
            refine wpAny_ready (rs := [9]) (by kernel_rfl) (by simp) ?_
            refine AllReady.cons rfl (fun K hK => ?_) AllReady.nil
            go_simp
            refine hK _ _ ?_
            clear hK K
            try simp only [Act.put, List.getElem_toArray, List.getElem_cons_succ, List.getElem_cons_zero, List.setIfInBounds_toArray, List.set_cons_zero, List.set_cons_succ]
            refine wpAny_done (by kernel_rfl) ?_ _
            clear x5 f5
            go_wp2
            exact ⟨⟨v + 1, c5, some ⟨g5, 0, none⟩, by omega, by go_num, HS5⟩, by simp [intOf]; omega⟩
          · go_simp
            refine hK _ _ ?_
            clear hK K
            try simp only [Act.put, List.getElem_toArray, List.getElem_cons_succ, List.getElem_cons_zero, List.setIfInBounds_toArray, List.set_cons_zero, List.set_cons_succ]
            refine wpAny_ready (rs := [1]) (by kernel_rfl) (by simp) ?_
            refine AllReady.cons rfl (fun K hK => ?_) AllReady.nil
            go_simp
            refine hK _ _ ?_
            clear hK K
            try simp only [Act.put, List.getElem_toArray, List.getElem_cons_succ, List.getElem_cons_zero, List.setIfInBounds_toArray, List.set_cons_zero, List.set_cons_succ]
            refine wpAny_ready (rs := [7]) (by kernel_rfl) (by simp) ?_
            refine AllReady.cons rfl (fun K hK => ?_) AllReady.nil
            refine step_append_lies _ rfl _ _ 26 rfl (w.heap.size + 3) 3 i0 _ 1 8 Try.underlying26 hi hz0 hz1 hz2 rfl (by decide) _ _ _ rfl (HOw.out) ⟨wr.heap.size, 0, none⟩ 1 1 [.int .i64 (1 + (v : Int).tmod (s : Int))] rfl rfl (HNw.out) (by intro u hu; simp at hu; subst hu; rfl) (by omega) (by unfold maxLen; omega) (by omega) (by have := HS.out.lt; simp; omega) (wr.heap.size + 1) (by simp) ?_
            intro g5 c5 w5 hown5 hg5 hat5 hlt5
            rw [← drew_alloc13] at hg5
            have Q5 := HS.out.drew.boxO hg5
            have x5 := Q5.cell 1 rfl
            have f5 := Q5.frozen 1
            have HS5 := hideIt (HS.out.drew.own hown5 hg5 hat5)
            clear hown5 hg5 hat5 hlt5 Q5
            refine hK _ _ ?_
            clear hK K
            try simp only [Act.put, List.getElem_toArray, List.getElem_cons_succ, List.getElem_cons_zero, List.setIfInBounds_toArray, List.set_cons_zero, List.set_cons_succ]
            refine wpAny_ready (rs := [8]) (by kernel_rfl) (by simp) ?_
            refine AllReady.cons rfl (fun K hK => ?_) AllReady.nil
            go_simp
            refine hK _ _ ?_
            clear hK K
            try simp only [Act.put, List.getElem_toArray, List.getElem_cons_succ, List.getElem_cons_zero, List.setIfInBounds_toArray, List.set_cons_zero, List.set_cons_succ]
            refine wpAny_ready (rs := [9]) (by kernel_rfl) (by simp) ?_
            refine AllReady.cons rfl (fun K hK => ?_) AllReady.nil
            go_simp
            refine hK _ _ ?_
            clear hK K
            try simp only [Act.put, List.getElem_toArray, List.getElem_cons_succ, List.getElem_cons_zero, List.setIfInBounds_toArray, List.set_cons_zero, List.set_cons_succ]
            refine wpAny_done (by kernel_rfl) ?_ _
            clear x5 f5
            go_wp2
            exact ⟨⟨v + 1, c5, some ⟨g5, 0, none⟩, by omega, by go_num, HS5⟩, by simp [intOf]; omega⟩
        · obtain rfl : v = nn := by omega
          have HS1 := HS
          clear hlt hv HS
          go_wp2
          go_loopw [8] (fun i wr => ∃ (k cL : Nat) (aL : Option Addr) (R : List Rw), k ≤ s ∧ i = .int .i64 (k : Int) ∧ Hid (HN w v s k aL cL R v aO cO wr)) (fun i _ => s - (intOf i).toNat)
          case atStart => exact ⟨0, 0, none, [], by omega, rfl, HS1⟩
          case round =>
            obtain ⟨k, cL, aL, R, hk, rfl, HS⟩ := hrel
            clear HS1
            by_cases hlt : k < s
            · have b2 : (k : Int) < (s : Int) := by omega
              have y3 : wr.drew.cell? ⟨w.heap.size + 1 + 1, 3, none⟩ = some (.slice aL k cL) := HS.out.drew.hb.cell 3 rfl
              have y4 : (wr.alloc (.cells #[] 107)).drew.cell? ⟨w.heap.size + 1 + 1, 3, none⟩ = some (.slice aL k cL) := (HS.out.up (belA _ _)).drew.hb.cell 3 rfl
              have hz3 := HS.out.lt
              go_upto_region 11 with fail
              refine wp_region_any (by kernel_rfl) ?_
              change wpAny _ _ _ _ _ _ _ (World.drew _)
              refine takeOp (i := 0) (v := ?_) rfl (by kernel_rfl) (by kernel_rfl) (by kernel_rfl) (fun _ _ _ h => h) (by kernel_rfl) ?_ ?_
              rotate_left
              · intro w; go_simp; try with_reducible rfl
              try simp only [Act.put, List.getElem_toArray, List.getElem_cons_zero, List.setIfInBounds_toArray, List.set_cons_zero, List.set_cons_succ]
              refine takeOp (i := 2) (v := ?_) rfl (by kernel_rfl) (by kernel_rfl) (by kernel_rfl) (fun _ _ _ h => h) (by kernel_rfl) ?_ ?_
              rotate_left
              · intro w; go_simp; try with_reducible rfl
              try simp only [Act.put, List.getElem_toArray, List.getElem_cons_succ, List.getElem_cons_zero, List.setIfInBounds_toArray, List.set_cons_zero, List.set_cons_succ]
              refine wpAny_ready (rs := [1, 3]) (by kernel_rfl) (by simp) ?_
              refine AllReady.cons rfl (fun K hK => ?_) (AllReady.cons rfl (fun K hK => ?_) AllReady.nil)
              · go_simp
                refine hK _ _ ?_
                clear hK K
                try simp only [Act.put, List.getElem_toArray, List.getElem_cons_succ, List.getElem_cons_zero, List.setIfInBounds_toArray, List.set_cons_zero, List.set_cons_succ]
                refine wpAny_ready (rs := [3]) (by kernel_rfl) (by simp) ?_
                refine AllReady.cons rfl (fun K hK => ?_) AllReady.nil
                go_simp
                refine hK _ _ ?_
                clear hK K
                try simp only [Act.put, List.getElem_toArray, List.getElem_cons_succ, List.getElem_cons_zero, List.setIfInBounds_toArray, List.set_cons_zero, List.set_cons_succ]
                refine wpAny_ready (rs := [4]) (by kernel_rfl) (by simp) ?_
                refine AllReady.cons rfl (fun K hK => ?_) AllReady.nil
                rw [if_pos]
                rotate_left
                · kernel_rfl
                go_wp2_with (go_at_call 24; refine (HLb.out _ _).mono ?_; rintro e w3 ⟨g, c, rfl, o3, b3⟩; refine Hid.out ?_)
                refine (show ∀ {p : Prop}, p → Hid p from fun h => h) ?_
                have S3 := (HS.out.up (belA _ (.cells #[] 107))).drew.up b3
                have z3 : w3.cell? ⟨w.heap.size + 1 + 1, 3, none⟩ = some (.slice aL k cL) := S3.hb.cell 3 rfl
                have z4 : (w3.alloc (.cells #[.slice (some ⟨g, 0, none⟩) v c] 26)).cell? ⟨w.heap.size + 1 + 1, 3, none⟩ = some (.slice aL k cL) := (S3.up (belA _ _)).hb.cell 3 rfl
                have HS3 := hideIt S3
                have HRw := hideIt (RwB.of_own o3.out)
                have HRl : Hid (w.heap.size + 3 ≤ g ∧ ∀ x ∈ R, x.g ≠ g) := ⟨by have h1 := (o3.out.lt g rfl).1; simp at h1; omega, fun x hx e => by have h1 := (o3.out.lt g rfl).1; have h2 := (HS.out.fb.ins x hx).2.2; simp at h1; omega⟩
                have HRz : Hid (wr.heap.size ≤ g) := by show _ ≤ _; have h1 := (o3.out.lt g rfl).1; simp at h1; omega
                clear S3 b3 o3
                refine hK _ _ ?_
                clear hK K
                try simp only [Act.put, List.getElem_toArray, List.getElem_cons_succ, List.getElem_cons_zero, List.setIfInBounds_toArray, List.set_cons_zero, List.set_cons_succ]
                refine wpAny_ready (rs := [5]) (by kernel_rfl) (by simp) ?_
                refine AllReady.cons rfl (fun K hK => ?_) AllReady.nil
                go_simp
                refine hK _ _ ?_
                clear hK K
                try simp only [Act.put, List.getElem_toArray, List.getElem_cons_succ, List.getElem_cons_zero, List.setIfInBounds_toArray, List.set_cons_zero, List.set_cons_succ]
                refine wpAny_ready (rs := [6]) (by kernel_rfl) (by simp) ?_
                refine AllReady.cons rfl (fun K hK => ?_) AllReady.nil
                refine step_append_lies _ rfl _ _ 28 rfl (w.heap.size + 3) 26 i1 _ 1 24 Try.underlying28 hi' hy0 hy1 hy2 rfl (by decide) _ _ _ rfl (HS3.out.fb.own.alloc (.cells #[.slice (some ⟨g, 0, none⟩) v c] 26)) ⟨w3.heap.size, 0, none⟩ 1 1 [.slice (some ⟨g, 0, none⟩) v c] rfl rfl (newsH w3 _) (by intro u hu; simp at hu; subst hu; rfl) (by omega) (by unfold maxLen; omega) (by omega) (by have := HS3.out.lt; simp; omega) (w3.heap.size + 1) (by simp) ?_
                intro g5 c5 w5 hown5 hg5 hat5 hlt5
                have e5 : Rw.hdr ⟨g, c, O.labs [] v v⟩ = .slice (some ⟨g, 0, none⟩) v c := by unfold Rw.hdr; rw [O.labs_len]
                have Q5 := HS3.out.boxL hg5
                have x5 := Q5.cell 3 rfl
                have f5 := Q5.frozen 3
                rw [← e5] at hown5
                have HS5 := hideIt (HS3.out.lab (r := ⟨g, c, O.labs [] v v⟩) HRw.out HRl.out.1 HRl.out.2 (fun e => by have h1 : g < wr.heap.size := (HS.out.ow.lt _ e).2; have h2 := HRz.out; omega) rfl hown5 hg5)
                clear hown5 hg5 hat5 hlt5 Q5 e5 HRw HRl HRz z3 z4
                refine hK _ _ ?_
                clear hK K
                try simp only [Act.put, List.getElem_toArray, List.getElem_cons_succ, List.getElem_cons_zero, List.setIfInBounds_toArray, List.set_cons_zero, List.set_cons_succ]
                refine wpAny_ready (rs := [7]) (by kernel_rfl) (by simp) ?_
                refine AllReady.cons rfl (fun K hK => ?_) AllReady.nil
                go_simp
                refine hK _ _ ?_
                clear hK K
                try simp only [Act.put, List.getElem_toArray, List.getElem_cons_succ, List.getElem_cons_zero, List.setIfInBounds_toArray, List.set_cons_zero, List.set_cons_succ]
                refine wpAny_ready (rs := [8]) (by kernel_rfl) (by simp) ?_
                refine AllReady.cons rfl (fun K hK => ?_) AllReady.nil
                go_simp
                refine hK _ _ ?_
                clear hK K
                try simp only [Act.put, List.getElem_toArray, List.getElem_cons_succ, List.getElem_cons_zero, List.setIfInBounds_toArray, List.set_cons_zero, List.set_cons_succ]
                refine wpAny_done (by kernel_rfl) ?_ _
                clear x5 f5 HS3
                go_wp2
                exact ⟨⟨k + 1, c5, some ⟨g5, 0, none⟩, _, by omega, by go_num, HS5⟩, by simp [intOf]; omega⟩
              · go_simp
                refine hK _ _ ?_
                clear hK K
                try simp only [Act.put, List.getElem_toArray, List.getElem_cons_succ, List.getElem_cons_zero, List.setIfInBounds_toArray, List.set_cons_zero, List.set_cons_succ]
                refine wpAny_ready (rs := [1, 4]) (by kernel_rfl) (by simp) ?_
                refine AllReady.cons rfl (fun K hK => ?_) (AllReady.cons rfl (fun K hK => ?_) AllReady.nil)
                · go_simp
                  refine hK _ _ ?_
                  clear hK K
                  try simp only [Act.put, List.getElem_toArray, List.getElem_cons_succ, List.getElem_cons_zero, List.setIfInBounds_toArray, List.set_cons_zero, List.set_cons_succ]
                  refine wpAny_ready (rs := [4]) (by kernel_rfl) (by simp) ?_
                  refine AllReady.cons rfl (fun K hK => ?_) AllReady.nil
                  rw [if_pos]
                  rotate_left
                  · kernel_rfl
                  go_wp2_with (go_at_call 24; refine (HLb.out _ _).mono ?_; rintro e w3 ⟨g, c, rfl, o3, b3⟩; refine Hid.out ?_)
                  refine (show ∀ {p : Prop}, p → Hid p from fun h => h) ?_
                  have S3 := (HS.out.up (belA _ (.cells #[] 107))).drew.up b3
                  have z3 : w3.cell? ⟨w.heap.size + 1 + 1, 3, none⟩ = some (.slice aL k cL) := S3.hb.cell 3 rfl
                  have z4 : (w3.alloc (.cells #[.slice (some ⟨g, 0, none⟩) v c] 26)).cell? ⟨w.heap.size + 1 + 1, 3, none⟩ = some (.slice aL k cL) := (S3.up (belA _ _)).hb.cell 3 rfl
                  have HS3 := hideIt S3
                  have HRw := hideIt (RwB.of_own o3.out)
                  have HRl : Hid (w.heap.size + 3 ≤ g ∧ ∀ x ∈ R, x.g ≠ g) := ⟨by have h1 := (o3.out.lt g rfl).1; simp at h1; omega, fun x hx e => by have h1 := (o3.out.lt g rfl).1; have h2 := (HS.out.fb.ins x hx).2.2; simp at h1; omega⟩
                  have HRz : Hid (wr.heap.size ≤ g) := by show _ ≤ _; have h1 := (o3.out.lt g rfl).1; simp at h1; omega
                  clear S3 b3 o3
                  refine hK _ _ ?_
                  clear hK K
                  try simp only [Act.put, List.getElem_toArray, List.getElem_cons_succ, List.getElem_cons_zero, List.setIfInBounds_toArray, List.set_cons_zero, List.set_cons_succ]
                  refine wpAny_ready (rs := [5]) (by kernel_rfl) (by simp) ?_
                  refine AllReady.cons rfl (fun K hK => ?_) AllReady.nil
                  go_simp
                  refine hK _ _ ?_
                  clear hK K
                  try simp only [Act.put, List.getElem_toArray, List.getElem_cons_succ, List.getElem_cons_zero, List.setIfInBounds_toArray, List.set_cons_zero, List.set_cons_succ]
                  refine wpAny_ready (rs := [6]) (by kernel_rfl) (by simp) ?_
                  refine AllReady.cons rfl (fun K hK => ?_) AllReady.nil
                  refine step_append_lies _ rfl _ _ 28 rfl (w.heap.size + 3) 26 i1 _ 1 24 Try.underlying28 hi' hy0 hy1 hy2 rfl (by decide) _ _ _ rfl (HS3.out.fb.own.alloc (.cells #[.slice (some ⟨g, 0, none⟩) v c] 26)) ⟨w3.heap.size, 0, none⟩ 1 1 [.slice (some ⟨g, 0, none⟩) v c] rfl rfl (newsH w3 _) (by intro u hu; simp at hu; subst hu; rfl) (by omega) (by unfold maxLen; omega) (by omega) (by have := HS3.out.lt; simp; omega) (w3.heap.size + 1) (by simp) ?_
                  intro g5 c5 w5 hown5 hg5 hat5 hlt5
                  have e5 : Rw.hdr ⟨g, c, O.labs [] v v⟩ = .slice (some ⟨g, 0, none⟩) v c := by unfold Rw.hdr; rw [O.labs_len]
                  have Q5 := HS3.out.boxL hg5
                  have x5 := Q5.cell 3 rfl
                  have f5 := Q5.frozen 3
                  rw [← e5] at hown5
                  have HS5 := hideIt (HS3.out.lab (r := ⟨g, c, O.labs [] v v⟩) HRw.out HRl.out.1 HRl.out.2 (fun e => by have h1 : g < wr.heap.size := (HS.out.ow.lt _ e).2; have h2 := HRz.out; omega) rfl hown5 hg5)
                  clear hown5 hg5 hat5 hlt5 Q5 e5 HRw HRl HRz z3 z4
                  refine hK _ _ ?_
                  clear hK K
                  try simp only [Act.put, List.getElem_toArray, List.getElem_cons_succ, List.getElem_cons_zero, List.setIfInBounds_toArray, List.set_cons_zero, List.set_cons_succ]
                  refine wpAny_ready (rs := [7]) (by kernel_rfl) (by simp) ?_
                  refine AllReady.cons rfl (fun K hK => ?_) AllReady.nil
                  go_simp
                  refine hK _ _ ?_
                  clear hK K
                  try simp only [Act.put, List.getElem_toArray, List.getElem_cons_succ, List.getElem_cons_zero, List.setIfInBounds_toArray, List.set_cons_zero, List.set_cons_succ]
                  refine wpAny_ready (rs := [8]) (by kernel_rfl) (by simp) ?_
                  refine AllReady.cons rfl (fun K hK => ?_) AllReady.nil
                  go_simp
                  refine hK _ _ ?_
                  clear hK K
                  try simp only [Act.put, List.getElem_toArray, List.getElem_cons_succ, List.getElem_cons_zero, List.setIfInBounds_toArray, List.set_cons_zero, List.set_cons_succ]
                  refine wpAny_done (by kernel_rfl) ?_ _
                  clear x5 f5 HS3
                  go_wp2
                  exact ⟨⟨k + 1, c5, some ⟨g5, 0, none⟩, _, by omega, by go_num, HS5⟩, by simp [intOf]; omega⟩
                · rw [if_pos]
                  rotate_left
                  · kernel_rfl
                  go_wp2_with (go_at_call 24; refine (HLb.out _ _).mono ?_; rintro e w3 ⟨g, c, rfl, o3, b3⟩; refine Hid.out ?_)
                  refine (show ∀ {p : Prop}, p → Hid p from fun h => h) ?_
                  have S3 := (HS.out.up (belA _ (.cells #[] 107))).drew.up b3
                  have z3 : w3.cell? ⟨w.heap.size + 1 + 1, 3, none⟩ = some (.slice aL k cL) := S3.hb.cell 3 rfl
                  have z4 : (w3.alloc (.cells #[.slice (some ⟨g, 0, none⟩) v c] 26)).cell? ⟨w.heap.size + 1 + 1, 3, none⟩ = some (.slice aL k cL) := (S3.up (belA _ _)).hb.cell 3 rfl
                  have HS3 := hideIt S3
                  have HRw := hideIt (RwB.of_own o3.out)
                  have HRl : Hid (w.heap.size + 3 ≤ g ∧ ∀ x ∈ R, x.g ≠ g) := ⟨by have h1 := (o3.out.lt g rfl).1; simp at h1; omega, fun x hx e => by have h1 := (o3.out.lt g rfl).1; have h2 := (HS.out.fb.ins x hx).2.2; simp at h1; omega⟩
                  have HRz : Hid (wr.heap.size ≤ g) := by show _ ≤ _; have h1 := (o3.out.lt g rfl).1; simp at h1; omega
                  clear S3 b3 o3
                  refine hK _ _ ?_
                  clear hK K
                  try simp only [Act.put, List.getElem_toArray, List.getElem_cons_succ, List.getElem_cons_zero, List.setIfInBounds_toArray, List.set_cons_zero, List.set_cons_succ]
                  refine wpAny_ready (rs := [1, 5]) (by kernel_rfl) (by simp) ?_
                  refine AllReady.cons rfl (fun K hK => ?_) (AllReady.cons rfl (fun K hK => ?_) AllReady.nil)
                  · go_simp
                    refine hK _ _ ?_
                    clear hK K
                    try simp only [Act.put, List.getElem_toArray, List.getElem_cons_succ, List.getElem_cons_zero, List.setIfInBounds_toArray, List.set_cons_zero, List.set_cons_succ]
                    refine wpAny_ready (rs := [5]) (by kernel_rfl) (by simp) ?_
                    refine AllReady.cons rfl (fun K hK => ?_) AllReady.nil
                    go_simp
                    refine hK _ _ ?_
                    clear hK K
                    try simp only [Act.put, List.getElem_toArray, List.getElem_cons_succ, List.getElem_cons_zero, List.setIfInBounds_toArray, List.set_cons_zero, List.set_cons_succ]
                    refine wpAny_ready (rs := [6]) (by kernel_rfl) (by simp) ?_
                    refine AllReady.cons rfl (fun K hK => ?_) AllReady.nil
                    refine step_append_lies _ rfl _ _ 28 rfl (w.heap.size + 3) 26 i1 _ 1 24 Try.underlying28 hi' hy0 hy1 hy2 rfl (by decide) _ _ _ rfl (HS3.out.fb.own.alloc (.cells #[.slice (some ⟨g, 0, none⟩) v c] 26)) ⟨w3.heap.size, 0, none⟩ 1 1 [.slice (some ⟨g, 0, none⟩) v c] rfl rfl (newsH w3 _) (by intro u hu; simp at hu; subst hu; rfl) (by omega) (by unfold maxLen; omega) (by omega) (by have := HS3.out.lt; simp; omega) (w3.heap.size + 1) (by simp) ?_
                    intro g5 c5 w5 hown5 hg5 hat5 hlt5
                    have e5 : Rw.hdr ⟨g, c, O.labs [] v v⟩ = .slice (some ⟨g, 0, none⟩) v c := by unfold Rw.hdr; rw [O.labs_len]
                    have Q5 := HS3.out.boxL hg5
                    have x5 := Q5.cell 3 rfl
                    have f5 := Q5.frozen 3
                    rw [← e5] at hown5
                    have HS5 := hideIt (HS3.out.lab (r := ⟨g, c, O.labs [] v v⟩) HRw.out HRl.out.1 HRl.out.2 (fun e => by have h1 : g < wr.heap.size := (HS.out.ow.lt _ e).2; have h2 := HRz.out; omega) rfl hown5 hg5)
                    clear hown5 hg5 hat5 hlt5 Q5 e5 HRw HRl HRz z3 z4
                    refine hK _ _ ?_
                    clear hK K
                    try simp only [Act.put, List.getElem_toArray, List.getElem_cons_succ, List.getElem_cons_zero, List.setIfInBounds_toArray, List.set_cons_zero, List.set_cons_succ]
                    refine wpAny_ready (rs := [7]) (by kernel_rfl) (by simp) ?_
                    refine AllReady.cons rfl (fun K hK => ?_) AllReady.nil
                    go_simp
                    refine hK _ _ ?_
                    clear hK K
                    try simp only [Act.put, List.getElem_toArray, List.getElem_cons_succ, List.getElem_cons_zero, List.setIfInBounds_toArray, List.set_cons_zero, List.set_cons_succ]
                    refine wpAny_ready (rs := [8]) (by kernel_rfl) (by simp) ?_
                    refine AllReady.cons rfl (fun K hK => ?_) AllReady.nil
                    go_simp
                    refine hK _ _ ?_
                    clear hK K
                    try simp only [Act.put, List.getElem_toArray, List.getElem_cons_succ, List.getElem_cons_zero, List.setIfInBounds_toArray, List.set_cons_zero, List.set_cons_succ]
                    refine wpAny_done (by kernel_rfl) ?_ _
                    clear x5 f5 HS3
                    go_wp2
                    exact ⟨⟨k + 1, c5, some ⟨g5, 0, none⟩, _, by omega, by go_num, HS5⟩, by simp [intOf]; omega⟩
                  · go_simp
                    refine hK _ _ ?_
                    clear hK K
                    try simp only [Act.put, List.getElem_toArray, List.getElem_cons_succ, List.getElem_cons_zero, List.setIfInBounds_toArray, List.set_cons_zero, List.set_cons_succ]
                    refine wpAny_ready (rs := [1]) (by kernel_rfl) (by simp) ?_
                    refine AllReady.cons rfl (fun K hK => ?_) AllReady.nil
                    go_simp
                    refine hK _ _ ?_
                    clear hK K
                    try simp only [Act.put, List.getElem_toArray, List.getElem_cons_succ, List.getElem_cons_zero, List.setIfInBounds_toArray, List.set_cons_zero, List.set_cons_succ]
                    refine wpAny_ready (rs := [6]) (by kernel_rfl) (by simp) ?_
                    refine AllReady.cons rfl (fun K hK => ?_) AllReady.nil
                    refine step_append_lies _ rfl _ _ 28 rfl (w.heap.size + 3) 26 i1 _ 1 24 Try.underlying28 hi' hy0 hy1 hy2 rfl (by decide) _ _ _ rfl (HS3.out.fb.own.alloc (.cells #[.slice (some ⟨g, 0, none⟩) v c] 26)) ⟨w3.heap.size, 0, none⟩ 1 1 [.slice (some ⟨g, 0, none⟩) v c] rfl rfl (newsH w3 _) (by intro u hu; simp at hu; subst hu; rfl) (by omega) (by unfold maxLen; omega) (by omega) (by have := HS3.out.lt; simp; omega) (w3.heap.size + 1) (by simp) ?_
                    intro g5 c5 w5 hown5 hg5 hat5 hlt5
                    have e5 : Rw.hdr ⟨g, c, O.labs [] v v⟩ = .slice (some ⟨g, 0, none⟩) v c := by unfold Rw.hdr; rw [O.labs_len]
                    have Q5 := HS3.out.boxL hg5
                    have x5 := Q5.cell 3 rfl
                    have f5 := Q5.frozen 3
                    rw [← e5] at hown5
                    have HS5 := hideIt (HS3.out.lab (r := ⟨g, c, O.labs [] v v⟩) HRw.out HRl.out.1 HRl.out.2 (fun e => by have h1 : g < wr.heap.size := (HS.out.ow.lt _ e).2; have h2 := HRz.out; omega) rfl hown5 hg5)
                    clear hown5 hg5 hat5 hlt5 Q5 e5 HRw HRl HRz z3 z4
                    refine hK _ _ ?_
                    clear hK K
                    try simp only [Act.put, List.getElem_toArray, List.getElem_cons_succ, List.getElem_cons_zero, List.setIfInBounds_toArray, List.set_cons_zero, List.set_cons_succ]
                    refine wpAny_ready (rs := [7]) (by kernel_rfl) (by simp) ?_
                    refine AllReady.cons rfl (fun K hK => ?_) AllReady.nil
                    go_simp
                    refine hK _ _ ?_
                    clear hK K
                    try simp only [Act.put, List.getElem_toArray, List.getElem_cons_succ, List.getElem_cons_zero, List.setIfInBounds_toArray, List.set_cons_zero, List.set_cons_succ]
                    refine wpAny_ready (rs := [8]) (by kernel_rfl) (by simp) ?_
                    refine AllReady.cons rfl (fun K hK => ?_) AllReady.nil
                    go_simp
                    refine hK _ _ ?_
                    clear hK K
                    try simp only [Act.put, List.getElem_toArray, List.getElem_cons_succ, List.getElem_cons_zero, List.setIfInBounds_toArray, List.set_cons_zero, List.set_cons_succ]
                    refine wpAny_done (by kernel_rfl) ?_ _
                    clear x5 f5 HS3
                    go_wp2
                    exact ⟨⟨k + 1, c5, some ⟨g5, 0, none⟩, _, by omega, by go_num, HS5⟩, by simp [intOf]; omega⟩
            · obtain rfl : k = s := by omega
              clear HLb
              have XF := BxA.setA (l := [.int .i64 0, .slice none 0 0, .slice none 0 0, .slice none 0 0, .slice none 0 0, .int .i64 0, .int .i64 0, .int .i64 0, .int .i64 0, .int .i64 0, .int .i64 0, .int .i64 0, .slice none 0 0, .int .i64 0, .slice none 0 0]) HS.out.rs 0 [.int .i64 (v : Int), .slice aO v cO, .slice none 0 0, .slice aL k cL, .slice (some ⟨w.heap.size + 1, 0, none⟩) k k, .int .i64 0, .int .i64 0, .int .i64 0, .int .i64 0, .int .i64 0, .int .i64 0, .int .i64 0, .slice none 0 0, .int .i64 0, .slice none 0 0]
              rw [setV_all [.int .i64 0, .slice none 0 0, .slice none 0 0, .slice none 0 0, .slice none 0 0, .int .i64 0, .int .i64 0, .int .i64 0, .int .i64 0, .int .i64 0, .int .i64 0, .int .i64 0, .slice none 0 0, .int .i64 0, .slice none 0 0] [.int .i64 (v : Int), .slice aO v cO, .slice none 0 0, .slice aL k cL, .slice (some ⟨w.heap.size + 1, 0, none⟩) k k, .int .i64 0, .int .i64 0, .int .i64 0, .int .i64 0, .int .i64 0, .int .i64 0, .int .i64 0, .slice none 0 0, .int .i64 0, .slice none 0 0] rfl] at XF
              have c0_ := XF.at 0 rfl
              have c1_ := XF.at 1 rfl
              have c2_ := XF.at 2 rfl
              have c3_ := XF.at 3 rfl
              have c4_ := XF.at 4 rfl
              have c5_ := XF.at 5 rfl
              have c6_ := XF.at 6 rfl
              have c7_ := XF.at 7 rfl
              have c8_ := XF.at 8 rfl
              have c9_ := XF.at 9 rfl
              have c10_ := XF.at 10 rfl
              have c11_ := XF.at 11 rfl
              have c12_ := XF.at 12 rfl
              have c13_ := XF.at 13 rfl
              have c14_ := XF.at 14 rfl
              dsimp only [setA] at c0_ c1_ c2_ c3_ c4_ c5_ c6_ c7_ c8_ c9_ c10_ c11_ c12_ c13_ c14_
              have HC := hideIt (And.intro c0_ (And.intro c1_ (And.intro c2_ (And.intro c3_ (And.intro c4_ (And.intro c5_ (And.intro c6_ (And.intro c7_ (And.intro c8_ (And.intro c9_ (And.intro c10_ (And.intro c11_ (And.intro c12_ (And.intro c13_ c14_))))))))))))))
              have k0 := HS.out.hb.cell 0 rfl
              have r0 := HS.out.rs.cell 0 rfl
              have z0 := HS.out.rs.frozen 0
              have k1 := HS.out.hb.cell 1 rfl
              have r1 := HS.out.rs.cell 1 rfl
              have z1 := HS.out.rs.frozen 1
              have k2 := HS.out.hb.cell 2 rfl
              have r2 := HS.out.rs.cell 2 rfl
              have z2 := HS.out.rs.frozen 2
              have k3 := HS.out.hb.cell 3 rfl
              have r3 := HS.out.rs.cell 3 rfl
              have z3 := HS.out.rs.frozen 3
              have k4 := HS.out.hb.cell 4 rfl
              have r4 := HS.out.rs.cell 4 rfl
              have z4 := HS.out.rs.frozen 4
              have k5 := HS.out.hb.cell 5 rfl
              have r5 := HS.out.rs.cell 5 rfl
              have z5 := HS.out.rs.frozen 5
              have k6 := HS.out.hb.cell 6 rfl
              have r6 := HS.out.rs.cell 6 rfl
              have z6 := HS.out.rs.frozen 6
              have k7 := HS.out.hb.cell 7 rfl
              have r7 := HS.out.rs.cell 7 rfl
              have z7 := HS.out.rs.frozen 7
              have k8 := HS.out.hb.cell 8 rfl
              have r8 := HS.out.rs.cell 8 rfl
              have z8 := HS.out.rs.frozen 8
              have k9 := HS.out.hb.cell 9 rfl
              have r9 := HS.out.rs.cell 9 rfl
              have z9 := HS.out.rs.frozen 9
              have k10 := HS.out.hb.cell 10 rfl
              have r10 := HS.out.rs.cell 10 rfl
              have z10 := HS.out.rs.frozen 10
              have k11 := HS.out.hb.cell 11 rfl
              have r11 := HS.out.rs.cell 11 rfl
              have z11 := HS.out.rs.frozen 11
              have k12 := HS.out.hb.cell 12 rfl
              have r12 := HS.out.rs.cell 12 rfl
              have z12 := HS.out.rs.frozen 12
              have k13 := HS.out.hb.cell 13 rfl
              have r13 := HS.out.rs.cell 13 rfl
              have z13 := HS.out.rs.frozen 13
              have k14 := HS.out.hb.cell 14 rfl
              have r14 := HS.out.rs.cell 14 rfl
              have z14 := HS.out.rs.frozen 14
              have HF : Hid (HOwn (setA wr w.heap.size 0 [.int .i64 (v : Int), .slice aO v cO, .slice none 0 0, .slice aL k cL, .slice (some ⟨w.heap.size + 1, 0, none⟩) k k, .int .i64 0, .int .i64 0, .int .i64 0, .int .i64 0, .int .i64 0, .int .i64 0, .int .i64 0, .slice none 0 0, .int .i64 0, .slice none 0 0]) w.heap.size (newH v k) ⟨⟨aO, v, cO⟩, nilS, ⟨aL, k, cL⟩, ⟨some ⟨w.heap.size + 1, 0, none⟩, k, k⟩, nilS, nilS⟩ R ∧ Below w.heap.size w (setA wr w.heap.size 0 [.int .i64 (v : Int), .slice aO v cO, .slice none 0 0, .slice aL k cL, .slice (some ⟨w.heap.size + 1, 0, none⟩) k k, .int .i64 0, .int .i64 0, .int .i64 0, .int .i64 0, .int .i64 0, .int .i64 0, .int .i64 0, .slice none 0 0, .int .i64 0, .slice none 0 0])) :=
                ⟨⟨own_mono (own_setA HS.out.ow (by omega) _ _) (by omega), World.ownsRow_nil _ _ _ _, (FB.setS HS.out.fb (by omega) _ _).lo (by omega), HS.out.rt, own_mono (own_setA HS.out.nu (by omega) _ _) (by omega), World.ownsRow_nil _ _ _ _, World.ownsRow_nil _ _ _ _⟩, below_setA HS.out.bl (by omega) _ _⟩
              have HP : Hid (HSep ⟨⟨aO, v, cO⟩, nilS, ⟨aL, k, cL⟩, ⟨some ⟨w.heap.size + 1, 0, none⟩, k, k⟩, nilS, nilS⟩ R) := by
                refine ⟨fun b hb e => ?_, HS.out.ne, fun r hr e => ?_⟩
                · have h1 := (HS.out.ow.lt b hb).1
                  simp [Value.ownBlock] at e
                  omega
                · have h1 := (HS.out.fb.ins r hr).2.1
                  simp [Value.ownBlock] at e
                  omega
              dsimp only [setA] at HF
              clear XF HS c0_ c1_ c2_ c3_ c4_ c5_ c6_ c7_ c8_ c9_ c10_ c11_ c12_ c13_ c14_
              go_wp2
              obtain ⟨c0_, c1_, c2_, c3_, c4_, c5_, c6_, c7_, c8_, c9_, c10_, c11_, c12_, c13_, c14_⟩ := HC.out
              exact bodyPost_ret (v := .tuple #[.agg #[.int .i64 (v : Int), .slice aO v cO, .slice none 0 0, .slice aL k cL, .slice (some ⟨w.heap.size + 1, 0, none⟩) k k, .int .i64 0, .int .i64 0, .int .i64 0, .int .i64 0, .int .i64 0, .int .i64 0, .int .i64 0, .slice none 0 0, .int .i64 0, .slice none 0 0], .bool true]) (by simp [results, Try.results8, go_sem, c0_, c1_, c2_, c3_, c4_, c5_, c6_, c7_, c8_, c9_, c10_, c11_, c12_, c13_, c14_]) rfl ⟨aO, v, cO, aL, k, cL, _, R, by rw [HY.out.1, HY.out.2]; rfl, by rw [HY.out.1]; exact HF.out.1, HP.out, HF.out.2⟩
end Go.Proofs.Ytiidomopnmjhbaa
namespace Go.Proofs.Ytiidomopnmjhbaa
open Go.RowKit

theorem info5 : (Try.prog.info? 5).map (fun i => (i.zero, i.size, i.bytes)) = some (some (.int .u8 0), 1, 1) := by kernel_rfl

/-- the cells of the bytes l -/
def bv (l : List UInt8) : List Value := l.map fun b => Value.int .u8 (b.toNat : Int)

theorem bv_snoc (l : List UInt8) (b : UInt8) (n : Int) (h : (b.toNat : Int) = n) : bv l ++ [Value.int .u8 n] = bv (l ++ [b]) := by
  subst h; simp [bv]

theorem one_new (w : World) (v : Value) (t : TypeId) : ∀ j u, [v][j]? = some u → (w.alloc (.cells #[v] t)).cell? ((⟨w.heap.size, 0, none⟩ : Addr).add j) = some u := by
  intro j u hj
  match j, hj with
  | 0, hj => simp at hj; subst hj; simp [Addr.add]

/-- behind an append to a row of the call's own, nothing below B has turned -/
theorem below_app {B : Nat} {w wr w1 : World} {v : Value} {n : Nat} {xs : List Value} {o : Obj} (hb : Below B w wr) (hB : B ≤ w.heap.size)
    (hown : wr.ownsRow B 5 1 v n xs) (hg : (wr.alloc o).grownBy w1 v.ownBlock) : Below B w w1 :=
  (hb.alloc (by have := hb.size; omega) _).grown hg (by have := hb.size; simp; omega) (fun k hk => (hown.lt k hk).1)

theorem below_appD {B : Nat} {w wr w1 : World} {v : Value} {n : Nat} {xs : List Value} {o : Obj} (hb : Below B w wr) (hB : B ≤ w.heap.size)
    (hown : wr.ownsRow B 5 1 v n xs) (hg : ((wr.alloc o).drew).grownBy w1 v.ownBlock) : Below B w w1 :=
  below_app (o := o) hb hB hown ⟨hg.os, hg.tape, hg.output, hg.size, hg.block⟩

/-- 'string(out)' of a row of bytes of the call's own -/
theorem conv_own {B n : Nat} {v : Value} {l : List UInt8} {w : World} (hown : w.ownsRow B 5 1 v n (bv l)) (hv : ¬ v = .slice none 0 0) :
    ∃ g cap, v = .slice (some ⟨g, 0, none⟩) l.length cap ∧ (convert 22 9 (.slice (some ⟨g, 0, none⟩) l.length cap)).run Try.prog w = .ok (.string ⟨l.toArray⟩) w := by
  have hn : l.length = n := by have := hown.1; simpa [bv] using this
  subst hn
  have hown0 := hown
  rcases hown.2 with ⟨h, _⟩ | ⟨g, cap, cur, rfl, -, -, -, -, -, -⟩
  · exact absurd h hv
  · exact ⟨g, cap, rfl, run_convert_bytes_back (P := Try.prog) w 22 9 5 ⟨g, 0, none⟩ cap l Try.underlying22 Try.underlying5 Try.underlying9 (fun j hj => hown0.cells (g := g) rfl j _ (by simp [bv, hj]))⟩

theorem conv_at {B n g cap : Nat} {l : List UInt8} {w : World} (hown : w.ownsRow B 5 1 (.slice (some ⟨g, 0, none⟩) n cap) n (bv l)) :
    (convert 22 9 (.slice (some ⟨g, 0, none⟩) n cap)).run Try.prog w = .ok (.string ⟨l.toArray⟩) w := by
  obtain ⟨g', cap', hv, hcv⟩ := conv_own hown (by simp)
  rw [hv]
  exact hcv

end Go.Proofs.Ytiidomopnmjhbaa
namespace Go.Proofs.Ytiidomopnmjhbaa
open Go.RowKit

theorem and_small (x : Int) (b : Nat) (hb : b < 4611686018427387904) : 0 ≤ bits .and .i64 x (b : Int) ∧ bits .and .i64 x (b : Int) ≤ (b : Int) := by
  have h2 : (BitVec.ofInt 64 (b : Int)).toNat = b := by
    rw [BitVec.ofInt_natCast, BitVec.toNat_ofNat]; exact Nat.mod_eq_of_lt (by omega)
  have e : bits .and .i64 x (b : Int) = IntKind.i64.wrap ((BitVec.ofInt 64 x &&& BitVec.ofInt 64 (b : Int)).toNat : Int) := rfl
  rw [e, BitVec.toNat_and, h2, IntKind.wrap_i64]
  have := Nat.and_le_right (n := (BitVec.ofInt 64 x).toNat) (m := b)
  omega

theorem and255 (x : Int) : 0 ≤ bits .and .i64 x 255 ∧ bits .and .i64 x 255 ≤ 255 := and_small x 255 (by omega)
theorem and30 (x : Int) : 0 ≤ bits .and .i64 x 1073741823 ∧ bits .and .i64 x 1073741823 ≤ 1073741823 := and_small x 1073741823 (by omega)

/-- the bytes that the draws are drawn from: none, or a row of bytes in a block of its own -/
def Code (w : World) (G : Nat) (a : Option Addr) (len : Nat) : Prop :=
  len = 0 ∨ ∃ b off, a = some ⟨b, off, none⟩ ∧ b < w.heap.size ∧ b ≠ G ∧ ∀ j, j < len → ∃ z : Nat, z ≤ 255 ∧ w.cell? ⟨b, off + j, none⟩ = some (.int .u8 (z : Int))

/-- the cursor in block G -/
def Cur (w : World) (G : Nat) (a : Option Addr) (len cap : Nat) : Prop :=
  ∃ (i : Nat) (h : Int), i ≤ len ∧ w.heap[G]? = some (.cells #[.slice a len cap, .int .i64 (i : Int), .int .i64 h] 98 (0, 0))

theorem grownT {a b c : World} {row : Option Nat} (h : a.grownBy b row) (k : b.grownBy c row) : a.grownBy c row :=
  ⟨k.os.trans h.os, k.tape.trans h.tape, k.output.trans h.output, Nat.le_trans h.size k.size, fun i hi hr => (k.block i (Nat.lt_of_lt_of_le hi h.size) hr).trans (h.block i hi hr)⟩

theorem Code.kept {w w' : World} {G : Nat} {a : Option Addr} {len : Nat} (h : Code w G a len) (hg : w.grownBy w' (some G)) : Code w' G a len := by
  rcases h with h | ⟨b, off, ha, hb, hn, hc⟩
  · exact .inl h
  · refine .inr ⟨b, off, ha, Nat.lt_of_lt_of_le hb hg.size, hn, fun j hj => ?_⟩
    obtain ⟨z, hz, hcell⟩ := hc j hj
    refine ⟨z, hz, ?_⟩
    rw [World.cell?_of_block (w := w) (hg.block b hb (by simp; exact hn))]
    exact hcell

theorem set1 {w : World} {G : Nat} {A B C D : Value} {t : TypeId} (h : w.heap[G]? = some (.cells #[A, B, C] t (0, 0))) : (w.setCell ⟨G, 1, none⟩ D).heap[G]? = some (.cells #[A, D, C] t (0, 0)) := by
  rw [heap_setCell_same w G 1 _ t D h]; rfl
theorem set2 {w : World} {G : Nat} {A B C D : Value} {t : TypeId} (h : w.heap[G]? = some (.cells #[A, B, C] t (0, 0))) : (w.setCell ⟨G, 2, none⟩ D).heap[G]? = some (.cells #[A, B, D] t (0, 0)) := by
  rw [heap_setCell_same w G 2 _ t D h]; rfl
theorem grown_set (w : World) (G j : Nat) (u : Value) : w.grownBy (w.setCell ⟨G, j, none⟩ u) (some G) :=
  ⟨rfl, rfl, rfl, by simp [World.setCell], fun k _ hk => heap_setCell_other w ⟨G, j, none⟩ k u (fun e => hk (by simp [e]))⟩
theorem grown_draws (w : World) (n : Nat) (row : Option Nat) : w.grownBy (w.drewN n) row := ⟨rfl, rfl, rfl, Nat.le_refl _, fun _ _ _ => rfl⟩

theorem fin_byte {y : Int} {R : Prop} (h : 0 ≤ y ∧ y ≤ 255) (hr : R) : ∃ x : Nat, x ≤ 255 ∧ Ending.returned (.int .i64 y) = .returned (.int .i64 (x : Int)) ∧ R :=
  ⟨y.toNat, by omega, by rw [Int.toNat_of_nonneg h.1], hr⟩

set_option maxRecDepth 100000 in
set_option maxHeartbeats 2000000 in
theorem l01Byte_any (w : World) (G : Nat) (a : Option Addr) (len cap : Nat) (hl : len ≤ 1048576) (hcur : Cur w G a len cap) (hcode : Code w G a len) :
    Calls Try.prog 109 #[.pointer (some ⟨G, 0, none⟩)] w fun e w' => ∃ x : Nat, x ≤ 255 ∧ e = .returned (.int .i64 (x : Int)) ∧ Cur w' G a len cap ∧ w.grownBy w' (some G) := by
  obtain ⟨i, h, hi, hG⟩ := hcur
  have c0 : w.cell? ⟨G, 0, none⟩ = some (.slice a len cap) := by rw [cell_of_row w G 0 _ _ _ hG]; rfl
  have c1 : w.cell? ⟨G, 1, none⟩ = some (.int .i64 (i : Int)) := by rw [cell_of_row w G 1 _ _ _ hG]; rfl
  have c2 : w.cell? ⟨G, 2, none⟩ = some (.int .i64 h) := by rw [cell_of_row w G 2 _ _ _ hG]; rfl
  have f1 : w.frozen? ⟨G, 1, none⟩ = false := frozen_of_row w G 1 _ _ hG
  have f2 : w.frozen? ⟨G, 2, none⟩ = false := frozen_of_row w G 2 _ _ hG
  have HG : Hid _ := hG
  clear hG
  by_cases hlt : i < len
  · have e1 : decide ((i : Int) < (len : Int)) = true := by simp; omega
    rcases hcode with h0 | ⟨b, off, rfl, hb, hne, hc⟩
    · omega
    · obtain ⟨z, hz, hcell⟩ := hc i hlt
      have b1 : (0 : Int) ≤ (i : Int) := by omega
      have b2 : (i : Int) < (len : Int) := by omega
      have hcell2 : ∀ v, (w.setCell ⟨G, 2, none⟩ v).cell? ⟨b, off + i, none⟩ = some (.int .u8 (z : Int)) := fun v => by
        rw [World.cell?_of_block (w := w) (heap_setCell_other w ⟨G, 2, none⟩ b v (by exact hne))]
        exact hcell
      clear hc
      go_enter Try.func109, Try.ntmps109
      go_wp2
      go_quiet (fail)
      go_wp2
      go_quiet (fail)
      go_wp2
      go_quiet (fail)
      go_wp2
      go_ret
      refine fin_byte (and255 _) ⟨?_, ?_⟩
      · exact ⟨i + 1, _, by omega, set1 (set2 HG.out)⟩
      · exact grownT (grownT (grown_set w G 2 _) (grown_set _ G 1 _)) (grown_draws _ _ _)
  · have e1 : decide ((i : Int) < (len : Int)) = false := by simp; omega
    go_enter Try.func109, Try.ntmps109
    go_wp2
    go_quiet (fail)
    go_wp2
    go_quiet (fail)
    go_wp2
    go_ret
    refine fin_byte (and255 _) ⟨?_, ?_⟩
    · exact ⟨i, _, hi, set2 HG.out⟩
    · exact grownT (grownT (grown_set w G 2 _) (grown_draws _ _ _)) (grown_draws _ _ _)

/-- what a draw leaves: the cursor, the bytes, the rest as it was -/
structure Drawn (w w' : World) (G : Nat) (a : Option Addr) (len cap : Nat) : Prop where
  cur : Cur w' G a len cap
  code : Code w' G a len
  grown : w.grownBy w' (some G)

theorem Drawn.trans {w w1 w2 : World} {G : Nat} {a : Option Addr} {len cap : Nat} (h : Drawn w w1 G a len cap) (k : Drawn w1 w2 G a len cap) : Drawn w w2 G a len cap :=
  ⟨k.cur, k.code, grownT h.grown k.grown⟩

theorem l01Byte_drawn (w : World) (G : Nat) (a : Option Addr) (len cap : Nat) (hl : len ≤ 1048576) (hcur : Cur w G a len cap) (hcode : Code w G a len) :
    Calls Try.prog 109 #[.pointer (some ⟨G, 0, none⟩)] w fun e w' => ∃ x : Nat, x ≤ 255 ∧ e = .returned (.int .i64 (x : Int)) ∧ Drawn w w' G a len cap :=
  (l01Byte_any w G a len cap hl hcur hcode).mono fun _ _ ⟨x, hx, he, hc, hg⟩ => ⟨x, hx, he, hc, hcode.kept hg, hg⟩

theorem fin_rem {y n : Int} {R : Prop} (h : 0 < n) (hr : R) : ∃ x : Nat, (x : Int) < n ∧ Ending.returned (.int .i64 (y % n)) = .returned (.int .i64 (x : Int)) ∧ R := by
  have h1 := Int.emod_lt_of_pos y h
  have h2 := Int.emod_nonneg y (show n ≠ 0 by omega)
  exact ⟨(y % n).toNat, by omega, by rw [Int.toNat_of_nonneg h2], hr⟩

set_option maxRecDepth 100000 in
set_option maxHeartbeats 2000000 in
theorem l01Below_any (n : Int) (h0 : 0 < n) (h1 : n ≤ 4294967296) (w : World) (G : Nat) (a : Option Addr) (len cap : Nat) (hl : len ≤ 1048576) (hcur : Cur w G a len cap) (hcode : Code w G a len) :
    Calls Try.prog 60 #[.pointer (some ⟨G, 0, none⟩), .int .i64 n] w fun e w' => ∃ x : Nat, (x : Int) < n ∧ e = .returned (.int .i64 (x : Int)) ∧ Drawn w w' G a len cap := by
  have B := fun (W : World) (hc : Cur W G a len cap) (hd : Code W G a len) => l01Byte_drawn W G a len cap hl hc hd
  have HB := (show ∀ {p : Prop}, p → Hid p from fun h => h) B
  clear B
  have H1 := (show ∀ {p : Prop}, p → Hid p from fun h => h) hcur
  have H2 := (show ∀ {p : Prop}, p → Hid p from fun h => h) hcode
  clear hcur hcode
  by_cases hs : n ≤ 256
  · go_enter Try.func60, Try.ntmps60
    go_wp2_with (go_at_call 109; refine (HB.out _ H1.out H2.out).mono ?_; rintro e w1 ⟨x, hx, rfl, hd⟩)
    go_ret
    exact fin_rem h0 hd
  · go_enter Try.func60, Try.ntmps60
    go_wp2_with (go_at_call 109; refine (HB.out _ H1.out H2.out).mono ?_; rintro e w1 ⟨x, hx, rfl, d1⟩; refine Hid.out ?_)
    refine (show ∀ {p : Prop}, p → Hid p from fun h => h) ?_
    go_wp2_with (go_at_call 109; refine (HB.out _ d1.cur d1.code).mono ?_; rintro e w2 ⟨y, hy, rfl, d2⟩; refine Hid.out ?_)
    refine (show ∀ {p : Prop}, p → Hid p from fun h => h) ?_
    go_wp2_with (go_at_call 109; refine (HB.out _ d2.cur d2.code).mono ?_; rintro e w3 ⟨z, hz, rfl, d3⟩; refine Hid.out ?_)
    refine (show ∀ {p : Prop}, p → Hid p from fun h => h) ?_
    go_wp2_with (go_at_call 109; refine (HB.out _ d3.cur d3.code).mono ?_; rintro e w4 ⟨v, hv, rfl, d4⟩; refine Hid.out ?_)
    refine (show ∀ {p : Prop}, p → Hid p from fun h => h) ?_
    go_wp2
    go_ret
    exact fin_rem h0 (d1.trans (d2.trans (d3.trans d4)))

theorem cur_new (w : World) (a : Option Addr) (len cap : Nat) (h : Int) : Cur (w.alloc (.cells #[.slice a len cap, .int .i64 0, .int .i64 h] 98)) w.heap.size a len cap :=
  ⟨0, h, Nat.zero_le _, heap_alloc_new w _⟩

theorem code_new {w : World} {a : Option Addr} {len : Nat} (h : Code w w.heap.size a len) (o : Obj) : Code (w.alloc o) w.heap.size a len := by
  rcases h with h | ⟨b, off, ha, hb, hn, hc⟩
  · exact .inl h
  · refine .inr ⟨b, off, ha, by simp; omega, hn, fun j hj => ?_⟩
    obtain ⟨z, hz, hcell⟩ := hc j hj
    exact ⟨z, hz, by rw [World.cell?_of_block (w := w) (Below.heap_alloc w o b hb)]; exact hcell⟩

set_option maxRecDepth 100000 in
set_option maxHeartbeats 2000000 in
theorem l01New_any (w : World) (a : Option Addr) (len cap : Nat) (hl : len ≤ 1048576) (hcode : Code w w.heap.size a len) :
    Calls Try.prog 18 #[.slice a len cap] w fun e w' => e = .returned (.pointer (some ⟨w.heap.size, 0, none⟩)) ∧ Cur w' w.heap.size a len cap ∧ Code w' w.heap.size a len ∧ Below w.heap.size w w' ∧ w.heap.size < w'.heap.size := by
  have HC := hideIt hcode
  clear hcode
  go_enter Try.func18, Try.ntmps18
  go_wp2
  go_loop [3, 4] (fun hh i => ∃ (k : Nat) (h : Int), k ≤ len ∧ 0 ≤ h ∧ h ≤ 2147483648 ∧ i = .int .i64 k ∧ hh = .int .i64 h) (fun _ i => len - (intOf i).toNat)
  case atStart => exact ⟨0, 13501 + (len : Int), by omega, by omega, by omega, rfl, rfl⟩
  case round =>
    obtain ⟨k, h, hk, h0, h1, rfl, rfl⟩ := hrel
    by_cases hlt : k < len
    · have e0 : decide ((k : Int) < (len : Int)) = true := by simp; omega
      by_cases h4 : k < 4000
      · have e1 : decide ((k : Int) < 4000) = true := by simp; omega
        rcases HC.out with hz | ⟨b, off, rfl, hb, hne, hc⟩
        · omega
        · obtain ⟨z, hz, hcell⟩ := hc k hlt
          have b1 : (0 : Int) ≤ (k : Int) := by omega
          have b2 : (k : Int) < (len : Int) := by omega
          clear hc HC
          go_wp2
          have ha := and30 (h * 131 + (z : Int) + 7)
          go_round
          case rel => exact ⟨k + 1, _, by omega, ha.1, by omega, by go_num, rfl⟩
          case measure => simp [intOf]; omega
      · have e1 : decide ((k : Int) < 4000) = false := by simp; omega
        go_wp2
        go_ret
        exact ⟨rfl, cur_new w a len cap h, code_new HC.out _, (Below.refl _ _).alloc (Nat.le_refl _) _, by simp⟩
    · have e0 : decide ((k : Int) < (len : Int)) = false := by simp; omega
      go_wp2
      go_ret
      exact ⟨rfl, cur_new w a len cap h, code_new HC.out _, (Below.refl _ _).alloc (Nat.le_refl _) _, by simp⟩

theorem l01Once_any (n : Int) (h0 : 0 < n) (h1 : n ≤ 4294967296) (w : World) (G : Nat) (a : Option Addr) (len cap : Nat) (hl : len ≤ 1048576) (hcur : Cur w G a len cap) (hcode : Code w G a len) :
    Calls Try.prog 58 #[.pointer (some ⟨G, 0, none⟩), .int .i64 n] w fun e w' => ∃ b : Bool, e = .returned (.bool b) ∧ Drawn w w' G a len cap := by
  have HB := hideIt (l01Below_any n h0 h1 w G a len cap hl hcur hcode)
  clear hcur hcode
  go_enter Try.func58, Try.ntmps58
  go_wp2_with (go_at_call 60; refine HB.out.mono ?_; rintro e w1 ⟨x, hx, rfl, hd⟩)
  go_ret
  exact ⟨_, rfl, hd⟩

theorem l01PickInt_any (L n : Nat) (c : Nat) (hn : 0 < n) (hn2 : n ≤ 1000) (w : World) (G : Nat) (a : Option Addr) (len cap : Nat) (hl : len ≤ 1048576) (hcur : Cur w G a len cap) (hcode : Code w G a len) (hL : L < w.heap.size) (hLG : L ≠ G)
    (hcells : ∀ j, j < n → ∃ z : Int, w.cell? ⟨L, j, none⟩ = some (.int .i64 z)) :
    Calls Try.prog 59 #[.pointer (some ⟨G, 0, none⟩), .slice (some ⟨L, 0, none⟩) n c] w fun e w' => ∃ x : Int, e = .returned (.int .i64 x) ∧ Drawn w w' G a len cap := by
  have HB := hideIt (l01Below_any (n : Int) (by omega) (by omega) w G a len cap hl hcur hcode)
  have HL := hideIt hcells
  clear hcur hcode hcells
  go_enter Try.func59, Try.ntmps59
  go_wp2_with (go_at_call 60; refine HB.out.mono ?_; rintro e w1 ⟨x, hx, rfl, hd⟩; refine Hid.out ?_)
  refine (show ∀ {p : Prop}, p → Hid p from fun h => h) ?_
  have hxn : x < n := by omega
  obtain ⟨z, hz⟩ := HL.out x hxn
  have hz1 : w1.cell? ⟨L, x, none⟩ = some (.int .i64 z) := by rw [World.cell?_of_block (w := w) (hd.grown.block L hL (by simp; exact hLG))]; exact hz
  have b1 : (0 : Int) ≤ (x : Int) := by omega
  clear HB HL hz
  go_wp2
  go_ret
  exact ⟨_, rfl, hd⟩

end Go.Proofs.Ytiidomopnmjhbaa
namespace Go.Proofs.Ytiidomopnmjhbaa
open Go.RowKit

theorem Cur.up7 {u v : World} {G : Nat} {a : Option Addr} {len cap : Nat} (h : Cur u G a len cap) (hb : Below u.heap.size u v) : Cur v G a len cap := by
  obtain ⟨p, q, h1, h⟩ := h
  exact ⟨p, q, h1, by rw [hb.block G (Array.getElem?_eq_some_iff.1 h).1]; exact h⟩
theorem Code.up7 {u v : World} {G : Nat} {a : Option Addr} {len : Nat} (h : Code u G a len) (hb : Below u.heap.size u v) : Code v G a len :=
  h.kept ⟨hb.os, hb.tape, hb.output, hb.size, fun k hk _ => hb.block k hk⟩
theorem big7_any (w : World) (a : Option Addr) (len cap : Nat) : Calls Try.prog 5 #[.slice a len cap] w fun e w' => e = .returned (.bool (decide ((1048576 : Int) < (len : Int)))) ∧ w' = w := by
  go_enter Try.func5, Try.ntmps5
  go_wp2
  go_ret
  exact ⟨rfl, rfl⟩
theorem five_cells7 (w : World) (z0 z1 z2 z3 z4 : Int) (t : TypeId) : ∀ j, j < 5 → ∃ z : Int, (w.alloc (.cells #[.int .i64 z0, .int .i64 z1, .int .i64 z2, .int .i64 z3, .int .i64 z4] t)).cell? ⟨w.heap.size, j, none⟩ = some (.int .i64 z) := by
  intro j hj
  rw [cell_of_row _ w.heap.size j _ t (0, 0) (heap_alloc_new w _)]
  rcases (show j = 0 ∨ j = 1 ∨ j = 2 ∨ j = 3 ∨ j = 4 from by omega) with rfl | rfl | rfl | rfl | rfl <;> exact ⟨_, rfl⟩
theorem Drawn.from7 {w w' : World} {o : Obj} {G : Nat} {a : Option Addr} {len cap : Nat} (h : Drawn (w.alloc o) w' G a len cap) : Drawn w w' G a len cap := ⟨h.cur, h.code, grownT (World.grownBy_alloc w o (some G)) h.grown⟩
theorem Cur.lt7 {u : World} {G : Nat} {a : Option Addr} {len cap : Nat} (h : Cur u G a len cap) : G < u.heap.size := by
  obtain ⟨p, q, _, h⟩ := h
  exact (Array.getElem?_eq_some_iff.1 h).1
set_option maxRecDepth 100000 in
set_option maxHeartbeats 8000000 in
theorem l01Place7_any (n : Int) (h0 : 0 < n) (h1 : n ≤ 1000000) (w : World) (G : Nat) (a : Option Addr) (len cap : Nat) (hl : len ≤ 1048576) (hcur : Cur w G a len cap) (hcode : Code w G a len) :
    Calls Try.prog 19 #[.pointer (some ⟨G, 0, none⟩), .int .i64 n] w fun e w' => ∃ x : Int, e = .returned (.int .i64 x) ∧ Drawn w w' G a len cap := by
  have hG := hcur.lt7
  have HO := hideIt (l01Once_any 15 (by omega) (by omega) w G a len cap hl hcur hcode)
  clear hcur hcode
  have hw : IntKind.i64.wrap (n + 1) = n + 1 := by rw [IntKind.wrap_i64]; omega
  go_enter Try.func19, Try.ntmps19
  go_wp2_with (go_at_call 58; refine HO.out.mono ?_; rintro e w1 ⟨b, rfl, hd⟩; refine Hid.out ?_)
  refine (show ∀ {p : Prop}, p → Hid p from fun h => h) ?_
  have hs1 := hd.grown.size
  have HD := hideIt hd
  clear hd HO
  cases b with
  | true =>
    have HP := hideIt (l01PickInt_any w1.heap.size 5 5 (by omega) (by omega) _ G a len cap hl (HD.out.cur.up7 ((Below.refl _ _).alloc (Nat.le_refl _) (.cells #[.int .i64 (-1), .int .i64 n, .int .i64 (n + 1), .int .i64 9223372036854775807, .int .i64 (-9223372036854775808)] 3))) (HD.out.code.up7 ((Below.refl _ _).alloc (Nat.le_refl _) _)) (by simp) (by omega) (five_cells7 w1 _ _ _ _ _ 3))
    go_wp2_with (go_at_call 59; refine HP.out.mono ?_; rintro e w2 ⟨y, rfl, hd2⟩)
    go_ret
    exact ⟨_, rfl, HD.out.trans hd2.from7⟩
  | false =>
    have HP := hideIt (l01Below_any n h0 (by omega) w1 G a len cap hl HD.out.cur HD.out.code)
    go_wp2_with (go_at_call 60; refine HP.out.mono ?_; rintro e w2 ⟨y, hy, rfl, hd2⟩)
    go_ret
    exact ⟨_, rfl, HD.out.trans hd2⟩
end Go.Proofs.Ytiidomopnmjhbaa
