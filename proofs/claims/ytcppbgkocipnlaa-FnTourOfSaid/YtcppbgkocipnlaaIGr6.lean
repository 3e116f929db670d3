/- The program's GraphOk and HasEdge. -/
import Derived.Test.YtcppbgkocipnlaaGr6
namespace Go.Proofs.Ytcppbgkocipnlaa
open Go.RowKit

theorem cmpE_ge (d e : EdgeV) (b : Bool) (h : lt d e = b) : decide (0 ≤ cmpE d e) = !b := by
  cases b with
  | true => have := (cmpE_neg d e).2 h; simp; omega
  | false =>
    have : ¬ cmpE d e < 0 := fun h2 => by rw [(cmpE_neg d e).1 h2] at h; cases h
    simp; omega

set_option maxRecDepth 100000 in
set_option maxHeartbeats 2000000 in
theorem edgesOk_any (N : Int) (es : List EdgeV) (n : Nat) (a : Option Addr) (c : Nat) (hn : n ≤ 1048576) (w : World) (h : Es w w.heap.size a n es) :
    Calls Try.prog 105 #[.int .i64 N, .slice a n c] w fun e w' => e = .returned (.bool (chk N es && decide (es.length ≤ 66))) ∧ Below w.heap.size w w' := by
  obtain ⟨hlen, hrow⟩ := h
  have HR := hideIt hrow
  clear hrow
  by_cases g66 : 66 < n
  · have d66 : decide ((66 : Int) < (n : Int)) = true := decide_eq_true (by omega)
    have HG : Hid (decide (es.length ≤ 66) = false) := decide_eq_false (by omega)
    go_enter Try.func105, Try.ntmps105
    go_wp2
    go_ret
    exact ⟨by rw [HG.out]; simp, Below.refl _ _⟩
  · have d66 : decide ((66 : Int) < (n : Int)) = false := decide_eq_false (by omega)
    have HG : Hid (decide (es.length ≤ 66) = true) := decide_eq_true (by omega)
    go_enter Try.func105, Try.ntmps105
    go_wp2
    go_loopw [12] (fun i wr => ∃ k : Nat, k ≤ n ∧ i = .int .i64 (k : Int) ∧ Hid (∀ j, j < k → chkAt N es j = true) ∧ Below w.heap.size w wr) (fun i _ => n - (intOf i).toNat)
    case atStart => exact ⟨0, by omega, rfl, fun j hj => by omega, Below.refl _ _⟩
    case round =>
      obtain ⟨k, hk, rfl, hck, hb⟩ := hrel
      by_cases hlt : k < n
      · rcases HR.out with hz | ⟨b, off, rfl, hbl, hc⟩
        · omega
        · obtain ⟨f, hf⟩ : ∃ f, es[k]? = some f := ⟨es[k]'(by omega), List.getElem?_eq_getElem (by omega)⟩
          obtain ⟨c0, c1⟩ := hc k f hf
          have e0 : wr.cell? ⟨b, off + k * 2, none⟩ = some (.int .i64 f.1) := by rw [hb.cell hbl]; exact c0
          have e1 : wr.cell? ⟨b, off + k * 2 + 1, none⟩ = some (.int .i64 f.2) := by rw [hb.cell hbl]; exact c1
          have b1 : (0 : Int) ≤ (k : Int) := by omega
          have b2 : (k : Int) < (n : Int) := by omega
          have z0 : wr.heap.size < (wr.alloc (.cells #[.int .i64 f.1, .int .i64 f.2] 40)).heap.size := by simp
          have hb5 : Below w.heap.size w (wr.alloc (.cells #[.int .i64 f.1, .int .i64 f.2] 40)) := hb.alloc hb.size _
          have hbd : Below (wr.alloc (.cells #[.int .i64 f.1, .int .i64 f.2] 40)).heap.size (wr.alloc (.cells #[.int .i64 f.1, .int .i64 f.2] 40)) (wr.alloc (.cells #[.int .i64 f.1, .int .i64 f.2] 40)).drew := (Below.refl _ _).drew
          have HZ := hideIt (fun W (hW : Below (wr.alloc (.cells #[.int .i64 f.1, .int .i64 f.2] 40)).heap.size (wr.alloc (.cells #[.int .i64 f.1, .int .i64 f.2] 40)) W) => hb5.trans (hW.mono hb5.size))
          have HE : Hid (∀ W : World, Below (wr.alloc (.cells #[.int .i64 f.1, .int .i64 f.2] 40)).heap.size (wr.alloc (.cells #[.int .i64 f.1, .int .i64 f.2] 40)) W → Calls Try.prog 65 #[.int .i64 N, .agg #[.int .i64 f.1, .int .i64 f.2]] W fun e w' => e = .returned (.bool (eB N f)) ∧ Below (wr.alloc (.cells #[.int .i64 f.1, .int .i64 f.2] 40)).heap.size (wr.alloc (.cells #[.int .i64 f.1, .int .i64 f.2] 40)) w') := fun W hW =>
            (iEdgeOk_any N f W).mono fun _ _ ⟨he, hb'⟩ => ⟨he, hW.trans (hb'.mono hW.size)⟩
          have HK : Hid (∀ W : World, Below (wr.alloc (.cells #[.int .i64 f.1, .int .i64 f.2] 40)).heap.size (wr.alloc (.cells #[.int .i64 f.1, .int .i64 f.2] 40)) W → (W.cell? ⟨wr.heap.size, 0, none⟩ = some (.int .i64 f.1) ∧ W.cell? ⟨wr.heap.size, 1, none⟩ = some (.int .i64 f.2))) := fun W hW =>
            ⟨by rw [hW.cell z0]; simp, by rw [hW.cell z0]; simp⟩
          cases hE : eB N f with
          | false =>
            rw [hE] at HE
            have HN := hideIt (chk_no (by omega : k < es.length) (chkAt_no hf hE))
            clear hf hc c0 c1 hE hck
            go_wp2
            refine wp_region_any (by kernel_rfl) ?_
            change wpAny _ _ _ _ _ _ _ (World.drew _)
            refine takeOp (i := 0) (v := ?_) rfl (by kernel_rfl) (by kernel_rfl) (by kernel_rfl) (fun _ _ _ h => h) (by kernel_rfl) ?_ ?_
            rotate_left
            · intro w; go_simp; try with_reducible rfl
            refine wpAny_ready (rs := [1]) (by kernel_rfl) (by simp) ?_
            refine AllReady.cons rfl (fun K hK => ?_) AllReady.nil
            go_simp
            refine hK _ _ ?_
            clear hK K
            refine wpAny_ready (rs := [2]) (by kernel_rfl) (by simp) ?_
            refine AllReady.cons rfl (fun K hK => ?_) AllReady.nil
            go_wp2_with (go_at_call 65; refine (HE.out _ hbd).mono ?_; rintro e w1 ⟨rfl, hb3⟩; refine Hid.out ?_)
            refine (show ∀ {p : Prop}, p → Hid p from fun h => h) ?_
            try refine hK _ _ ?_
            clear hK K
            refine wpAny_ready (rs := [3]) (by kernel_rfl) (by simp) ?_
            refine AllReady.cons rfl (fun K hK => ?_) AllReady.nil
            go_simp
            refine hK _ _ ?_
            clear hK K
            refine wpAny_ready (rs := [4]) (by kernel_rfl) (by simp) ?_
            refine AllReady.cons rfl (fun K hK => ?_) AllReady.nil
            go_simp
            refine hK _ _ ?_
            clear hK K
            refine skipOp (i := 5) rfl (by kernel_rfl) (by kernel_rfl) (by kernel_rfl) (fun _ _ _ h => h) (by kernel_rfl) ?_
            refine skipOp (i := 6) rfl (by kernel_rfl) (by kernel_rfl) (by kernel_rfl) (fun _ _ _ h => h) (by kernel_rfl) ?_
            refine skipOp (i := 7) rfl (by kernel_rfl) (by kernel_rfl) (by kernel_rfl) (fun _ _ _ h => h) (by kernel_rfl) ?_
            refine skipOp (i := 8) rfl (by kernel_rfl) (by kernel_rfl) (by kernel_rfl) (fun _ _ _ h => h) (by kernel_rfl) ?_
            refine skipOp (i := 9) rfl (by kernel_rfl) (by kernel_rfl) (by kernel_rfl) (fun _ _ _ h => h) (by kernel_rfl) ?_
            refine skipOp (i := 10) rfl (by kernel_rfl) (by kernel_rfl) (by kernel_rfl) (fun _ _ _ h => h) (by kernel_rfl) ?_
            refine skipOp (i := 11) rfl (by kernel_rfl) (by kernel_rfl) (by kernel_rfl) (fun _ _ _ h => h) (by kernel_rfl) ?_
            refine skipOp (i := 12) rfl (by kernel_rfl) (by kernel_rfl) (by kernel_rfl) (fun _ _ _ h => h) (by kernel_rfl) ?_
            refine skipOp (i := 13) rfl (by kernel_rfl) (by kernel_rfl) (by kernel_rfl) (fun _ _ _ h => h) (by kernel_rfl) ?_
            refine skipOp (i := 14) rfl (by kernel_rfl) (by kernel_rfl) (by kernel_rfl) (fun _ _ _ h => h) (by kernel_rfl) ?_
            refine skipOp (i := 15) rfl (by kernel_rfl) (by kernel_rfl) (by kernel_rfl) (fun _ _ _ h => h) (by kernel_rfl) ?_
            refine skipOp (i := 16) rfl (by kernel_rfl) (by kernel_rfl) (by kernel_rfl) (fun _ _ _ h => h) (by kernel_rfl) ?_
            refine wpAny_ready (rs := [17]) (by kernel_rfl) (by simp) ?_
            refine AllReady.cons rfl (fun K hK => ?_) AllReady.nil
            go_simp
            refine hK _ _ ?_
            clear hK K
            refine wpAny_done (by kernel_rfl) ?_ _
            go_wp2
            go_ret
            exact ⟨by rw [HN.out]; rfl, HZ.out _ hb3⟩
          | true =>
            rw [hE] at HE
            rcases k with _ | i
            · have HY := hideIt (show chkAt N es 0 = true by rw [chkAt_zero hf]; exact hE)
              clear hf hc c0 c1 hE
              rw [Nat.zero_mul, Nat.add_zero] at e0 e1
              go_wp2
              refine wp_region_any (by kernel_rfl) ?_
              change wpAny _ _ _ _ _ _ _ (World.drew _)
              refine takeOp (i := 0) (v := ?_) rfl (by kernel_rfl) (by kernel_rfl) (by kernel_rfl) (fun _ _ _ h => h) (by kernel_rfl) ?_ ?_
              rotate_left
              · intro w; go_simp; try with_reducible rfl
              refine wpAny_ready (rs := [1]) (by kernel_rfl) (by simp) ?_
              refine AllReady.cons rfl (fun K hK => ?_) AllReady.nil
              go_simp
              refine hK _ _ ?_
              clear hK K
              refine wpAny_ready (rs := [2]) (by kernel_rfl) (by simp) ?_
              refine AllReady.cons rfl (fun K hK => ?_) AllReady.nil
              go_wp2_with (go_at_call 65; refine (HE.out _ hbd).mono ?_; rintro e w1 ⟨rfl, hb3⟩; refine Hid.out ?_)
              refine (show ∀ {p : Prop}, p → Hid p from fun h => h) ?_
              try refine hK _ _ ?_
              clear hK K
              refine wpAny_ready (rs := [3]) (by kernel_rfl) (by simp) ?_
              refine AllReady.cons rfl (fun K hK => ?_) AllReady.nil
              go_simp
              refine hK _ _ ?_
              clear hK K
              refine wpAny_ready (rs := [4]) (by kernel_rfl) (by simp) ?_
              refine AllReady.cons rfl (fun K hK => ?_) AllReady.nil
              go_simp
              refine hK _ _ ?_
              clear hK K
              refine wpAny_ready (rs := [5]) (by kernel_rfl) (by simp) ?_
              refine AllReady.cons rfl (fun K hK => ?_) AllReady.nil
              go_simp
              refine hK _ _ ?_
              clear hK K
              refine wpAny_ready (rs := [6]) (by kernel_rfl) (by simp) ?_
              refine AllReady.cons rfl (fun K hK => ?_) AllReady.nil
              go_simp
              refine hK _ _ ?_
              clear hK K
              refine wpAny_ready (rs := [7]) (by kernel_rfl) (by simp) ?_
              refine AllReady.cons rfl (fun K hK => ?_) AllReady.nil
              go_simp
              refine hK _ _ ?_
              clear hK K
              refine skipOp (i := 8) rfl (by kernel_rfl) (by kernel_rfl) (by kernel_rfl) (fun _ _ _ h => h) (by kernel_rfl) ?_
              refine skipOp (i := 9) rfl (by kernel_rfl) (by kernel_rfl) (by kernel_rfl) (fun _ _ _ h => h) (by kernel_rfl) ?_
              refine skipOp (i := 10) rfl (by kernel_rfl) (by kernel_rfl) (by kernel_rfl) (fun _ _ _ h => h) (by kernel_rfl) ?_
              refine skipOp (i := 11) rfl (by kernel_rfl) (by kernel_rfl) (by kernel_rfl) (fun _ _ _ h => h) (by kernel_rfl) ?_
              refine skipOp (i := 12) rfl (by kernel_rfl) (by kernel_rfl) (by kernel_rfl) (fun _ _ _ h => h) (by kernel_rfl) ?_
              refine skipOp (i := 13) rfl (by kernel_rfl) (by kernel_rfl) (by kernel_rfl) (fun _ _ _ h => h) (by kernel_rfl) ?_
              refine skipOp (i := 14) rfl (by kernel_rfl) (by kernel_rfl) (by kernel_rfl) (fun _ _ _ h => h) (by kernel_rfl) ?_
              refine skipOp (i := 15) rfl (by kernel_rfl) (by kernel_rfl) (by kernel_rfl) (fun _ _ _ h => h) (by kernel_rfl) ?_
              refine wpAny_ready (rs := [16]) (by kernel_rfl) (by simp) ?_
              refine AllReady.cons rfl (fun K hK => ?_) AllReady.nil
              go_simp
              refine hK _ _ ?_
              clear hK K
              refine wpAny_ready (rs := [17]) (by kernel_rfl) (by simp) ?_
              refine AllReady.cons rfl (fun K hK => ?_) AllReady.nil
              go_simp
              refine hK _ _ ?_
              clear hK K
              refine wpAny_done (by kernel_rfl) ?_ _
              go_wp2
              exact ⟨⟨1, by omega, by go_num, fun j hj => by
                obtain rfl : j = 0 := by omega
                exact HY.out, HZ.out _ hb3⟩, by simp [intOf]; omega⟩
            · obtain ⟨d, hd⟩ : ∃ d, es[i]? = some d := ⟨es[i]'(by omega), List.getElem?_eq_getElem (by omega)⟩
              obtain ⟨c2, c3⟩ := hc i d hd
              have HK2 : Hid (∀ W : World, Below (wr.alloc (.cells #[.int .i64 f.1, .int .i64 f.2] 40)).heap.size (wr.alloc (.cells #[.int .i64 f.1, .int .i64 f.2] 40)) W → (W.cell? ⟨b, off + i * 2, none⟩ = some (.int .i64 d.1) ∧ W.cell? ⟨b, off + i * 2 + 1, none⟩ = some (.int .i64 d.2))) := fun W hW =>
                ⟨by rw [(HZ.out W hW).cell hbl]; exact c2, by rw [(HZ.out W hW).cell hbl]; exact c3⟩
              have HC := hideIt (chkAt_succ (n := N) hf hd)
              have HL2 : Hid (∀ W : World, Below (wr.alloc (.cells #[.int .i64 f.1, .int .i64 f.2] 40)).heap.size (wr.alloc (.cells #[.int .i64 f.1, .int .i64 f.2] 40)) W → Calls Try.prog 46 #[.agg #[.int .i64 d.1, .int .i64 d.2], .agg #[.int .i64 f.1, .int .i64 f.2]] W fun e w' => e = .returned (.int .i64 (cmpE d f)) ∧ Below (wr.alloc (.cells #[.int .i64 f.1, .int .i64 f.2] 40)).heap.size (wr.alloc (.cells #[.int .i64 f.1, .int .i64 f.2] 40)) w') := fun W hW =>
                (compareEdges_any d f W).mono fun _ _ ⟨he, hb'⟩ => ⟨he, hW.trans (hb'.mono hW.size)⟩
              have HE0 := hideIt hE
              have ek : ((i + 1 : Nat) : Int) = (i : Int) + 1 := by omega
              rw [ek] at b1 b2
              have b3 : (0 : Int) ≤ (i : Int) := by omega
              have b4 : (i : Int) < (n : Int) := by omega
              have tn : ((i : Int) + 1).toNat = i + 1 := by omega
              have d0 : decide ((0 : Int) < (i : Int) + 1) = true := decide_eq_true (by omega)
              have hw1 : IntKind.i64.wrap (i : Int) = (i : Int) := by rw [IntKind.wrap_i64]; omega
              rw [ek]
              clear ek hf hd hc c0 c1 c2 c3 hE
              cases hL : lt d f with
              | true =>
                have dc := cmpE_ge d f true hL
                have HY := hideIt (show chkAt N es (i + 1) = true by rw [HC.out, HE0.out, hL]; rfl)
                clear HC hL HE0
                generalize cmpE d f = cv at HL2 dc
                go_wp2
                go_region_held3 (fun u => Below (wr.alloc (.cells #[.int .i64 f.1, .int .i64 f.2] 40)).heap.size (wr.alloc (.cells #[.int .i64 f.1, .int .i64 f.2] 40)) u ∧ (u.cell? ⟨wr.heap.size, 0, none⟩ = some (.int .i64 f.1) ∧ u.cell? ⟨wr.heap.size, 1, none⟩ = some (.int .i64 f.2)) ∧ u.cell? ⟨b, off + i * 2, none⟩ = some (.int .i64 d.1) ∧ u.cell? ⟨b, off + i * 2 + 1, none⟩ = some (.int .i64 d.2))
                  (first | exact ⟨hb4, HK.out _ hb4, HK2.out _ hb4⟩ | exact ⟨hb3, HK.out _ hb3, HK2.out _ hb3⟩ | exact ⟨hbd, HK.out _ hbd, HK2.out _ hbd⟩)
                  (first
                  | (go_at_call 65; refine (HE.out _ hbd).mono ?_; rintro e w1 ⟨rfl, hb3⟩)
                  | (go_at_call 46; refine (HL2.out _ hb3).mono ?_; rintro e w2 ⟨rfl, hb4⟩))
                all_goals
                  go_wp2
                  exact ⟨⟨i + 2, by omega, by go_num, fun j hj => by
                    by_cases hji : j = i + 1
                    · subst hji; exact HY.out
                    · exact hck.out j (by omega), HZ.out _ hb4⟩, by simp [intOf]; omega⟩
              | false =>
                have dc := cmpE_ge d f false hL
                have HN := hideIt (chk_no (by omega : i + 1 < es.length) (show chkAt N es (i + 1) = false by rw [HC.out, HE0.out, hL]; rfl))
                clear HC hL HE0
                generalize cmpE d f = cv at HL2 dc
                go_wp2
                go_region_held3 (fun u => Below (wr.alloc (.cells #[.int .i64 f.1, .int .i64 f.2] 40)).heap.size (wr.alloc (.cells #[.int .i64 f.1, .int .i64 f.2] 40)) u ∧ (u.cell? ⟨wr.heap.size, 0, none⟩ = some (.int .i64 f.1) ∧ u.cell? ⟨wr.heap.size, 1, none⟩ = some (.int .i64 f.2)) ∧ u.cell? ⟨b, off + i * 2, none⟩ = some (.int .i64 d.1) ∧ u.cell? ⟨b, off + i * 2 + 1, none⟩ = some (.int .i64 d.2))
                  (first | exact ⟨hb4, HK.out _ hb4, HK2.out _ hb4⟩ | exact ⟨hb3, HK.out _ hb3, HK2.out _ hb3⟩ | exact ⟨hbd, HK.out _ hbd, HK2.out _ hbd⟩)
                  (first
                  | (go_at_call 65; refine (HE.out _ hbd).mono ?_; rintro e w1 ⟨rfl, hb3⟩)
                  | (go_at_call 46; refine (HL2.out _ hb3).mono ?_; rintro e w2 ⟨rfl, hb4⟩))
                all_goals
                  go_wp2
                  go_ret
                  exact ⟨by rw [HN.out]; rfl, HZ.out _ hb4⟩
      · have HY := hideIt (chk_yes (n := N) (es := es) (fun j hj => hck.out j (by omega)))
        clear hck
        go_wp2
        go_ret
        exact ⟨by rw [HY.out, HG.out]; rfl, hb⟩

set_option maxHeartbeats 1000000 in
theorem iGraphOk_any (N : Int) (es : List EdgeV) (n : Nat) (a : Option Addr) (c : Nat) (hn : n ≤ 1048576) (w : World) (h : Es w w.heap.size a n es) :
    Calls Try.prog 84 #[.agg #[.int .i64 N, .slice a n c]] w fun e w' => e = .returned (.bool (gB N es)) ∧ Below w.heap.size w w' := by
  have HT := hideIt (edgesOk_any N es n a c hn (w.alloc (.cells #[.int .i64 N, .slice a n c] 65)) ((h.alloc (Nat.le_refl _) _).mono (by simp)))
  have HI := hideIt vertsOk_any
  clear h
  by_cases h1 : 1 ≤ N ∧ N ≤ 12
  · have r1 : decide (1 ≤ N ∧ N ≤ 12) = true := by simpa using h1
    have HG : Hid (gB N es = (chk N es && decide (es.length ≤ 66))) := by show _ = _; unfold gB; rw [r1]; rfl
    generalize (chk N es && decide (es.length ≤ 66)) = r at HG HT
    go_enter Try.func84, Try.ntmps84
    go_wp2_with (first | (go_at_call 64; refine (HI.out _ _).mono ?_; rintro e w1 ⟨rfl, rfl⟩) | (go_at_call 105; refine HT.out.mono ?_; rintro e w2 ⟨rfl, hb2⟩))
    go_ret
    exact ⟨by rw [HG.out]; rfl, ((Below.refl _ _).alloc (Nat.le_refl _) _).trans (hb2.mono (by simp))⟩
  · have r1 : decide (1 ≤ N ∧ N ≤ 12) = false := by simpa using h1
    have HG : Hid (gB N es = false) := by show _ = _; unfold gB; rw [r1]; rfl
    clear HT
    go_enter Try.func84, Try.ntmps84
    go_wp2_with (go_at_call 64; refine (HI.out _ _).mono ?_; rintro e w1 ⟨rfl, rfl⟩)
    go_ret
    exact ⟨by rw [HG.out]; rfl, (Below.refl _ _).alloc (Nat.le_refl _) _⟩
end Go.Proofs.Ytcppbgkocipnlaa
