/- The program's GraphOk and HasEdge. An edge is put into a list of edges. slices.Values over edges, and slices.Collect of it: each edge, in order, in a list of its own. The library's sorting by a comparison, at this program, by the shelf's own laying in plain words. slices.SortedFunc of a list of edges by compareEdges: the edges ascending, in a list of their own. A graph in a box of its own. -/
import Derived.Test.YtpfkfbmghddepaaGreatKWb9
import Derived.Test.YtpfkfbmghddepaaGreatKLd9
import Derived.Deep.AppendLies
import Derived.RangeFuncNested
import Derived.RangeFuncBound
import Derived.RangeFuncCalls
import Derived.RangeFuncLeaves
import Derived.RangeFuncBox
import Derived.Shelf.Abstract
import Derived.Shelf.RegionOpen
import Derived.WalkKit
import Derived.OwnWalkIn
import Derived.TacticsInMore
import Derived.LoopNIn
import Derived.LoopIn
import Derived.Maps.AppendAt
import Derived.Shelf.SlSortCmp.NoneTotal
import Derived.Test.YtpfkfbmghddepaaGreatProg
import Derived.Test.YtpfkfbmghddepaaGreatKMem6
namespace Go.Proofs.YtpfkfbmghddepaaGreat
open Go.RowKit

theorem cmpE_ge (d e : EdgeV) (b : Bool) (h : lt d e = b) : decide (0 ≤ cmpE d e) = !b := by
  cases b with
  | true => have := (cmpE_neg d e).2 h; simp; omega
  | false =>
    have : ¬ cmpE d e < 0 := fun h2 => by rw [(cmpE_neg d e).1 h2] at h; cases h
    simp; omega

set_option maxRecDepth 100000 in
set_option maxHeartbeats 2000000 in
theorem edgesOk_any (N : Int) (es : List EdgeV) (n : Nat) (a : Option Addr) (c : Nat) (hn : n ≤ 1048576) (w : World) (h : Es w w.heap.size a n es) :
    Calls Tryz.prog 146 #[.int .i64 N, .slice a n c] w fun e w' => e = .returned (.bool (chk N es && decide (es.length ≤ 66))) ∧ Below w.heap.size w w' := by
  obtain ⟨hlen, hrow⟩ := h
  have HR := hideIt hrow
  clear hrow
  by_cases g66 : 66 < n
  · have d66 : decide ((66 : Int) < (n : Int)) = true := decide_eq_true (by omega)
    have HG : Hid (decide (es.length ≤ 66) = false) := decide_eq_false (by omega)
    go_enter Tryz.func146, Tryz.ntmps146
    go_wp2
    go_ret
    exact ⟨by rw [HG.out]; simp, Below.refl _ _⟩
  · have d66 : decide ((66 : Int) < (n : Int)) = false := decide_eq_false (by omega)
    have HG : Hid (decide (es.length ≤ 66) = true) := decide_eq_true (by omega)
    go_enter Tryz.func146, Tryz.ntmps146
    go_wp2
    go_loopw [12] (fun i wr => ∃ k : Nat, k ≤ n ∧ i = .int .i64 (k : Int) ∧ Hid (∀ j, j < k → chkAt N es j = true) ∧ Below w.heap.size w wr) (fun i _ => n - (intOf i).toNat)
    case atStart => exact ⟨0, by omega, rfl, fun j hj => by omega, Below.refl _ _⟩
    case round =>
      obtain ⟨k, hk, rfl, hck, hb⟩ := hrel
      by_cases hlt : k < n
      · rcases HR.out with hz | ⟨b, off, rfl, hbl, hc⟩
        · omega
        · obtain ⟨f, hf⟩ : ∃ f, es[k]? = some f := ⟨es[k]'(by omega), List.getElem?_eq_getElem (by omega)⟩
          obtain ⟨c0, c1⟩ := hc k f hf
          have e0 : wr.cell? ⟨b, off + k * 2, none⟩ = some (.int .i64 f.1) := by rw [hb.cell hbl]; exact c0
          have e1 : wr.cell? ⟨b, off + k * 2 + 1, none⟩ = some (.int .i64 f.2) := by rw [hb.cell hbl]; exact c1
          have b1 : (0 : Int) ≤ (k : Int) := by omega
          have b2 : (k : Int) < (n : Int) := by omega
          have z0 : wr.heap.size < (wr.alloc (.cells #[.int .i64 f.1, .int .i64 f.2] 28)).heap.size := by simp
          have hb5 : Below w.heap.size w (wr.alloc (.cells #[.int .i64 f.1, .int .i64 f.2] 28)) := hb.alloc hb.size _
          have hbd : Below (wr.alloc (.cells #[.int .i64 f.1, .int .i64 f.2] 28)).heap.size (wr.alloc (.cells #[.int .i64 f.1, .int .i64 f.2] 28)) (wr.alloc (.cells #[.int .i64 f.1, .int .i64 f.2] 28)).drew := (Below.refl _ _).drew
          have HZ := hideIt (fun W (hW : Below (wr.alloc (.cells #[.int .i64 f.1, .int .i64 f.2] 28)).heap.size (wr.alloc (.cells #[.int .i64 f.1, .int .i64 f.2] 28)) W) => hb5.trans (hW.mono hb5.size))
          have HE : Hid (∀ W : World, Below (wr.alloc (.cells #[.int .i64 f.1, .int .i64 f.2] 28)).heap.size (wr.alloc (.cells #[.int .i64 f.1, .int .i64 f.2] 28)) W → Calls Tryz.prog 140 #[.int .i64 N, .agg #[.int .i64 f.1, .int .i64 f.2]] W fun e w' => e = .returned (.bool (eB N f)) ∧ Below (wr.alloc (.cells #[.int .i64 f.1, .int .i64 f.2] 28)).heap.size (wr.alloc (.cells #[.int .i64 f.1, .int .i64 f.2] 28)) w') := fun W hW =>
            (iEdgeOk_any N f W).mono fun _ _ ⟨he, hb'⟩ => ⟨he, hW.trans (hb'.mono hW.size)⟩
          have HK : Hid (∀ W : World, Below (wr.alloc (.cells #[.int .i64 f.1, .int .i64 f.2] 28)).heap.size (wr.alloc (.cells #[.int .i64 f.1, .int .i64 f.2] 28)) W → (W.cell? ⟨wr.heap.size, 0, none⟩ = some (.int .i64 f.1) ∧ W.cell? ⟨wr.heap.size, 1, none⟩ = some (.int .i64 f.2))) := fun W hW =>
            ⟨by rw [hW.cell z0]; simp, by rw [hW.cell z0]; simp⟩
          cases hE : eB N f with
          | false =>
            rw [hE] at HE
            have HN := hideIt (chk_no (by omega : k < es.length) (chkAt_no hf hE))
            clear hf hc c0 c1 hE hck
            go_wp2
            refine wp_region_any (by kernel_rfl) ?_
            change wpAny _ _ _ _ _ _ _ (World.drew _)
            refine takeOp (i := 0) (v := ?_) rfl (by kernel_rfl) (by kernel_rfl) (by kernel_rfl) (fun _ _ _ h => h) (by kernel_rfl) ?_ ?_
            rotate_left
            · intro w; go_simp; try with_reducible rfl
            refine wpAny_ready (rs := [1]) (by kernel_rfl) (by simp) ?_
            refine AllReady.cons rfl (fun K hK => ?_) AllReady.nil
            go_simp
            refine hK _ _ ?_
            clear hK K
            refine wpAny_ready (rs := [2]) (by kernel_rfl) (by simp) ?_
            refine AllReady.cons rfl (fun K hK => ?_) AllReady.nil
            go_wp2_with (go_at_call 140; refine (HE.out _ hbd).mono ?_; rintro e w1 ⟨rfl, hb3⟩; refine Hid.out ?_)
            refine (show ∀ {p : Prop}, p → Hid p from fun h => h) ?_
            try refine hK _ _ ?_
            clear hK K
            refine wpAny_ready (rs := [3]) (by kernel_rfl) (by simp) ?_
            refine AllReady.cons rfl (fun K hK => ?_) AllReady.nil
            go_simp
            refine hK _ _ ?_
            clear hK K
            refine wpAny_ready (rs := [4]) (by kernel_rfl) (by simp) ?_
            refine AllReady.cons rfl (fun K hK => ?_) AllReady.nil
            go_simp
            refine hK _ _ ?_
            clear hK K
            refine skipOp (i := 5) rfl (by kernel_rfl) (by kernel_rfl) (by kernel_rfl) (fun _ _ _ h => h) (by kernel_rfl) ?_
            refine skipOp (i := 6) rfl (by kernel_rfl) (by kernel_rfl) (by kernel_rfl) (fun _ _ _ h => h) (by kernel_rfl) ?_
            refine skipOp (i := 7) rfl (by kernel_rfl) (by kernel_rfl) (by kernel_rfl) (fun _ _ _ h => h) (by kernel_rfl) ?_
            refine skipOp (i := 8) rfl (by kernel_rfl) (by kernel_rfl) (by kernel_rfl) (fun _ _ _ h => h) (by kernel_rfl) ?_
            refine skipOp (i := 9) rfl (by kernel_rfl) (by kernel_rfl) (by kernel_rfl) (fun _ _ _ h => h) (by kernel_rfl) ?_
            refine skipOp (i := 10) rfl (by kernel_rfl) (by kernel_rfl) (by kernel_rfl) (fun _ _ _ h => h) (by kernel_rfl) ?_
            refine skipOp (i := 11) rfl (by kernel_rfl) (by kernel_rfl) (by kernel_rfl) (fun _ _ _ h => h) (by kernel_rfl) ?_
            refine skipOp (i := 12) rfl (by kernel_rfl) (by kernel_rfl) (by kernel_rfl) (fun _ _ _ h => h) (by kernel_rfl) ?_
            refine skipOp (i := 13) rfl (by kernel_rfl) (by kernel_rfl) (by kernel_rfl) (fun _ _ _ h => h) (by kernel_rfl) ?_
            refine skipOp (i := 14) rfl (by kernel_rfl) (by kernel_rfl) (by kernel_rfl) (fun _ _ _ h => h) (by kernel_rfl) ?_
            refine skipOp (i := 15) rfl (by kernel_rfl) (by kernel_rfl) (by kernel_rfl) (fun _ _ _ h => h) (by kernel_rfl) ?_
            refine skipOp (i := 16) rfl (by kernel_rfl) (by kernel_rfl) (by kernel_rfl) (fun _ _ _ h => h) (by kernel_rfl) ?_
            refine wpAny_ready (rs := [17]) (by kernel_rfl) (by simp) ?_
            refine AllReady.cons rfl (fun K hK => ?_) AllReady.nil
            go_simp
            refine hK _ _ ?_
            clear hK K
            refine wpAny_done (by kernel_rfl) ?_ _
            go_wp2
            go_ret
            exact ⟨by rw [HN.out]; rfl, HZ.out _ hb3⟩
          | true =>
            rw [hE] at HE
            rcases k with _ | i
            · have HY := hideIt (show chkAt N es 0 = true by rw [chkAt_zero hf]; exact hE)
              clear hf hc c0 c1 hE
              rw [Nat.zero_mul, Nat.add_zero] at e0 e1
              go_wp2
              refine wp_region_any (by kernel_rfl) ?_
              change wpAny _ _ _ _ _ _ _ (World.drew _)
              refine takeOp (i := 0) (v := ?_) rfl (by kernel_rfl) (by kernel_rfl) (by kernel_rfl) (fun _ _ _ h => h) (by kernel_rfl) ?_ ?_
              rotate_left
              · intro w; go_simp; try with_reducible rfl
              refine wpAny_ready (rs := [1]) (by kernel_rfl) (by simp) ?_
              refine AllReady.cons rfl (fun K hK => ?_) AllReady.nil
              go_simp
              refine hK _ _ ?_
              clear hK K
              refine wpAny_ready (rs := [2]) (by kernel_rfl) (by simp) ?_
              refine AllReady.cons rfl (fun K hK => ?_) AllReady.nil
              go_wp2_with (go_at_call 140; refine (HE.out _ hbd).mono ?_; rintro e w1 ⟨rfl, hb3⟩; refine Hid.out ?_)
              refine (show ∀ {p : Prop}, p → Hid p from fun h => h) ?_
              try refine hK _ _ ?_
              clear hK K
              refine wpAny_ready (rs := [3]) (by kernel_rfl) (by simp) ?_
              refine AllReady.cons rfl (fun K hK => ?_) AllReady.nil
              go_simp
              refine hK _ _ ?_
              clear hK K
              refine wpAny_ready (rs := [4]) (by kernel_rfl) (by simp) ?_
              refine AllReady.cons rfl (fun K hK => ?_) AllReady.nil
              go_simp
              refine hK _ _ ?_
              clear hK K
              refine wpAny_ready (rs := [5]) (by kernel_rfl) (by simp) ?_
              refine AllReady.cons rfl (fun K hK => ?_) AllReady.nil
              go_simp
              refine hK _ _ ?_
              clear hK K
              refine wpAny_ready (rs := [6]) (by kernel_rfl) (by simp) ?_
              refine AllReady.cons rfl (fun K hK => ?_) AllReady.nil
              go_simp
              refine hK _ _ ?_
              clear hK K
              refine wpAny_ready (rs := [7]) (by kernel_rfl) (by simp) ?_
              refine AllReady.cons rfl (fun K hK => ?_) AllReady.nil
              go_simp
              refine hK _ _ ?_
              clear hK K
              refine skipOp (i := 8) rfl (by kernel_rfl) (by kernel_rfl) (by kernel_rfl) (fun _ _ _ h => h) (by kernel_rfl) ?_
              refine skipOp (i := 9) rfl (by kernel_rfl) (by kernel_rfl) (by kernel_rfl) (fun _ _ _ h => h) (by kernel_rfl) ?_
              refine skipOp (i := 10) rfl (by kernel_rfl) (by kernel_rfl) (by kernel_rfl) (fun _ _ _ h => h) (by kernel_rfl) ?_
              refine skipOp (i := 11) rfl (by kernel_rfl) (by kernel_rfl) (by kernel_rfl) (fun _ _ _ h => h) (by kernel_rfl) ?_
              refine skipOp (i := 12) rfl (by kernel_rfl) (by kernel_rfl) (by kernel_rfl) (fun _ _ _ h => h) (by kernel_rfl) ?_
              refine skipOp (i := 13) rfl (by kernel_rfl) (by kernel_rfl) (by kernel_rfl) (fun _ _ _ h => h) (by kernel_rfl) ?_
              refine skipOp (i := 14) rfl (by kernel_rfl) (by kernel_rfl) (by kernel_rfl) (fun _ _ _ h => h) (by kernel_rfl) ?_
              refine skipOp (i := 15) rfl (by kernel_rfl) (by kernel_rfl) (by kernel_rfl) (fun _ _ _ h => h) (by kernel_rfl) ?_
              refine wpAny_ready (rs := [16]) (by kernel_rfl) (by simp) ?_
              refine AllReady.cons rfl (fun K hK => ?_) AllReady.nil
              go_simp
              refine hK _ _ ?_
              clear hK K
              refine wpAny_ready (rs := [17]) (by kernel_rfl) (by simp) ?_
              refine AllReady.cons rfl (fun K hK => ?_) AllReady.nil
              go_simp
              refine hK _ _ ?_
              clear hK K
              refine wpAny_done (by kernel_rfl) ?_ _
              go_wp2
              exact ⟨⟨1, by omega, by go_num, fun j hj => by
                obtain rfl : j = 0 := by omega
                exact HY.out, HZ.out _ hb3⟩, by simp [intOf]; omega⟩
            · obtain ⟨d, hd⟩ : ∃ d, es[i]? = some d := ⟨es[i]'(by omega), List.getElem?_eq_getElem (by omega)⟩
              obtain ⟨c2, c3⟩ := hc i d hd
              have HK2 : Hid (∀ W : World, Below (wr.alloc (.cells #[.int .i64 f.1, .int .i64 f.2] 28)).heap.size (wr.alloc (.cells #[.int .i64 f.1, .int .i64 f.2] 28)) W → (W.cell? ⟨b, off + i * 2, none⟩ = some (.int .i64 d.1) ∧ W.cell? ⟨b, off + i * 2 + 1, none⟩ = some (.int .i64 d.2))) := fun W hW =>
                ⟨by rw [(HZ.out W hW).cell hbl]; exact c2, by rw [(HZ.out W hW).cell hbl]; exact c3⟩
              have HC := hideIt (chkAt_succ (n := N) hf hd)
              have HL2 : Hid (∀ W : World, Below (wr.alloc (.cells #[.int .i64 f.1, .int .i64 f.2] 28)).heap.size (wr.alloc (.cells #[.int .i64 f.1, .int .i64 f.2] 28)) W → Calls Tryz.prog 111 #[.agg #[.int .i64 d.1, .int .i64 d.2], .agg #[.int .i64 f.1, .int .i64 f.2]] W fun e w' => e = .returned (.int .i64 (cmpE d f)) ∧ Below (wr.alloc (.cells #[.int .i64 f.1, .int .i64 f.2] 28)).heap.size (wr.alloc (.cells #[.int .i64 f.1, .int .i64 f.2] 28)) w') := fun W hW =>
                (compareEdges_any d f W).mono fun _ _ ⟨he, hb'⟩ => ⟨he, hW.trans (hb'.mono hW.size)⟩
              have HE0 := hideIt hE
              have ek : ((i + 1 : Nat) : Int) = (i : Int) + 1 := by omega
              rw [ek] at b1 b2
              have b3 : (0 : Int) ≤ (i : Int) := by omega
              have b4 : (i : Int) < (n : Int) := by omega
              have tn : ((i : Int) + 1).toNat = i + 1 := by omega
              have d0 : decide ((0 : Int) < (i : Int) + 1) = true := decide_eq_true (by omega)
              have hw1 : IntKind.i64.wrap (i : Int) = (i : Int) := by rw [IntKind.wrap_i64]; omega
              rw [ek]
              clear ek hf hd hc c0 c1 c2 c3 hE
              cases hL : lt d f with
              | true =>
                have dc := cmpE_ge d f true hL
                have HY := hideIt (show chkAt N es (i + 1) = true by rw [HC.out, HE0.out, hL]; rfl)
                clear HC hL HE0
                generalize cmpE d f = cv at HL2 dc
                go_wp2
                go_region_held3 (fun u => Below (wr.alloc (.cells #[.int .i64 f.1, .int .i64 f.2] 28)).heap.size (wr.alloc (.cells #[.int .i64 f.1, .int .i64 f.2] 28)) u ∧ (u.cell? ⟨wr.heap.size, 0, none⟩ = some (.int .i64 f.1) ∧ u.cell? ⟨wr.heap.size, 1, none⟩ = some (.int .i64 f.2)) ∧ u.cell? ⟨b, off + i * 2, none⟩ = some (.int .i64 d.1) ∧ u.cell? ⟨b, off + i * 2 + 1, none⟩ = some (.int .i64 d.2))
                  (first | exact ⟨hb4, HK.out _ hb4, HK2.out _ hb4⟩ | exact ⟨hb3, HK.out _ hb3, HK2.out _ hb3⟩ | exact ⟨hbd, HK.out _ hbd, HK2.out _ hbd⟩)
                  (first
                  | (go_at_call 140; refine (HE.out _ hbd).mono ?_; rintro e w1 ⟨rfl, hb3⟩)
                  | (go_at_call 111; refine (HL2.out _ hb3).mono ?_; rintro e w2 ⟨rfl, hb4⟩))
                all_goals
                  go_wp2
                  exact ⟨⟨i + 2, by omega, by go_num, fun j hj => by
                    by_cases hji : j = i + 1
                    · subst hji; exact HY.out
                    · exact hck.out j (by omega), HZ.out _ hb4⟩, by simp [intOf]; omega⟩
              | false =>
                have dc := cmpE_ge d f false hL
                have HN := hideIt (chk_no (by omega : i + 1 < es.length) (show chkAt N es (i + 1) = false by rw [HC.out, HE0.out, hL]; rfl))
                clear HC hL HE0
                generalize cmpE d f = cv at HL2 dc
                go_wp2
                go_region_held3 (fun u => Below (wr.alloc (.cells #[.int .i64 f.1, .int .i64 f.2] 28)).heap.size (wr.alloc (.cells #[.int .i64 f.1, .int .i64 f.2] 28)) u ∧ (u.cell? ⟨wr.heap.size, 0, none⟩ = some (.int .i64 f.1) ∧ u.cell? ⟨wr.heap.size, 1, none⟩ = some (.int .i64 f.2)) ∧ u.cell? ⟨b, off + i * 2, none⟩ = some (.int .i64 d.1) ∧ u.cell? ⟨b, off + i * 2 + 1, none⟩ = some (.int .i64 d.2))
                  (first | exact ⟨hb4, HK.out _ hb4, HK2.out _ hb4⟩ | exact ⟨hb3, HK.out _ hb3, HK2.out _ hb3⟩ | exact ⟨hbd, HK.out _ hbd, HK2.out _ hbd⟩)
                  (first
                  | (go_at_call 140; refine (HE.out _ hbd).mono ?_; rintro e w1 ⟨rfl, hb3⟩)
                  | (go_at_call 111; refine (HL2.out _ hb3).mono ?_; rintro e w2 ⟨rfl, hb4⟩))
                all_goals
                  go_wp2
                  go_ret
                  exact ⟨by rw [HN.out]; rfl, HZ.out _ hb4⟩
      · have HY := hideIt (chk_yes (n := N) (es := es) (fun j hj => hck.out j (by omega)))
        clear hck
        go_wp2
        go_ret
        exact ⟨by rw [HY.out, HG.out]; rfl, hb⟩

set_option maxHeartbeats 1000000 in
theorem iGraphOk_any (N : Int) (es : List EdgeV) (n : Nat) (a : Option Addr) (c : Nat) (hn : n ≤ 1048576) (w : World) (h : Es w w.heap.size a n es) :
    Calls Tryz.prog 78 #[.agg #[.int .i64 N, .slice a n c]] w fun e w' => e = .returned (.bool (gB N es)) ∧ Below w.heap.size w w' := by
  have HT := hideIt (edgesOk_any N es n a c hn (w.alloc (.cells #[.int .i64 N, .slice a n c] 33)) ((h.alloc (Nat.le_refl _) _).mono (by simp)))
  have HI := hideIt vertsOk_any
  clear h
  by_cases h1 : 1 ≤ N ∧ N ≤ 12
  · have r1 : decide (1 ≤ N ∧ N ≤ 12) = true := by simpa using h1
    have HG : Hid (gB N es = (chk N es && decide (es.length ≤ 66))) := by show _ = _; unfold gB; rw [r1]; rfl
    generalize (chk N es && decide (es.length ≤ 66)) = r at HG HT
    go_enter Tryz.func78, Tryz.ntmps78
    go_wp2_with (first | (go_at_call 95; refine (HI.out _ _).mono ?_; rintro e w1 ⟨rfl, rfl⟩) | (go_at_call 146; refine HT.out.mono ?_; rintro e w2 ⟨rfl, hb2⟩))
    go_ret
    exact ⟨by rw [HG.out]; rfl, ((Below.refl _ _).alloc (Nat.le_refl _) _).trans (hb2.mono (by simp))⟩
  · have r1 : decide (1 ≤ N ∧ N ≤ 12) = false := by simpa using h1
    have HG : Hid (gB N es = false) := by show _ = _; unfold gB; rw [r1]; rfl
    clear HT
    go_enter Tryz.func78, Tryz.ntmps78
    go_wp2_with (go_at_call 95; refine (HI.out _ _).mono ?_; rintro e w1 ⟨rfl, rfl⟩)
    go_ret
    exact ⟨by rw [HG.out]; rfl, (Below.refl _ _).alloc (Nat.le_refl _) _⟩
end Go.Proofs.YtpfkfbmghddepaaGreat
namespace Go.Proofs.YtpfkfbmghddepaaGreat
open Go.RowKit

/-- the world behind the edge's box -/
def wE (w : World) (e : EdgeV) : World := w.alloc (.cells #[.int .i64 e.1, .int .i64 e.2] 28)

theorem wE_size (w : World) (e : EdgeV) : (wE w e).heap.size = w.heap.size + 1 := by simp [wE]

/-- nothing of it has turned, and the row is ours -/
structure PutSt (w : World) (e : EdgeV) (a : Option Addr) (m c : Nat) (gs : List EdgeV) (u : World) : Prop where
  own : u.ownsRow (w.heap.size + 1) 28 2 (.slice a m c) m (ecells gs)
  bel : Below (w.heap.size + 1) (wE w e) u

theorem PutSt.size {w : World} {e : EdgeV} {a : Option Addr} {m c : Nat} {gs : List EdgeV} {u : World} (h : PutSt w e a m c gs u) : w.heap.size + 1 ≤ u.heap.size := by have := h.bel.size; rw [wE_size] at this; exact this

theorem PutSt.len {w : World} {e : EdgeV} {a : Option Addr} {m c : Nat} {gs : List EdgeV} {u : World} (h : PutSt w e a m c gs u) : gs.length = m := by have := h.own.1; rw [ecells_length] at this; omega

theorem PutSt.below {w : World} {e : EdgeV} {a : Option Addr} {m c : Nat} {gs : List EdgeV} {u : World} (h : PutSt w e a m c gs u) : Below w.heap.size w u :=
  ((Below.refl w.heap.size w).alloc (Nat.le_refl _) _).trans (h.bel.mono (by omega))

theorem PutSt.up {w : World} {e : EdgeV} {a : Option Addr} {m c : Nat} {gs : List EdgeV} {u v : World} (h : PutSt w e a m c gs u) (hb : Below u.heap.size u v) : PutSt w e a m c gs v :=
  ⟨World.ownsRow.kept h.own (show u.grownBy v none from ⟨hb.os, hb.tape, hb.output, hb.size, fun k hk _ => hb.block k hk⟩) (by cases hv : (Value.slice a m c).ownBlock <;> simp), h.bel.trans (hb.mono h.size)⟩

theorem PutSt.box {w : World} {e : EdgeV} {a : Option Addr} {m c : Nat} {gs : List EdgeV} {u : World} (h : PutSt w e a m c gs u) : u.cell? ⟨w.heap.size, 0, none⟩ = some (.int .i64 e.1) ∧ u.cell? ⟨w.heap.size, 1, none⟩ = some (.int .i64 e.2) := by
  refine ⟨?_, ?_⟩
  · rw [h.bel.cell (by show w.heap.size < _; omega)]; simp [wE]
  · rw [h.bel.cell (by show w.heap.size < _; omega)]; simp [wE]

/-- behind an append of one edge -/
theorem PutSt.app {w : World} {e : EdgeV} {a : Option Addr} {m c : Nat} {gs : List EdgeV} {u : World} (h : PutSt w e a m c gs u) {g : EdgeV} {o : Obj} {v : Value} {u' : World}
    (ho : u'.ownsRow (w.heap.size + 1) 28 2 v (m + 1) (ecells gs ++ [.int .i64 g.1, .int .i64 g.2])) (hg : (u.alloc o).grownBy u' (Value.slice a m c).ownBlock) :
    ∃ a' c', v = .slice a' (m + 1) c' ∧ PutSt w e a' (m + 1) c' (gs ++ [g]) u' := by
  obtain ⟨a', c', rfl⟩ := own_form ho
  rw [← ecells_snoc] at ho
  refine ⟨a', c', rfl, ho, ?_⟩
  exact (h.bel.alloc h.size _).grown hg (by have := h.size; simp; omega) (fun j hj => (h.own.lt j hj).1)

theorem news1 (w : World) (g : EdgeV) : ∀ j u, ([Value.int .i64 g.1, Value.int .i64 g.2] : List Value)[j]? = some u → (w.alloc (.cells #[.int .i64 g.1, .int .i64 g.2] 28)).cell? ((⟨w.heap.size, 0, none⟩ : Addr).add j) = some u := by
  intro j u hj
  rcases j with _ | _ | j
  · simp at hj; subst hj; simp [Addr.add]
  · simp at hj; subst hj; simp [Addr.add]
  · simp at hj

set_option maxRecDepth 100000 in
set_option maxHeartbeats 4000000 in
theorem l05Put_any (es : List EdgeV) (e : EdgeV) (n : Nat) (a : Option Addr) (c : Nat) (hn : n ≤ 1048576) (w : World) (h : Es w w.heap.size a n es) :
    Calls Tryz.prog 77 #[.slice a n c, .agg #[.int .i64 e.1, .int .i64 e.2]] w fun x w' => ∃ a' m' c', x = .returned (.slice a' m' c') ∧ w'.ownsRow w.heap.size 28 2 (.slice a' m' c') m' (ecells (putE es e)) ∧ Below w.heap.size w w' := by
  obtain ⟨i0, hi, hz0, hz1, hz2⟩ := info_parts infoIE
  obtain ⟨hlen, hrow⟩ := h
  have HR := hideIt hrow
  clear hrow
  have HLs : Hid (∀ (a' : Option Addr) (m' c' : Nat) (gs : List EdgeV) (d f : EdgeV) (W : World), PutSt w e a' m' c' gs W → Calls Tryz.prog 145 #[.agg #[.int .i64 d.1, .int .i64 d.2], .agg #[.int .i64 f.1, .int .i64 f.2]] W fun x w' => x = .returned (.bool (lt d f)) ∧ PutSt w e a' m' c' gs w') := fun _ _ _ _ d f W hW =>
    (l05Less_any d f W).mono fun _ _ ⟨he, hb⟩ => ⟨he, hW.up hb⟩
  go_enter Tryz.func77, Tryz.ntmps77
  go_wp2
  go_loopw [5, 6] (fun v i wr => ∃ (k m' : Nat) (a' : Option Addr) (c' : Nat) (gs : List EdgeV), k ≤ n ∧ i = .int .i64 (k : Int) ∧ v = .slice a' m' c' ∧ m' ≤ k ∧ Hid (gs = (es.take k).filter (fun d => lt d e)) ∧ PutSt w e a' m' c' gs wr) (fun _ i _ => n - (intOf i).toNat)
  case atStart =>
    refine ⟨0, 0, _, _, [], by omega, rfl, rfl, by omega, by show _ = _; simp, ?_, ?_⟩
    · have h0 := World.ownsRow_lit (base := w.heap.size + 1) (e := 28) (size := 2) (wE w e) #[] 0 (by rw [wE_size]; omega) (by unfold maxLen; omega) (by simp)
      rw [wE_size] at h0
      simpa [ecells, wE] using h0
    · have h1 := (Below.refl (w.heap.size + 1) (wE w e)).alloc (by rw [wE_size]; omega) (.cells #[] 28)
      simpa [wE] using h1
  case round =>
    obtain ⟨k, m', a', c', gs, hk, rfl, rfl, hm, hgs, hst⟩ := hrel
    by_cases hlt : k < n
    · rcases HR.out with hz | ⟨b, off, rfl, hbl, hc⟩
      · omega
      · obtain ⟨f, hf⟩ : ∃ f, es[k]? = some f := ⟨es[k]'(by omega), List.getElem?_eq_getElem (by omega)⟩
        obtain ⟨c0, c1⟩ := hc k f hf
        have b1 : (0 : Int) ≤ (k : Int) := by omega
        have b2 : (k : Int) < (n : Int) := by omega
        have HK : Hid (∀ W : World, PutSt w e a' m' c' gs W → (W.cell? ⟨b, off + k * 2, none⟩ = some (.int .i64 f.1) ∧ W.cell? ⟨b, off + k * 2 + 1, none⟩ = some (.int .i64 f.2)) ∧ W.cell? ⟨w.heap.size, 0, none⟩ = some (.int .i64 e.1) ∧ W.cell? ⟨w.heap.size, 1, none⟩ = some (.int .i64 e.2)) := fun W hW =>
          ⟨⟨by rw [hW.below.cell hbl]; exact c0, by rw [hW.below.cell hbl]; exact c1⟩, hW.box⟩
        have S0 := hst.up (Below.refl _ _).drew
        have HLc := hideIt (HLs.out a' m' c' gs f e _ S0)
        have e0 := (HK.out _ hst).1.1
        have e1 := (HK.out _ hst).1.2
        cases hL : lt f e with
        | true =>
          rw [hL] at HLc
          have HG : Hid (gs ++ [f] = (es.take (k + 1)).filter (fun d => lt d e)) := by
            show _ = _
            rw [take_snocF es k f hf, List.filter_append, hgs.out]
            simp [hL]
          clear hc hf c0 c1 hL
          go_wp2
          go_region_held3 (fun u => PutSt w e a' m' c' gs u ∧ (u.cell? ⟨b, off + k * 2, none⟩ = some (.int .i64 f.1) ∧ u.cell? ⟨b, off + k * 2 + 1, none⟩ = some (.int .i64 f.2)) ∧ u.cell? ⟨w.heap.size, 0, none⟩ = some (.int .i64 e.1) ∧ u.cell? ⟨w.heap.size, 1, none⟩ = some (.int .i64 e.2))
            (first | exact ⟨S1, HK.out _ S1⟩ | exact ⟨S0, HK.out _ S0⟩)
            ((go_at_call 145; refine HLc.out.mono ?_; rintro x w1 ⟨rfl, S1⟩))
          obtain ⟨⟨y0, y1⟩, _, _⟩ := HK.out _ S1
          have z1 := S1.size
          clear HLc S0
          go_wp2_with (at_builtin; refine wpList_append_own _ rfl _ _ 31 rfl (w.heap.size + 1) 28 i0 _ 2 16 Tryz.underlying31 hi hz0 hz1 hz2 rfl (by decide) _ _ _ rfl (S1.own.alloc _) ⟨w1.heap.size, 0, none⟩ 1 1 [.int .i64 f.1, .int .i64 f.2] rfl rfl (news1 _ _) (by intro u hu; simp at hu; rcases hu with rfl | rfl <;> rfl) (by unfold maxLen; omega) (by omega) (by simp; omega) ?_)
          intro v2 w2 hown2 hg2 hn2
          obtain ⟨a2, c2, rfl, hst2⟩ := S1.app hown2 hg2
          clear hown2 hg2 hn2 S1 y0 y1 e0 e1 hst
          go_wp2
          exact ⟨⟨k + 1, m' + 1, a2, c2, gs ++ [f], by omega, by go_num, rfl, by omega, HG, hst2⟩, by simp [intOf]; omega⟩
        | false =>
          rw [hL] at HLc
          have HG : Hid (gs = (es.take (k + 1)).filter (fun d => lt d e)) := by
            show _ = _
            rw [take_snocF es k f hf, List.filter_append, hgs.out]
            simp [hL]
          clear hc hf c0 c1 hL
          go_wp2
          go_region_held3 (fun u => PutSt w e a' m' c' gs u ∧ (u.cell? ⟨b, off + k * 2, none⟩ = some (.int .i64 f.1) ∧ u.cell? ⟨b, off + k * 2 + 1, none⟩ = some (.int .i64 f.2)) ∧ u.cell? ⟨w.heap.size, 0, none⟩ = some (.int .i64 e.1) ∧ u.cell? ⟨w.heap.size, 1, none⟩ = some (.int .i64 e.2))
            (first | exact ⟨S1, HK.out _ S1⟩ | exact ⟨S0, HK.out _ S0⟩)
            ((go_at_call 145; refine HLc.out.mono ?_; rintro x w1 ⟨rfl, S1⟩))
          go_wp2
          exact ⟨⟨k + 1, m', a', c', gs, by omega, by go_num, rfl, by omega, HG, S1⟩, by simp [intOf]; omega⟩
    · obtain rfl : k = n := by omega
      have HG : Hid (gs ++ [e] = es.filter (fun d => lt d e) ++ [e]) := by show _ = _; rw [hgs.out, List.take_of_length_le (by omega)]
      obtain ⟨x0, x1⟩ := hst.box
      have z1 := hst.size
      clear hgs
      go_wp2_with (at_builtin; refine wpList_append_own _ rfl _ _ 31 rfl (w.heap.size + 1) 28 i0 _ 2 16 Tryz.underlying31 hi hz0 hz1 hz2 rfl (by decide) _ _ _ rfl (hst.own.alloc _) ⟨wr.heap.size, 0, none⟩ 1 1 [.int .i64 e.1, .int .i64 e.2] rfl rfl (news1 _ _) (by intro u hu; simp at hu; rcases hu with rfl | rfl <;> rfl) (by unfold maxLen; omega) (by omega) (by simp; omega) ?_)
      intro v2 w2 hown2 hg2 hn2
      obtain ⟨a2, c2, rfl, hst2⟩ := hst.app hown2 hg2
      have hmk : m' + 1 ≤ k + 1 := by omega
      generalize m' + 1 = m3 at hst2 hmk
      generalize gs ++ [e] = g0 at HG hst2
      clear hown2 hg2 hn2 x0 x1 hst
      go_wp2
      go_loopw [5, 7] (fun v i wr => ∃ (q m' : Nat) (a' : Option Addr) (c' : Nat) (gs : List EdgeV), q ≤ k ∧ i = .int .i64 (q : Int) ∧ v = .slice a' m' c' ∧ m' ≤ k + 1 + q ∧ Hid (gs = g0 ++ (es.take q).filter (fun d => lt e d)) ∧ PutSt w e a' m' c' gs wr) (fun _ i _ => k - (intOf i).toNat)
      case atStart => exact ⟨0, m3, a2, c2, g0, by omega, rfl, rfl, by omega, by show _ = _; simp, hst2⟩
      case round =>
        obtain ⟨q, m', a', c', gs, hq, rfl, rfl, hm, hgs, hst⟩ := hrel
        by_cases hlt : q < k
        · rcases HR.out with hz | ⟨b, off, rfl, hbl, hc⟩
          · omega
          · obtain ⟨f, hf⟩ : ∃ f, es[q]? = some f := ⟨es[q]'(by omega), List.getElem?_eq_getElem (by omega)⟩
            obtain ⟨c0, c1⟩ := hc q f hf
            have b1 : (0 : Int) ≤ (q : Int) := by omega
            have b2 : (q : Int) < (k : Int) := by omega
            have HK : Hid (∀ W : World, PutSt w e a' m' c' gs W → (W.cell? ⟨b, off + q * 2, none⟩ = some (.int .i64 f.1) ∧ W.cell? ⟨b, off + q * 2 + 1, none⟩ = some (.int .i64 f.2)) ∧ W.cell? ⟨w.heap.size, 0, none⟩ = some (.int .i64 e.1) ∧ W.cell? ⟨w.heap.size, 1, none⟩ = some (.int .i64 e.2)) := fun W hW =>
              ⟨⟨by rw [hW.below.cell hbl]; exact c0, by rw [hW.below.cell hbl]; exact c1⟩, hW.box⟩
            have S0 := hst.up (Below.refl _ _).drew
            have HLc := hideIt (HLs.out a' m' c' gs e f _ S0)
            have e0 := (HK.out _ hst).1.1
            have e1 := (HK.out _ hst).1.2
            cases hL : lt e f with
            | true =>
              rw [hL] at HLc
              have HG : Hid (gs ++ [f] = g0 ++ (es.take (q + 1)).filter (fun d => lt e d)) := by
                show _ = _
                rw [take_snocF es q f hf, List.filter_append, hgs.out]
                simp [hL]
              clear hc hf c0 c1 hL
              go_wp2
              go_region_held3 (fun u => PutSt w e a' m' c' gs u ∧ (u.cell? ⟨b, off + q * 2, none⟩ = some (.int .i64 f.1) ∧ u.cell? ⟨b, off + q * 2 + 1, none⟩ = some (.int .i64 f.2)) ∧ u.cell? ⟨w.heap.size, 0, none⟩ = some (.int .i64 e.1) ∧ u.cell? ⟨w.heap.size, 1, none⟩ = some (.int .i64 e.2))
                (first | exact ⟨S1, HK.out _ S1⟩ | exact ⟨S0, HK.out _ S0⟩)
                ((go_at_call 145; refine HLc.out.mono ?_; rintro x w1 ⟨rfl, S1⟩))
              obtain ⟨⟨y0, y1⟩, _, _⟩ := HK.out _ S1
              have z1 := S1.size
              clear HLc S0
              go_wp2_with (at_builtin; refine wpList_append_own _ rfl _ _ 31 rfl (w.heap.size + 1) 28 i0 _ 2 16 Tryz.underlying31 hi hz0 hz1 hz2 rfl (by decide) _ _ _ rfl (S1.own.alloc _) ⟨w1.heap.size, 0, none⟩ 1 1 [.int .i64 f.1, .int .i64 f.2] rfl rfl (news1 _ _) (by intro u hu; simp at hu; rcases hu with rfl | rfl <;> rfl) (by unfold maxLen; omega) (by omega) (by simp; omega) ?_)
              intro v2 w2 hown2 hg2 hn2
              obtain ⟨a2, c2, rfl, hst2⟩ := S1.app hown2 hg2
              clear hown2 hg2 hn2 S1 y0 y1 e0 e1 hst
              go_wp2
              exact ⟨⟨q + 1, m' + 1, a2, c2, gs ++ [f], by omega, by go_num, rfl, by omega, HG, hst2⟩, by simp [intOf]; omega⟩
            | false =>
              rw [hL] at HLc
              have HG : Hid (gs = g0 ++ (es.take (q + 1)).filter (fun d => lt e d)) := by
                show _ = _
                rw [take_snocF es q f hf, List.filter_append, hgs.out]
                simp [hL]
              clear hc hf c0 c1 hL
              go_wp2
              go_region_held3 (fun u => PutSt w e a' m' c' gs u ∧ (u.cell? ⟨b, off + q * 2, none⟩ = some (.int .i64 f.1) ∧ u.cell? ⟨b, off + q * 2 + 1, none⟩ = some (.int .i64 f.2)) ∧ u.cell? ⟨w.heap.size, 0, none⟩ = some (.int .i64 e.1) ∧ u.cell? ⟨w.heap.size, 1, none⟩ = some (.int .i64 e.2))
                (first | exact ⟨S1, HK.out _ S1⟩ | exact ⟨S0, HK.out _ S0⟩)
                ((go_at_call 145; refine HLc.out.mono ?_; rintro x w1 ⟨rfl, S1⟩))
              go_wp2
              exact ⟨⟨q + 1, m', a', c', gs, by omega, by go_num, rfl, by omega, HG, S1⟩, by simp [intOf]; omega⟩
        · obtain rfl : q = k := by omega
          have HF : Hid (gs = putE es e) := by show _ = _; rw [hgs.out, HG.out, List.take_of_length_le (by omega)]; unfold putE; rfl
          have HO := hideIt (own_mono hst.own (show w.heap.size ≤ w.heap.size + 1 by omega))
          have hb := hst.below
          clear hgs hst
          go_wp2
          go_ret
          exact ⟨a', m', c', rfl, by rw [← HF.out]; exact HO.out, hb⟩

end Go.Proofs.YtpfkfbmghddepaaGreat
namespace Go.Proofs.YtpfkfbmghddepaaGreat
open Go.RowKit Go.Shelf
attribute [local go_sem] Oper.semAt_some

/-- an edge, as yield takes it -/
abbrev edgV (x : EdgeV) : Array Value := #[.agg #[.int .i64 x.1, .int .i64 x.2]]

set_option maxRecDepth 100000 in
set_option maxHeartbeats 2000000 in
theorem valItE_in (n l B n0 : Nat) (hn : 1 ≤ n) (ls : List EdgeV) (m : Nat) (a : Option Addr) (c : Nat) (hm : m ≤ 3000000) (J Jx : List EdgeV → World → Prop) (W : World) (hn0 : n0 ≤ W.heap.size) (hJa : AbidesFrom W.heap.size J)
    (hY : ∀ pre x W1, J pre W1 → pre.length < m → YieldAt Fence.wide (n - 1) Tryz.prog l (edgV x) W1 fun e W' =>
      (e = .returned (.bool true) ∧ J (pre ++ [x]) W' ∧ Below n0 W1 W') ∨ (e = .returned (.bool false) ∧ Jx (pre ++ [x]) W'))
    (hBc : W.cell? ⟨B, 0, none⟩ = some (.slice a m c)) (hI : Es W n0 a m ls) (h0 : J [] W) :
    CallsIn Fence.wide n Tryz.prog 174 #[.func (.yield l) #[] #[], .pointer (some ⟨B, 0, none⟩)] W fun e W' => (∃ v, e = .returned v) ∧
      ((∃ ys, ys = ls ∧ J ys W') ∨ (∃ pre, True ∧ Jx pre W')) := by
  obtain ⟨hlen, hrow⟩ := hI
  have HR := hideIt hrow
  clear hrow
  have HJ := hideIt (fun s X o (hs : J s X) => hJa s X (X.alloc o) none hs (World.grownBy_alloc X o none) (fun r e => by cases e))
  refine callsIn_of_wp Tryz.func174 rfl trivial ?_ rfl
  simp only [Tryz.ntmps174, List.size_toArray, List.length_cons, List.length_nil, Nat.reduceAdd, Nat.reduceSub, Array.replicate_succ, Array.replicate_zero, List.push_toArray, List.append_toArray, List.nil_append, List.cons_append]
  gi_wp2
  gi_loopw [7] (fun i wr => ∃ (k : Nat) (pre : List EdgeV), k ≤ m ∧ i = .int .i64 (k : Int) ∧ pre.length = k ∧ Hid (pre = ls.take k) ∧ Below n0 W wr ∧ J pre wr)
    (fun i _ => m - (intOf i).toNat)
  case atStart => exact ⟨0, [], by omega, rfl, rfl, by show _ = _; simp, Below.refl _ _, h0⟩
  case round =>
    obtain ⟨k, pre, hk, rfl, hpk, HP, hb, hJ⟩ := hrel
    by_cases hlt : k < m
    · rcases HR.out with hz | ⟨b, off, rfl, hbl, hc⟩
      · omega
      · obtain ⟨f, hf⟩ : ∃ f, ls[k]? = some f := ⟨ls[k]'(by omega), List.getElem?_eq_getElem (by omega)⟩
        have e0 : wr.cell? ⟨b, off + k * 2, none⟩ = some (.int .i64 f.1) := by rw [hb.cell hbl]; exact (hc k f hf).1
        have e1 : wr.cell? ⟨b, off + k * 2 + 1, none⟩ = some (.int .i64 f.2) := by rw [hb.cell hbl]; exact (hc k f hf).2
        have b1 : (0 : Int) ≤ (k : Int) := by omega
        have b2 : (k : Int) < (m : Int) := by omega
        have HP2 : Hid (pre ++ [f] = ls.take (k + 1)) := by show _ = _; rw [take_snocF ls k f hf, HP.out]
        have hsz := hb.size
        obtain ⟨fn, tmps, assign, body, hy, hR⟩ := hY pre f (wr.alloc (.cells #[.int .i64 f.1, .int .i64 f.2] 28)) (HJ.out pre wr _ hJ) (by omega)
        dsimp only [edgV] at hy
        have HBa := hideIt (hb.alloc (by omega) (.cells #[.int .i64 f.1, .int .i64 f.2] 28))
        clear hc hf HP hJ hb
        gi_wp2
        refine hR.mono ?_
        rintro e W3 (⟨rfl, hJ3, hk3⟩ | ⟨rfl, hJx3⟩)
        · gi_wp2
          exact ⟨⟨k + 1, pre ++ [f], by omega, by go_num, by simp; omega, HP2, HBa.out.trans hk3, hJ3⟩, by simp [intOf]; omega⟩
        · gi_wp2
          (try simp only [Exit.inBlock, Exit.then])
          refine bodyPost_ret (v := .tuple #[]) (results_none rfl _ _ _) rfl ?_
          exact ⟨⟨_, rfl⟩, .inr ⟨_, trivial, hJx3⟩⟩
    · obtain rfl : k = m := by omega
      have HP2 : Hid (pre = ls) := by show _ = _; rw [HP.out, List.take_of_length_le (by omega)]
      clear HP
      gi_wp2
      go_end0
      exact ⟨⟨_, rfl⟩, .inl ⟨pre, HP2.out, hJ⟩⟩

theorem valE_stops (n B n0 : Nat) (hn : 1 ≤ n) (ls : List EdgeV) (m : Nat) (a : Option Addr) (c : Nat) (hm : m ≤ 3000000) (w1 : World) (hB : B < w1.heap.size) (hn0 : n0 ≤ w1.heap.size) (hBc : w1.cell? ⟨B, 0, none⟩ = some (.slice a m c)) (hI : Es w1 n0 a m ls) :
    SeqStopsK Fence.wide n Tryz.prog 174 #[.pointer (some ⟨B, 0, none⟩)] edgV (Below n0) (fun ys => ys = ls) (fun _ => True) m w1 := fun l J Jx W hW hJ _ hY h0 =>
  valItE_in n l B n0 hn ls m a c hm J Jx W (Nat.le_trans hn0 hW.size) hJ hY ((hW.cell (p := ⟨B, 0, none⟩) hB).trans hBc) (hI.below hW hn0) h0

theorem valuesE_any (a : Option Addr) (m c : Nat) (w : World) :
    Calls Tryz.prog 110 #[.slice a m c] w fun e w' => e = .returned (.func (.func 174) #[] #[.pointer (some ⟨w.heap.size, 0, none⟩)]) ∧ w' = w.alloc (.cells #[.slice a m c] 31) := by
  go_enter Tryz.func110, Tryz.ntmps110
  go_wp2
  go_ret
  exact ⟨rfl, rfl⟩

set_option maxRecDepth 100000 in
set_option maxHeartbeats 2000000 in
theorem appSeqE_any (ls : List EdgeV) (m : Nat) (a : Option Addr) (c B : Nat) (hm : m ≤ 3000000) (w : World) (hB : B < w.heap.size) (hBc : w.cell? ⟨B, 0, none⟩ = some (.slice a m c)) (h : Es w w.heap.size a m ls) :
    Calls Tryz.prog 211 #[.slice none 0 0, .func (.func 174) #[] #[.pointer (some ⟨B, 0, none⟩)]] w fun e w' => ∃ v, e = .returned v ∧ w'.ownsRow w.heap.size 28 2 v m (ecells ls) ∧ Below w.heap.size w w' := by
  obtain ⟨i0, hi, hz0, hz1, hz2⟩ := info_parts infoIE
  refine (callsIn_wide (n := 6)).1 ?_
  refine callsIn_of_wp_marks Tryz.func211 rfl trivial ?_ rfl
  simp only [Tryz.ntmps211, List.size_toArray, List.length_cons, List.length_nil, Nat.reduceAdd, Nat.reduceSub, Array.replicate_succ, Array.replicate_zero, List.push_toArray, List.append_toArray, List.nil_append, List.cons_append]
  gi_wp2
  have bS := Boxed.new w 31 (.slice none 0 0)
  have hB0 : Below w.heap.size w (w.alloc (.cells #[.slice none 0 0] 31)) := (Below.refl _ w).alloc (Nat.le_refl _) _
  have hlen := h.1
  have hc0 : (w.alloc (.cells #[.slice none 0 0] 31)).cell? ⟨B, 0, none⟩ = some (.slice a m c) := by rw [hB0.cell (p := ⟨B, 0, none⟩) hB]; exact hBc
  refine wpIn_rangeFunc_ownH rfl (by omega) (gf := 174) (lb := #[.pointer (some ⟨B, 0, none⟩)]) rfl trivial (enters_of Tryz.func174 (by kernel_rfl) rfl)
    (valE_stops 5 B w.heap.size (by omega) ls m a c hm _ (by simp; omega) (by simp) hc0 (h.below hB0 (Nat.le_refl _))) belowK_t (belowK_b (by simp)) (Below.refl _ _) (fun _ => rfl)
    (fun pre W => (∃ v, Boxed W w.heap.size 31 v ∧ W.ownsRow w.heap.size 28 2 v pre.length (ecells pre) ∧ (v = .slice none 0 0 ↔ pre = [])) ∧ Below w.heap.size w W)
    (fun _ _ _ => False)
    (OwnFrom.and (Own.from (holdsRow_own w.heap.size w.heap.size 31 28 2 (fun pre => pre.length) (fun pre => ecells pre) (fun pre v => v = .slice none 0 0 ↔ pre = [])) _) (ownFrom_below (Nat.le_refl _) (by simp)))
    (fun _ _ _ _ _ hs _ _ => hs)
    ⟨⟨_, bS, World.ownsRow_nil _ _ _ _, by simp⟩, hB0⟩
    (fun x a' W => ∃ Bx, w.heap.size < Bx ∧ W.heap[Bx]? = some (.cells #[.int .i64 x.1, .int .i64 x.2] 28 (0, 0)) ∧ a' = { tmps := #[.slice none 0 0, .func (.func 174) #[] #[.pointer (some ⟨B, 0, none⟩)], .pointer (some ⟨w.heap.size, 0, none⟩), undef, .slice none 0 0, .pointer (some ⟨Bx, 0, none⟩), .func (.func 174) #[] #[.pointer (some ⟨B, 0, none⟩)], .agg #[.int .i64 x.1, .int .i64 x.2], undef, undef, undef, undef, undef], defers := [] })
    ?hAx ?assign ?body ?done ?stop
  case hAx =>
    rintro x a' _ X Y row ⟨Bx, h1, h2, h3⟩ hg hr
    refine ⟨Bx, h1, ?_, h3⟩
    rw [hg.block Bx (Array.getElem?_eq_some_iff.1 h2).1 (fun e' => by obtain ⟨_, o, ho, hc⟩ := hr Bx e'.symm; rw [h2] at ho; cases ho; cases hc)]
    exact h2
  case assign =>
    rintro l pre x W K ⟨⟨v, hv, hrow, hnil⟩, hB1⟩ hK
    have hlt := hv.lt
    gi_wp2
    exact hK _ _ ((KeepsOthers.alloc _ _).from _) ((Below.refl _ W).alloc hB1.size _) ⟨⟨v, hv.alloc _, hrow.alloc _, hnil⟩, hB1.alloc hB1.size _⟩ ⟨W.heap.size, hlt, heap_alloc_new W _, rfl⟩
  case body =>
    rintro l pre x a' W hl ⟨r, hr⟩ ⟨⟨v, hv, hrow, hnil⟩, hB1⟩ ⟨Bx, hBx, bX, rfl⟩ hlt
    have hc := hv.cell
    have x0 : W.cell? ⟨Bx, 0, none⟩ = some (.int .i64 x.1) := by rw [cell_of_row W Bx 0 _ _ _ bX]; rfl
    have x1 : W.cell? ⟨Bx, 1, none⟩ = some (.int .i64 x.2) := by rw [cell_of_row W Bx 1 _ _ _ bX]; rfl
    have HB := hideIt hB1
    have z1 := hB1.size
    clear hr bX
    gi_wp2_with (gi_at_builtin; refine wpListIn_append_own _ rfl _ _ 31 rfl w.heap.size 28 i0 _ 2 16 Tryz.underlying31 hi hz0 hz1 hz2 rfl (by decide) _ _ _ rfl (hrow.alloc _) ⟨W.heap.size, 0, none⟩ 1 1 [.int .i64 x.1, .int .i64 x.2] rfl rfl (news1 _ _) (by intro u hu; simp at hu; rcases hu with rfl | rfl <;> rfl) (by unfold maxLen; omega) (by omega) (by simp; omega) ?_; intro v' w1 hown' hgrow _; obtain ⟨g', cap', rfl⟩ := ownsRow_succ hown'; obtain ⟨hv1, hv2, hr2, hk2, hb2⟩ := hv.appended (by decide) hrow z1 (Nat.le_refl _) hown' hgrow; have hc1 := hv1.cell; have hf1 := hv1.frozen)
    exact ⟨hk2.from _, hb2, ⟨_, hv2, by rw [ecells_snoc]; simpa using hr2, by simp⟩, HB.out.trans hb2⟩
  case done =>
    rintro D ys W hD rfl ⟨⟨v, hv, hrow, hnil⟩, hB1⟩ hK
    have hc := hv.cell
    have HB := hideIt hB1
    gi_wp2
    refine ⟨by simp, .inl ⟨_, _, rfl, run_takeDeferred hK, ?_⟩⟩
    refine ⟨v, by simp [results, Tryz.results211, go_sem], v, rfl, ?_, ?_⟩
    · rw [← hlen]; exact ownsRow_putObj hrow _ hK rfl
    · exact HB.out.trans (belowK_b (w := w) (Nat.le_refl _) W D _ _ (by simp at hD; omega) hK rfl rfl)
  case stop =>
    rintro D cc pre W _ _ hh _
    exact hh.elim

set_option maxHeartbeats 1000000 in
theorem collectE_any (ls : List EdgeV) (m : Nat) (a : Option Addr) (c B : Nat) (hm : m ≤ 3000000) (w : World) (hB : B < w.heap.size) (hBc : w.cell? ⟨B, 0, none⟩ = some (.slice a m c)) (h : Es w w.heap.size a m ls) :
    Calls Tryz.prog 172 #[.func (.func 174) #[] #[.pointer (some ⟨B, 0, none⟩)]] w fun e w' => ∃ v, e = .returned v ∧ w'.ownsRow w.heap.size 28 2 v m (ecells ls) ∧ Below w.heap.size w w' := by
  have HA := hideIt (appSeqE_any ls m a c B hm w hB hBc h)
  clear h hBc
  go_enter Tryz.func172, Tryz.ntmps172
  go_wp2_with (go_at_call 211; refine HA.out.mono ?_; rintro e w1 ⟨v, rfl, ho, hb⟩)
  go_ret
  exact ⟨v, rfl, ho, hb⟩
end Go.Proofs.YtpfkfbmghddepaaGreat
namespace Go.Proofs
open Go.Shelf
def Tryz.laysSF_ren : Go.Shelf.Ren := ⟨fun | 6 => 173 | 15 => 213 | 14 => 212 | 28 => 242 | 29 => 243 | 20 => 234 | 21 => 235 | 22 => 236 | 23 => 237 | 24 => 238 | 25 => 239 | 26 => 240 | 27 => 241 | 46 => 262 | 47 => 263 | 48 => 264 | 49 => 265 | 50 => 266 | 57 => 270 | n => n, fun | 22 => 31 | 24 => 28 | 25 => 157 | 3 => 3 | 39 => 201 | 0 => 0 | 53 => 139 | 55 => 267 | 4 => 4 | 46 => 260 | 45 => 259 | 50 => 180 | 5 => 5 | 9 => 9 | 66 => 281 | 70 => 285 | 76 => 289 | 77 => 78 | n => n, fun | n => n⟩
theorem Tryz.laysSF : Go.Proofs.SlLaysF0.n6 Tryz.prog Tryz.laysSF_ren := {
  mixed := by kernel_rfl
  f6 := ⟨Tryz.f173.name, by decide, Tryz.func173.trans (congrArg some (by kernel_rfl))⟩
  f14 := ⟨Tryz.f212.name, by decide, Tryz.func212.trans (congrArg some (by kernel_rfl))⟩
  f15 := Tryz.func213.trans (congrArg some (by kernel_rfl))
  f20 := ⟨Tryz.f234.name, by decide, Tryz.func234.trans (congrArg some (by kernel_rfl))⟩
  f21 := ⟨Tryz.f235.name, by decide, Tryz.func235.trans (congrArg some (by kernel_rfl))⟩
  f22 := ⟨Tryz.f236.name, by decide, Tryz.func236.trans (congrArg some (by kernel_rfl))⟩
  f23 := ⟨Tryz.f237.name, by decide, Tryz.func237.trans (congrArg some (by kernel_rfl))⟩
  f24 := ⟨Tryz.f238.name, by decide, Tryz.func238.trans (congrArg some (by kernel_rfl))⟩
  f25 := ⟨Tryz.f239.name, by decide, Tryz.func239.trans (congrArg some (by kernel_rfl))⟩
  f26 := ⟨Tryz.f240.name, by decide, Tryz.func240.trans (congrArg some (by kernel_rfl))⟩
  f27 := ⟨Tryz.f241.name, by decide, Tryz.func241.trans (congrArg some (by kernel_rfl))⟩
  f28 := Tryz.func242.trans (congrArg some (by kernel_rfl))
  f29 := Tryz.func243.trans (congrArg some (by kernel_rfl))
  f46 := ⟨Tryz.f262.name, by decide, Tryz.func262.trans (congrArg some (by kernel_rfl))⟩
  f47 := Tryz.func263.trans (congrArg some (by kernel_rfl))
  f48 := Tryz.func264.trans (congrArg some (by kernel_rfl))
  f49 := ⟨Tryz.f265.name, by decide, Tryz.func265.trans (congrArg some (by kernel_rfl))⟩
  f50 := ⟨Tryz.f266.name, by decide, Tryz.func266.trans (congrArg some (by kernel_rfl))⟩
  f57 := ⟨Tryz.f270.name, by decide, Tryz.func270.trans (congrArg some (by kernel_rfl))⟩
  t0 := Tryz.underlying0
  a0 := Tryz.isAgg0
  z0 := Tryz.sizeOf0
  v0 := Tryz.zeroValue0
  t3 := Tryz.underlying3
  a3 := Tryz.isAgg3
  z3 := Tryz.sizeOf3
  v3 := Tryz.zeroValue3
  t4 := Tryz.underlying4
  a4 := Tryz.isAgg4
  z4 := Tryz.sizeOf4
  v4 := Tryz.zeroValue4
  t5 := Tryz.underlying5
  a5 := Tryz.isAgg5
  z5 := Tryz.sizeOf5
  v5 := Tryz.zeroValue5
  t9 := Tryz.underlying9
  a9 := Tryz.isAgg9
  z9 := Tryz.sizeOf9
  v9 := Tryz.zeroValue9
  t22 := Tryz.underlying31
  a22 := Tryz.isAgg31
  z22 := Tryz.sizeOf31
  v22 := Tryz.zeroValue31
  t25 := Tryz.underlying157
  a25 := Tryz.isAgg157
  z25 := Tryz.sizeOf157
  v25 := Tryz.zeroValue157
  t39 := Tryz.underlying201
  a39 := Tryz.isAgg201
  z39 := Tryz.sizeOf201
  v39 := Tryz.zeroValue201
  t45 := Tryz.underlying259
  a45 := Tryz.isAgg259
  z45 := Tryz.sizeOf259
  v45 := Tryz.zeroValue259
  t46 := Tryz.underlying260
  a46 := Tryz.isAgg260
  z46 := Tryz.sizeOf260
  v46 := Tryz.zeroValue260
  t50 := Tryz.underlying180
  a50 := Tryz.isAgg180
  z50 := Tryz.sizeOf180
  v50 := Tryz.zeroValue180
  t53 := Tryz.underlying139
  a53 := Tryz.isAgg139
  z53 := Tryz.sizeOf139
  v53 := Tryz.zeroValue139
  t55 := Tryz.underlying267
  a55 := Tryz.isAgg267
  z55 := Tryz.sizeOf267
  v55 := Tryz.zeroValue267
  t66 := Tryz.underlying281
  a66 := Tryz.isAgg281
  z66 := Tryz.sizeOf281
  v66 := Tryz.zeroValue281
  t70 := Tryz.underlying285
  a70 := Tryz.isAgg285
  z70 := Tryz.sizeOf285
  v70 := Tryz.zeroValue285
  t76 := Tryz.underlying289
  a76 := Tryz.isAgg289
  z76 := Tryz.sizeOf289
  v76 := Tryz.zeroValue289
  t77 := Tryz.underlying78
  a77 := Tryz.isAgg78
  z77 := Tryz.sizeOf78
  v77 := Tryz.zeroValue78 }
end Go.Proofs
namespace Go.Proofs.YtpfkfbmghddepaaGreat
open Go.RowKit Go.Sort Go.Lib

set_option maxHeartbeats 1000000 in
theorem compareEdges_grow (d e : EdgeV) (w : World) :
    Calls Tryz.prog 111 #[.agg #[.int .i64 d.1, .int .i64 d.2], .agg #[.int .i64 e.1, .int .i64 e.2]] w fun x w' => x = .returned (.int .i64 (cmpE d e)) ∧ ∃ q os', w' = grow (w.drewN q) os' := by
  obtain ⟨a, b⟩ := d
  obtain ⟨c, f⟩ := e
  dsimp only
  have HC := hideIt cmpCompare_any
  have HO : Hid (Calls Tryz.prog 175 #[.slice (some ⟨w.heap.size + 1 + 1, 0, none⟩) 2 2] (((w.alloc (.cells #[.int .i64 a, .int .i64 b] 28)).alloc (.cells #[.int .i64 c, .int .i64 f] 28)).alloc (.cells #[.int .i64 (cmpI a c), .int .i64 (cmpI b f)] 3)).drew
      fun e w' => e = .returned (.int .i64 (cmpE (a, b) (c, f))) ∧ w' = (((w.alloc (.cells #[.int .i64 a, .int .i64 b] 28)).alloc (.cells #[.int .i64 c, .int .i64 f] 28)).alloc (.cells #[.int .i64 (cmpI a c), .int .i64 (cmpI b f)] 3)).drew) :=
    cmpOr_any (cmpI a c) (cmpI b f) (w.heap.size + 1 + 1) _ (by simp [go_sem]) (by simp [go_sem])
  go_enter Tryz.func111, Tryz.ntmps111
  go_wp2
  go_region_held3 (fun u => (u.cell? ⟨w.heap.size, 0, none⟩ = some (.int .i64 a) ∧ u.cell? ⟨w.heap.size, 1, none⟩ = some (.int .i64 b)) ∧ u.cell? ⟨w.heap.size + 1, 0, none⟩ = some (.int .i64 c) ∧ u.cell? ⟨w.heap.size + 1, 1, none⟩ = some (.int .i64 f))
    (go_keep)
    (first
      | (go_at_call 176; refine (HC.out _ _ _).mono ?_; rintro e w1 ⟨rfl, rfl⟩)
      | (go_at_call 175; refine HO.out.mono ?_; rintro e w1 ⟨rfl, rfl⟩))
  all_goals
    go_wp2
    go_ret
    exact ⟨rfl, 1, _, by rw [alloc_eq_grow, alloc_eq_grow, alloc_eq_grow, grow_grow, grow_grow]; rfl⟩

theorem ltE (x y : EdgeV) : ltOf cmpE x y = lt x y := by
  unfold ltOf
  rw [Bool.eq_iff_iff, decide_eq_true_iff, cmpE_neg]
theorem swoE : SWO (ltOf cmpE) where
  irrefl x := by rw [ltE]; exact lt_irrefl' x
  trans x y z h1 h2 := by rw [ltE] at *; exact lt_trans' h1 h2
  ntrans x y z h1 h2 := by
    rw [ltE] at *
    cases h : lt x z with
    | false => rfl
    | true =>
      rw [lt_iff] at h
      have a1 : ¬ (lt x y = true) := by rw [h1]; simp
      have a2 : ¬ (lt y z = true) := by rw [h2]; simp
      rw [lt_iff] at a1 a2
      omega
/-- the edges, ascending -/
def srtE (es : List EdgeV) : List EdgeV := es.mergeSort fun x y => !(lt y x)
theorem srtE_eq (es : List EdgeV) : (es.mergeSort fun x y => !(ltOf cmpE) y x) = srtE es := by
  unfold srtE
  congr 1
  funext x y
  rw [ltE]
theorem srtE_perm (es : List EdgeV) : (srtE es).Perm es := List.mergeSort_perm _ _
theorem srtE_mem (es : List EdgeV) (e : EdgeV) : e ∈ srtE es ↔ e ∈ es := (srtE_perm es).mem_iff
theorem srtE_len (es : List EdgeV) : (srtE es).length = es.length := (srtE_perm es).length_eq
theorem srtE_asc {es : List EdgeV} (hn : es.Nodup) : Asc (srtE es) := by
  have hp : (srtE es).Pairwise (fun x y => (!(lt y x)) = true) := List.pairwise_mergeSort (fun a b c h1 h2 => by
      simp only [Bool.not_eq_true'] at h1 h2 ⊢
      have a1 : ¬ (lt b a = true) := by rw [h1]; simp
      have a2 : ¬ (lt c b = true) := by rw [h2]; simp
      cases h : lt c a with
      | false => rfl
      | true =>
        rw [lt_iff] at h a1 a2
        omega) (fun a b => by
      cases h : lt b a with
      | false => simp
      | true => simp [lt_asymm' h]) es
  have hn2 : (srtE es).Nodup := (srtE_perm es).nodup_iff.2 hn
  intro i j d e hij hd he
  obtain ⟨q0, q1⟩ := List.getElem?_eq_some_iff.1 hd
  obtain ⟨q2, q3⟩ := List.getElem?_eq_some_iff.1 he
  have h1 := List.pairwise_iff_getElem.1 hp i j q0 q2 hij
  have h2 := List.pairwise_iff_getElem.1 hn2 i j q0 q2 hij
  rw [q1, q3] at h1 h2
  simp only [Bool.not_eq_true'] at h1
  exact lt_total' h1 (fun e => h2 e.symm)

theorem flat_cells (es : List EdgeV) : flatK ecell 2 es.toArray = (ecells es).toArray := by
  refine ext_get! (by simp [ecells_length]) fun t ht => ?_
  have ht' : t < es.length * 2 := by simpa using ht
  rw [get_flatK _ _ _ t (by simpa using ht')]
  obtain ⟨f, hf⟩ : ∃ f, es[t / 2]? = some f := ⟨es[t / 2]'(by omega), List.getElem?_eq_getElem (by omega)⟩
  have hfe : es.toArray[t / 2]! = f := by
    rw [getElem!_pos _ _ (by simp; omega)]
    obtain ⟨q, e⟩ := List.getElem?_eq_some_iff.1 hf
    simpa using e
  rw [hfe]
  obtain ⟨h0, h1⟩ := ecells_at es (t / 2) f hf
  have hl : t < (ecells es).length := by rw [ecells_length]; exact ht'
  rw [getElem!_pos _ t (by simpa using hl)]
  rcases Nat.mod_two_eq_zero_or_one t with h | h
  · have et : t / 2 * 2 = t := by omega
    rw [et] at h0
    obtain ⟨q, e⟩ := List.getElem?_eq_some_iff.1 h0
    rw [h]
    simpa [ecell] using e.symm
  · have et : t / 2 * 2 + 1 = t := by omega
    rw [et] at h1
    obtain ⟨q, e⟩ := List.getElem?_eq_some_iff.1 h1
    rw [h]
    simpa [ecell] using e.symm
theorem take_putId (cur F : Array Value) (h : F.size ≤ cur.size) : (putCells id 0 F cur).toList.take F.size = F.toList := by
  apply List.ext_getElem?
  intro j
  by_cases hj : j < F.size
  · rw [List.getElem?_take_of_lt hj, Array.getElem?_toList]
    simp [putCells, hj, show j < cur.size by omega]
  · rw [List.getElem?_take_eq_none (by omega), List.getElem?_eq_none (by simp; omega)]
theorem heap_putId {w : World} {g n : Nat} {os : Array Obj} {cur : Array Value} {e : TypeId} {fr : Nat × Nat} (F : Array Value) (hb : w.heap[g]? = some (.cells cur e fr)) :
    (grow (putRow id (Sort.ahead w n) g 0 F) os).heap[g]? = some (.cells (putCells id 0 F cur) e fr) := by
  have hg : g < w.heap.size := (Array.getElem?_eq_some_iff.1 hb).1
  rw [heap_grow_old _ _ (by simpa using hg)]
  simp [putRow, mapBlock, Sort.ahead, Array.getElem?_modify, hb, onCells]
theorem grown_putId {w : World} {g n : Nat} {os : Array Obj} (F : Array Value) : w.grownBy (grow (putRow id (Sort.ahead w n) g 0 F) os) (some g) := by
  refine ⟨rfl, rfl, rfl, by simp, fun k hk hne => ?_⟩
  rw [heap_grow_old _ _ (by simpa using hk)]
  have : g ≠ k := fun e => hne (by rw [e])
  simp [putRow, mapBlock, Sort.ahead, Array.getElem?_modify, this]

set_option maxHeartbeats 1000000 in
theorem sortFE_any (es : List EdgeV) (m : Nat) (v : Value) (B : Nat) (hm : m ≤ 3000000) (w : World) (h : w.ownsRow B 28 2 v m (ecells es)) :
    Calls Tryz.prog 173 #[v, .func (.func 111) #[] #[]] w fun e w' => e = .returned (.tuple #[]) ∧ w'.ownsRow B 28 2 v m (ecells (srtE es)) ∧ (B ≤ w.heap.size → Below B w w') := by
  have hl := h.1
  rw [ecells_length] at hl
  rcases h.2 with ⟨rfl, h0⟩ | ⟨g, cap, cur, rfl, hg, hgb, r1, r2, r3, r4⟩
  · have hc := AnyF.slices_SortFunc_none Tryz.laysSF none 0 (.func (.func 111) #[] #[]) w
    change Calls Tryz.prog 173 _ _ _ at hc
    refine hc.mono ?_
    rintro e w' ⟨rfl, rfl⟩
    have e : es = [] := List.eq_nil_of_length_eq_zero (by omega)
    subst e
    exact ⟨rfl, by simpa [srtE] using h, fun _ => Below.refl _ _⟩
  · have hgl : g < w.heap.size := (Array.getElem?_eq_some_iff.1 hgb).1
    have hH : HoldsK ecell 2 w g 0 es.toArray := by
      unfold HoldsK
      rw [flat_cells]
      intro j hj
      have hj' : j < (ecells es).length := by simpa using hj
      refine ⟨?_, h.frozenAt (0 + j)⟩
      rw [Nat.zero_add, h.cellAt j (by rw [ecells_length] at hj'; omega), getElem!_pos _ j hj]
      simp [hj']
    have hc := AnyQ.slices_SortFunc_total Tryz.laysSF 2 Tryz.isAgg28 Tryz.sizeOf28 ecell (fun _ => rfl) (fun x u hu => by simp [ecell] at hu; rcases hu with rfl | rfl <;> rfl) cmpE swoE 111 #[] g 0 cap es.toArray w
      (enters_of Tryz.func111 (by kernel_rfl) rfl) (fun _ _ _ _ x y => compareEdges_grow x y _) hH hgl (by simp; omega) (fun x y h1 h2 => by
        rw [ltE] at h1 h2
        exact Classical.byContradiction fun hne => by have := lt_total' h1 hne; rw [h2] at this; simp at this)
    change Calls Tryz.prog 173 _ _ _ at hc
    rw [show es.toArray.size = m by simp; omega] at hc
    refine hc.mono ?_
    rintro e w' ⟨rfl, n, os, rfl⟩
    rw [show es.toArray.toList = es by simp, srtE_eq]
    unfold sortWorldK putRowK
    rw [flat_cells]
    have hsl : (ecells (srtE es)).toArray.size = m * 2 := by simp [ecells_length, srtE_len]; omega
    refine ⟨rfl, ⟨by rw [ecells_length, srtE_len]; omega, .inr ⟨g, cap, _, rfl, hg, heap_putId _ hgb, r1, r2, by simp [putCells, r3], ?_⟩⟩, fun hB => (Below.refl _ w).grown (grown_putId _) hB (fun j e => by cases e; exact hg)⟩
    have := take_putId cur (ecells (srtE es)).toArray (by rw [hsl, r3]; omega)
    rw [hsl] at this
    simpa using this

set_option maxHeartbeats 1000000 in
theorem sortedFE_any (es : List EdgeV) (m : Nat) (a : Option Addr) (c B : Nat) (hm : m ≤ 3000000) (w : World) (hB : B < w.heap.size) (hBc : w.cell? ⟨B, 0, none⟩ = some (.slice a m c)) (h : Es w w.heap.size a m es) :
    Calls Tryz.prog 109 #[.func (.func 174) #[] #[.pointer (some ⟨B, 0, none⟩)], .func (.func 111) #[] #[]] w fun e w' => ∃ a' c', e = .returned (.slice a' m c') ∧ w'.ownsRow w.heap.size 28 2 (.slice a' m c') m (ecells (srtE es)) ∧ Below w.heap.size w w' := by
  have HA := hideIt (collectE_any es m a c B hm w hB hBc h)
  clear h hBc
  go_enter Tryz.func109, Tryz.ntmps109
  go_wp2_with (go_at_call 172; refine HA.out.mono ?_; rintro e w1 ⟨v, rfl, ho, hb⟩; refine Hid.out ?_)
  refine (show ∀ {p : Prop}, p → Hid p from fun h => h) ?_
  obtain ⟨a1, c1, rfl⟩ := own_form ho
  have HS := hideIt (sortFE_any es m _ w.heap.size hm w1 ho)
  clear HA ho
  go_wp2_with (go_at_call 173; refine HS.out.mono ?_; rintro e w2 ⟨rfl, ho2, hb2⟩)
  go_ret
  exact ⟨a1, c1, rfl, ho2, hb.trans (hb2 hb.size)⟩
end Go.Proofs.YtpfkfbmghddepaaGreat
namespace Go.Proofs.YtpfkfbmghddepaaGreat
open Go.RowKit

/-- the world behind a graph's box -/
def wG (w : World) (N : Int) (a : Option Addr) (n c : Nat) : World := w.alloc (.cells #[.int .i64 N, .slice a n c] 33)

theorem wG_size (w : World) (N : Int) (a : Option Addr) (n c : Nat) : (wG w N a n c).heap.size = w.heap.size + 1 := by simp [wG]

theorem wG_below (w : World) (N : Int) (a : Option Addr) (n c : Nat) : Below w.heap.size w (wG w N a n c) := (Below.refl _ _).alloc (Nat.le_refl _) _

/-- nothing of it has turned -/
def InG (w : World) (N : Int) (a : Option Addr) (n c : Nat) (u : World) : Prop := Good (wG w N a n c) u

theorem InG.start (w : World) (N : Int) (a : Option Addr) (n c : Nat) : InG w N a n c (wG w N a n c) := Good.refl _

theorem InG.up {w : World} {N : Int} {a : Option Addr} {n c : Nat} {u v : World} (h : InG w N a n c u) (hb : Below u.heap.size u v) : InG w N a n c v := Good.up h hb

theorem InG.below {w : World} {N : Int} {a : Option Addr} {n c : Nat} {u : World} (h : InG w N a n c u) : Below w.heap.size w u := (wG_below w N a n c).trans (Below.mono h (by rw [wG_size]; omega))

theorem InG.size {w : World} {N : Int} {a : Option Addr} {n c : Nat} {u : World} (h : InG w N a n c u) : w.heap.size + 1 ≤ u.heap.size := by have := Good.size h; rw [wG_size] at this; exact this

theorem InG.cells {w : World} {N : Int} {a : Option Addr} {n c : Nat} {u : World} (h : InG w N a n c u) : u.cell? ⟨w.heap.size, 0, none⟩ = some (.int .i64 N) ∧ u.cell? ⟨w.heap.size, 1, none⟩ = some (.slice a n c) := by
  have hs := wG_size w N a n c
  refine ⟨?_, ?_⟩
  · rw [Good.cell h (by omega)]; simp [wG]
  · rw [Good.cell h (by omega)]; simp [wG]

/-- a row made since u0 stands in a world since w -/
theorem ISt.inG {w : World} {N : Int} {a : Option Addr} {n c : Nat} {u0 : World} (h0 : InG w N a n c u0) {a' : Option Addr} {m c' : Nat} {ls : List Int} {u : World} (h : ISt u0 a' m c' ls u) : InG w N a n c u := h0.up h.bel

theorem ISt.ans {w : World} {N : Int} {a : Option Addr} {n c : Nat} {u0 : World} (h0 : InG w N a n c u0) {a' : Option Addr} {m c' : Nat} {ls : List Int} {u : World} (h : ISt u0 a' m c' ls u) : IAns w ls (.returned (.slice a' m c')) u :=
  ⟨a', m, c', rfl, own_mono h.own (by have := h0.size; omega), (h.inG h0).below⟩

end Go.Proofs.YtpfkfbmghddepaaGreat
