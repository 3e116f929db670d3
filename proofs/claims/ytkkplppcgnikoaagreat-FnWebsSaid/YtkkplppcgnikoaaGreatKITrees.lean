/- The program's GraphOk and HasEdge. The program's HasEdge; slices.Index and Contains of edges. The program's AddEdge. What hangs together by edges; parents of members: pure. The program's members: least and join. The program's treesOk: whether edges close no ring. -/
import Derived.Test.YtkkplppcgnikoaaGreatKCon9
import Derived.Deep.RegionHeld3
import Derived.Test.YtkkplppcgnikoaaGreatKBx7
import Derived.LaidEqlPtr
namespace Go.Proofs.YtkkplppcgnikoaaGreat
open Go.RowKit

theorem cmpE_ge (d e : EdgeV) (b : Bool) (h : lt d e = b) : decide (0 ≤ cmpE d e) = !b := by
  cases b with
  | true => have := (cmpE_neg d e).2 h; simp; omega
  | false =>
    have : ¬ cmpE d e < 0 := fun h2 => by rw [(cmpE_neg d e).1 h2] at h; cases h
    simp; omega

set_option maxRecDepth 100000 in
set_option maxHeartbeats 2000000 in
theorem edgesOk_any (N : Int) (es : List EdgeV) (n : Nat) (a : Option Addr) (c : Nat) (hn : n ≤ 1048576) (w : World) (h : Es w w.heap.size a n es) :
    Calls Tryz.prog 168 #[.int .i64 N, .slice a n c] w fun e w' => e = .returned (.bool (chk N es && decide (es.length ≤ 66))) ∧ Below w.heap.size w w' := by
  obtain ⟨hlen, hrow⟩ := h
  have HR := hideIt hrow
  clear hrow
  by_cases g66 : 66 < n
  · have d66 : decide ((66 : Int) < (n : Int)) = true := decide_eq_true (by omega)
    have HG : Hid (decide (es.length ≤ 66) = false) := decide_eq_false (by omega)
    go_enter Tryz.func168, Tryz.ntmps168
    go_wp2
    go_ret
    exact ⟨by rw [HG.out]; simp, Below.refl _ _⟩
  · have d66 : decide ((66 : Int) < (n : Int)) = false := decide_eq_false (by omega)
    have HG : Hid (decide (es.length ≤ 66) = true) := decide_eq_true (by omega)
    go_enter Tryz.func168, Tryz.ntmps168
    go_wp2
    go_loopw [12] (fun i wr => ∃ k : Nat, k ≤ n ∧ i = .int .i64 (k : Int) ∧ Hid (∀ j, j < k → chkAt N es j = true) ∧ Below w.heap.size w wr) (fun i _ => n - (intOf i).toNat)
    case atStart => exact ⟨0, by omega, rfl, fun j hj => by omega, Below.refl _ _⟩
    case round =>
      obtain ⟨k, hk, rfl, hck, hb⟩ := hrel
      by_cases hlt : k < n
      · rcases HR.out with hz | ⟨b, off, rfl, hbl, hc⟩
        · omega
        · obtain ⟨f, hf⟩ : ∃ f, es[k]? = some f := ⟨es[k]'(by omega), List.getElem?_eq_getElem (by omega)⟩
          obtain ⟨c0, c1⟩ := hc k f hf
          have e0 : wr.cell? ⟨b, off + k * 2, none⟩ = some (.int .i64 f.1) := by rw [hb.cell hbl]; exact c0
          have e1 : wr.cell? ⟨b, off + k * 2 + 1, none⟩ = some (.int .i64 f.2) := by rw [hb.cell hbl]; exact c1
          have b1 : (0 : Int) ≤ (k : Int) := by omega
          have b2 : (k : Int) < (n : Int) := by omega
          have z0 : wr.heap.size < (wr.alloc (.cells #[.int .i64 f.1, .int .i64 f.2] 28)).heap.size := by simp
          have hb5 : Below w.heap.size w (wr.alloc (.cells #[.int .i64 f.1, .int .i64 f.2] 28)) := hb.alloc hb.size _
          have hbd : Below (wr.alloc (.cells #[.int .i64 f.1, .int .i64 f.2] 28)).heap.size (wr.alloc (.cells #[.int .i64 f.1, .int .i64 f.2] 28)) (wr.alloc (.cells #[.int .i64 f.1, .int .i64 f.2] 28)).drew := (Below.refl _ _).drew
          have HZ := hideIt (fun W (hW : Below (wr.alloc (.cells #[.int .i64 f.1, .int .i64 f.2] 28)).heap.size (wr.alloc (.cells #[.int .i64 f.1, .int .i64 f.2] 28)) W) => hb5.trans (hW.mono hb5.size))
          have HE : Hid (∀ W : World, Below (wr.alloc (.cells #[.int .i64 f.1, .int .i64 f.2] 28)).heap.size (wr.alloc (.cells #[.int .i64 f.1, .int .i64 f.2] 28)) W → Calls Tryz.prog 159 #[.int .i64 N, .agg #[.int .i64 f.1, .int .i64 f.2]] W fun e w' => e = .returned (.bool (eB N f)) ∧ Below (wr.alloc (.cells #[.int .i64 f.1, .int .i64 f.2] 28)).heap.size (wr.alloc (.cells #[.int .i64 f.1, .int .i64 f.2] 28)) w') := fun W hW =>
            (iEdgeOk_any N f W).mono fun _ _ ⟨he, hb'⟩ => ⟨he, hW.trans (hb'.mono hW.size)⟩
          have HK : Hid (∀ W : World, Below (wr.alloc (.cells #[.int .i64 f.1, .int .i64 f.2] 28)).heap.size (wr.alloc (.cells #[.int .i64 f.1, .int .i64 f.2] 28)) W → (W.cell? ⟨wr.heap.size, 0, none⟩ = some (.int .i64 f.1) ∧ W.cell? ⟨wr.heap.size, 1, none⟩ = some (.int .i64 f.2))) := fun W hW =>
            ⟨by rw [hW.cell z0]; simp, by rw [hW.cell z0]; simp⟩
          cases hE : eB N f with
          | false =>
            rw [hE] at HE
            have HN := hideIt (chk_no (by omega : k < es.length) (chkAt_no hf hE))
            clear hf hc c0 c1 hE hck
            go_wp2
            refine wp_region_any (by kernel_rfl) ?_
            change wpAny _ _ _ _ _ _ _ (World.drew _)
            refine takeOp (i := 0) (v := ?_) rfl (by kernel_rfl) (by kernel_rfl) (by kernel_rfl) (fun _ _ _ h => h) (by kernel_rfl) ?_ ?_
            rotate_left
            · intro w; go_simp; try with_reducible rfl
            refine wpAny_ready (rs := [1]) (by kernel_rfl) (by simp) ?_
            refine AllReady.cons rfl (fun K hK => ?_) AllReady.nil
            go_simp
            refine hK _ _ ?_
            clear hK K
            refine wpAny_ready (rs := [2]) (by kernel_rfl) (by simp) ?_
            refine AllReady.cons rfl (fun K hK => ?_) AllReady.nil
            go_wp2_with (go_at_call 159; refine (HE.out _ hbd).mono ?_; rintro e w1 ⟨rfl, hb3⟩; refine Hid.out ?_)
            refine (show ∀ {p : Prop}, p → Hid p from fun h => h) ?_
            try refine hK _ _ ?_
            clear hK K
            refine wpAny_ready (rs := [3]) (by kernel_rfl) (by simp) ?_
            refine AllReady.cons rfl (fun K hK => ?_) AllReady.nil
            go_simp
            refine hK _ _ ?_
            clear hK K
            refine wpAny_ready (rs := [4]) (by kernel_rfl) (by simp) ?_
            refine AllReady.cons rfl (fun K hK => ?_) AllReady.nil
            go_simp
            refine hK _ _ ?_
            clear hK K
            refine skipOp (i := 5) rfl (by kernel_rfl) (by kernel_rfl) (by kernel_rfl) (fun _ _ _ h => h) (by kernel_rfl) ?_
            refine skipOp (i := 6) rfl (by kernel_rfl) (by kernel_rfl) (by kernel_rfl) (fun _ _ _ h => h) (by kernel_rfl) ?_
            refine skipOp (i := 7) rfl (by kernel_rfl) (by kernel_rfl) (by kernel_rfl) (fun _ _ _ h => h) (by kernel_rfl) ?_
            refine skipOp (i := 8) rfl (by kernel_rfl) (by kernel_rfl) (by kernel_rfl) (fun _ _ _ h => h) (by kernel_rfl) ?_
            refine skipOp (i := 9) rfl (by kernel_rfl) (by kernel_rfl) (by kernel_rfl) (fun _ _ _ h => h) (by kernel_rfl) ?_
            refine skipOp (i := 10) rfl (by kernel_rfl) (by kernel_rfl) (by kernel_rfl) (fun _ _ _ h => h) (by kernel_rfl) ?_
            refine skipOp (i := 11) rfl (by kernel_rfl) (by kernel_rfl) (by kernel_rfl) (fun _ _ _ h => h) (by kernel_rfl) ?_
            refine skipOp (i := 12) rfl (by kernel_rfl) (by kernel_rfl) (by kernel_rfl) (fun _ _ _ h => h) (by kernel_rfl) ?_
            refine skipOp (i := 13) rfl (by kernel_rfl) (by kernel_rfl) (by kernel_rfl) (fun _ _ _ h => h) (by kernel_rfl) ?_
            refine skipOp (i := 14) rfl (by kernel_rfl) (by kernel_rfl) (by kernel_rfl) (fun _ _ _ h => h) (by kernel_rfl) ?_
            refine skipOp (i := 15) rfl (by kernel_rfl) (by kernel_rfl) (by kernel_rfl) (fun _ _ _ h => h) (by kernel_rfl) ?_
            refine skipOp (i := 16) rfl (by kernel_rfl) (by kernel_rfl) (by kernel_rfl) (fun _ _ _ h => h) (by kernel_rfl) ?_
            refine wpAny_ready (rs := [17]) (by kernel_rfl) (by simp) ?_
            refine AllReady.cons rfl (fun K hK => ?_) AllReady.nil
            go_simp
            refine hK _ _ ?_
            clear hK K
            refine wpAny_done (by kernel_rfl) ?_ _
            go_wp2
            go_ret
            exact ⟨by rw [HN.out]; rfl, HZ.out _ hb3⟩
          | true =>
            rw [hE] at HE
            rcases k with _ | i
            · have HY := hideIt (show chkAt N es 0 = true by rw [chkAt_zero hf]; exact hE)
              clear hf hc c0 c1 hE
              rw [Nat.zero_mul, Nat.add_zero] at e0 e1
              go_wp2
              refine wp_region_any (by kernel_rfl) ?_
              change wpAny _ _ _ _ _ _ _ (World.drew _)
              refine takeOp (i := 0) (v := ?_) rfl (by kernel_rfl) (by kernel_rfl) (by kernel_rfl) (fun _ _ _ h => h) (by kernel_rfl) ?_ ?_
              rotate_left
              · intro w; go_simp; try with_reducible rfl
              refine wpAny_ready (rs := [1]) (by kernel_rfl) (by simp) ?_
              refine AllReady.cons rfl (fun K hK => ?_) AllReady.nil
              go_simp
              refine hK _ _ ?_
              clear hK K
              refine wpAny_ready (rs := [2]) (by kernel_rfl) (by simp) ?_
              refine AllReady.cons rfl (fun K hK => ?_) AllReady.nil
              go_wp2_with (go_at_call 159; refine (HE.out _ hbd).mono ?_; rintro e w1 ⟨rfl, hb3⟩; refine Hid.out ?_)
              refine (show ∀ {p : Prop}, p → Hid p from fun h => h) ?_
              try refine hK _ _ ?_
              clear hK K
              refine wpAny_ready (rs := [3]) (by kernel_rfl) (by simp) ?_
              refine AllReady.cons rfl (fun K hK => ?_) AllReady.nil
              go_simp
              refine hK _ _ ?_
              clear hK K
              refine wpAny_ready (rs := [4]) (by kernel_rfl) (by simp) ?_
              refine AllReady.cons rfl (fun K hK => ?_) AllReady.nil
              go_simp
              refine hK _ _ ?_
              clear hK K
              refine wpAny_ready (rs := [5]) (by kernel_rfl) (by simp) ?_
              refine AllReady.cons rfl (fun K hK => ?_) AllReady.nil
              go_simp
              refine hK _ _ ?_
              clear hK K
              refine wpAny_ready (rs := [6]) (by kernel_rfl) (by simp) ?_
              refine AllReady.cons rfl (fun K hK => ?_) AllReady.nil
              go_simp
              refine hK _ _ ?_
              clear hK K
              refine wpAny_ready (rs := [7]) (by kernel_rfl) (by simp) ?_
              refine AllReady.cons rfl (fun K hK => ?_) AllReady.nil
              go_simp
              refine hK _ _ ?_
              clear hK K
              refine skipOp (i := 8) rfl (by kernel_rfl) (by kernel_rfl) (by kernel_rfl) (fun _ _ _ h => h) (by kernel_rfl) ?_
              refine skipOp (i := 9) rfl (by kernel_rfl) (by kernel_rfl) (by kernel_rfl) (fun _ _ _ h => h) (by kernel_rfl) ?_
              refine skipOp (i := 10) rfl (by kernel_rfl) (by kernel_rfl) (by kernel_rfl) (fun _ _ _ h => h) (by kernel_rfl) ?_
              refine skipOp (i := 11) rfl (by kernel_rfl) (by kernel_rfl) (by kernel_rfl) (fun _ _ _ h => h) (by kernel_rfl) ?_
              refine skipOp (i := 12) rfl (by kernel_rfl) (by kernel_rfl) (by kernel_rfl) (fun _ _ _ h => h) (by kernel_rfl) ?_
              refine skipOp (i := 13) rfl (by kernel_rfl) (by kernel_rfl) (by kernel_rfl) (fun _ _ _ h => h) (by kernel_rfl) ?_
              refine skipOp (i := 14) rfl (by kernel_rfl) (by kernel_rfl) (by kernel_rfl) (fun _ _ _ h => h) (by kernel_rfl) ?_
              refine skipOp (i := 15) rfl (by kernel_rfl) (by kernel_rfl) (by kernel_rfl) (fun _ _ _ h => h) (by kernel_rfl) ?_
              refine wpAny_ready (rs := [16]) (by kernel_rfl) (by simp) ?_
              refine AllReady.cons rfl (fun K hK => ?_) AllReady.nil
              go_simp
              refine hK _ _ ?_
              clear hK K
              refine wpAny_ready (rs := [17]) (by kernel_rfl) (by simp) ?_
              refine AllReady.cons rfl (fun K hK => ?_) AllReady.nil
              go_simp
              refine hK _ _ ?_
              clear hK K
              refine wpAny_done (by kernel_rfl) ?_ _
              go_wp2
              exact ⟨⟨1, by omega, by go_num, fun j hj => by
                obtain rfl : j = 0 := by omega
                exact HY.out, HZ.out _ hb3⟩, by simp [intOf]; omega⟩
            · obtain ⟨d, hd⟩ : ∃ d, es[i]? = some d := ⟨es[i]'(by omega), List.getElem?_eq_getElem (by omega)⟩
              obtain ⟨c2, c3⟩ := hc i d hd
              have HK2 : Hid (∀ W : World, Below (wr.alloc (.cells #[.int .i64 f.1, .int .i64 f.2] 28)).heap.size (wr.alloc (.cells #[.int .i64 f.1, .int .i64 f.2] 28)) W → (W.cell? ⟨b, off + i * 2, none⟩ = some (.int .i64 d.1) ∧ W.cell? ⟨b, off + i * 2 + 1, none⟩ = some (.int .i64 d.2))) := fun W hW =>
                ⟨by rw [(HZ.out W hW).cell hbl]; exact c2, by rw [(HZ.out W hW).cell hbl]; exact c3⟩
              have HC := hideIt (chkAt_succ (n := N) hf hd)
              have HL2 : Hid (∀ W : World, Below (wr.alloc (.cells #[.int .i64 f.1, .int .i64 f.2] 28)).heap.size (wr.alloc (.cells #[.int .i64 f.1, .int .i64 f.2] 28)) W → Calls Tryz.prog 104 #[.agg #[.int .i64 d.1, .int .i64 d.2], .agg #[.int .i64 f.1, .int .i64 f.2]] W fun e w' => e = .returned (.int .i64 (cmpE d f)) ∧ Below (wr.alloc (.cells #[.int .i64 f.1, .int .i64 f.2] 28)).heap.size (wr.alloc (.cells #[.int .i64 f.1, .int .i64 f.2] 28)) w') := fun W hW =>
                (compareEdges_any d f W).mono fun _ _ ⟨he, hb'⟩ => ⟨he, hW.trans (hb'.mono hW.size)⟩
              have HE0 := hideIt hE
              have ek : ((i + 1 : Nat) : Int) = (i : Int) + 1 := by omega
              rw [ek] at b1 b2
              have b3 : (0 : Int) ≤ (i : Int) := by omega
              have b4 : (i : Int) < (n : Int) := by omega
              have tn : ((i : Int) + 1).toNat = i + 1 := by omega
              have d0 : decide ((0 : Int) < (i : Int) + 1) = true := decide_eq_true (by omega)
              have hw1 : IntKind.i64.wrap (i : Int) = (i : Int) := by rw [IntKind.wrap_i64]; omega
              rw [ek]
              clear ek hf hd hc c0 c1 c2 c3 hE
              cases hL : lt d f with
              | true =>
                have dc := cmpE_ge d f true hL
                have HY := hideIt (show chkAt N es (i + 1) = true by rw [HC.out, HE0.out, hL]; rfl)
                clear HC hL HE0
                generalize cmpE d f = cv at HL2 dc
                go_wp2
                go_region_held3 (fun u => Below (wr.alloc (.cells #[.int .i64 f.1, .int .i64 f.2] 28)).heap.size (wr.alloc (.cells #[.int .i64 f.1, .int .i64 f.2] 28)) u ∧ (u.cell? ⟨wr.heap.size, 0, none⟩ = some (.int .i64 f.1) ∧ u.cell? ⟨wr.heap.size, 1, none⟩ = some (.int .i64 f.2)) ∧ u.cell? ⟨b, off + i * 2, none⟩ = some (.int .i64 d.1) ∧ u.cell? ⟨b, off + i * 2 + 1, none⟩ = some (.int .i64 d.2))
                  (first | exact ⟨hb4, HK.out _ hb4, HK2.out _ hb4⟩ | exact ⟨hb3, HK.out _ hb3, HK2.out _ hb3⟩ | exact ⟨hbd, HK.out _ hbd, HK2.out _ hbd⟩)
                  (first
                  | (go_at_call 159; refine (HE.out _ hbd).mono ?_; rintro e w1 ⟨rfl, hb3⟩)
                  | (go_at_call 104; refine (HL2.out _ hb3).mono ?_; rintro e w2 ⟨rfl, hb4⟩))
                all_goals
                  go_wp2
                  exact ⟨⟨i + 2, by omega, by go_num, fun j hj => by
                    by_cases hji : j = i + 1
                    · subst hji; exact HY.out
                    · exact hck.out j (by omega), HZ.out _ hb4⟩, by simp [intOf]; omega⟩
              | false =>
                have dc := cmpE_ge d f false hL
                have HN := hideIt (chk_no (by omega : i + 1 < es.length) (show chkAt N es (i + 1) = false by rw [HC.out, HE0.out, hL]; rfl))
                clear HC hL HE0
                generalize cmpE d f = cv at HL2 dc
                go_wp2
                go_region_held3 (fun u => Below (wr.alloc (.cells #[.int .i64 f.1, .int .i64 f.2] 28)).heap.size (wr.alloc (.cells #[.int .i64 f.1, .int .i64 f.2] 28)) u ∧ (u.cell? ⟨wr.heap.size, 0, none⟩ = some (.int .i64 f.1) ∧ u.cell? ⟨wr.heap.size, 1, none⟩ = some (.int .i64 f.2)) ∧ u.cell? ⟨b, off + i * 2, none⟩ = some (.int .i64 d.1) ∧ u.cell? ⟨b, off + i * 2 + 1, none⟩ = some (.int .i64 d.2))
                  (first | exact ⟨hb4, HK.out _ hb4, HK2.out _ hb4⟩ | exact ⟨hb3, HK.out _ hb3, HK2.out _ hb3⟩ | exact ⟨hbd, HK.out _ hbd, HK2.out _ hbd⟩)
                  (first
                  | (go_at_call 159; refine (HE.out _ hbd).mono ?_; rintro e w1 ⟨rfl, hb3⟩)
                  | (go_at_call 104; refine (HL2.out _ hb3).mono ?_; rintro e w2 ⟨rfl, hb4⟩))
                all_goals
                  go_wp2
                  go_ret
                  exact ⟨by rw [HN.out]; rfl, HZ.out _ hb4⟩
      · have HY := hideIt (chk_yes (n := N) (es := es) (fun j hj => hck.out j (by omega)))
        clear hck
        go_wp2
        go_ret
        exact ⟨by rw [HY.out, HG.out]; rfl, hb⟩

set_option maxHeartbeats 1000000 in
theorem iGraphOk_any (N : Int) (es : List EdgeV) (n : Nat) (a : Option Addr) (c : Nat) (hn : n ≤ 1048576) (w : World) (h : Es w w.heap.size a n es) :
    Calls Tryz.prog 79 #[.agg #[.int .i64 N, .slice a n c]] w fun e w' => e = .returned (.bool (gB N es)) ∧ Below w.heap.size w w' := by
  have HT := hideIt (edgesOk_any N es n a c hn (w.alloc (.cells #[.int .i64 N, .slice a n c] 33)) ((h.alloc (Nat.le_refl _) _).mono (by simp)))
  have HI := hideIt vertsOk_any
  clear h
  by_cases h1 : 1 ≤ N ∧ N ≤ 12
  · have r1 : decide (1 ≤ N ∧ N ≤ 12) = true := by simpa using h1
    have HG : Hid (gB N es = (chk N es && decide (es.length ≤ 66))) := by show _ = _; unfold gB; rw [r1]; rfl
    generalize (chk N es && decide (es.length ≤ 66)) = r at HG HT
    go_enter Tryz.func79, Tryz.ntmps79
    go_wp2_with (first | (go_at_call 121; refine (HI.out _ _).mono ?_; rintro e w1 ⟨rfl, rfl⟩) | (go_at_call 168; refine HT.out.mono ?_; rintro e w2 ⟨rfl, hb2⟩))
    go_ret
    exact ⟨by rw [HG.out]; rfl, ((Below.refl _ _).alloc (Nat.le_refl _) _).trans (hb2.mono (by simp))⟩
  · have r1 : decide (1 ≤ N ∧ N ≤ 12) = false := by simpa using h1
    have HG : Hid (gB N es = false) := by show _ = _; unfold gB; rw [r1]; rfl
    clear HT
    go_enter Tryz.func79, Tryz.ntmps79
    go_wp2_with (go_at_call 121; refine (HI.out _ _).mono ?_; rintro e w1 ⟨rfl, rfl⟩)
    go_ret
    exact ⟨by rw [HG.out]; rfl, (Below.refl _ _).alloc (Nat.le_refl _) _⟩
end Go.Proofs.YtkkplppcgnikoaaGreat
namespace Go.Proofs.YtkkplppcgnikoaaGreat
open Go.RowKit

theorem idxOf_le {es : List EdgeV} {e : EdgeV} {k : Nat} (h : es[k]? = some e) : es.idxOf e ≤ k := by
  induction es generalizing k with
  | nil => simp at h
  | cons x es ih =>
    rw [List.idxOf_cons]
    by_cases hx : x = e
    · simp [hx]
    · cases k with
      | zero => simp at h; exact absurd h hx
      | succ k =>
        have h1 := ih (k := k) (by simpa using h)
        have h2 : (x == e) = false := by simpa using hx
        rw [h2]
        simp
        omega
/-- the place of an edge -/
def idxE (es : List EdgeV) (e : EdgeV) : Int := if e ∈ es then (es.idxOf e : Int) else -1
theorem idxE_yes {es : List EdgeV} {e : EdgeV} {k : Nat} (h : es[k]? = some e) (hn : ∀ j, j < k → es[j]? ≠ some e) : idxE es e = (k : Int) := by
  have hm : e ∈ es := List.mem_of_getElem? h
  unfold idxE
  rw [if_pos hm]
  have h1 := List.idxOf_lt_length_iff.2 hm
  have h2 : es[es.idxOf e]? = some e := by rw [List.getElem?_eq_getElem h1, List.getElem_idxOf h1]
  have h3 : ¬ es.idxOf e < k := fun h4 => hn _ h4 h2
  have h5 : es.idxOf e ≤ k := idxOf_le h
  omega
theorem idxE_no {es : List EdgeV} {e : EdgeV} (h : ∀ j, j < es.length → es[j]? ≠ some e) : idxE es e = -1 := by
  unfold idxE
  rw [if_neg]
  intro hm
  obtain ⟨j, hj, rfl⟩ := List.getElem_of_mem hm
  exact h j hj (List.getElem?_eq_getElem hj)
theorem idxE_has (es : List EdgeV) (e : EdgeV) : decide (0 ≤ idxE es e) = hasB es e := by
  unfold idxE hasB
  by_cases h : e ∈ es
  · rw [if_pos h]; simp [h]
  · rw [if_neg h]; simp [h]
set_option maxHeartbeats 1000000 in
theorem Index_any (es : List EdgeV) (e : EdgeV) (n : Nat) (a : Option Addr) (c : Nat) (hn : n ≤ 1048576) (w : World) (h : Es w w.heap.size a n es) :
    Calls Tryz.prog 69 #[.slice a n c, .agg #[.int .i64 e.1, .int .i64 e.2]] w fun x w' => x = .returned (.int .i64 (idxE es e)) ∧ Below w.heap.size w w' := by
  obtain ⟨hlen, hrow⟩ := h
  have HR := hideIt hrow
  clear hrow
  go_enter Tryz.func69, Tryz.ntmps69
  go_wp2
  go_loopw [8] (fun i wr => ∃ k : Nat, k ≤ n ∧ i = .int .i64 (k : Int) ∧ Hid (∀ j, j < k → es[j]? ≠ some e) ∧ Below w.heap.size w wr ∧ wr.cell? ⟨w.heap.size, 0, none⟩ = some (.int .i64 e.1) ∧ wr.cell? ⟨w.heap.size, 1, none⟩ = some (.int .i64 e.2)) (fun i _ => n - (intOf i).toNat)
  case atStart => exact ⟨0, by omega, rfl, fun j hj => by omega, (Below.refl _ _).alloc (Nat.le_refl _) _, by simp, by simp⟩
  case round =>
    obtain ⟨k, hk, rfl, hck, hb, x0, x1⟩ := hrel
    by_cases hlt : k < n
    · rcases HR.out with hz | ⟨b, off, rfl, hbl, hc⟩
      · omega
      · obtain ⟨f, hf⟩ : ∃ f, es[k]? = some f := ⟨es[k]'(by omega), List.getElem?_eq_getElem (by omega)⟩
        obtain ⟨c0, c1⟩ := hc k f hf
        have e0 : wr.cell? ⟨b, off + k * 2, none⟩ = some (.int .i64 f.1) := by rw [hb.cell hbl]; exact c0
        have e1 : wr.cell? ⟨b, off + k * 2 + 1, none⟩ = some (.int .i64 f.2) := by rw [hb.cell hbl]; exact c1
        have b1 : (0 : Int) ≤ (k : Int) := by omega
        have b2 : (k : Int) < (n : Int) := by omega
        by_cases hfe : f = e
        · subst hfe
          have HY := hideIt (idxE_yes hf hck.out)
          clear hf hc c0 c1 hck
          go_wp2
          go_quiet (fail)
          go_wp2
          go_ret
          exact ⟨by rw [HY.out]; rfl, below_drewN hb _⟩
        · have HN : Hid (∀ j, j < k + 1 → es[j]? ≠ some e) := fun j hj => by
            by_cases hjk : j = k
            · subst hjk; rw [hf]; exact fun hh => hfe (Option.some.inj hh)
            · exact hck.out j (by omega)
          clear hf hc c0 c1 hck
          by_cases h1 : e.1 = f.1
          · have h2 : ¬ e.2 = f.2 := fun h2 => hfe (Prod.ext h1.symm h2.symm)
            rw [← h1] at e0
            have d2 : (e.2 == f.2) = false := by simpa using h2
            clear hfe
            go_wp2
            go_quiet (fail)
            go_wp2
            exact ⟨⟨k + 1, by omega, by go_num, HN, below_drewN hb _, x0, x1⟩, by simp [intOf]; omega⟩
          · have d1 : (e.1 == f.1) = false := by simpa using h1
            clear hfe
            go_wp2
            go_quiet (fail)
            go_wp2
            exact ⟨⟨k + 1, by omega, by go_num, HN, below_drewN hb _, x0, x1⟩, by simp [intOf]; omega⟩
    · have HN := hideIt (idxE_no (es := es) (e := e) (fun j hj => hck.out j (by omega)))
      clear hck
      go_wp2
      go_ret
      exact ⟨by rw [HN.out]; rfl, hb⟩
theorem Contains_any (es : List EdgeV) (e : EdgeV) (n : Nat) (a : Option Addr) (c : Nat) (hn : n ≤ 1048576) (w : World) (h : Es w w.heap.size a n es) :
    Calls Tryz.prog 231 #[.slice a n c, .agg #[.int .i64 e.1, .int .i64 e.2]] w fun x w' => x = .returned (.bool (hasB es e)) ∧ Below w.heap.size w w' := by
  have HT := hideIt (Index_any es e n a c hn (w.alloc (.cells #[.int .i64 e.1, .int .i64 e.2] 28)) ((h.alloc (Nat.le_refl _) _).mono (by simp)))
  have HI := idxE_has es e
  clear h
  generalize idxE es e = r at HT HI
  generalize hasB es e = q at HI
  go_enter Tryz.func231, Tryz.ntmps231
  go_wp2_with (go_at_call 69; refine HT.out.mono ?_; rintro e w1 ⟨rfl, hb1⟩)
  go_ret
  exact ⟨rfl, ((Below.refl _ _).alloc (Nat.le_refl _) _).trans (hb1.mono (by simp))⟩
theorem iHasEdge_any (N : Int) (es : List EdgeV) (e : EdgeV) (n : Nat) (a : Option Addr) (c : Nat) (hn : n ≤ 1048576) (w : World) (h : Es w w.heap.size a n es) :
    Calls Tryz.prog 160 #[.agg #[.int .i64 N, .slice a n c], .agg #[.int .i64 e.1, .int .i64 e.2]] w fun x w' => x = .returned (.bool (hasB es e)) ∧ Below w.heap.size w w' := by
  have HT := hideIt (Contains_any es e n a c hn ((w.alloc (.cells #[.int .i64 N, .slice a n c] 33)).alloc (.cells #[.int .i64 e.1, .int .i64 e.2] 28)) (((h.alloc (Nat.le_refl _) _).alloc (by simp) _).mono (by simp; omega)))
  clear h
  go_enter Tryz.func160, Tryz.ntmps160
  go_wp2_with (go_at_call 231; refine HT.out.mono ?_; rintro e w1 ⟨rfl, hb1⟩)
  go_ret
  exact ⟨rfl, (((Below.refl _ _).alloc (Nat.le_refl _) _).alloc (by simp) _).trans (hb1.mono (by simp; omega))⟩
end Go.Proofs.YtkkplppcgnikoaaGreat
namespace Go.Proofs.YtkkplppcgnikoaaGreat
open Go.RowKit

/-- the answer of AddEdge, TakeEdge: a graph of the answer's own, or nothing -/
def GAns (w : World) (N : Int) (o : Option (List EdgeV)) (e : Ending) (w' : World) : Prop :=
  ∃ a m c, e = .returned (.tuple #[.agg #[.int .i64 (if o.isSome then N else 0), .slice a m c], .bool o.isSome]) ∧ w'.ownsRow w.heap.size 28 2 (.slice a m c) m (ecells (o.getD [])) ∧ Below w.heap.size w w'
/-- the world behind the boxes -/
def w3g (w : World) (N : Int) (a : Option Addr) (n c : Nat) (f : EdgeV) : World :=
  ((w.alloc (.cells #[.int .i64 N, .slice a n c] 33)).alloc (.cells #[.int .i64 f.1, .int .i64 f.2] 28)).alloc (.cells #[.int .i64 0, .slice none 0 0] 33)
theorem w3g_size (w : World) (N : Int) (a : Option Addr) (n c : Nat) (f : EdgeV) : (w3g w N a n c f).heap.size = w.heap.size + 3 := by simp [w3g]
theorem w3g_below (w : World) (N : Int) (a : Option Addr) (n c : Nat) (f : EdgeV) : Below w.heap.size w (w3g w N a n c f) := (((Below.refl _ _).alloc (Nat.le_refl _) _).alloc (by simp) _).alloc (by simp; omega) _
/-- what the boxes hold, whatever has come since -/
structure In3 (w : World) (N : Int) (a : Option Addr) (n c : Nat) (f : EdgeV) (u : World) : Prop where
  good : Good (w3g w N a n c f) u
theorem In3.cells {w : World} {N : Int} {a : Option Addr} {n c : Nat} {f : EdgeV} {u : World} (h : In3 w N a n c f u) :
    (u.cell? ⟨w.heap.size, 0, none⟩ = some (.int .i64 N) ∧ u.cell? ⟨w.heap.size, 1, none⟩ = some (.slice a n c)) ∧ (u.cell? ⟨w.heap.size + 1, 0, none⟩ = some (.int .i64 f.1) ∧ u.cell? ⟨w.heap.size + 1, 1, none⟩ = some (.int .i64 f.2)) := by
  have hs := w3g_size w N a n c f
  refine ⟨⟨?_, ?_⟩, ?_, ?_⟩
  · rw [h.good.cell (by omega)]; simp [w3g, go_sem]
  · rw [h.good.cell (by omega)]; simp [w3g, go_sem]
  · rw [h.good.cell (by omega)]; simp [w3g, go_sem]
  · rw [h.good.cell (by omega)]; simp [w3g, go_sem]
theorem In3.out {w : World} {N : Int} {a : Option Addr} {n c : Nat} {f : EdgeV} {u : World} (h : In3 w N a n c f u) :
    (u.cell? ⟨w.heap.size + 1 + 1, 0, none⟩ = some (.int .i64 0) ∧ u.cell? ⟨w.heap.size + 1 + 1, 1, none⟩ = some (.slice none 0 0)) ∧ (u.frozen? ⟨w.heap.size + 1 + 1, 0, none⟩ = false ∧ u.frozen? ⟨w.heap.size + 1 + 1, 1, none⟩ = false) := by
  have hs := w3g_size w N a n c f
  refine ⟨⟨?_, ?_⟩, ?_, ?_⟩
  · rw [h.good.cell (by omega)]; simp [w3g, go_sem]
  · rw [h.good.cell (by omega)]; simp [w3g, go_sem]
  · rw [Below.frozen h.good (by show w.heap.size + 1 + 1 < _; omega)]; simp [w3g, go_sem]
  · rw [Below.frozen h.good (by show w.heap.size + 1 + 1 < _; omega)]; simp [w3g, go_sem]
theorem In3.up {w : World} {N : Int} {a : Option Addr} {n c : Nat} {f : EdgeV} {u v : World} (h : In3 w N a n c f u) (hb : Below u.heap.size u v) : In3 w N a n c f v := ⟨h.good.up hb⟩
theorem In3.start (w : World) (N : Int) (a : Option Addr) (n c : Nat) (f : EdgeV) : In3 w N a n c f (w3g w N a n c f) := ⟨Good.refl _⟩
theorem In3.below {w : World} {N : Int} {a : Option Addr} {n c : Nat} {f : EdgeV} {u : World} (h : In3 w N a n c f u) : Below w.heap.size w u := (w3g_below w N a n c f).trans (Below.mono h.good (by rw [w3g_size]; omega))
theorem In3.size {w : World} {N : Int} {a : Option Addr} {n c : Nat} {f : EdgeV} {u : World} (h : In3 w N a n c f u) : w.heap.size + 3 ≤ u.heap.size := by have := h.good.size; rw [w3g_size] at this; exact this
theorem In3.drew {w : World} {N : Int} {a : Option Addr} {n c : Nat} {f : EdgeV} {u : World} (h : In3 w N a n c f u) : In3 w N a n c f u.drew := ⟨h.good.drew⟩
theorem In3.cellsSet {w : World} {N : Int} {a : Option Addr} {n c : Nat} {f : EdgeV} {u : World} (h : In3 w N a n c f u) (v0 v1 : Value) :
    ((((u.setCell ⟨w.heap.size + 1 + 1, 0, none⟩ v0).setCell ⟨w.heap.size + 1 + 1, 1, none⟩ v1)).cell? ⟨w.heap.size, 0, none⟩ = some (.int .i64 N) ∧ (((u.setCell ⟨w.heap.size + 1 + 1, 0, none⟩ v0).setCell ⟨w.heap.size + 1 + 1, 1, none⟩ v1)).cell? ⟨w.heap.size, 1, none⟩ = some (.slice a n c)) ∧
      ((((u.setCell ⟨w.heap.size + 1 + 1, 0, none⟩ v0).setCell ⟨w.heap.size + 1 + 1, 1, none⟩ v1)).cell? ⟨w.heap.size + 1, 0, none⟩ = some (.int .i64 f.1) ∧ (((u.setCell ⟨w.heap.size + 1 + 1, 0, none⟩ v0).setCell ⟨w.heap.size + 1 + 1, 1, none⟩ v1)).cell? ⟨w.heap.size + 1, 1, none⟩ = some (.int .i64 f.2)) := by
  obtain ⟨⟨k0, k1⟩, k2, k3⟩ := h.cells
  refine ⟨⟨?_, ?_⟩, ?_, ?_⟩
  · rw [set_other (by omega), set_other (by omega)]; exact k0
  · rw [set_other (by omega), set_other (by omega)]; exact k1
  · rw [set_other (by omega), set_other (by omega)]; exact k2
  · rw [set_other (by omega), set_other (by omega)]; exact k3
theorem gans_yes {w u : World} {N : Int} {a : Option Addr} {n c : Nat} {f : EdgeV} (h : In3 w N a n c f u) {o : Option (List EdgeV)} {gs : List EdgeV} (ho : o = some gs) {B : Nat} {a' : Option Addr} {m' c' : Nat}
    (hB : w.heap.size + 3 ≤ B) (hown : u.ownsRow B 28 2 (.slice a' m' c') m' (ecells gs)) :
    GAns w N o (.returned (.tuple #[.agg #[.int .i64 N, .slice a' m' c'], .bool true])) ((u.setCell ⟨w.heap.size + 1 + 1, 0, none⟩ (.int .i64 N)).setCell ⟨w.heap.size + 1 + 1, 1, none⟩ (.slice a' m' c')) := by
  subst ho
  exact ⟨a', m', c', rfl, own_mono (own_setLow (own_setLow hown _ 0 _ (by omega)) _ 1 _ (by omega)) (by omega), (h.below.setCell (by show _ ≤ w.heap.size + 1 + 1; omega) _).setCell (by show _ ≤ w.heap.size + 1 + 1; omega) _⟩
theorem Es.take {w : World} {B : Nat} {a : Option Addr} {n : Nat} {es : List EdgeV} (h : Es w B a n es) {k : Nat} (hk : k ≤ n) : Es w B a k (es.take k) := by
  have hl := h.1
  refine ⟨by rw [List.length_take]; omega, ?_⟩
  rcases h.2 with h0 | ⟨b, off, ha, hb, hc⟩
  · exact .inl (by omega)
  · refine .inr ⟨b, off, ha, hb, fun j e he => hc j e ?_⟩
    have hj : j < k := by have := (List.getElem?_eq_some_iff.1 he).1; rw [List.length_take] at this; omega
    rw [List.getElem?_take_of_lt hj] at he
    exact he
theorem Es.drop {w : World} {B b off : Nat} {n : Nat} {es : List EdgeV} (h : Es w B (some ⟨b, off, none⟩) n es) {k : Nat} (hk : k ≤ n) : Es w B (some ⟨b, off + k * 2, none⟩) (n - k) (es.drop k) := by
  have hl := h.1
  refine ⟨by rw [List.length_drop]; omega, ?_⟩
  rcases h.2 with h0 | ⟨b', off', ha, hb, hc⟩
  · exact .inl (by omega)
  · simp at ha
    obtain ⟨rfl, rfl⟩ := ha
    refine .inr ⟨b, off + k * 2, rfl, hb, fun j e he => ?_⟩
    rw [List.getElem?_drop] at he
    have h1 := hc (k + j) e he
    rw [show off + k * 2 + j * 2 = off + (k + j) * 2 by omega]
    exact h1
theorem Es.none_of {w : World} {B : Nat} {a : Option Addr} {es : List EdgeV} (h : es.length = 0) : Es w B a 0 es := ⟨h, .inl rfl⟩
theorem Es.single (w : World) (f : EdgeV) : Es (w.alloc (.cells #[.int .i64 f.1, .int .i64 f.2] 28)) (w.alloc (.cells #[.int .i64 f.1, .int .i64 f.2] 28)).heap.size (some ⟨w.heap.size, 0, none⟩) 1 [f] := by
  refine ⟨rfl, .inr ⟨w.heap.size, 0, rfl, by simp, fun j e he => ?_⟩⟩
  cases j with
  | zero => simp at he; subst he; simp
  | succ j => simp at he
theorem gans_no {w u : World} {N : Int} {a : Option Addr} {n c : Nat} {f : EdgeV} (h : In3 w N a n c f u) {o : Option (List EdgeV)} (ho : o = none) :
    GAns w N o (.returned (.tuple #[.agg #[.int .i64 0, .slice none 0 0], .bool false])) ((u.setCell ⟨w.heap.size + 1 + 1, 0, none⟩ (.int .i64 0)).setCell ⟨w.heap.size + 1 + 1, 1, none⟩ (.slice none 0 0)) := by
  subst ho
  exact ⟨none, 0, 0, rfl, World.ownsRow_nil _ _ _ _, (h.below.setCell (by show _ ≤ w.heap.size + 1 + 1; omega) _).setCell (by show _ ≤ w.heap.size + 1 + 1; omega) _⟩
set_option maxRecDepth 100000 in
set_option maxHeartbeats 4000000 in
theorem iAddEdge_any (N : Int) (es : List EdgeV) (f : EdgeV) (n : Nat) (a : Option Addr) (c : Nat) (hsl : Sl a n c) (hn : n ≤ 1048576) (w : World) (h : Es w w.heap.size a n es) :
    Calls Tryz.prog 74 #[.agg #[.int .i64 N, .slice a n c], .agg #[.int .i64 f.1, .int .i64 f.2]] w fun e w' => GAns w N (addE N es f) e w' := by
  have hA : Hid (∀ u, In3 w N a n c f u → Es u u.heap.size a n es) := fun u hu => h.up hu.below
  have HGO : Hid (∀ u, In3 w N a n c f u → Calls Tryz.prog 79 #[.agg #[.int .i64 N, .slice a n c]] u fun e v => e = .returned (.bool (gB N es)) ∧ In3 w N a n c f v) := fun u hu =>
    (iGraphOk_any N es n a c hn u (hA.out u hu)).mono fun _ _ ⟨he, hb⟩ => ⟨he, hu.up hb⟩
  have HEO : Hid (∀ u, In3 w N a n c f u → Calls Tryz.prog 159 #[.int .i64 N, .agg #[.int .i64 f.1, .int .i64 f.2]] u fun e v => e = .returned (.bool (eB N f)) ∧ In3 w N a n c f v) := fun u hu =>
    (iEdgeOk_any N f u).mono fun _ _ ⟨he, hb⟩ => ⟨he, hu.up hb⟩
  have HHE : Hid (∀ u, In3 w N a n c f u → Calls Tryz.prog 160 #[.agg #[.int .i64 N, .slice a n c], .agg #[.int .i64 f.1, .int .i64 f.2]] u fun e v => e = .returned (.bool (hasB es f)) ∧ In3 w N a n c f v) := fun u hu =>
    (iHasEdge_any N es f n a c hn u (hA.out u hu)).mono fun _ _ ⟨he, hb⟩ => ⟨he, hu.up hb⟩
  have S1 := In3.start w N a n c f
  have HK : Hid (∀ u, In3 w N a n c f u → (u.cell? ⟨w.heap.size, 0, none⟩ = some (.int .i64 N) ∧ u.cell? ⟨w.heap.size, 1, none⟩ = some (.slice a n c)) ∧ (u.cell? ⟨w.heap.size + 1, 0, none⟩ = some (.int .i64 f.1) ∧ u.cell? ⟨w.heap.size + 1, 1, none⟩ = some (.int .i64 f.2))) := fun u hu => hu.cells
  cases hG : gB N es with
  | false =>
    rw [hG] at HGO
    have HO := hideIt (show addE N es f = none by unfold addE; rw [hG, if_neg (by simp)])
    clear hG HEO HHE hsl h hA
    go_enter Tryz.func74, Tryz.ntmps74
    go_wp2_with (go_at_call 79; refine (HGO.out _ S1).mono ?_; rintro e w4 ⟨rfl, S4⟩; refine Hid.out ?_)
    refine (show ∀ {p : Prop}, p → Hid p from fun h => h) ?_
    obtain ⟨⟨r0, r1⟩, r2, r3⟩ := S4.out
    have s4 := S4.size
    go_wp2
    exact bodyPost_ret (v := .tuple #[.agg #[.int .i64 0, .slice none 0 0], .bool false]) (by simp [results, Tryz.results74, go_sem, r0, r1]) rfl (gans_no S4 HO.out)
  | true =>
    rw [hG] at HGO
    cases hE : eB N f with
    | false =>
      rw [hE] at HEO
      have HO := hideIt (show addE N es f = none by unfold addE; rw [hE, if_neg (by simp)])
      clear hG hE HHE hsl h hA
      go_enter Tryz.func74, Tryz.ntmps74
      go_wp2_with (go_at_call 79; refine (HGO.out _ S1).mono ?_; rintro e w4 ⟨rfl, S4⟩; refine Hid.out ?_)
      refine (show ∀ {p : Prop}, p → Hid p from fun h => h) ?_
      obtain ⟨⟨k0, k1⟩, k2, k3⟩ := HK.out _ S4
      go_wp2_with (go_at_call 159; refine (HEO.out _ S4).mono ?_; rintro e w5 ⟨rfl, S5⟩; refine Hid.out ?_)
      refine (show ∀ {p : Prop}, p → Hid p from fun h => h) ?_
      obtain ⟨⟨r0, r1⟩, r2, r3⟩ := S5.out
      have s5 := S5.size
      clear k0 k1 k2 k3
      go_wp2
      exact bodyPost_ret (v := .tuple #[.agg #[.int .i64 0, .slice none 0 0], .bool false]) (by simp [results, Tryz.results74, go_sem, r0, r1]) rfl (gans_no S5 HO.out)
    | true =>
      rw [hE] at HEO
      cases hH : hasB es f with
      | true =>
        rw [hH] at HHE
        have HO := hideIt (show addE N es f = none by unfold addE; rw [hH, if_neg (by simp)])
        clear hG hE hH hsl h hA
        go_enter Tryz.func74, Tryz.ntmps74
        go_wp2_with (go_at_call 79; refine (HGO.out _ S1).mono ?_; rintro e w4 ⟨rfl, S4⟩; refine Hid.out ?_)
        refine (show ∀ {p : Prop}, p → Hid p from fun h => h) ?_
        obtain ⟨⟨k0, k1⟩, k2, k3⟩ := HK.out _ S4
        go_wp2_with (go_at_call 159; refine (HEO.out _ S4).mono ?_; rintro e w5 ⟨rfl, S5⟩; refine Hid.out ?_)
        refine (show ∀ {p : Prop}, p → Hid p from fun h => h) ?_
        clear k0 k1 k2 k3
        obtain ⟨⟨k0, k1⟩, k2, k3⟩ := HK.out _ S5
        go_wp2_with (go_at_call 160; refine (HHE.out _ S5).mono ?_; rintro e w6 ⟨rfl, S6⟩; refine Hid.out ?_)
        refine (show ∀ {p : Prop}, p → Hid p from fun h => h) ?_
        obtain ⟨⟨r0, r1⟩, r2, r3⟩ := S6.out
        have s6 := S6.size
        clear k0 k1 k2 k3
        go_wp2
        exact bodyPost_ret (v := .tuple #[.agg #[.int .i64 0, .slice none 0 0], .bool false]) (by simp [results, Tryz.results74, go_sem, r0, r1]) rfl (gans_no S6 HO.out)
      | false =>
        rw [hH] at HHE
        have HO := hideIt (show addE N es f = some (putE es f) by unfold addE; rw [hG, hE, hH, if_pos (by simp)])
        have hasc := asc_of_chk (gB_chk hG).2.1
        have hnot : f ∉ es := fun hm => by unfold hasB at hH; simp [hm] at hH
        have HBS : Hid (∀ u, In3 w N a n c f u → Calls Tryz.prog 161 #[.slice a n c, .agg #[.int .i64 f.1, .int .i64 f.2], .func (.func 104) #[] #[]] u fun x v => ∃ (p : Nat) (fb : Bool), x = .returned (.tuple #[.int .i64 (p : Int), .bool fb]) ∧ Hid (Split es f p) ∧ In3 w N a n c f v) := fun u hu =>
          (BSF_any es hasc f n a c hn u (hA.out u hu)).mono fun _ _ ⟨p, fb, he, hs, hb⟩ => ⟨p, fb, he, hs, hu.up hb⟩
        have HN := hideIt hnot
        have HLn : Hid (es.length = n) := h.1
        clear hG hE hH h hasc hnot
        go_enter Tryz.func74, Tryz.ntmps74
        go_wp2_with (go_at_call 79; refine (HGO.out _ S1).mono ?_; rintro e w4 ⟨rfl, S4⟩; refine Hid.out ?_)
        refine (show ∀ {p : Prop}, p → Hid p from fun h => h) ?_
        obtain ⟨⟨k0, k1⟩, k2, k3⟩ := HK.out _ S4
        go_wp2_with (go_at_call 159; refine (HEO.out _ S4).mono ?_; rintro e w5 ⟨rfl, S5⟩; refine Hid.out ?_)
        refine (show ∀ {p : Prop}, p → Hid p from fun h => h) ?_
        clear k0 k1 k2 k3
        obtain ⟨⟨k0, k1⟩, k2, k3⟩ := HK.out _ S5
        go_wp2_with (go_at_call 160; refine (HHE.out _ S5).mono ?_; rintro e w6 ⟨rfl, S6⟩; refine Hid.out ?_)
        refine (show ∀ {p : Prop}, p → Hid p from fun h => h) ?_
        clear k0 k1 k2 k3
        obtain ⟨⟨k0, k1⟩, k2, k3⟩ := HK.out _ S6
        go_wp2_with (go_at_call 161; refine (HBS.out _ S6).mono ?_; rintro e w7 ⟨p, fb, rfl, hsp, S7⟩; refine Hid.out ?_)
        refine (show ∀ {p : Prop}, p → Hid p from fun h => h) ?_
        clear k0 k1 k2 k3 S4 S5 S6 S1 HGO HEO HHE HBS
        have hpn : p ≤ n := by have := hsp.out.1; have := HLn.out; omega
        obtain ⟨hnc, hcm, hform⟩ := hsl
        unfold maxLen at hcm
        have HES := hideIt (hA.out w7 S7)
        have z7 := S7.size
        have HES := hideIt (hA.out w7 S7)
        have z7 := S7.size
        have HES := hideIt (hA.out w7 S7)
        have z7 := S7.size
        rcases hform with ⟨rfl, rfl, rfl⟩ | ⟨b, off, rfl⟩
        · obtain rfl : p = 0 := by omega
          have S7d := S7.drew
          have T1 : In3 w N none 0 0 f (w7.alloc (.cells #[.int .i64 f.1, .int .i64 f.2] 28)).drew := (S7.up ((Below.refl _ _).alloc (Nat.le_refl _) _)).drew
          have T2b : Below w7.heap.size w7 ((w7.alloc (.cells #[.int .i64 f.1, .int .i64 f.2] 28)).alloc (.cells #[.slice none 0 0, .slice (some ⟨w7.heap.size, 0, none⟩) 1 1, .slice none 0 0] 31)).drew := (((Below.refl _ _).alloc (Nat.le_refl _) _).alloc (by simp) _).drew
          have T2 := S7.up T2b
          have HCc : Hid (Calls Tryz.prog 162 #[.slice (some ⟨w7.heap.size + 1, 0, none⟩) 3 3] ((w7.alloc (.cells #[.int .i64 f.1, .int .i64 f.2] 28)).alloc (.cells #[.slice none 0 0, .slice (some ⟨w7.heap.size, 0, none⟩) 1 1, .slice none 0 0] 31)).drew
              fun e v => ∃ a' m' c', e = .returned (.slice a' m' c') ∧ Hid (v.ownsRow (w7.heap.size + 2) 28 2 (.slice a' m' c') m' (ecells (putE es f))) ∧ In3 w N none 0 0 f v) := by
            have e0 : es = [] := List.length_eq_zero_iff.1 HLn.out
            refine (Concat_any [⟨none, 0, 0, []⟩, ⟨some ⟨w7.heap.size, 0, none⟩, 1, 1, [f]⟩, ⟨none, 0, 0, []⟩] (w7.heap.size + 1) 3 rfl (by omega) _ ⟨by simp, fun j q hq => ?_⟩ (by simp [pLen])).mono fun e v ⟨a', m', c', he, ho, hb⟩ => ⟨a', m', c', he, ?_, T2.up hb⟩
            · rcases j with _ | _ | _ | j
              · simp at hq; subst hq
                exact ⟨by simp [go_sem], Es.none_of rfl, fun _ => ⟨rfl, rfl⟩⟩
              · simp at hq; subst hq
                refine ⟨by simp [go_sem], ?_, fun h => by cases h⟩
                exact (Es.single w7 f).up (((Below.refl _ _).alloc (Nat.le_refl _) _).drew)
              · simp at hq; subst hq
                exact ⟨by simp [go_sem], Es.none_of rfl, fun _ => ⟨rfl, rfl⟩⟩
              · simp at hq
            · have hp : pAll [⟨none, 0, 0, []⟩, ⟨some ⟨w7.heap.size, 0, none⟩, 1, 1, [f]⟩, ⟨none, 0, 0, []⟩] = putE es f := by rw [e0]; simp [pAll, putE]
              rw [hp] at ho
              exact own_mono ho (by simp)
          clear hA HN
          go_wp2
          go_region_held3 (fun u => (u.cell? ⟨w.heap.size, 0, none⟩ = some (.int .i64 N) ∧ u.cell? ⟨w.heap.size, 1, none⟩ = some (.slice none 0 0)) ∧ (u.cell? ⟨w.heap.size + 1, 0, none⟩ = some (.int .i64 f.1) ∧ u.cell? ⟨w.heap.size + 1, 1, none⟩ = some (.int .i64 f.2)))
            (first | exact S8.cellsSet _ _ | exact HK.out _ S8 | exact HK.out _ T2 | exact HK.out _ T1 | exact HK.out _ S7d)
            ((go_at_call 162; refine HCc.out.mono ?_; rintro e w8 ⟨a', m', c', rfl, hown8, S8⟩; obtain ⟨⟨r0, r1⟩, r2, r3⟩ := S8.out))
          all_goals
            go_wp2
            exact bodyPost_ret (v := .tuple #[.agg #[.int .i64 N, .slice a' m' c'], .bool true]) (by simp [results, Tryz.results74, go_sem, r0, r1]) rfl (gans_yes S8 HO.out (by omega) hown8.out)
        · by_cases hcp : c = p
          · obtain rfl : n = p := by omega
            subst hcp
            have S7d := S7.drew
            have b1 : (0 : Int) ≤ (c : Int) := by omega
            have T1 : In3 w N (some ⟨b, off, none⟩) c c f (w7.alloc (.cells #[.int .i64 f.1, .int .i64 f.2] 28)).drew := (S7.up ((Below.refl _ _).alloc (Nat.le_refl _) _)).drew
            have T2b : Below w7.heap.size w7 ((w7.alloc (.cells #[.int .i64 f.1, .int .i64 f.2] 28)).alloc (.cells #[.slice (some ⟨b, off, none⟩) c c, .slice (some ⟨w7.heap.size, 0, none⟩) 1 1, .slice (some ⟨b, off, none⟩) 0 0] 31)).drew := (((Below.refl _ _).alloc (Nat.le_refl _) _).alloc (by simp) _).drew
            have T2 := S7.up T2b
            have HCc : Hid (Calls Tryz.prog 162 #[.slice (some ⟨w7.heap.size + 1, 0, none⟩) 3 3] ((w7.alloc (.cells #[.int .i64 f.1, .int .i64 f.2] 28)).alloc (.cells #[.slice (some ⟨b, off, none⟩) c c, .slice (some ⟨w7.heap.size, 0, none⟩) 1 1, .slice (some ⟨b, off, none⟩) 0 0] 31)).drew
                fun e v => ∃ a' m' c', e = .returned (.slice a' m' c') ∧ Hid (v.ownsRow (w7.heap.size + 2) 28 2 (.slice a' m' c') m' (ecells (putE es f))) ∧ In3 w N (some ⟨b, off, none⟩) c c f v) := by
              have hE2 := HES.out.up T2b
              refine (Concat_any [⟨some ⟨b, off, none⟩, c, c, es.take c⟩, ⟨some ⟨w7.heap.size, 0, none⟩, 1, 1, [f]⟩, ⟨some ⟨b, off, none⟩, 0, 0, es.drop c⟩] (w7.heap.size + 1) 3 rfl (by omega) _ ⟨by simp, fun j q hq => ?_⟩ (by simp [pLen]; omega)).mono fun e v ⟨a', m', c', he, ho, hb⟩ => ⟨a', m', c', he, ?_, T2.up hb⟩
              · rcases j with _ | _ | _ | j
                · simp at hq; subst hq
                  exact ⟨by simp [go_sem], hE2.take (Nat.le_refl _), fun h => by cases h⟩
                · simp at hq; subst hq
                  refine ⟨by simp [go_sem], ?_, fun h => by cases h⟩
                  exact (Es.single w7 f).up (((Below.refl _ _).alloc (Nat.le_refl _) _).drew)
                · simp at hq; subst hq
                  exact ⟨by simp [go_sem], Es.none_of (by rw [List.length_drop]; have := HLn.out; omega), fun h => by cases h⟩
                · simp at hq
              · have hp : pAll [⟨some ⟨b, off, none⟩, c, c, es.take c⟩, ⟨some ⟨w7.heap.size, 0, none⟩, 1, 1, [f]⟩, ⟨some ⟨b, off, none⟩, 0, 0, es.drop c⟩] = putE es f := by rw [put_split hsp.out HN.out]; simp [pAll]
                rw [hp] at ho
                exact own_mono ho (by simp)
            clear hA HN
            go_wp2
            go_region_held3 (fun u => (u.cell? ⟨w.heap.size, 0, none⟩ = some (.int .i64 N) ∧ u.cell? ⟨w.heap.size, 1, none⟩ = some (.slice (some ⟨b, off, none⟩) c c)) ∧ (u.cell? ⟨w.heap.size + 1, 0, none⟩ = some (.int .i64 f.1) ∧ u.cell? ⟨w.heap.size + 1, 1, none⟩ = some (.int .i64 f.2)))
              (first | exact S8.cellsSet _ _ | exact HK.out _ S8 | exact HK.out _ T2 | exact HK.out _ T1 | exact HK.out _ S7d)
              ((go_at_call 162; refine HCc.out.mono ?_; rintro e w8 ⟨a', m', c', rfl, hown8, S8⟩; obtain ⟨⟨r0, r1⟩, r2, r3⟩ := S8.out))
            all_goals
              go_wp2
              exact bodyPost_ret (v := .tuple #[.agg #[.int .i64 N, .slice a' m' c'], .bool true]) (by simp [results, Tryz.results74, go_sem, r0, r1]) rfl (gans_yes S8 HO.out (by omega) hown8.out)
          · have S7d := S7.drew
            have b1 : (0 : Int) ≤ (p : Int) := by omega
            have b2 : (p : Int) ≤ (n : Int) := by omega
            have b3 : (n : Int) ≤ (c : Int) := by omega
            have b4 : (p : Int) ≤ (c : Int) := by omega
            have T1 : In3 w N (some ⟨b, off, none⟩) n c f (w7.alloc (.cells #[.int .i64 f.1, .int .i64 f.2] 28)).drew := (S7.up ((Below.refl _ _).alloc (Nat.le_refl _) _)).drew
            have T2b : Below w7.heap.size w7 ((w7.alloc (.cells #[.int .i64 f.1, .int .i64 f.2] 28)).alloc (.cells #[.slice (some ⟨b, off, none⟩) p c, .slice (some ⟨w7.heap.size, 0, none⟩) 1 1, .slice (some ⟨b, off + p * 2, none⟩) (n - p) (c - p)] 31)).drew := (((Below.refl _ _).alloc (Nat.le_refl _) _).alloc (by simp) _).drew
            have T2 := S7.up T2b
            have HCc : Hid (Calls Tryz.prog 162 #[.slice (some ⟨w7.heap.size + 1, 0, none⟩) 3 3] ((w7.alloc (.cells #[.int .i64 f.1, .int .i64 f.2] 28)).alloc (.cells #[.slice (some ⟨b, off, none⟩) p c, .slice (some ⟨w7.heap.size, 0, none⟩) 1 1, .slice (some ⟨b, off + p * 2, none⟩) (n - p) (c - p)] 31)).drew
                fun e v => ∃ a' m' c', e = .returned (.slice a' m' c') ∧ Hid (v.ownsRow (w7.heap.size + 2) 28 2 (.slice a' m' c') m' (ecells (putE es f))) ∧ In3 w N (some ⟨b, off, none⟩) n c f v) := by
              have hE2 := HES.out.up T2b
              refine (Concat_any [⟨some ⟨b, off, none⟩, p, c, es.take p⟩, ⟨some ⟨w7.heap.size, 0, none⟩, 1, 1, [f]⟩, ⟨some ⟨b, off + p * 2, none⟩, n - p, c - p, es.drop p⟩] (w7.heap.size + 1) 3 rfl (by omega) _ ⟨by simp, fun j q hq => ?_⟩ (by simp [pLen]; omega)).mono fun e v ⟨a', m', c', he, ho, hb⟩ => ⟨a', m', c', he, ?_, T2.up hb⟩
              · rcases j with _ | _ | _ | j
                · simp at hq; subst hq
                  exact ⟨by simp [go_sem], hE2.take hpn, fun h => by cases h⟩
                · simp at hq; subst hq
                  refine ⟨by simp [go_sem], ?_, fun h => by cases h⟩
                  exact (Es.single w7 f).up (((Below.refl _ _).alloc (Nat.le_refl _) _).drew)
                · simp at hq; subst hq
                  exact ⟨by simp [go_sem], hE2.drop hpn, fun h => by cases h⟩
                · simp at hq
              · have hp : pAll [⟨some ⟨b, off, none⟩, p, c, es.take p⟩, ⟨some ⟨w7.heap.size, 0, none⟩, 1, 1, [f]⟩, ⟨some ⟨b, off + p * 2, none⟩, n - p, c - p, es.drop p⟩] = putE es f := by rw [put_split hsp.out HN.out]; simp [pAll]
                rw [hp] at ho
                exact own_mono ho (by simp)
            clear hA HN
            go_wp2
            go_region_held3 (fun u => (u.cell? ⟨w.heap.size, 0, none⟩ = some (.int .i64 N) ∧ u.cell? ⟨w.heap.size, 1, none⟩ = some (.slice (some ⟨b, off, none⟩) n c)) ∧ (u.cell? ⟨w.heap.size + 1, 0, none⟩ = some (.int .i64 f.1) ∧ u.cell? ⟨w.heap.size + 1, 1, none⟩ = some (.int .i64 f.2)))
              (first | exact S8.cellsSet _ _ | exact HK.out _ S8 | exact HK.out _ T2 | exact HK.out _ T1 | exact HK.out _ S7d)
              ((go_at_call 162; refine HCc.out.mono ?_; rintro e w8 ⟨a', m', c', rfl, hown8, S8⟩; obtain ⟨⟨r0, r1⟩, r2, r3⟩ := S8.out))
            all_goals
              go_wp2
              exact bodyPost_ret (v := .tuple #[.agg #[.int .i64 N, .slice a' m' c'], .bool true]) (by simp [results, Tryz.results74, go_sem, r0, r1]) rfl (gans_yes S8 HO.out (by omega) hown8.out)
end Go.Proofs.YtkkplppcgnikoaaGreat
namespace Go.Proofs.YtkkplppcgnikoaaGreat
open Go.RowKit

/-- they hang together -/
def Conn (es : List EdgeV) (u v : Int) : Prop := ∀ S : Int → Prop, (∀ e ∈ es, S e.1 ↔ S e.2) → S u → S v

theorem Conn.refl (es : List EdgeV) (u : Int) : Conn es u u := fun _ _ h => h

theorem Conn.trans {es : List EdgeV} {u v x : Int} (h : Conn es u v) (k : Conn es v x) : Conn es u x := fun S hS hu => k S hS (h S hS hu)

theorem Conn.symm {es : List EdgeV} {u v : Int} (h : Conn es u v) : Conn es v u := fun S hS hv => Classical.byContradiction fun hu =>
  h (fun x => ¬ S x) (fun e he => not_congr (hS e he)) hu hv

theorem Conn.edge {es : List EdgeV} {e : EdgeV} (h : e ∈ es) : Conn es e.1 e.2 := fun _ hS h1 => (hS e h).1 h1

theorem Conn.more {es fs : List EdgeV} {u v : Int} (h : Conn es u v) (hs : ∀ e ∈ es, e ∈ fs) : Conn fs u v := fun S hS hu => h S (fun e he => hS e (hs e he)) hu

/-- parents, and where they end -/
structure Uf (es : List EdgeV) (n : Nat) (P : Nat → Option Nat) (R : Nat → Nat) : Prop where
  root : ∀ i, i < n → P i = none → R i = i
  par : ∀ i j, i < n → P i = some j → j < i ∧ R i = R j
  le : ∀ i, i < n → R i ≤ i
  idem : ∀ i, i < n → R (R i) = R i
  conn : ∀ i, i < n → Conn es (i : Int) (R i : Int)
  same : ∀ e ∈ es, R e.1.toNat = R e.2.toNat

theorem Uf.start (n : Nat) : Uf [] n (fun _ => none) (fun i => i) :=
  { root := fun _ _ _ => rfl
    par := fun _ _ _ h => nomatch h
    le := fun _ _ => Nat.le_refl _
    idem := fun _ _ => rfl
    conn := fun _ _ => Conn.refl _ _
    same := fun _ h => absurd h List.not_mem_nil }

/-- the root b gets the parent a -/
def updP (P : Nat → Option Nat) (b a : Nat) : Nat → Option Nat := fun i => if i = b then some a else P i

def updR (R : Nat → Nat) (b a : Nat) : Nat → Nat := fun i => if R i = b then a else R i

theorem Uf.same_more {es : List EdgeV} {n : Nat} {P : Nat → Option Nat} {R : Nat → Nat} (h : Uf es n P R) {e : EdgeV} (he : R e.1.toNat = R e.2.toNat) : Uf (es ++ [e]) n P R :=
  ⟨h.root, h.par, h.le, h.idem, fun i hi => (h.conn i hi).more fun d hd => by simp [hd], fun d hd => by
    rcases List.mem_append.1 hd with h1 | h1
    · exact h.same d h1
    · simp at h1; subst h1; exact he⟩

theorem Uf.join {es : List EdgeV} {n : Nat} {P : Nat → Option Nat} {R : Nat → Nat} (h : Uf es n P R) {e : EdgeV} (hi : 0 ≤ e.1 ∧ e.1 < e.2 ∧ e.2 < (n : Int)) {a b : Nat} (hab : a < b)
    (hx : (R e.1.toNat = a ∧ R e.2.toNat = b) ∨ (R e.1.toNat = b ∧ R e.2.toNat = a)) : Uf (es ++ [e]) n (updP P b a) (updR R b a) := by
  have hbn : b < n := by
    rcases hx with ⟨_, h2⟩ | ⟨h2, _⟩
    · have := h.le e.2.toNat (by omega); omega
    · have := h.le e.1.toNat (by omega); omega
  have ra : R a = a := by
    rcases hx with ⟨h1, _⟩ | ⟨_, h1⟩
    · rw [← h1]; exact h.idem _ (by omega)
    · rw [← h1]; exact h.idem _ (by omega)
  have rb : R b = b := by
    rcases hx with ⟨_, h1⟩ | ⟨h1, _⟩
    · rw [← h1]; exact h.idem _ (by omega)
    · rw [← h1]; exact h.idem _ (by omega)
  have hmore : ∀ {u v : Int}, Conn es u v → Conn (es ++ [e]) u v := fun hc => hc.more fun d hd => by simp [hd]
  have hcab : Conn (es ++ [e]) (b : Int) (a : Int) := by
    have hee : Conn (es ++ [e]) e.1 e.2 := Conn.edge (by simp)
    have c1 := hmore (h.conn e.1.toNat (by omega))
    have c2 := hmore (h.conn e.2.toNat (by omega))
    rw [show ((e.1.toNat : Nat) : Int) = e.1 by omega] at c1
    rw [show ((e.2.toNat : Nat) : Int) = e.2 by omega] at c2
    rcases hx with ⟨h1, h2⟩ | ⟨h1, h2⟩
    · rw [h1] at c1; rw [h2] at c2; exact c2.symm.trans (hee.symm.trans c1)
    · rw [h1] at c1; rw [h2] at c2; exact c1.symm.trans (hee.trans c2)
  refine ⟨?_, ?_, ?_, ?_, ?_, ?_⟩
  · intro i hi hp
    unfold updP at hp
    split at hp
    · cases hp
    · rename_i hib
      have := h.root i hi hp
      unfold updR
      rw [this, if_neg hib]
  · intro i j hi hp
    unfold updP at hp
    split at hp
    · rename_i hib
      simp at hp
      subst hib hp
      refine ⟨hab, ?_⟩
      unfold updR
      rw [rb, if_pos rfl, ra, if_neg (by omega)]
    · have := h.par i j hi hp
      refine ⟨this.1, ?_⟩
      unfold updR
      rw [this.2]
  · intro i hi
    have := h.le i hi
    unfold updR
    split
    · omega
    · exact this
  · intro i hi
    unfold updR
    by_cases h1 : R i = b
    · rw [if_pos h1, ra, if_neg (by omega)]
    · rw [if_neg h1, h.idem i hi, if_neg h1]
  · intro i hi
    have hc := hmore (h.conn i hi)
    unfold updR
    split
    · rename_i h1
      rw [h1] at hc
      exact hc.trans hcab
    · exact hc
  · intro d hd
    unfold updR
    rcases List.mem_append.1 hd with h1 | h1
    · rw [h.same d h1]
    · simp at h1
      subst h1
      rcases hx with ⟨h2, h3⟩ | ⟨h2, h3⟩
      · rw [h2, h3, if_pos rfl, if_neg (by omega)]
      · rw [h2, h3, if_pos rfl, if_neg (by omega)]

end Go.Proofs.YtkkplppcgnikoaaGreat
namespace Go.Proofs.YtkkplppcgnikoaaGreat
open Go.RowKit

/-- the pointer to a member -/
def ptrP (g : Nat) : Option Nat → Option Addr
  | none => none
  | some j => some ⟨g, j * 2, none⟩
/-- the members stand in block g, with these parents -/
structure MSt (B g n : Nat) (P : Nat → Option Nat) (u : World) : Prop where
  own : ∃ xs, u.ownsRow B 332 2 (.slice (some ⟨g, 0, none⟩) n n) n xs
  cell : ∀ i, i < n → u.cell? ⟨g, i * 2, none⟩ = some (.int .i64 (i : Int)) ∧ u.cell? ⟨g, i * 2 + 1, none⟩ = some (.pointer (ptrP g (P i)))
/-- where a pointer points to -/
def offOf : Value → Nat
  | .pointer (some a) => a.off
  | _ => 0

set_option maxHeartbeats 1000000 in
theorem mLeast_any {B g n : Nat} {es : List EdgeV} {P : Nat → Option Nat} {R : Nat → Nat} (hu : Uf es n P R) (u : World) (hst : MSt B g n P u) (i : Nat) (hi : i < n) :
    Calls Tryz.prog 312 #[.pointer (some ⟨g, i * 2, none⟩)] u fun e w' => e = .returned (.pointer (some ⟨g, R i * 2, none⟩)) ∧ w' = u := by
  have HU := hideIt hu
  have HS := hideIt hst
  clear hu hst
  go_enter Tryz.func312, Tryz.ntmps312
  go_wp2
  go_loopw [0] (fun p wr => ∃ k : Nat, k < n ∧ p = .pointer (some ⟨g, k * 2, none⟩) ∧ Hid (R k = R i) ∧ wr = u) (fun p _ => offOf p)
  case atStart => exact ⟨i, hi, rfl, rfl, rfl⟩
  case round =>
    obtain ⟨k, hk, rfl, hR, hw⟩ := hrel
    have hw' := hw.symm
    subst hw'
    clear hw
    obtain ⟨c0, c1⟩ := HS.out.cell k hk
    cases hP : P k with
    | none =>
      rw [hP] at c1
      have HE : Hid (k = R i) := (HU.out.root k hk hP).symm.trans hR.out
      clear hR hP c0
      have c1' : u.cell? ⟨g, k * 2 + 1, none⟩ = some (.pointer none) := c1
      clear c1
      go_wp2
      go_ret
      exact ⟨by rw [← HE.out]; rfl, rfl⟩
    | some j =>
      rw [hP] at c1
      obtain ⟨hjk, hRj⟩ := HU.out.par k j hk hP
      have HE : Hid (R j = R i) := hRj.symm.trans hR.out
      clear hR hP hRj c0
      have c1' : u.cell? ⟨g, k * 2 + 1, none⟩ = some (.pointer (some ⟨g, j * 2, none⟩)) := c1
      clear c1
      go_wp2
      exact ⟨⟨j, by omega, rfl, HE, by first | trivial | rfl⟩, by simp [offOf]; omega⟩

theorem MSt.drew {B g n : Nat} {P : Nat → Option Nat} {u : World} (h : MSt B g n P u) : MSt B g n P u.drew := by
  obtain ⟨xs, ho⟩ := h.own
  exact ⟨⟨xs, ho.drew⟩, h.cell⟩
/-- the member b gets the parent a -/
theorem MSt.set {B g n : Nat} {P : Nat → Option Nat} {u : World} (h : MSt B g n P u) {a b : Nat} (hb : b < n) : MSt B g n (updP P b a) (u.setCell ⟨g, b * 2 + 1, none⟩ (.pointer (some ⟨g, a * 2, none⟩))) := by
  obtain ⟨xs, ho⟩ := h.own
  have hst := ho.stored (b * 2 + 1) (.pointer (some ⟨g, a * 2, none⟩))
  refine ⟨⟨_, hst.1⟩, fun i hi => ?_⟩
  obtain ⟨c0, c1⟩ := h.cell i hi
  refine ⟨?_, ?_⟩
  · rw [World.cell?_setCell_other _ _ _ _ (by intro e; simp at e <;> omega)]; exact c0
  · unfold updP
    split
    · rename_i hib
      subst hib
      rw [World.cell?_setCell_same _ _ _ c1]; rfl
    · rename_i hib
      rw [World.cell?_setCell_other _ _ _ _ (by intro e; simp at e <;> omega)]; exact c1
theorem MSt.grown {B g n : Nat} {P : Nat → Option Nat} {u : World} (b a : Nat) (_h : MSt B g n P u) : u.grownBy (u.setCell ⟨g, b * 2 + 1, none⟩ (.pointer (some ⟨g, a * 2, none⟩))) (some g) := grownSet u g _ _
theorem MSt.frozen {B g n : Nat} {P : Nat → Option Nat} {u : World} (h : MSt B g n P u) (j : Nat) : u.frozen? ⟨g, j, none⟩ = false := by
  obtain ⟨xs, ho⟩ := h.own
  exact ho.frozenAt j

set_option maxRecDepth 100000 in
set_option maxHeartbeats 2000000 in
theorem mJoin_any {B g n : Nat} {es : List EdgeV} {P : Nat → Option Nat} {R : Nat → Nat} (hu : Uf es n P R) (e : EdgeV) (he : 0 ≤ e.1 ∧ e.1 < e.2 ∧ e.2 < (n : Int)) (u : World) (hst : MSt B g n P u) :
    Calls Tryz.prog 313 #[.pointer (some ⟨g, e.1.toNat * 2, none⟩), .pointer (some ⟨g, e.2.toNat * 2, none⟩)] u fun x w' => x = .returned (.tuple #[]) ∧ ∃ P' R', Uf (es ++ [e]) n P' R' ∧ MSt B g n P' w' ∧ u.grownBy w' (some g) := by
  obtain ⟨i, hi⟩ : ∃ i, i = e.1.toNat := ⟨_, rfl⟩
  obtain ⟨j, hj⟩ : ∃ j, j = e.2.toNat := ⟨_, rfl⟩
  have hin : i < n := by omega
  have hjn : j < n := by omega
  have HL1 := hideIt (mLeast_any hu u hst i hin)
  have HL2 := hideIt (mLeast_any hu u hst j hjn)
  obtain ⟨a, ha⟩ : ∃ a, a = R i := ⟨_, rfl⟩
  obtain ⟨b, hb⟩ : ∃ b, b = R j := ⟨_, rfl⟩
  have han : a < n := by have := hu.le i hin; omega
  have hbn : b < n := by have := hu.le j hjn; omega
  rw [← ha] at HL1
  rw [← hb] at HL2
  obtain ⟨c0, c1⟩ := hst.cell a han
  obtain ⟨c2, c3⟩ := hst.cell b hbn
  have f1 := hst.frozen (a * 2 + 1)
  have f2 := hst.frozen (b * 2 + 1)
  have HC := hideIt cmpCompare_any
  have hk : u.drew.cell? ⟨g, a * 2, none⟩ = some (.int .i64 (a : Int)) ∧ u.drew.cell? ⟨g, b * 2, none⟩ = some (.int .i64 (b : Int)) := ⟨c0, c2⟩
  rw [← hi, ← hj]
  by_cases h1 : a < b
  · have HU := hideIt (hu.join he h1 (.inl ⟨by rw [← hi, ha], by rw [← hj, hb]⟩))
    have HM := hideIt (hst.set (a := a) hbn).drew
    have HG := hideIt (show u.grownBy (u.setCell ⟨g, b * 2 + 1, none⟩ (.pointer (some ⟨g, a * 2, none⟩))).drew (some g) from ⟨rfl, rfl, rfl, (MSt.grown b a hst).size, (MSt.grown b a hst).block⟩)
    have hcm : cmpI (a : Int) (b : Int) = -1 := by unfold cmpI; rw [if_pos (by omega)]
    clear hst hu ha hb he hi hj
    go_enter Tryz.func313, Tryz.ntmps313
    go_wp2_with (go_at_call 312; refine HL1.out.mono ?_; rintro e w1 ⟨rfl, rfl⟩; refine Hid.out ?_)
    refine (show ∀ {p : Prop}, p → Hid p from fun h => h) ?_
    go_wp2_with (go_at_call 312; refine HL2.out.mono ?_; rintro e w1 ⟨rfl, rfl⟩)
    go_region_held3 (fun v => v.cell? ⟨g, a * 2, none⟩ = some (.int .i64 (a : Int)) ∧ v.cell? ⟨g, b * 2, none⟩ = some (.int .i64 (b : Int))) (exact hk)
      ((go_at_call 193; refine (HC.out _ _ _).mono ?_; rw [hcm]; rintro e w1 ⟨rfl, rfl⟩))
    all_goals
      go_wp2
      exact bodyPost_end (v := .tuple #[]) (results_none rfl _ _ _) rfl ⟨rfl, _, _, HU.out, HM.out, HG.out⟩
  · by_cases h2 : b < a
    · have HU := hideIt (hu.join he h2 (.inr ⟨by rw [← hi, ha], by rw [← hj, hb]⟩))
      have HM := hideIt (hst.set (a := b) han).drew
      have HG := hideIt (show u.grownBy (u.setCell ⟨g, a * 2 + 1, none⟩ (.pointer (some ⟨g, b * 2, none⟩))).drew (some g) from ⟨rfl, rfl, rfl, (MSt.grown a b hst).size, (MSt.grown a b hst).block⟩)
      have hcm : cmpI (a : Int) (b : Int) = 1 := by unfold cmpI; rw [if_neg (by omega), if_pos (by omega)]
      clear hst hu ha hb he hi hj
      go_enter Tryz.func313, Tryz.ntmps313
      go_wp2_with (go_at_call 312; refine HL1.out.mono ?_; rintro e w1 ⟨rfl, rfl⟩; refine Hid.out ?_)
      refine (show ∀ {p : Prop}, p → Hid p from fun h => h) ?_
      go_wp2_with (go_at_call 312; refine HL2.out.mono ?_; rintro e w1 ⟨rfl, rfl⟩)
      go_region_held3 (fun v => v.cell? ⟨g, a * 2, none⟩ = some (.int .i64 (a : Int)) ∧ v.cell? ⟨g, b * 2, none⟩ = some (.int .i64 (b : Int))) (exact hk)
        ((go_at_call 193; refine (HC.out _ _ _).mono ?_; rw [hcm]; rintro e w1 ⟨rfl, rfl⟩))
      all_goals
        go_wp2
        exact bodyPost_end (v := .tuple #[]) (results_none rfl _ _ _) rfl ⟨rfl, _, _, HU.out, HM.out, HG.out⟩
    · have HU := hideIt (hu.same_more (e := e) (by rw [← hi, ← hj, ← ha, ← hb]; omega))
      have HM := hideIt hst.drew
      have HG := hideIt (show u.grownBy u.drew (some g) from ⟨rfl, rfl, rfl, Nat.le_refl _, fun _ _ _ => rfl⟩)
      have hcm : cmpI (a : Int) (b : Int) = 0 := by unfold cmpI; rw [if_neg (by omega), if_neg (by omega)]
      clear hst hu ha hb he hi hj
      go_enter Tryz.func313, Tryz.ntmps313
      go_wp2_with (go_at_call 312; refine HL1.out.mono ?_; rintro e w1 ⟨rfl, rfl⟩; refine Hid.out ?_)
      refine (show ∀ {p : Prop}, p → Hid p from fun h => h) ?_
      go_wp2_with (go_at_call 312; refine HL2.out.mono ?_; rintro e w1 ⟨rfl, rfl⟩)
      go_region_held3 (fun v => v.cell? ⟨g, a * 2, none⟩ = some (.int .i64 (a : Int)) ∧ v.cell? ⟨g, b * 2, none⟩ = some (.int .i64 (b : Int))) (exact hk)
        ((go_at_call 193; refine (HC.out _ _ _).mono ?_; rw [hcm]; rintro e w1 ⟨rfl, rfl⟩))
      all_goals
        go_wp2
        exact bodyPost_end (v := .tuple #[]) (results_none rfl _ _ _) rfl ⟨rfl, _, _, HU.out, HM.out, HG.out⟩

theorem MSt.lt {B g n : Nat} {P : Nat → Option Nat} {u : World} (h : MSt B g n P u) : B ≤ g ∧ g < u.heap.size := by
  obtain ⟨xs, ho⟩ := h.own
  exact ho.lt g rfl

theorem MSt.up {B g n : Nat} {P : Nat → Option Nat} {u v : World} (h : MSt B g n P u) (hb : Below u.heap.size u v) : MSt B g n P v := by
  have hl := h.lt
  obtain ⟨xs, ho⟩ := h.own
  refine ⟨⟨xs, own_up ho hb⟩, fun i hi => ?_⟩
  obtain ⟨c0, c1⟩ := h.cell i hi
  exact ⟨by rw [hb.cell (p := ⟨g, _, none⟩) hl.2]; exact c0, by rw [hb.cell (p := ⟨g, _, none⟩) hl.2]; exact c1⟩

theorem infoMem : (Tryz.prog.info? 332).map (fun i => (i.zero, i.size, i.bytes)) = some (some (.agg #[.int .i64 0, .pointer none]), 2, 16) := by kernel_rfl

theorem made2 (n j : Nat) (hj : j < n) : (madeCells #[.int .i64 0, .pointer none] (n * 2)).toList[j * 2 + 1]? = some (.pointer none) := by
  rw [Array.getElem?_toList]
  unfold madeCells
  rw [Array.getElem?_map, Array.getElem?_eq_getElem (by simp; omega), Array.getElem_range]
  have : (j * 2 + 1) % 2 = 1 := by omega
  simp [this]

end Go.Proofs.YtkkplppcgnikoaaGreat
namespace Go.Proofs.YtkkplppcgnikoaaGreat
open Go.RowKit

/-- no edge joins what hangs together by those ahead of it -/
def TreeP (es : List EdgeV) : Prop := ∀ (q : Nat) (f : EdgeV), es[q]? = some f → ¬ Conn (es.take q) f.1 f.2
theorem uf_conn {es : List EdgeV} {n : Nat} {P : Nat → Option Nat} {R : Nat → Nat} (h : Uf es n P R) {f : EdgeV} (hf : 0 ≤ f.1 ∧ f.1 < f.2 ∧ f.2 < (n : Int)) : R f.1.toNat = R f.2.toNat ↔ Conn es f.1 f.2 := by
  have e1 : ((f.1.toNat : Nat) : Int) = f.1 := by omega
  have e2 : ((f.2.toNat : Nat) : Int) = f.2 := by omega
  constructor
  · intro hr
    have c1 := h.conn f.1.toNat (by omega)
    have c2 := h.conn f.2.toNat (by omega)
    rw [hr] at c1
    rw [e1] at c1
    rw [e2] at c2
    exact c1.trans c2.symm
  · intro hc
    have := hc (fun x => R f.1.toNat = R x.toNat) (fun e he => by rw [h.same e he]) rfl
    exact this
set_option maxRecDepth 100000 in
set_option maxHeartbeats 8000000 in
theorem treesOk_any (nn : Nat) (es : List EdgeV) (n : Nat) (a : Option Addr) (c : Nat) (hn0 : 1 ≤ nn) (hn12 : nn ≤ 12) (hn : n ≤ 1000) (hok : ∀ e ∈ es, eB (nn : Int) e = true) (w : World) (h : Es w w.heap.size a n es) :
    Calls Tryz.prog 272 #[.int .i64 (nn : Int), .slice a n c] w fun x w' => ∃ b : Bool, x = .returned (.bool b) ∧ (b = true ↔ TreeP es) ∧ Below w.heap.size w w' := by
  obtain ⟨im, him, hm0, hm1, hm2⟩ := info_parts infoMem
  have HR := hideIt h
  have hlen := h.1
  have HOk := hideIt hok
  have HV := vertsOk_any (nn : Int) w
  rw [decide_eq_true (by omega)] at HV
  have HV1 := hideIt HV
  clear h hok HV
  have hmk : ∀ u : World, (Instr.makeSlice 329 (.int .i64 (nn : Int)) (.int .i64 (nn : Int))).run Tryz.prog u =
      .ok (.slice (some ⟨u.heap.size, 0, none⟩) nn nn) (u.alloc (.cells (madeCells #[.int .i64 0, .pointer none] (nn * 2)) 332)) := fun u => by
    have h := run_make (P := Tryz.prog) u 329 332 im _ Tryz.underlying329 him hm0 .i64 .i64 (nn : Int) (nn : Int) (by omega) (by omega) (by rw [hm2]; omega) (by omega)
    rw [Int.toNat_natCast] at h
    simpa [hm1, Value.cells] using h
  go_enter Tryz.func272, Tryz.ntmps272
  go_wp2_with (go_at_call 121; refine HV1.out.mono ?_; rintro e w1 ⟨rfl, hw⟩; have hw' := hw.symm; subst hw'; clear hw)
  go_loopw [16] (fun i wr => ∃ (k : Nat) (xs : List Value), k ≤ nn ∧ i = .int .i64 (k : Int) ∧ wr.ownsRow w.heap.size 332 2 (.slice (some ⟨w.heap.size, 0, none⟩) nn nn) nn xs ∧ Hid (∀ j, j < nn → xs[j * 2 + 1]? = some (.pointer none)) ∧ Hid (∀ j, j < k → xs[j * 2]? = some (.int .i64 (j : Int))) ∧ Below w.heap.size w wr) (fun i _ => nn - (intOf i).toNat)
  case atStart => exact ⟨0, _, by omega, rfl, World.ownsRow_lit (base := w.heap.size) (e := 332) (size := 2) w (madeCells #[.int .i64 0, .pointer none] (nn * 2)) nn (Nat.le_refl _) (by unfold maxLen; omega) (by simp [madeCells]), fun j hj => made2 nn j hj, fun j hj => by omega, (Below.refl _ _).alloc (Nat.le_refl _) _⟩
  case round =>
    obtain ⟨k, xs, hk, rfl, hown, hp, hv, hb⟩ := hrel
    have hl3 : xs.length = nn * 2 := hown.1
    by_cases hlt : k < nn
    · have b1 : (0 : Int) ≤ (k : Int) := by omega
      have b2 : (k : Int) < (nn : Int) := by omega
      have f0 := hown.frozenAt (k * 2)
      obtain ⟨y0, x0⟩ : ∃ y, wr.cell? ⟨w.heap.size, k * 2, none⟩ = some y := ⟨_, by rw [hown.cellAt (k * 2) (by omega)]; exact List.getElem?_eq_getElem (by omega)⟩
      have HO2 := hideIt (hown.stored (k * 2) (.int .i64 (k : Int))).1
      have HB2 := hideIt (hb.setCell (p := ⟨w.heap.size, k * 2, none⟩) (Nat.le_refl _) (.int .i64 (k : Int)))
      have HP2 : Hid (∀ j, j < nn → (xs.set (k * 2) (.int .i64 (k : Int)))[j * 2 + 1]? = some (.pointer none)) := fun j hj => by rw [List.getElem?_set_ne (by omega)]; exact hp.out j hj
      have HV2 : Hid (∀ j, j < k + 1 → (xs.set (k * 2) (.int .i64 (k : Int)))[j * 2]? = some (.int .i64 (j : Int))) := fun j hj => by
        by_cases hjk : j = k
        · subst hjk; rw [List.getElem?_set_self (by omega)]
        · rw [List.getElem?_set_ne (by omega)]; exact hv.out j (by omega)
      clear hown hp hv hb
      go_wp2
      exact ⟨⟨k + 1, _, by omega, by go_num, HO2.out, HP2, HV2, HB2.out⟩, by simp [intOf]; omega⟩
    · obtain rfl : k = nn := by omega
      have HM : Hid (MSt w.heap.size w.heap.size k (fun _ => none) wr) := ⟨⟨xs, hown⟩, fun i hi => ⟨by rw [hown.cellAt (i * 2) (by omega)]; exact hv.out i hi, by rw [hown.cellAt (i * 2 + 1) (by omega)]; exact hp.out i hi⟩⟩
      have HB0 := hideIt hb
      clear hown hp hv hl3 hb
      go_wp2
      go_loopw [27] (fun i wr => ∃ (q : Nat) (P : Nat → Option Nat) (R : Nat → Nat), q ≤ n ∧ i = .int .i64 (q : Int) ∧ Hid (Uf (es.take q) k P R) ∧ Hid (∀ j f, j < q → es[j]? = some f → ¬ Conn (es.take j) f.1 f.2) ∧ MSt w.heap.size w.heap.size k P wr ∧ Below w.heap.size w wr) (fun i _ => n - (intOf i).toNat)
      case atStart => exact ⟨0, _, _, by omega, rfl, by show Uf _ _ _ _; rw [List.take_zero]; exact Uf.start k, fun j f hj => by omega, HM.out, HB0.out⟩
      case round =>
        obtain ⟨q, P, R, hq, rfl, hU, hT, hM, hb⟩ := hrel
        have hg := hM.lt
        clear HM HB0
        by_cases hlt2 : q < n
        · rcases HR.out.2 with hz | ⟨b, off, rfl, hbl, hc⟩
          · omega
          · obtain ⟨f, hf⟩ : ∃ f, es[q]? = some f := ⟨es[q]'(by omega), List.getElem?_eq_getElem (by omega)⟩
            obtain ⟨c0, c1⟩ := hc q f hf
            have hfe := HOk.out f (List.mem_of_getElem? hf)
            have hfi : 0 ≤ f.1 ∧ f.1 < f.2 ∧ f.2 < (k : Int) := by unfold eB at hfe; have := of_decide_eq_true hfe; omega
            have b1 : (0 : Int) ≤ (q : Int) := by omega
            have b2 : (q : Int) < (n : Int) := by omega
            have b3 : (0 : Int) ≤ f.1 := hfi.1
            have b4 : f.1 < (k : Int) := by omega
            have b5 : (0 : Int) ≤ f.2 := by omega
            have b6 : f.2 < (k : Int) := hfi.2.2
            have e0 : wr.cell? ⟨b, off + q * 2, none⟩ = some (.int .i64 f.1) := by rw [hb.cell hbl]; exact c0
            have e1 : wr.cell? ⟨b, off + q * 2 + 1, none⟩ = some (.int .i64 f.2) := by rw [hb.cell hbl]; exact c1
            have hba : Below wr.heap.size wr (wr.alloc (.cells #[.int .i64 f.1, .int .i64 f.2] 28)) := (Below.refl _ _).alloc (Nat.le_refl _) _
            have hM1 := (hM.up hba).drew
            have hb1 : Below w.heap.size w (wr.alloc (.cells #[.int .i64 f.1, .int .i64 f.2] 28)).drew := (hb.trans (hba.mono hb.size)).drew
            have HS : Hid (∀ u, Below (wr.heap.size + 1) (wr.alloc (.cells #[.int .i64 f.1, .int .i64 f.2] 28)).drew u → u.cell? ⟨wr.heap.size, 0, none⟩ = some (.int .i64 f.1) ∧ u.cell? ⟨wr.heap.size, 1, none⟩ = some (.int .i64 f.2)) := fun u hu =>
              ⟨by rw [hu.cell (p := ⟨wr.heap.size, 0, none⟩) (by show wr.heap.size < _; omega)]; simp, by rw [hu.cell (p := ⟨wr.heap.size, 1, none⟩) (by show wr.heap.size < _; omega)]; simp⟩
            have HEo : Hid (Calls Tryz.prog 159 #[.int .i64 (k : Int), .agg #[.int .i64 f.1, .int .i64 f.2]] (wr.alloc (.cells #[.int .i64 f.1, .int .i64 f.2] 28)).drew fun e v => e = .returned (.bool true) ∧ Below (wr.heap.size + 1) (wr.alloc (.cells #[.int .i64 f.1, .int .i64 f.2] 28)).drew v ∧ MSt w.heap.size w.heap.size k P v ∧ Below w.heap.size w v) := by
              have hE := iEdgeOk_any (k : Int) f (wr.alloc (.cells #[.int .i64 f.1, .int .i64 f.2] 28)).drew
              rw [hfe] at hE
              refine hE.mono fun _ _ ⟨he, hv⟩ => ⟨he, by simpa using hv, hM1.up hv, hb1.trans (hv.mono hb1.size)⟩
            have HL1 : Hid (∀ u, MSt w.heap.size w.heap.size k P u → Calls Tryz.prog 312 #[.pointer (some ⟨w.heap.size, f.1.toNat * 2, none⟩)] u fun e w' => e = .returned (.pointer (some ⟨w.heap.size, R f.1.toNat * 2, none⟩)) ∧ w' = u) := fun u hu => mLeast_any hU.out u hu f.1.toNat (by omega)
            have HL2 : Hid (∀ u, MSt w.heap.size w.heap.size k P u → Calls Tryz.prog 312 #[.pointer (some ⟨w.heap.size, f.2.toNat * 2, none⟩)] u fun e w' => e = .returned (.pointer (some ⟨w.heap.size, R f.2.toNat * 2, none⟩)) ∧ w' = u) := fun u hu => mLeast_any hU.out u hu f.2.toNat (by omega)
            have HUC := hideIt (uf_conn hU.out hfi)
            have HF := hideIt hf
            have HFI := hideIt hfi
            have S0 : Below (wr.heap.size + 1) (wr.alloc (.cells #[.int .i64 f.1, .int .i64 f.2] 28)).drew (wr.alloc (.cells #[.int .i64 f.1, .int .i64 f.2] 28)).drew := Below.refl _ _
            obtain ⟨ra, hra⟩ : ∃ ra, R f.1.toNat = ra := ⟨_, rfl⟩
            obtain ⟨rb, hrb⟩ : ∃ rb, R f.2.toNat = rb := ⟨_, rfl⟩
            rw [hra] at HL1 HUC
            rw [hrb] at HL2 HUC
            clear hc hf c0 c1 hM hM1 hfi hfe hba hb1 hb
            by_cases hrr : ra = rb
            · subst hrr
              have HN : Hid (¬ TreeP es) := fun ht => ht q f HF.out (HUC.out.1 rfl)
              have q5 : ∀ u : World, (binOp .eql 330 (.pointer (some ⟨w.heap.size, ra * 2, none⟩)) (.pointer (some ⟨w.heap.size, ra * 2, none⟩))).run Tryz.prog u = .ok (.bool true) u := fun u => run_eql_ptr_same u _ Tryz.underlying330 him
              clear hra hrb HUC hU hT
              go_wp2
              go_region_held3 (fun u => Below (wr.heap.size + 1) (wr.alloc (.cells #[.int .i64 f.1, .int .i64 f.2] 28)).drew u ∧ (u.cell? ⟨wr.heap.size, 0, none⟩ = some (.int .i64 f.1) ∧ u.cell? ⟨wr.heap.size, 1, none⟩ = some (.int .i64 f.2)))
                (exact ⟨S0, HS.out _ S0⟩)
                (first
                  | (go_at_call 159; refine HEo.out.mono ?_; clear HEo S0; rintro e w5 ⟨rfl, S0, M5, B5⟩)
                  | (go_at_call 312; refine (HL1.out _ M5).mono ?_; clear HL1; rintro e w6 ⟨rfl, hw⟩; have hw' := hw.symm; subst hw'; clear hw)
                  | (go_at_call 312; refine (HL2.out _ M5).mono ?_; clear HL2; rintro e w6 ⟨rfl, hw⟩; have hw' := hw.symm; subst hw'; clear hw))
              have HB5 := hideIt B5
              clear S0 M5 q5 B5
              go_wp2
              go_ret
              exact ⟨false, rfl, ⟨fun h => by simp at h, fun h => absurd h HN.out⟩, HB5.out⟩
            · have HT2 : Hid (∀ j f, j < q + 1 → es[j]? = some f → ¬ Conn (es.take j) f.1 f.2) := fun j f2 hj hf2 => by
                by_cases hjq : j = q
                · subst hjq
                  rw [HF.out] at hf2
                  simp at hf2
                  subst hf2
                  exact fun hc => hrr (HUC.out.2 hc)
                · exact hT.out j f2 (by omega) hf2
              have HQ : Hid (∀ u, MSt w.heap.size w.heap.size k P u → (binOp .eql 330 (.pointer (some ⟨w.heap.size, ra * 2, none⟩)) (.pointer (some ⟨w.heap.size, rb * 2, none⟩))).run Tryz.prog u = .ok (.bool false) u) := fun u hu => by
                obtain ⟨ys, ho⟩ := hu.own
                rcases ho.2 with ⟨hv, _⟩ | ⟨g, cap, cur, hv, _, hgb, _⟩
                · simp at hv
                · simp at hv
                  obtain ⟨rfl, rfl⟩ := hv
                  exact run_eql_ptr_other u Tryz.underlying330 him (by rw [hm1]; decide) (fun e => hrr (by have := congrArg Addr.off e; dsimp only at this; omega)) hgb hgb
              have HJo : Hid (∀ u, MSt w.heap.size w.heap.size k P u → Calls Tryz.prog 313 #[.pointer (some ⟨w.heap.size, f.1.toNat * 2, none⟩), .pointer (some ⟨w.heap.size, f.2.toNat * 2, none⟩)] u fun x w' => x = .returned (.tuple #[]) ∧ ∃ P' R', Uf (es.take (q + 1)) k P' R' ∧ MSt w.heap.size w.heap.size k P' w' ∧ u.grownBy w' (some w.heap.size)) := fun u hu => by
                have := mJoin_any hU.out f HFI.out u hu
                rw [← take_snocF es q f HF.out] at this
                exact this
              clear hra hrb HUC hU hT
              go_wp2
              go_region_with (first
                  | (go_at_call 159; refine HEo.out.mono ?_; clear HEo S0; rintro e w5 ⟨rfl, S0, M5, B5⟩; have q5 := HQ.out w5 M5; obtain ⟨k5, k6⟩ := HS.out _ S0)
                  | (go_at_call 312; refine (HL1.out _ M5).mono ?_; clear HL1; rintro e w6 ⟨rfl, hw⟩; have hw' := hw.symm; subst hw'; clear hw)
                  | (go_at_call 312; refine (HL2.out _ M5).mono ?_; clear HL2; rintro e w6 ⟨rfl, hw⟩; have hw' := hw.symm; subst hw'; clear hw))
              all_goals
                have HM5 := hideIt M5.drew
                have HB5 := hideIt B5.drew
                have hk5 : w5.drew.cell? ⟨wr.heap.size, 0, none⟩ = some (.int .i64 f.1) ∧ w5.drew.cell? ⟨wr.heap.size, 1, none⟩ = some (.int .i64 f.2) := ⟨k5, k6⟩
                have hwr5 : wr.heap.size < w5.heap.size := by have := S0.size; simp at this; omega
                have HK6 : Hid (∀ v, w5.drew.grownBy v (some w.heap.size) → v.cell? ⟨wr.heap.size, 0, none⟩ = some (.int .i64 f.1) ∧ v.cell? ⟨wr.heap.size, 1, none⟩ = some (.int .i64 f.2)) := fun v hv =>
                  ⟨by rw [World.cell?_of_block (w := w5.drew) (hv.block wr.heap.size hwr5 (by simp; omega))]; exact hk5.1, by rw [World.cell?_of_block (w := w5.drew) (hv.block wr.heap.size hwr5 (by simp; omega))]; exact hk5.2⟩
                have HX := hideIt (HJo.out _ HM5.out)
                clear S0 M5 q5 B5 HS HQ HJo
                go_wp2
                go_region_held3 (fun v => v.cell? ⟨wr.heap.size, 0, none⟩ = some (.int .i64 f.1) ∧ v.cell? ⟨wr.heap.size, 1, none⟩ = some (.int .i64 f.2))
                  (first | exact HK6.out _ hg7 | exact hk5)
                  ((go_at_call 313; refine HX.out.mono ?_; rintro e w7 ⟨rfl, P', R', hU7, hM7, hg7⟩))
                all_goals
                  have HU7 := hideIt hU7
                  have hb7 : Below w.heap.size w w7 := HB5.out.grown hg7 (by have := HB5.out.size; exact this) (fun j e => by cases e; exact Nat.le_refl _)
                  clear hU7 hg7 HX HK6
                  go_wp2
                  exact ⟨⟨q + 1, P', R', by omega, by go_num, HU7, HT2, hM7, hb7⟩, by simp [intOf]; omega⟩
        · obtain rfl : q = n := by omega
          have HY : Hid (TreeP es) := fun j f hf => hT.out j f (by have := (List.getElem?_eq_some_iff.1 hf).1; omega) hf
          have HB := hideIt hb
          clear hU hT hM hb
          go_wp2
          go_ret
          exact ⟨true, rfl, ⟨fun _ => HY.out, fun _ => rfl⟩, HB.out⟩
end Go.Proofs.YtkkplppcgnikoaaGreat
