/- The specification's GraphOk and HasEdge. The program's GraphOk and HasEdge. What an order wants done, as the program has it. Whether what an order wants done is right, as the program tells it. The walk of FnExactOrderOk. Lists of ints: how they stand in memory; eqIntS, markIntS, heldIntS; an answer that is a list of ints. -/
import Derived.Test.YtkhhagjcmbbdpaaKOr10
import Derived.Test.YtkhhagjcmbbdpaaKICmp
namespace Go.Proofs.Ytkhhagjcmbbdpaa
open Go.RowKit

set_option maxHeartbeats 1000000 in
theorem sGraphOk_any (N : Int) (es : List EdgeV) (n : Nat) (a : Option Addr) (c : Nat) (hn : n ≤ 1048576) (w : World) (h : Es w w.heap.size a n es) :
    Calls Try.prog 108 #[.agg #[.int .i64 N, .slice a n c]] w fun e w' => e = .returned (.bool (gB N es)) ∧ Below w.heap.size w w' := by
  have HT := hideIt (l05Edges_any N es n a c hn (w.alloc (.cells #[.int .i64 N, .slice a n c] 120)) ((h.alloc (Nat.le_refl _) _).mono (by simp)))
  have HI := hideIt l01In_any
  clear h
  by_cases h1 : 1 ≤ N ∧ N ≤ 12
  · have r1 : decide (1 ≤ N ∧ N ≤ 12) = true := by simpa using h1
    have HG : Hid (gB N es = (chk N es && decide (es.length ≤ 66))) := by show _ = _; unfold gB; rw [r1]; rfl
    generalize (chk N es && decide (es.length ≤ 66)) = r at HG HT
    go_enter Try.func108, Try.ntmps108
    go_wp2_with (first | (go_at_call 46; refine (HI.out _ _ _ _).mono ?_; rintro e w1 ⟨rfl, rfl⟩) | (go_at_call 47; refine HT.out.mono ?_; rintro e w2 ⟨rfl, hb2⟩))
    go_ret
    exact ⟨by rw [HG.out]; rfl, ((Below.refl _ _).alloc (Nat.le_refl _) _).trans (hb2.mono (by simp))⟩
  · have r1 : decide (1 ≤ N ∧ N ≤ 12) = false := by simpa using h1
    have HG : Hid (gB N es = false) := by show _ = _; unfold gB; rw [r1]; rfl
    clear HT
    go_enter Try.func108, Try.ntmps108
    go_wp2_with (go_at_call 46; refine (HI.out _ _ _ _).mono ?_; rintro e w1 ⟨rfl, rfl⟩)
    go_ret
    exact ⟨by rw [HG.out]; rfl, (Below.refl _ _).alloc (Nat.le_refl _) _⟩

/-- it is one of them -/
def hasB (es : List EdgeV) (e : EdgeV) : Bool := decide (e ∈ es)
theorem hasB_yes {es : List EdgeV} {e : EdgeV} {k : Nat} (h : es[k]? = some e) : hasB es e = true := decide_eq_true (List.mem_of_getElem? h)
theorem hasB_no {es : List EdgeV} {e : EdgeV} (h : ∀ j, j < es.length → es[j]? ≠ some e) : hasB es e = false := decide_eq_false fun hm => by
  obtain ⟨j, hj, rfl⟩ := List.getElem_of_mem hm
  exact h j hj (List.getElem?_eq_getElem hj)

set_option maxHeartbeats 1000000 in
theorem l05Has_any (es : List EdgeV) (e : EdgeV) (n : Nat) (a : Option Addr) (c : Nat) (hn : n ≤ 1048576) (w : World) (h : Es w w.heap.size a n es) :
    Calls Try.prog 103 #[.slice a n c, .agg #[.int .i64 e.1, .int .i64 e.2]] w fun x w' => x = .returned (.bool (hasB es e)) ∧ Below w.heap.size w w' := by
  obtain ⟨hlen, hrow⟩ := h
  have HR := hideIt hrow
  clear hrow
  go_enter Try.func103, Try.ntmps103
  go_wp2
  go_loopw [5] (fun i wr => ∃ k : Nat, k ≤ n ∧ i = .int .i64 (k : Int) ∧ Hid (∀ j, j < k → es[j]? ≠ some e) ∧ Below w.heap.size w wr ∧ wr.cell? ⟨w.heap.size, 0, none⟩ = some (.int .i64 e.1) ∧ wr.cell? ⟨w.heap.size, 1, none⟩ = some (.int .i64 e.2)) (fun i _ => n - (intOf i).toNat)
  case atStart => exact ⟨0, by omega, rfl, fun j hj => by omega, (Below.refl _ _).alloc (Nat.le_refl _) _, by simp, by simp⟩
  case round =>
    obtain ⟨k, hk, rfl, hck, hb, x0, x1⟩ := hrel
    by_cases hlt : k < n
    · rcases HR.out with hz | ⟨b, off, rfl, hbl, hc⟩
      · omega
      · obtain ⟨f, hf⟩ : ∃ f, es[k]? = some f := ⟨es[k]'(by omega), List.getElem?_eq_getElem (by omega)⟩
        obtain ⟨c0, c1⟩ := hc k f hf
        have e0 : wr.cell? ⟨b, off + k * 2, none⟩ = some (.int .i64 f.1) := by rw [hb.cell hbl]; exact c0
        have e1 : wr.cell? ⟨b, off + k * 2 + 1, none⟩ = some (.int .i64 f.2) := by rw [hb.cell hbl]; exact c1
        have b1 : (0 : Int) ≤ (k : Int) := by omega
        have b2 : (k : Int) < (n : Int) := by omega
        by_cases hfe : f = e
        · subst hfe
          have HY := hideIt (hasB_yes hf)
          clear hf hc c0 c1 hck
          go_wp2
          go_quiet (fail)
          go_wp2
          go_ret
          exact ⟨by rw [HY.out]; rfl, below_drewN hb _⟩
        · have HN : Hid (∀ j, j < k + 1 → es[j]? ≠ some e) := fun j hj => by
            by_cases hjk : j = k
            · subst hjk; rw [hf]; exact fun hh => hfe (Option.some.inj hh)
            · exact hck.out j (by omega)
          clear hf hc c0 c1 hck
          by_cases h1 : f.1 = e.1
          · have h2 : ¬ f.2 = e.2 := fun h2 => hfe (Prod.ext h1 h2)
            rw [h1] at e0
            have d2 : (f.2 == e.2) = false := by simpa using h2
            clear hfe
            go_wp2
            go_quiet (fail)
            go_wp2
            exact ⟨⟨k + 1, by omega, by go_num, HN, below_drewN hb _, x0, x1⟩, by simp [intOf]; omega⟩
          · have d1 : (f.1 == e.1) = false := by simpa using h1
            clear hfe
            go_wp2
            go_quiet (fail)
            go_wp2
            exact ⟨⟨k + 1, by omega, by go_num, HN, below_drewN hb _, x0, x1⟩, by simp [intOf]; omega⟩
    · have HN := hideIt (hasB_no (es := es) (e := e) (fun j hj => hck.out j (by omega)))
      clear hck
      go_wp2
      go_ret
      exact ⟨by rw [HN.out]; rfl, hb⟩

theorem sHasEdge_any (N : Int) (es : List EdgeV) (e : EdgeV) (n : Nat) (a : Option Addr) (c : Nat) (hn : n ≤ 1048576) (w : World) (h : Es w w.heap.size a n es) :
    Calls Try.prog 105 #[.agg #[.int .i64 N, .slice a n c], .agg #[.int .i64 e.1, .int .i64 e.2]] w fun x w' => x = .returned (.bool (hasB es e)) ∧ Below w.heap.size w w' := by
  have HT := hideIt (l05Has_any es e n a c hn ((w.alloc (.cells #[.int .i64 N, .slice a n c] 120)).alloc (.cells #[.int .i64 e.1, .int .i64 e.2] 78)) (((h.alloc (Nat.le_refl _) _).alloc (by simp) _).mono (by simp; omega)))
  clear h
  go_enter Try.func105, Try.ntmps105
  go_wp2_with (go_at_call 103; refine HT.out.mono ?_; rintro e w1 ⟨rfl, hb1⟩)
  go_ret
  exact ⟨rfl, (((Below.refl _ _).alloc (Nat.le_refl _) _).alloc (by simp) _).trans (hb1.mono (by simp; omega))⟩
end Go.Proofs.Ytkhhagjcmbbdpaa
namespace Go.Proofs.Ytkhhagjcmbbdpaa
open Go.RowKit

theorem cmpE_ge (d e : EdgeV) (b : Bool) (h : lt d e = b) : decide (0 ≤ cmpE d e) = !b := by
  cases b with
  | true => have := (cmpE_neg d e).2 h; simp; omega
  | false =>
    have : ¬ cmpE d e < 0 := fun h2 => by rw [(cmpE_neg d e).1 h2] at h; cases h
    simp; omega

set_option maxRecDepth 100000 in
set_option maxHeartbeats 2000000 in
theorem edgesOk_any (N : Int) (es : List EdgeV) (n : Nat) (a : Option Addr) (c : Nat) (hn : n ≤ 1048576) (w : World) (h : Es w w.heap.size a n es) :
    Calls Try.prog 56 #[.int .i64 N, .slice a n c] w fun e w' => e = .returned (.bool (chk N es && decide (es.length ≤ 66))) ∧ Below w.heap.size w w' := by
  obtain ⟨hlen, hrow⟩ := h
  have HR := hideIt hrow
  clear hrow
  by_cases g66 : 66 < n
  · have d66 : decide ((66 : Int) < (n : Int)) = true := decide_eq_true (by omega)
    have HG : Hid (decide (es.length ≤ 66) = false) := decide_eq_false (by omega)
    go_enter Try.func56, Try.ntmps56
    go_wp2
    go_ret
    exact ⟨by rw [HG.out]; simp, Below.refl _ _⟩
  · have d66 : decide ((66 : Int) < (n : Int)) = false := decide_eq_false (by omega)
    have HG : Hid (decide (es.length ≤ 66) = true) := decide_eq_true (by omega)
    go_enter Try.func56, Try.ntmps56
    go_wp2
    go_loopw [12] (fun i wr => ∃ k : Nat, k ≤ n ∧ i = .int .i64 (k : Int) ∧ Hid (∀ j, j < k → chkAt N es j = true) ∧ Below w.heap.size w wr) (fun i _ => n - (intOf i).toNat)
    case atStart => exact ⟨0, by omega, rfl, fun j hj => by omega, Below.refl _ _⟩
    case round =>
      obtain ⟨k, hk, rfl, hck, hb⟩ := hrel
      by_cases hlt : k < n
      · rcases HR.out with hz | ⟨b, off, rfl, hbl, hc⟩
        · omega
        · obtain ⟨f, hf⟩ : ∃ f, es[k]? = some f := ⟨es[k]'(by omega), List.getElem?_eq_getElem (by omega)⟩
          obtain ⟨c0, c1⟩ := hc k f hf
          have e0 : wr.cell? ⟨b, off + k * 2, none⟩ = some (.int .i64 f.1) := by rw [hb.cell hbl]; exact c0
          have e1 : wr.cell? ⟨b, off + k * 2 + 1, none⟩ = some (.int .i64 f.2) := by rw [hb.cell hbl]; exact c1
          have b1 : (0 : Int) ≤ (k : Int) := by omega
          have b2 : (k : Int) < (n : Int) := by omega
          have z0 : wr.heap.size < (wr.alloc (.cells #[.int .i64 f.1, .int .i64 f.2] 78)).heap.size := by simp
          have hb5 : Below w.heap.size w (wr.alloc (.cells #[.int .i64 f.1, .int .i64 f.2] 78)) := hb.alloc hb.size _
          have hbd : Below (wr.alloc (.cells #[.int .i64 f.1, .int .i64 f.2] 78)).heap.size (wr.alloc (.cells #[.int .i64 f.1, .int .i64 f.2] 78)) (wr.alloc (.cells #[.int .i64 f.1, .int .i64 f.2] 78)).drew := (Below.refl _ _).drew
          have HZ := hideIt (fun W (hW : Below (wr.alloc (.cells #[.int .i64 f.1, .int .i64 f.2] 78)).heap.size (wr.alloc (.cells #[.int .i64 f.1, .int .i64 f.2] 78)) W) => hb5.trans (hW.mono hb5.size))
          have HE : Hid (∀ W : World, Below (wr.alloc (.cells #[.int .i64 f.1, .int .i64 f.2] 78)).heap.size (wr.alloc (.cells #[.int .i64 f.1, .int .i64 f.2] 78)) W → Calls Try.prog 88 #[.int .i64 N, .agg #[.int .i64 f.1, .int .i64 f.2]] W fun e w' => e = .returned (.bool (eB N f)) ∧ Below (wr.alloc (.cells #[.int .i64 f.1, .int .i64 f.2] 78)).heap.size (wr.alloc (.cells #[.int .i64 f.1, .int .i64 f.2] 78)) w') := fun W hW =>
            (iEdgeOk_any N f W).mono fun _ _ ⟨he, hb'⟩ => ⟨he, hW.trans (hb'.mono hW.size)⟩
          have HK : Hid (∀ W : World, Below (wr.alloc (.cells #[.int .i64 f.1, .int .i64 f.2] 78)).heap.size (wr.alloc (.cells #[.int .i64 f.1, .int .i64 f.2] 78)) W → (W.cell? ⟨wr.heap.size, 0, none⟩ = some (.int .i64 f.1) ∧ W.cell? ⟨wr.heap.size, 1, none⟩ = some (.int .i64 f.2))) := fun W hW =>
            ⟨by rw [hW.cell z0]; simp, by rw [hW.cell z0]; simp⟩
          cases hE : eB N f with
          | false =>
            rw [hE] at HE
            have HN := hideIt (chk_no (by omega : k < es.length) (chkAt_no hf hE))
            clear hf hc c0 c1 hE hck
            go_wp2
            refine wp_region_any (by kernel_rfl) ?_
            change wpAny _ _ _ _ _ _ _ (World.drew _)
            refine takeOp (i := 0) (v := ?_) rfl (by kernel_rfl) (by kernel_rfl) (by kernel_rfl) (fun _ _ _ h => h) (by kernel_rfl) ?_ ?_
            rotate_left
            · intro w; go_simp; try with_reducible rfl
            refine wpAny_ready (rs := [1]) (by kernel_rfl) (by simp) ?_
            refine AllReady.cons rfl (fun K hK => ?_) AllReady.nil
            go_simp
            refine hK _ _ ?_
            clear hK K
            refine wpAny_ready (rs := [2]) (by kernel_rfl) (by simp) ?_
            refine AllReady.cons rfl (fun K hK => ?_) AllReady.nil
            go_wp2_with (go_at_call 88; refine (HE.out _ hbd).mono ?_; rintro e w1 ⟨rfl, hb3⟩; refine Hid.out ?_)
            refine (show ∀ {p : Prop}, p → Hid p from fun h => h) ?_
            try refine hK _ _ ?_
            clear hK K
            refine wpAny_ready (rs := [3]) (by kernel_rfl) (by simp) ?_
            refine AllReady.cons rfl (fun K hK => ?_) AllReady.nil
            go_simp
            refine hK _ _ ?_
            clear hK K
            refine wpAny_ready (rs := [4]) (by kernel_rfl) (by simp) ?_
            refine AllReady.cons rfl (fun K hK => ?_) AllReady.nil
            go_simp
            refine hK _ _ ?_
            clear hK K
            refine skipOp (i := 5) rfl (by kernel_rfl) (by kernel_rfl) (by kernel_rfl) (fun _ _ _ h => h) (by kernel_rfl) ?_
            refine skipOp (i := 6) rfl (by kernel_rfl) (by kernel_rfl) (by kernel_rfl) (fun _ _ _ h => h) (by kernel_rfl) ?_
            refine skipOp (i := 7) rfl (by kernel_rfl) (by kernel_rfl) (by kernel_rfl) (fun _ _ _ h => h) (by kernel_rfl) ?_
            refine skipOp (i := 8) rfl (by kernel_rfl) (by kernel_rfl) (by kernel_rfl) (fun _ _ _ h => h) (by kernel_rfl) ?_
            refine skipOp (i := 9) rfl (by kernel_rfl) (by kernel_rfl) (by kernel_rfl) (fun _ _ _ h => h) (by kernel_rfl) ?_
            refine skipOp (i := 10) rfl (by kernel_rfl) (by kernel_rfl) (by kernel_rfl) (fun _ _ _ h => h) (by kernel_rfl) ?_
            refine skipOp (i := 11) rfl (by kernel_rfl) (by kernel_rfl) (by kernel_rfl) (fun _ _ _ h => h) (by kernel_rfl) ?_
            refine skipOp (i := 12) rfl (by kernel_rfl) (by kernel_rfl) (by kernel_rfl) (fun _ _ _ h => h) (by kernel_rfl) ?_
            refine skipOp (i := 13) rfl (by kernel_rfl) (by kernel_rfl) (by kernel_rfl) (fun _ _ _ h => h) (by kernel_rfl) ?_
            refine skipOp (i := 14) rfl (by kernel_rfl) (by kernel_rfl) (by kernel_rfl) (fun _ _ _ h => h) (by kernel_rfl) ?_
            refine skipOp (i := 15) rfl (by kernel_rfl) (by kernel_rfl) (by kernel_rfl) (fun _ _ _ h => h) (by kernel_rfl) ?_
            refine skipOp (i := 16) rfl (by kernel_rfl) (by kernel_rfl) (by kernel_rfl) (fun _ _ _ h => h) (by kernel_rfl) ?_
            refine wpAny_ready (rs := [17]) (by kernel_rfl) (by simp) ?_
            refine AllReady.cons rfl (fun K hK => ?_) AllReady.nil
            go_simp
            refine hK _ _ ?_
            clear hK K
            refine wpAny_done (by kernel_rfl) ?_ _
            go_wp2
            go_ret
            exact ⟨by rw [HN.out]; rfl, HZ.out _ hb3⟩
          | true =>
            rw [hE] at HE
            rcases k with _ | i
            · have HY := hideIt (show chkAt N es 0 = true by rw [chkAt_zero hf]; exact hE)
              clear hf hc c0 c1 hE
              rw [Nat.zero_mul, Nat.add_zero] at e0 e1
              go_wp2
              refine wp_region_any (by kernel_rfl) ?_
              change wpAny _ _ _ _ _ _ _ (World.drew _)
              refine takeOp (i := 0) (v := ?_) rfl (by kernel_rfl) (by kernel_rfl) (by kernel_rfl) (fun _ _ _ h => h) (by kernel_rfl) ?_ ?_
              rotate_left
              · intro w; go_simp; try with_reducible rfl
              refine wpAny_ready (rs := [1]) (by kernel_rfl) (by simp) ?_
              refine AllReady.cons rfl (fun K hK => ?_) AllReady.nil
              go_simp
              refine hK _ _ ?_
              clear hK K
              refine wpAny_ready (rs := [2]) (by kernel_rfl) (by simp) ?_
              refine AllReady.cons rfl (fun K hK => ?_) AllReady.nil
              go_wp2_with (go_at_call 88; refine (HE.out _ hbd).mono ?_; rintro e w1 ⟨rfl, hb3⟩; refine Hid.out ?_)
              refine (show ∀ {p : Prop}, p → Hid p from fun h => h) ?_
              try refine hK _ _ ?_
              clear hK K
              refine wpAny_ready (rs := [3]) (by kernel_rfl) (by simp) ?_
              refine AllReady.cons rfl (fun K hK => ?_) AllReady.nil
              go_simp
              refine hK _ _ ?_
              clear hK K
              refine wpAny_ready (rs := [4]) (by kernel_rfl) (by simp) ?_
              refine AllReady.cons rfl (fun K hK => ?_) AllReady.nil
              go_simp
              refine hK _ _ ?_
              clear hK K
              refine wpAny_ready (rs := [5]) (by kernel_rfl) (by simp) ?_
              refine AllReady.cons rfl (fun K hK => ?_) AllReady.nil
              go_simp
              refine hK _ _ ?_
              clear hK K
              refine wpAny_ready (rs := [6]) (by kernel_rfl) (by simp) ?_
              refine AllReady.cons rfl (fun K hK => ?_) AllReady.nil
              go_simp
              refine hK _ _ ?_
              clear hK K
              refine wpAny_ready (rs := [7]) (by kernel_rfl) (by simp) ?_
              refine AllReady.cons rfl (fun K hK => ?_) AllReady.nil
              go_simp
              refine hK _ _ ?_
              clear hK K
              refine skipOp (i := 8) rfl (by kernel_rfl) (by kernel_rfl) (by kernel_rfl) (fun _ _ _ h => h) (by kernel_rfl) ?_
              refine skipOp (i := 9) rfl (by kernel_rfl) (by kernel_rfl) (by kernel_rfl) (fun _ _ _ h => h) (by kernel_rfl) ?_
              refine skipOp (i := 10) rfl (by kernel_rfl) (by kernel_rfl) (by kernel_rfl) (fun _ _ _ h => h) (by kernel_rfl) ?_
              refine skipOp (i := 11) rfl (by kernel_rfl) (by kernel_rfl) (by kernel_rfl) (fun _ _ _ h => h) (by kernel_rfl) ?_
              refine skipOp (i := 12) rfl (by kernel_rfl) (by kernel_rfl) (by kernel_rfl) (fun _ _ _ h => h) (by kernel_rfl) ?_
              refine skipOp (i := 13) rfl (by kernel_rfl) (by kernel_rfl) (by kernel_rfl) (fun _ _ _ h => h) (by kernel_rfl) ?_
              refine skipOp (i := 14) rfl (by kernel_rfl) (by kernel_rfl) (by kernel_rfl) (fun _ _ _ h => h) (by kernel_rfl) ?_
              refine skipOp (i := 15) rfl (by kernel_rfl) (by kernel_rfl) (by kernel_rfl) (fun _ _ _ h => h) (by kernel_rfl) ?_
              refine wpAny_ready (rs := [16]) (by kernel_rfl) (by simp) ?_
              refine AllReady.cons rfl (fun K hK => ?_) AllReady.nil
              go_simp
              refine hK _ _ ?_
              clear hK K
              refine wpAny_ready (rs := [17]) (by kernel_rfl) (by simp) ?_
              refine AllReady.cons rfl (fun K hK => ?_) AllReady.nil
              go_simp
              refine hK _ _ ?_
              clear hK K
              refine wpAny_done (by kernel_rfl) ?_ _
              go_wp2
              exact ⟨⟨1, by omega, by go_num, fun j hj => by
                obtain rfl : j = 0 := by omega
                exact HY.out, HZ.out _ hb3⟩, by simp [intOf]; omega⟩
            · obtain ⟨d, hd⟩ : ∃ d, es[i]? = some d := ⟨es[i]'(by omega), List.getElem?_eq_getElem (by omega)⟩
              obtain ⟨c2, c3⟩ := hc i d hd
              have HK2 : Hid (∀ W : World, Below (wr.alloc (.cells #[.int .i64 f.1, .int .i64 f.2] 78)).heap.size (wr.alloc (.cells #[.int .i64 f.1, .int .i64 f.2] 78)) W → (W.cell? ⟨b, off + i * 2, none⟩ = some (.int .i64 d.1) ∧ W.cell? ⟨b, off + i * 2 + 1, none⟩ = some (.int .i64 d.2))) := fun W hW =>
                ⟨by rw [(HZ.out W hW).cell hbl]; exact c2, by rw [(HZ.out W hW).cell hbl]; exact c3⟩
              have HC := hideIt (chkAt_succ (n := N) hf hd)
              have HL2 : Hid (∀ W : World, Below (wr.alloc (.cells #[.int .i64 f.1, .int .i64 f.2] 78)).heap.size (wr.alloc (.cells #[.int .i64 f.1, .int .i64 f.2] 78)) W → Calls Try.prog 89 #[.agg #[.int .i64 d.1, .int .i64 d.2], .agg #[.int .i64 f.1, .int .i64 f.2]] W fun e w' => e = .returned (.int .i64 (cmpE d f)) ∧ Below (wr.alloc (.cells #[.int .i64 f.1, .int .i64 f.2] 78)).heap.size (wr.alloc (.cells #[.int .i64 f.1, .int .i64 f.2] 78)) w') := fun W hW =>
                (compareEdges_any d f W).mono fun _ _ ⟨he, hb'⟩ => ⟨he, hW.trans (hb'.mono hW.size)⟩
              have HE0 := hideIt hE
              have ek : ((i + 1 : Nat) : Int) = (i : Int) + 1 := by omega
              rw [ek] at b1 b2
              have b3 : (0 : Int) ≤ (i : Int) := by omega
              have b4 : (i : Int) < (n : Int) := by omega
              have tn : ((i : Int) + 1).toNat = i + 1 := by omega
              have d0 : decide ((0 : Int) < (i : Int) + 1) = true := decide_eq_true (by omega)
              have hw1 : IntKind.i64.wrap (i : Int) = (i : Int) := by rw [IntKind.wrap_i64]; omega
              rw [ek]
              clear ek hf hd hc c0 c1 c2 c3 hE
              cases hL : lt d f with
              | true =>
                have dc := cmpE_ge d f true hL
                have HY := hideIt (show chkAt N es (i + 1) = true by rw [HC.out, HE0.out, hL]; rfl)
                clear HC hL HE0
                generalize cmpE d f = cv at HL2 dc
                go_wp2
                go_region_held3 (fun u => Below (wr.alloc (.cells #[.int .i64 f.1, .int .i64 f.2] 78)).heap.size (wr.alloc (.cells #[.int .i64 f.1, .int .i64 f.2] 78)) u ∧ (u.cell? ⟨wr.heap.size, 0, none⟩ = some (.int .i64 f.1) ∧ u.cell? ⟨wr.heap.size, 1, none⟩ = some (.int .i64 f.2)) ∧ u.cell? ⟨b, off + i * 2, none⟩ = some (.int .i64 d.1) ∧ u.cell? ⟨b, off + i * 2 + 1, none⟩ = some (.int .i64 d.2))
                  (first | exact ⟨hb4, HK.out _ hb4, HK2.out _ hb4⟩ | exact ⟨hb3, HK.out _ hb3, HK2.out _ hb3⟩ | exact ⟨hbd, HK.out _ hbd, HK2.out _ hbd⟩)
                  (first
                  | (go_at_call 88; refine (HE.out _ hbd).mono ?_; rintro e w1 ⟨rfl, hb3⟩)
                  | (go_at_call 89; refine (HL2.out _ hb3).mono ?_; rintro e w2 ⟨rfl, hb4⟩))
                all_goals
                  go_wp2
                  exact ⟨⟨i + 2, by omega, by go_num, fun j hj => by
                    by_cases hji : j = i + 1
                    · subst hji; exact HY.out
                    · exact hck.out j (by omega), HZ.out _ hb4⟩, by simp [intOf]; omega⟩
              | false =>
                have dc := cmpE_ge d f false hL
                have HN := hideIt (chk_no (by omega : i + 1 < es.length) (show chkAt N es (i + 1) = false by rw [HC.out, HE0.out, hL]; rfl))
                clear HC hL HE0
                generalize cmpE d f = cv at HL2 dc
                go_wp2
                go_region_held3 (fun u => Below (wr.alloc (.cells #[.int .i64 f.1, .int .i64 f.2] 78)).heap.size (wr.alloc (.cells #[.int .i64 f.1, .int .i64 f.2] 78)) u ∧ (u.cell? ⟨wr.heap.size, 0, none⟩ = some (.int .i64 f.1) ∧ u.cell? ⟨wr.heap.size, 1, none⟩ = some (.int .i64 f.2)) ∧ u.cell? ⟨b, off + i * 2, none⟩ = some (.int .i64 d.1) ∧ u.cell? ⟨b, off + i * 2 + 1, none⟩ = some (.int .i64 d.2))
                  (first | exact ⟨hb4, HK.out _ hb4, HK2.out _ hb4⟩ | exact ⟨hb3, HK.out _ hb3, HK2.out _ hb3⟩ | exact ⟨hbd, HK.out _ hbd, HK2.out _ hbd⟩)
                  (first
                  | (go_at_call 88; refine (HE.out _ hbd).mono ?_; rintro e w1 ⟨rfl, hb3⟩)
                  | (go_at_call 89; refine (HL2.out _ hb3).mono ?_; rintro e w2 ⟨rfl, hb4⟩))
                all_goals
                  go_wp2
                  go_ret
                  exact ⟨by rw [HN.out]; rfl, HZ.out _ hb4⟩
      · have HY := hideIt (chk_yes (n := N) (es := es) (fun j hj => hck.out j (by omega)))
        clear hck
        go_wp2
        go_ret
        exact ⟨by rw [HY.out, HG.out]; rfl, hb⟩

end Go.Proofs.Ytkhhagjcmbbdpaa
namespace Go.Proofs.Ytkhhagjcmbbdpaa
open Go.RowKit Vt

theorem numOk_any (x : Int) (w : World) : Calls Try.prog 49 #[.int .i64 x] w fun e w' => e = .returned (.bool (decide (1 ≤ x ∧ x ≤ 100000))) ∧ w' = w := by
  by_cases h1 : 1 ≤ x
  · have d1 : decide (1 ≤ x) = true := by simpa using h1
    go_enter Try.func49, Try.ntmps49
    go_wp2
    go_ret
    exact ⟨by simp [h1], rfl⟩
  · have d1 : decide (1 ≤ x) = false := by simpa using h1
    go_enter Try.func49, Try.ntmps49
    go_wp2
    go_ret
    exact ⟨by simp, rfl⟩

theorem commandOf_rel (num v : Int) (a : Option Addr) (c : Nat) (w : World) :
    Calls Try.prog 41 #[ordV num 3 a 0 c v] w fun e w' => e = .returned (.iface 104 (.agg #[.int .i64 v])) ∧ Below w.heap.size w w' := by
  unfold ordV
  go_enter Try.func41, Try.ntmps41
  go_wp2
  go_ret
  exact ⟨rfl, bel1 _ _⟩

theorem commandOf_v (num op v : Int) (a : Option Addr) (k c : Nat) (hv : v ≠ 0) (ho : ¬ (op = 3 ∧ k = 0)) (w : World) :
    Calls Try.prog 41 #[ordV num op a k c v] w fun e w' => e = .returned .nilIface ∧ Below w.heap.size w w' := by
  unfold ordV
  have e1 : (v != 0) = true := by simpa using hv
  by_cases h3 : op = 3
  · subst h3
    have e0 : ((k : Int) == 0) = false := by simp; omega
    go_enter Try.func41, Try.ntmps41
    go_wp2
    go_ret
    exact ⟨rfl, bel1 _ _⟩
  · have e0 : (op == 3) = false := by simpa using h3
    go_enter Try.func41, Try.ntmps41
    go_wp2
    go_ret
    exact ⟨rfl, bel1 _ _⟩

theorem commandOf_add (num : Int) (e : EdgeV) (b off : Nat) (c : Nat) (w : World) (c0 : w.cell? ⟨b, off, none⟩ = some (.int .i64 e.1)) (c1 : w.cell? ⟨b, off + 1, none⟩ = some (.int .i64 e.2)) (hb : b < w.heap.size) :
    Calls Try.prog 41 #[ordV num 1 (some ⟨b, off, none⟩) 1 c 0] w fun x w' => x = .returned (.iface 106 (.agg #[.int .i64 e.1, .int .i64 e.2])) ∧ Below w.heap.size w w' := by
  unfold ordV
  have e0 : (w.alloc (.cells #[.int .i64 num, .int .i64 1, .slice (some ⟨b, off, none⟩) 1 c, .int .i64 0] 26)).cell? ⟨b, off, none⟩ = some (.int .i64 e.1) := by rw [World.cell?_of_block (w := w) (Below.heap_alloc w _ b hb)]; exact c0
  have e1 : (w.alloc (.cells #[.int .i64 num, .int .i64 1, .slice (some ⟨b, off, none⟩) 1 c, .int .i64 0] 26)).cell? ⟨b, off + 1, none⟩ = some (.int .i64 e.2) := by rw [World.cell?_of_block (w := w) (Below.heap_alloc w _ b hb)]; exact c1
  clear c0 c1
  go_enter Try.func41, Try.ntmps41
  go_wp2
  go_ret
  exact ⟨rfl, bel1 _ _⟩

theorem commandOf_take (num : Int) (e : EdgeV) (b off : Nat) (c : Nat) (w : World) (c0 : w.cell? ⟨b, off, none⟩ = some (.int .i64 e.1)) (c1 : w.cell? ⟨b, off + 1, none⟩ = some (.int .i64 e.2)) (hb : b < w.heap.size) :
    Calls Try.prog 41 #[ordV num 2 (some ⟨b, off, none⟩) 1 c 0] w fun x w' => x = .returned (.iface 107 (.agg #[.int .i64 e.1, .int .i64 e.2])) ∧ Below w.heap.size w w' := by
  unfold ordV
  have e0 : (w.alloc (.cells #[.int .i64 num, .int .i64 2, .slice (some ⟨b, off, none⟩) 1 c, .int .i64 0] 26)).cell? ⟨b, off, none⟩ = some (.int .i64 e.1) := by rw [World.cell?_of_block (w := w) (Below.heap_alloc w _ b hb)]; exact c0
  have e1 : (w.alloc (.cells #[.int .i64 num, .int .i64 2, .slice (some ⟨b, off, none⟩) 1 c, .int .i64 0] 26)).cell? ⟨b, off + 1, none⟩ = some (.int .i64 e.2) := by rw [World.cell?_of_block (w := w) (Below.heap_alloc w _ b hb)]; exact c1
  clear c0 c1
  go_enter Try.func41, Try.ntmps41
  go_wp2
  go_ret
  exact ⟨rfl, bel1 _ _⟩

theorem commandOf_acc (num : Int) (a : Option Addr) (k c : Nat) (hk : 0 < k) (w : World) :
    Calls Try.prog 41 #[ordV num 4 a k c 0] w fun x w' => x = .returned (.iface 109 (.agg #[.slice a k c])) ∧ Below w.heap.size w w' := by
  unfold ordV
  have e0 : decide (0 < (k : Int)) = true := by simp; omega
  go_enter Try.func41, Try.ntmps41
  go_wp2
  go_ret
  exact ⟨rfl, bel1 _ _⟩

/-- parts that no order has -/
theorem commandOf_no (num op : Int) (a : Option Addr) (k c : Nat) (h3 : ¬ (op = 3 ∧ k = 0)) (h1 : ¬ (op = 1 ∧ k = 1)) (h2 : ¬ (op = 2 ∧ k = 1)) (h4 : ¬ (op = 4 ∧ 0 < k)) (w : World) :
    Calls Try.prog 41 #[ordV num op a k c 0] w fun x w' => x = .returned .nilIface ∧ Below w.heap.size w w' := by
  unfold ordV
  by_cases o3 : op = 3
  · subst o3
    have e0 : ((k : Int) == 0) = false := by simp; omega
    go_enter Try.func41, Try.ntmps41
    go_wp2
    go_ret
    exact ⟨rfl, bel1 _ _⟩
  · by_cases o1 : op = 1
    · subst o1
      have e0 : ((k : Int) == 1) = false := by simp; omega
      go_enter Try.func41, Try.ntmps41
      go_wp2
      go_ret
      exact ⟨rfl, bel1 _ _⟩
    · by_cases o2 : op = 2
      · subst o2
        have e0 : ((k : Int) == 1) = false := by simp; omega
        go_enter Try.func41, Try.ntmps41
        go_wp2
        go_ret
        exact ⟨rfl, bel1 _ _⟩
      · by_cases o4 : op = 4
        · subst o4
          have e0 : decide (0 < (k : Int)) = false := by simp; omega
          go_enter Try.func41, Try.ntmps41
          go_wp2
          go_ret
          exact ⟨rfl, bel1 _ _⟩
        · have q3 : (op == 3) = false := by simpa using o3
          have q1 : (op == 1) = false := by simpa using o1
          have q2 : (op == 2) = false := by simpa using o2
          have q4 : (op == 4) = false := by simpa using o4
          go_enter Try.func41, Try.ntmps41
          go_wp2
          go_ret
          exact ⟨rfl, bel1 _ _⟩
end Go.Proofs.Ytkhhagjcmbbdpaa
namespace Go.Proofs.Ytkhhagjcmbbdpaa
open Go.RowKit Vt

theorem ta_yes_add (x y : Value) (w : World) : (Instr.typeAssert (.iface 106 (.agg #[x, y])) 64 106 true).run Try.prog w = .ok (.tuple #[.agg #[x, y], .bool true]) w := by kernel_rfl
theorem ta_no_ta (x y : Value) (w : World) : (Instr.typeAssert (.iface 107 (.agg #[x, y])) 64 106 true).run Try.prog w = .ok (.tuple #[.agg #[.int .i64 0, .int .i64 0], .bool false]) w := by kernel_rfl
theorem ta_yes_ta (x y : Value) (w : World) : (Instr.typeAssert (.iface 107 (.agg #[x, y])) 64 107 true).run Try.prog w = .ok (.tuple #[.agg #[x, y], .bool true]) w := by kernel_rfl
theorem ta_no_re1 (x : Value) (w : World) : (Instr.typeAssert (.iface 104 (.agg #[x])) 64 106 true).run Try.prog w = .ok (.tuple #[.agg #[.int .i64 0, .int .i64 0], .bool false]) w := by kernel_rfl
theorem ta_no_re2 (x : Value) (w : World) : (Instr.typeAssert (.iface 104 (.agg #[x])) 64 107 true).run Try.prog w = .ok (.tuple #[.agg #[.int .i64 0, .int .i64 0], .bool false]) w := by kernel_rfl
theorem ta_yes_re (x : Value) (w : World) : (Instr.typeAssert (.iface 104 (.agg #[x])) 64 104 true).run Try.prog w = .ok (.tuple #[.agg #[x], .bool true]) w := by kernel_rfl
theorem ta_no_ac1 (x : Value) (w : World) : (Instr.typeAssert (.iface 109 (.agg #[x])) 64 106 true).run Try.prog w = .ok (.tuple #[.agg #[.int .i64 0, .int .i64 0], .bool false]) w := by kernel_rfl
theorem ta_no_ac2 (x : Value) (w : World) : (Instr.typeAssert (.iface 109 (.agg #[x])) 64 107 true).run Try.prog w = .ok (.tuple #[.agg #[.int .i64 0, .int .i64 0], .bool false]) w := by kernel_rfl
theorem ta_no_ac3 (x : Value) (w : World) : (Instr.typeAssert (.iface 109 (.agg #[x])) 64 104 true).run Try.prog w = .ok (.tuple #[.agg #[.int .i64 0], .bool false]) w := by kernel_rfl
theorem ta_yes_ac (x : Value) (w : World) : (Instr.typeAssert (.iface 109 (.agg #[x])) 64 109 true).run Try.prog w = .ok (.tuple #[.agg #[x], .bool true]) w := by kernel_rfl
theorem ta_nil1 (w : World) : (Instr.typeAssert .nilIface 64 106 true).run Try.prog w = .ok (.tuple #[.agg #[.int .i64 0, .int .i64 0], .bool false]) w := by kernel_rfl
theorem ta_nil2 (w : World) : (Instr.typeAssert .nilIface 64 107 true).run Try.prog w = .ok (.tuple #[.agg #[.int .i64 0, .int .i64 0], .bool false]) w := by kernel_rfl
theorem ta_nil3 (w : World) : (Instr.typeAssert .nilIface 64 104 true).run Try.prog w = .ok (.tuple #[.agg #[.int .i64 0], .bool false]) w := by kernel_rfl
theorem ta_nil4 (w : World) : (Instr.typeAssert .nilIface 64 109 true).run Try.prog w = .ok (.tuple #[.agg #[.slice none 0 0], .bool false]) w := by kernel_rfl

theorem bel2 {w w' : World} (o p : Obj) (h : Below ((w.alloc o).alloc p).heap.size ((w.alloc o).alloc p) w') : Below w.heap.size w w' :=
  (((Below.refl _ _).alloc (Nat.le_refl _) _).alloc (by simp) _).trans (h.mono (by simp; omega))

theorem commandOk_nil (n : Int) (w : World) :
    Calls Try.prog 50 #[.int .i64 n, .nilIface] w fun e w' => e = .returned (.bool false) ∧ Below w.heap.size w w' := by
  have t1 := ta_nil1; have t2 := ta_nil2; have t3 := ta_nil3; have t4 := ta_nil4
  go_enter Try.func50, Try.ntmps50
  go_wp2
  go_ret
  exact ⟨rfl, Below.refl _ _⟩

theorem commandOk_rel (n v : Int) (w : World) :
    Calls Try.prog 50 #[.int .i64 n, .iface 104 (.agg #[.int .i64 v])] w fun e w' => e = .returned (.bool (decide (0 ≤ v ∧ v < n))) ∧ Below w.heap.size w w' := by
  have t1 := ta_no_re1 (.int .i64 v); have t2 := ta_no_re2 (.int .i64 v); have t3 := ta_yes_re (.int .i64 v)
  by_cases h : 0 ≤ v
  · have d1 : decide (0 ≤ v) = true := by simpa using h
    go_enter Try.func50, Try.ntmps50
    go_wp2
    go_ret
    exact ⟨by simp [h], bel1 _ _⟩
  · have d1 : decide (0 ≤ v) = false := by simpa using h
    go_enter Try.func50, Try.ntmps50
    go_wp2
    go_ret
    exact ⟨by simp, bel1 _ _⟩

theorem commandOk_add (n : Int) (f : EdgeV) (w : World) :
    Calls Try.prog 50 #[.int .i64 n, .iface 106 (.agg #[.int .i64 f.1, .int .i64 f.2])] w fun e w' => e = .returned (.bool (eB n f)) ∧ Below w.heap.size w w' := by
  have t1 := ta_yes_add (.int .i64 f.1) (.int .i64 f.2)
  have HE := hideIt (iEdgeOk_any n f)
  go_enter Try.func50, Try.ntmps50
  go_wp2_with (go_at_call 88; refine (HE.out _).mono ?_; rintro e w1 ⟨rfl, hb⟩)
  go_ret
  exact ⟨rfl, (bel1 _ _).trans (hb.mono (by simp))⟩

theorem commandOk_take (n : Int) (f : EdgeV) (w : World) :
    Calls Try.prog 50 #[.int .i64 n, .iface 107 (.agg #[.int .i64 f.1, .int .i64 f.2])] w fun e w' => e = .returned (.bool (eB n f)) ∧ Below w.heap.size w w' := by
  have t1 := ta_no_ta (.int .i64 f.1) (.int .i64 f.2)
  have t2 := ta_yes_ta (.int .i64 f.1) (.int .i64 f.2)
  have HE := hideIt (iEdgeOk_any n f)
  go_enter Try.func50, Try.ntmps50
  go_wp2_with (go_at_call 88; refine (HE.out _).mono ?_; rintro e w1 ⟨rfl, hb⟩)
  go_ret
  exact ⟨rfl, (bel1 _ _).trans (hb.mono (by simp))⟩

theorem commandOk_acc (n : Int) (es : List EdgeV) (k : Nat) (a : Option Addr) (c : Nat) (hk : k ≤ 1048576) (w : World) (h : Es w w.heap.size a k es) :
    Calls Try.prog 50 #[.int .i64 n, .iface 109 (.agg #[.slice a k c])] w fun e w' => e = .returned (.bool (eOk n es)) ∧ Below w.heap.size w w' := by
  have t1 := ta_no_ac1 (.slice a k c); have t2 := ta_no_ac2 (.slice a k c); have t3 := ta_no_ac3 (.slice a k c); have t4 := ta_yes_ac (.slice a k c)
  have HT := hideIt (edgesOk_any n es k a c hk (w.alloc (.cells #[.slice a k c] 109)) ((h.alloc (Nat.le_refl _) _).mono (by simp)))
  clear h
  go_enter Try.func50, Try.ntmps50
  go_wp2_with (go_at_call 56; refine HT.out.mono ?_; rintro e w1 ⟨rfl, hb⟩)
  go_ret
  exact ⟨rfl, (bel1 _ _).trans (hb.mono (by simp))⟩

theorem eOk_nil (n : Int) : eOk n [] = true := rfl
theorem eOk_one (n : Int) (f : EdgeV) : eOk n [f] = eB n f := by
  unfold eOk chk
  simp [chkAt]

/-- what an order wants done, and whether that is right -/
theorem cmd_ok (num op : Int) (es : List EdgeV) (v : Int) (k : Nat) (a : Option Addr) (c : Nat) (hk : k ≤ 1048576) (w : World) (h : Es w w.heap.size a k es) :
    Calls Try.prog 41 #[ordV num op a k c v] w fun e w' => ∃ cv, e = .returned cv ∧ Below w.heap.size w w' ∧
      Hid (∀ n, Calls Try.prog 50 #[.int .i64 n, cv] w' fun e w'' => e = .returned (.bool (eOk n es && decide (OpOk n ⟨num, op, es, v⟩))) ∧ Below w'.heap.size w' w'') := by
  have hlen := h.1
  by_cases h3 : op = 3 ∧ k = 0
  · obtain ⟨rfl, rfl⟩ := h3
    have e0 : es = [] := List.length_eq_zero_iff.1 hlen
    subst e0
    refine (commandOf_rel num v a c w).mono ?_
    rintro e w' ⟨rfl, hb⟩
    refine ⟨_, rfl, hb, fun n => (commandOk_rel n v w').mono ?_⟩
    rintro e w'' ⟨rfl, hb'⟩
    exact ⟨rett (by rw [eOk_nil, Bool.true_and]; apply decide_eq_decide.2; unfold OpOk; dsimp only [List.length_nil]; omega), hb'⟩
  · by_cases hv : v = 0
    · subst hv
      by_cases h1 : (op = 1 ∨ op = 2) ∧ k = 1
      · obtain ⟨ho, rfl⟩ := h1
        obtain ⟨f, rfl⟩ := List.length_eq_one_iff.1 hlen
        rcases h.2 with h0 | ⟨b, off, rfl, hb0, hc⟩
        · omega
        · obtain ⟨c0, c1⟩ := hc 0 f rfl
          rw [Nat.zero_mul, Nat.add_zero] at c0 c1
          have fin : ∀ n, (eOk n [f] && decide (OpOk n ⟨num, op, [f], 0⟩)) = eB n f := fun n => by
            rw [eOk_one, decide_eq_true (by unfold OpOk; dsimp only [List.length_cons, List.length_nil]; omega), Bool.and_true]
          rcases ho with rfl | rfl
          · refine (commandOf_add num f b off c w c0 c1 hb0).mono ?_
            rintro e w' ⟨rfl, hb⟩
            refine ⟨_, rfl, hb, fun n => (commandOk_add n f w').mono ?_⟩
            rintro e w'' ⟨rfl, hb'⟩
            exact ⟨rett (fin n).symm, hb'⟩
          · refine (commandOf_take num f b off c w c0 c1 hb0).mono ?_
            rintro e w' ⟨rfl, hb⟩
            refine ⟨_, rfl, hb, fun n => (commandOk_take n f w').mono ?_⟩
            rintro e w'' ⟨rfl, hb'⟩
            exact ⟨rett (fin n).symm, hb'⟩
      · by_cases h4 : op = 4 ∧ 0 < k
        · obtain ⟨rfl, h4⟩ := h4
          refine (commandOf_acc num a k c h4 w).mono ?_
          rintro e w' ⟨rfl, hb⟩
          refine ⟨_, rfl, hb, fun n => (commandOk_acc n es k a c hk w' (h.up hb)).mono ?_⟩
          rintro e w'' ⟨rfl, hb'⟩
          exact ⟨rett (by rw [decide_eq_true (by unfold OpOk; dsimp only; omega), Bool.and_true]), hb'⟩
        · refine (commandOf_no num op a k c h3 (by omega) (by omega) (by omega) w).mono ?_
          rintro e w' ⟨rfl, hb⟩
          refine ⟨_, rfl, hb, fun n => (commandOk_nil n w').mono ?_⟩
          rintro e w'' ⟨rfl, hb'⟩
          exact ⟨rett (by rw [decide_eq_false (by unfold OpOk; dsimp only; omega), Bool.and_false]), hb'⟩
    · refine (commandOf_v num op v a k c hv h3 w).mono ?_
      rintro e w' ⟨rfl, hb⟩
      refine ⟨_, rfl, hb, fun n => (commandOk_nil n w').mono ?_⟩
      rintro e w'' ⟨rfl, hb'⟩
      exact ⟨rett (by rw [decide_eq_false (by unfold OpOk; dsimp only; omega), Bool.and_false]), hb'⟩

set_option maxRecDepth 100000 in
set_option maxHeartbeats 4000000 in
theorem iOrderOk_any (n num op : Int) (es : List EdgeV) (v : Int) (k : Nat) (a : Option Addr) (c : Nat) (hk : k ≤ 1048576) (w : World) (h : Es w w.heap.size a k es) :
    Calls Try.prog 15 #[.int .i64 n, ordV num op a k c v] w fun e w' => e = .returned (.bool (oB n ⟨num, op, es, v⟩)) ∧ Below w.heap.size w w' := by
  have HV := hideIt vertsOk_any
  have HN := hideIt numOk_any
  have HC := hideIt (cmd_ok num op es v k a c hk (w.alloc (.cells #[.int .i64 num, .int .i64 op, .slice a k c, .int .i64 v] 26)) ((h.alloc (Nat.le_refl _) _).mono (by simp)))
  unfold ordV at HC ⊢
  clear h
  by_cases h1 : 1 ≤ n ∧ n ≤ 12
  · have r1 : decide (1 ≤ n ∧ n ≤ 12) = true := by simpa using h1
    by_cases h2 : 1 ≤ num ∧ num ≤ 100000
    · have r2 : decide (1 ≤ num ∧ num ≤ 100000) = true := by simpa using h2
      have HB : Hid (oB n ⟨num, op, es, v⟩ = (eOk n es && decide (OpOk n ⟨num, op, es, v⟩))) := by
        show _ = _
        unfold oB; dsimp only; rw [r1, r2]; rfl
      go_enter Try.func15, Try.ntmps15
      go_wp2_with (first | (go_at_call 48; refine (HV.out _ _).mono ?_; rintro e w1 ⟨rfl, rfl⟩) | (go_at_call 49; refine (HN.out _ _).mono ?_; rintro e w1 ⟨rfl, rfl⟩) | (go_at_call 41; refine HC.out.mono ?_; rintro e w2 ⟨cv, rfl, hb2, HD⟩) | (go_at_call 50; refine (HD.out _).mono ?_; rintro e w3 ⟨rfl, hb3⟩))
      go_ret
      exact ⟨rett HB.out.symm, (bel1 _ _).trans ((hb2.trans (hb3.mono hb2.size)).mono (by simp))⟩
    · have r2 : decide (1 ≤ num ∧ num ≤ 100000) = false := by simpa using h2
      have HB := hideIt (oB_num (n := n) (o := ⟨num, op, es, v⟩) h2)
      clear HC
      go_enter Try.func15, Try.ntmps15
      go_wp2_with (first | (go_at_call 48; refine (HV.out _ _).mono ?_; rintro e w1 ⟨rfl, rfl⟩) | (go_at_call 49; refine (HN.out _ _).mono ?_; rintro e w1 ⟨rfl, rfl⟩))
      go_ret
      exact ⟨rett HB.out.symm, bel1 _ _⟩
  · have r1 : decide (1 ≤ n ∧ n ≤ 12) = false := by simpa using h1
    have HB := hideIt (oB_n (o := ⟨num, op, es, v⟩) h1)
    clear HC
    go_enter Try.func15, Try.ntmps15
    go_wp2_with (go_at_call 48; refine (HV.out _ _).mono ?_; rintro e w1 ⟨rfl, rfl⟩)
    go_ret
    exact ⟨rett HB.out.symm, bel1 _ _⟩
end Go.Proofs.Ytkhhagjcmbbdpaa
namespace Go.Proofs.Ytkhhagjcmbbdpaa
open Go.RowKit Vt

/-- the world behind the law's boxes -/
def lwOrderOk (w : World) (num op x : Int) (a : Option Addr) (m c : Nat) : World := w.alloc (.cells #[.int .i64 num, .int .i64 op, .slice a m c, .int .i64 x] 49)
set_option maxRecDepth 100000 in
set_option maxHeartbeats 4000000 in
theorem fnExactOrderOk.walk (n : Int) (_hn : (Lit.int .i64 n).wf = true) (num op x : Int) (fs : List EdgeV) (m : Nat) (a : Option Addr) (c : Nat) (hm : m ≤ maxLen) (w : World) (h : Es w w.heap.size a m fs) :
    Calls Try.prog 4 #[.int .i64 n, .agg #[.int .i64 num, .int .i64 op, .slice a m c, .int .i64 x]] w fun e w' => e = .returned (.bool true) ∧ Below w.heap.size w w' := by
  have bel : Below w.heap.size w (lwOrderOk w num op x a m c) := (Below.refl _ _).alloc (Nat.le_refl _) _
  have hsz : (lwOrderOk w num op x a m c).heap.size = w.heap.size + 1 := by simp [lwOrderOk]
  have fA : Es (lwOrderOk w num op x a m c) (lwOrderOk w num op x a m c).heap.size a m fs := (h.below bel (Nat.le_refl _)).mono (by omega)
  have q0 : (lwOrderOk w num op x a m c).cell? ⟨w.heap.size, 0, none⟩ = some (.int .i64 num) := by simp [lwOrderOk, go_sem]
  have q1 : (lwOrderOk w num op x a m c).cell? ⟨w.heap.size, 1, none⟩ = some (.int .i64 op) := by simp [lwOrderOk, go_sem]
  have q2 : (lwOrderOk w num op x a m c).cell? ⟨w.heap.size, 2, none⟩ = some (.slice a m c) := by simp [lwOrderOk, go_sem]
  have q3 : (lwOrderOk w num op x a m c).cell? ⟨w.heap.size, 3, none⟩ = some (.int .i64 x) := by simp [lwOrderOk, go_sem]
  have HZ : Hid (∀ u, Good (lwOrderOk w num op x a m c) u → Below w.heap.size w u) := fun u hu => bel.trans (Below.mono hu (by omega))
  have HK : Hid (∀ u, Good (lwOrderOk w num op x a m c) u → (u.cell? ⟨w.heap.size, 0, none⟩ = some (.int .i64 num) ∧ u.cell? ⟨w.heap.size, 1, none⟩ = some (.int .i64 op) ∧ u.cell? ⟨w.heap.size, 2, none⟩ = some (.slice a m c) ∧ u.cell? ⟨w.heap.size, 3, none⟩ = some (.int .i64 x))) := fun u hu =>
    ⟨by rw [hu.cell (by omega)]; exact q0, by rw [hu.cell (by omega)]; exact q1, by rw [hu.cell (by omega)]; exact q2, by rw [hu.cell (by omega)]; exact q3⟩
  have HSZ : Hid (∀ u, Good (lwOrderOk w num op x a m c) u → Calls Try.prog 27 #[.agg #[.int .i64 num, .int .i64 op, .slice a m c, .int .i64 x], .int .i64 1048576] u fun e v => e = .returned (.int .i64 (if m ≤ 1048576 then 1048576 - (m : Int) else -1)) ∧ Good (lwOrderOk w num op x a m c) v) := fun u hu =>
    (szOrder_any num op x m a c hm u).mono fun _ _ ⟨he, hb⟩ => ⟨he, hu.up hb⟩
  by_cases g : m ≤ 1048576
  · rw [if_pos g] at HSZ
    have HT : Hid (∀ u, Good (lwOrderOk w num op x a m c) u → Calls Try.prog 28 #[.agg #[.int .i64 num, .int .i64 op, .slice a m c, .int .i64 x]] u fun e v => ∃ g, e = .returned (.agg #[.int .i64 num, .int .i64 op, .slice (some ⟨g, 0, none⟩) m m, .int .i64 x]) ∧ Es v v.heap.size (some ⟨g, 0, none⟩) m fs ∧ Good (lwOrderOk w num op x a m c) v ∧ u.heap.size ≤ v.heap.size ∧ Below u.heap.size u v) := fun u hu =>
      (toOrder_any num op x fs m a c g u (hu.es fA)).mono fun _ _ ⟨g, he, ho, hb⟩ => ⟨g, he, Es_of_own ho, hu.up hb, hb.size, hb⟩
    have HS : Hid (∀ u b, Good (lwOrderOk w num op x a m c) u → Es u u.heap.size (some ⟨b, 0, none⟩) m fs → Calls Try.prog 14 #[.int .i64 n, .agg #[.int .i64 num, .int .i64 op, .slice (some ⟨b, 0, none⟩) m m, .int .i64 x]] u fun e v => e = .returned (.bool (oB n ⟨num, op, fs, x⟩)) ∧ Good (lwOrderOk w num op x a m c) v) := fun u b hu hf =>
      (sOrderOk_any n num op fs x m _ m g u hf).mono fun _ _ ⟨he, hb⟩ => ⟨he, hu.up hb⟩
    have HI : Hid (∀ u b, Good (lwOrderOk w num op x a m c) u → Es u u.heap.size (some ⟨b, 0, none⟩) m fs → Calls Try.prog 15 #[.int .i64 n, .agg #[.int .i64 num, .int .i64 op, .slice (some ⟨b, 0, none⟩) m m, .int .i64 x]] u fun e v => e = .returned (.bool (oB n ⟨num, op, fs, x⟩)) ∧ Below u.heap.size u v) := fun u b hu hf =>
      (iOrderOk_any n num op fs x m _ m g u hf)
    have d1 : decide (1048576 - (m : Int) < 0) = false := decide_eq_false (by omega)
    have S1 := Good.refl (lwOrderOk w num op x a m c)
    have ZL : Hid (w.heap.size < (lwOrderOk w num op x a m c).heap.size) := by show _ < _; omega
    clear bel fA h hsz q0 q1 q2 q3
    generalize (oB n ⟨num, op, fs, x⟩) = r at HS HI
    have dr : (r != r) = false := by simp
    go_enter Try.func4, Try.ntmps4
    go_wp2_with (go_at_call 27; refine (HSZ.out _ S1).mono ?_; rintro e w2 ⟨rfl, S2⟩; refine Hid.out ?_)
    refine (show ∀ {p : Prop}, p → Hid p from fun h => h) ?_
    obtain ⟨k0, k1, k2, k3⟩ := HK.out _ S2
    go_wp2_with (go_at_call 28; refine (HT.out _ S2).mono ?_; rintro e w3 ⟨g3, rfl, f3, S3, z3, b3⟩; refine Hid.out ?_)
    refine (show ∀ {p : Prop}, p → Hid p from fun h => h) ?_
    clear k0 k1 k2 k3
    go_wp2_with (go_at_call 14; refine (HS.out _ g3 S3 f3).mono ?_; rintro e w4 ⟨rfl, S4⟩; refine Hid.out ?_)
    refine (show ∀ {p : Prop}, p → Hid p from fun h => h) ?_
    obtain ⟨k0, k1, k2, k3⟩ := HK.out _ S4
    clear f3 z3 b3 S3
    go_wp2_with (go_at_call 28; refine (HT.out _ S4).mono ?_; rintro e w5 ⟨g5, rfl, f5, S5, z5, b5⟩; refine Hid.out ?_)
    refine (show ∀ {p : Prop}, p → Hid p from fun h => h) ?_
    clear k0 k1 k2 k3
    have S6 : Good (lwOrderOk w num op x a m c) (w5.alloc (.cells #[.int .i64 num, .int .i64 op, .slice (some ⟨g5, 0, none⟩) m m, .int .i64 x] 26)) := S5.alloc _
    have f6 : Es (w5.alloc (.cells #[.int .i64 num, .int .i64 op, .slice (some ⟨g5, 0, none⟩) m m, .int .i64 x] 26)) (w5.alloc (.cells #[.int .i64 num, .int .i64 op, .slice (some ⟨g5, 0, none⟩) m m, .int .i64 x] 26)).heap.size (some ⟨g5, 0, none⟩) m fs := (f5.alloc (Nat.le_refl _) _).mono (by simp)
    go_wp2_with (go_at_call 15; refine (HI.out _ g5 S6 f6).mono ?_; rintro e w7 ⟨rfl, b7⟩; refine Hid.out ?_)
    refine (show ∀ {p : Prop}, p → Hid p from fun h => h) ?_
    have S7 : Good (lwOrderOk w num op x a m c) w7 := S6.up b7
    have x0 : w7.cell? ⟨w5.heap.size, 0, none⟩ = some (.int .i64 num) := by rw [b7.cell (by simp)]; simp
    have x1 : w7.cell? ⟨w5.heap.size, 1, none⟩ = some (.int .i64 op) := by rw [b7.cell (by simp)]; simp
    have x2 : w7.cell? ⟨w5.heap.size, 2, none⟩ = some (.slice (some ⟨g5, 0, none⟩) m m) := by rw [b7.cell (by simp)]; simp
    have x3 : w7.cell? ⟨w5.heap.size, 3, none⟩ = some (.int .i64 x) := by rw [b7.cell (by simp)]; simp
    have z7 : w5.heap.size < w7.heap.size := by have := b7.size; simp at this; omega
    have y7 : w.heap.size < w7.heap.size := Nat.lt_of_lt_of_le ZL.out S7.size
    obtain ⟨k0, k1, k2, k3⟩ := HK.out _ S7
    have f7 := hideIt (f6.up b7)
    have S8 : Good w7 w7.drew := (Good.refl w7).drew
    have HT8 : Hid (∀ u, Good w7 u → Calls Try.prog 28 #[.agg #[.int .i64 num, .int .i64 op, .slice a m c, .int .i64 x]] u fun e v => ∃ g, e = .returned (.agg #[.int .i64 num, .int .i64 op, .slice (some ⟨g, 0, none⟩) m m, .int .i64 x]) ∧ Es v v.heap.size (some ⟨g, 0, none⟩) m fs ∧ Good w7 v) := fun u hu =>
      (HT.out u (S7.up hu)).mono fun _ _ ⟨g, he, hf, _, _, hb⟩ => ⟨g, he, hf, hu.up hb⟩
    have HE8 : Hid (∀ u g', Good w7 u → Es u u.heap.size (some ⟨g', 0, none⟩) m fs → Calls Try.prog 29 #[.agg #[.int .i64 num, .int .i64 op, .slice (some ⟨g5, 0, none⟩) m m, .int .i64 x], .agg #[.int .i64 num, .int .i64 op, .slice (some ⟨g', 0, none⟩) m m, .int .i64 x]] u fun e v => e = .returned (.bool true) ∧ Good w7 v) := fun u g' hu hf =>
      (eqOrder_same num op x fs m _ _ m m g u (hu.es f7.out) hf).mono fun _ _ ⟨he, hb⟩ => ⟨he, hu.up hb⟩
    have HK8 : Hid (∀ u, Good w7 u → (u.cell? ⟨w.heap.size, 0, none⟩ = some (.int .i64 num) ∧ u.cell? ⟨w.heap.size, 1, none⟩ = some (.int .i64 op) ∧ u.cell? ⟨w.heap.size, 2, none⟩ = some (.slice a m c) ∧ u.cell? ⟨w.heap.size, 3, none⟩ = some (.int .i64 x)) ∧ (u.cell? ⟨w5.heap.size, 0, none⟩ = some (.int .i64 num) ∧ u.cell? ⟨w5.heap.size, 1, none⟩ = some (.int .i64 op) ∧ u.cell? ⟨w5.heap.size, 2, none⟩ = some (.slice (some ⟨g5, 0, none⟩) m m) ∧ u.cell? ⟨w5.heap.size, 3, none⟩ = some (.int .i64 x))) := fun u hu =>
      ⟨⟨by rw [hu.cell y7]; exact k0, by rw [hu.cell y7]; exact k1, by rw [hu.cell y7]; exact k2, by rw [hu.cell y7]; exact k3⟩, by rw [hu.cell z7]; exact x0, by rw [hu.cell z7]; exact x1, by rw [hu.cell z7]; exact x2, by rw [hu.cell z7]; exact x3⟩
    have S7z := hideIt (HZ.out _ S7)
    have y8 := hideIt (show w.heap.size ≤ w7.heap.size by omega)
    clear f5 f6 b5 b7 z5 S6 S5 S4 S2 S1
    go_wp2
    go_region_held3 (fun u => Good w7 u ∧ (u.cell? ⟨w.heap.size, 0, none⟩ = some (.int .i64 num) ∧ u.cell? ⟨w.heap.size, 1, none⟩ = some (.int .i64 op) ∧ u.cell? ⟨w.heap.size, 2, none⟩ = some (.slice a m c) ∧ u.cell? ⟨w.heap.size, 3, none⟩ = some (.int .i64 x)) ∧ (u.cell? ⟨w5.heap.size, 0, none⟩ = some (.int .i64 num) ∧ u.cell? ⟨w5.heap.size, 1, none⟩ = some (.int .i64 op) ∧ u.cell? ⟨w5.heap.size, 2, none⟩ = some (.slice (some ⟨g5, 0, none⟩) m m) ∧ u.cell? ⟨w5.heap.size, 3, none⟩ = some (.int .i64 x)))
      (first | exact ⟨S10, HK8.out _ S10⟩ | exact ⟨S9, HK8.out _ S9⟩ | exact ⟨S8, HK8.out _ S8⟩)
      (first | (go_at_call 28; refine (HT8.out _ S8).mono ?_; rintro e w9 ⟨g9, rfl, f9, S9⟩) | (go_at_call 29; refine (HE8.out _ _ S9 f9).mono ?_; rintro e w10 ⟨rfl, S10⟩))
    all_goals
      go_wp2
      go_ret
      exact ⟨rfl, S7z.out.trans (Below.mono S10 y8.out)⟩
  · rw [if_neg g] at HSZ
    have S1 := Good.refl (lwOrderOk w num op x a m c)
    clear bel fA h hsz q0 q1 q2 q3
    go_enter Try.func4, Try.ntmps4
    go_wp2_with (go_at_call 27; refine (HSZ.out _ S1).mono ?_; rintro e w2 ⟨rfl, S2⟩; refine Hid.out ?_)
    refine (show ∀ {p : Prop}, p → Hid p from fun h => h) ?_
    go_wp2
    go_ret
    exact ⟨rfl, HZ.out _ S2⟩
end Go.Proofs.Ytkhhagjcmbbdpaa
namespace Go.Proofs.Ytkhhagjcmbbdpaa
open Go.RowKit

/-- a list of ints stands in memory below B -/
def Is (w : World) (B : Nat) (a : Option Addr) (n : Nat) (ls : List Int) : Prop :=
  ls.length = n ∧ (n = 0 ∨ ∃ b off, a = some ⟨b, off, none⟩ ∧ b < B ∧ ∀ (j : Nat) (x : Int), ls[j]? = some x → w.cell? ⟨b, off + j, none⟩ = some (.int .i64 x))
theorem Is.below {w w' : World} {B C : Nat} {a : Option Addr} {n : Nat} {ls : List Int} (h : Is w B a n ls) (hb : Below C w w') (hB : B ≤ C) : Is w' B a n ls := by
  refine ⟨h.1, h.2.imp id ?_⟩
  rintro ⟨b, off, h1, h2, h3⟩
  exact ⟨b, off, h1, h2, fun j x hx => by rw [hb.cell (p := ⟨b, _, none⟩) (by show b < _; omega)]; exact h3 j x hx⟩
theorem Is.mono {w : World} {B C : Nat} {a : Option Addr} {n : Nat} {ls : List Int} (h : Is w B a n ls) (hB : B ≤ C) : Is w C a n ls := by
  refine ⟨h.1, h.2.imp id ?_⟩
  rintro ⟨b, off, h1, h2, h3⟩
  exact ⟨b, off, h1, by omega, h3⟩
theorem Is.up {w w' : World} {a : Option Addr} {n : Nat} {ls : List Int} (h : Is w w.heap.size a n ls) (hb : Below w.heap.size w w') : Is w' w'.heap.size a n ls :=
  (h.below hb (Nat.le_refl _)).mono hb.size
def ic (ls : List Int) : List Value := ls.map fun x => Value.int .i64 x
theorem ic_len (ls : List Int) : (ic ls).length = ls.length := by simp [ic]
theorem ic_snoc (ls : List Int) (x : Int) : ic (ls ++ [x]) = ic ls ++ [.int .i64 x] := by simp [ic]
theorem ic_at {ls : List Int} {j : Nat} {x : Int} (h : ls[j]? = some x) : (ic ls)[j]? = some (.int .i64 x) := by rw [ic, List.getElem?_map, h]; rfl
theorem Is_of_own {w : World} {B n c : Nat} {a : Option Addr} {ls : List Int} (h : w.ownsRow B 3 1 (.slice a n c) n (ic ls)) : Is w w.heap.size a n ls := by
  have hl := h.1
  rw [ic_len] at hl
  refine ⟨by omega, ?_⟩
  rcases h.2 with ⟨hv, h0⟩ | ⟨g, cap, cur, hv, hrest⟩
  · exact .inl h0
  · simp at hv
    obtain ⟨rfl, rfl⟩ := hv
    refine .inr ⟨g, 0, rfl, (h.lt g rfl).2, fun j x hx => ?_⟩
    have hj : j < ls.length := (List.getElem?_eq_some_iff.1 hx).1
    rw [Nat.zero_add, h.cellAt j (by omega)]
    exact ic_at hx
theorem info3i : (Try.prog.info? 3).map (fun i => (i.zero, i.size, i.bytes)) = some (some (.int .i64 0), 1, 8) := by kernel_rfl

set_option maxHeartbeats 1000000 in
theorem eqIntS_same (ls : List Int) (n : Nat) (a a' : Option Addr) (c c' : Nat) (hn : n ≤ 1048576) (w : World) (h : Is w w.heap.size a n ls) (h' : Is w w.heap.size a' n ls) :
    Calls Try.prog 74 #[.slice a n c, .slice a' n c'] w fun e w' => e = .returned (.bool true) ∧ Below w.heap.size w w' := by
  obtain ⟨hlen, hrow⟩ := h
  obtain ⟨_, hrow'⟩ := h'
  have HR := hideIt hrow
  have HR' := hideIt hrow'
  clear hrow hrow'
  have dn : ((n : Int) != (n : Int)) = false := by simp
  go_enter Try.func74, Try.ntmps74
  go_wp2
  go_loopw [5] (fun i wr => ∃ (k : Nat), k ≤ n ∧ i = .int .i64 (k : Int) ∧ Below w.heap.size w wr) (fun i _ => n - (intOf i).toNat)
  case atStart => exact ⟨0, by omega, rfl, Below.refl _ _⟩
  case round =>
    obtain ⟨k, hk, rfl, hb⟩ := hrel
    by_cases hlt : k < n
    · rcases HR.out with hz | ⟨b, off, rfl, hbl, hc⟩
      · omega
      · rcases HR'.out with hz | ⟨b', off', rfl, hbl', hc'⟩
        · omega
        · obtain ⟨f, hf⟩ : ∃ f, ls[k]? = some f := ⟨ls[k]'(by omega), List.getElem?_eq_getElem (by omega)⟩
          have e0 : wr.cell? ⟨b, off + k, none⟩ = some (.int .i64 f) := by rw [hb.cell hbl]; exact hc k f hf
          have e1 : wr.cell? ⟨b', off' + k, none⟩ = some (.int .i64 f) := by rw [hb.cell hbl']; exact hc' k f hf
          have b1 : (0 : Int) ≤ (k : Int) := by omega
          have b2 : (k : Int) < (n : Int) := by omega
          have d1 : (f != f) = false := by simp
          clear hc hc' hf
          go_wp2
          go_quiet (fail)
          go_wp2
          exact ⟨⟨k + 1, by omega, by go_num, below_drewN hb _⟩, by simp [intOf]; omega⟩
    · go_wp2
      go_ret
      exact ⟨rfl, hb⟩

/-- n marks from k0 on -/
def imarks (k0 n : Nat) : List Int := (List.range n).map fun (t : Nat) => (k0 : Int) + (t : Int)
theorem imarks_snoc (k0 n : Nat) : imarks k0 (n + 1) = imarks k0 n ++ [(k0 : Int) + (n : Int)] := by simp [imarks, List.range_succ]
theorem imarks_at (k0 n j : Nat) (h : j < n) : (imarks k0 n)[j]? = some ((k0 : Int) + (j : Int)) := by simp [imarks, h]

theorem markIntS_zero (a : Option Addr) (c : Nat) (k0 : Int) (w : World) :
    Calls Try.prog 81 #[.slice a 0 c, .int .i64 k0] w fun e w' => e = .returned (.int .i64 k0) ∧ w' = w := by
  go_enter Try.func81, Try.ntmps81
  go_wp2
  refine wp_loop_rounds 1 ?_
  rw [rounds_succ]
  go_wp2
  go_ret
  exact ⟨rfl, rfl⟩

set_option maxHeartbeats 1000000 in
theorem markIntS_any (base g c n k0 : Nat) (xs0 : List Value) (hn : n ≤ 1048576) (hk1 : k0 ≤ 10000000) (w : World) (h : w.ownsRow base 3 1 (.slice (some ⟨g, 0, none⟩) n c) n xs0) :
    Calls Try.prog 81 #[.slice (some ⟨g, 0, none⟩) n c, .int .i64 (k0 : Int)] w fun e w' => e = .returned (.int .i64 ((k0 : Int) + (n : Int))) ∧ w'.ownsRow base 3 1 (.slice (some ⟨g, 0, none⟩) n c) n (ic (imarks k0 n)) ∧ w.grownBy w' (some g) := by
  have H0 := hideIt h
  clear h
  go_enter Try.func81, Try.ntmps81
  go_wp2
  go_loopw [1, 5] (fun q i wr => ∃ (k : Nat) (xs : List Value), k ≤ n ∧ i = .int .i64 (k : Int) ∧ q = .int .i64 ((k0 : Int) + (k : Int)) ∧ Hid (xs.take k = ic (imarks k0 k)) ∧ wr.ownsRow base 3 1 (.slice (some ⟨g, 0, none⟩) n c) n xs ∧ w.grownBy wr (some g)) (fun _ i _ => n - (intOf i).toNat)
  case atStart => exact ⟨0, xs0, by omega, rfl, by simp, by show _ = _; simp [ic, imarks], H0.out, ⟨rfl, rfl, rfl, Nat.le_refl _, fun _ _ _ => rfl⟩⟩
  case round =>
    obtain ⟨k, xs, hk, rfl, rfl, hx, hown, hg⟩ := hrel
    have hl3 : xs.length = n * 1 := hown.1
    by_cases hlt : k < n
    · have b1 : (0 : Int) ≤ (k : Int) := by omega
      have b2 : (k : Int) < (n : Int) := by omega
      have f0 := hown.frozenAt k
      obtain ⟨y0, x0⟩ : ∃ y, wr.cell? ⟨g, k, none⟩ = some y := ⟨_, by rw [hown.cellAt k (by omega)]; exact List.getElem?_eq_getElem (by omega)⟩
      have hst := hown.stored k (.int .i64 ((k0 : Int) + (k : Int)))
      have HO2 := hideIt hst.1
      have HG2 := hideIt (grown_trans hg hst.2)
      have HX : Hid ((xs.set k (.int .i64 ((k0 : Int) + (k : Int)))).take (k + 1) = ic (imarks k0 (k + 1))) := by
        show _ = _
        rw [List.take_add_one, List.take_set_of_le (Nat.le_refl _), hx.out, imarks_snoc, ic_snoc]
        simp [show k < xs.length by omega]
      clear hst hx hown hg
      go_wp2
      exact ⟨⟨k + 1, _, by omega, by go_num, by go_num, HX, HO2.out, HG2.out⟩, by simp [intOf]; omega⟩
    · obtain rfl : k = n := by omega
      have HX : Hid (xs = ic (imarks k0 k)) := by
        show _ = _
        have := hx.out
        rw [List.take_of_length_le (by omega)] at this
        exact this
      have HO := hideIt hown
      clear hx hown
      go_wp2
      go_ret
      exact ⟨rfl, by rw [← HX.out]; exact HO.out, hg⟩

set_option maxHeartbeats 1000000 in
theorem heldIntS_any (n k0 : Nat) (a : Option Addr) (c : Nat) (hn : n ≤ 1048576) (hk1 : k0 ≤ 10000000) (w : World) (h : Is w w.heap.size a n (imarks k0 n)) :
    Calls Try.prog 82 #[.slice a n c, .int .i64 (k0 : Int)] w fun e w' => e = .returned (.int .i64 ((k0 : Int) + (n : Int))) ∧ w' = w := by
  obtain ⟨_, hrow⟩ := h
  have HR := hideIt hrow
  clear hrow
  go_enter Try.func82, Try.ntmps82
  go_wp2
  go_loopw [1, 5] (fun kk i wr => ∃ j : Nat, j ≤ n ∧ i = .int .i64 (j : Int) ∧ kk = .int .i64 ((k0 : Int) + (j : Int)) ∧ wr = w) (fun _ i _ => n - (intOf i).toNat)
  case atStart => exact ⟨0, by omega, rfl, by simp, rfl⟩
  case round =>
    obtain ⟨j, hj, rfl, rfl, hw⟩ := hrel
    have hw' := hw.symm
    subst hw'
    clear hw
    by_cases hlt : j < n
    · rcases HR.out with hz | ⟨b, off, rfl, hbl, hc⟩
      · omega
      · have c0 := hc j _ (imarks_at k0 n j hlt)
        have b1 : (0 : Int) ≤ (j : Int) := by omega
        have b2 : (j : Int) < (n : Int) := by omega
        have d1 : ((k0 : Int) + (j : Int) != (k0 : Int) + (j : Int)) = false := by simp
        clear hc
        go_wp2
        exact ⟨⟨j + 1, by omega, by go_num, by go_num, by first | trivial | rfl⟩, by simp [intOf]; omega⟩
    · obtain rfl : j = n := by omega
      go_wp2
      go_ret
      exact ⟨rfl, rfl⟩

/-- the answer of Around, Labels: a list of the answer's own -/
def IAns (w : World) (ls : List Int) (e : Ending) (w' : World) : Prop :=
  ∃ a m c, e = .returned (.slice a m c) ∧ w'.ownsRow w.heap.size 3 1 (.slice a m c) m (ic ls) ∧ Below w.heap.size w w'

/-- a list that is ours, in blocks lo .. hi -/
structure RBox (u : World) (lo hi : Nat) (a : Option Addr) (m c : Nat) (ls : List Int) : Prop where
  own : u.ownsRow lo 3 1 (.slice a m c) m (ic ls)
  row : ∀ g, (Value.slice a m c).ownBlock = some g → g < hi
  there : hi ≤ u.heap.size
theorem RBox.rng {u v : World} {lo hi l2 h2 : Nat} {a : Option Addr} {m c : Nat} {ls : List Int} (h : RBox u lo hi a m c ls) (hr : Rng l2 h2 u v) (ho : hi ≤ l2 ∨ h2 ≤ lo) : RBox v lo hi a m c ls := by
  have hth := h.there
  refine ⟨⟨h.own.1, ?_⟩, h.row, Nat.le_trans hth hr.size⟩
  rcases h.own.2 with h3 | ⟨g, cap, cur, hv, hg, hcur, hrest⟩
  · exact .inl h3
  · have hgh := h.row g (by rw [hv]; rfl)
    refine .inr ⟨g, cap, cur, hv, hg, ?_, hrest⟩
    rw [hr.block g (by omega) (by omega)]
    exact hcur
theorem RBox.up {u v : World} {lo hi : Nat} {a : Option Addr} {m c : Nat} {ls : List Int} (h : RBox u lo hi a m c ls) (hb : Below u.heap.size u v) : RBox v lo hi a m c ls :=
  h.rng (l2 := hi) (h2 := hi) (Rng.of_below hb) (.inl (Nat.le_refl _))
theorem RBox.is {u : World} {lo hi : Nat} {a : Option Addr} {m c : Nat} {ls : List Int} (h : RBox u lo hi a m c ls) : Is u u.heap.size a m ls := Is_of_own h.own
theorem RBox.len {u : World} {lo hi : Nat} {a : Option Addr} {m c : Nat} {ls : List Int} (h : RBox u lo hi a m c ls) : ls.length = m := by
  have := h.own.1; rw [ic_len] at this; omega
theorem RBox.laid {u : World} {lo : Nat} {a : Option Addr} {m c : Nat} {ls : List Int} (ho : u.ownsRow lo 3 1 (.slice a m c) m (ic ls)) : RBox u lo u.heap.size a m c ls :=
  ⟨ho, fun g hg => (ho.lt g hg).2, Nat.le_refl _⟩
theorem eqRB {u : World} {lo hi lo' hi' : Nat} {a a' : Option Addr} {m c m' c' : Nat} {ls : List Int} (h : RBox u lo hi a m c ls) (h' : RBox u lo' hi' a' m' c' ls) (hm : m ≤ 1048576) :
    Calls Try.prog 74 #[.slice a m c, .slice a' m' c'] u fun e v => e = .returned (.bool true) ∧ Below u.heap.size u v := by
  have e : m' = m := by rw [← h.len, ← h'.len]
  subst e
  exact eqIntS_same ls m' a a' c c' hm u h.is h'.is
theorem markRB {u : World} {lo hi : Nat} {a : Option Addr} {m c : Nat} {ls : List Int} (h : RBox u lo hi a m c ls) (k0 : Nat) (hm : m ≤ 1048576) (h1 : k0 ≤ 10000000) :
    Calls Try.prog 81 #[.slice a m c, .int .i64 (k0 : Int)] u fun e v => e = .returned (.int .i64 ((k0 : Int) + (m : Int))) ∧ RBox v lo hi a m c (imarks k0 m) ∧ Rng lo hi u v := by
  have hth := h.there
  rcases h.own.2 with ⟨hv, hm0⟩ | ⟨g, cap, cur, hv, hg, hcur, hrest⟩
  · subst hm0
    refine (markIntS_zero a c (k0 : Int) u).mono fun e v ⟨he, hb⟩ => ⟨by rw [he]; simp, ?_, by rw [hb]; exact Rng.of_below (Below.refl _ _)⟩
    have hg0 : ls = [] := List.length_eq_zero_iff.1 h.len
    subst hg0
    rw [hb]
    exact h
  · have hv' := hv
    simp at hv'
    obtain ⟨rfl, rfl⟩ := hv'
    have hgh := h.row g rfl
    refine (markIntS_any lo g c m k0 _ hm h1 u h.own).mono fun e v ⟨he, ho, hgr⟩ => ⟨he, ⟨ho, h.row, Nat.le_trans hth hgr.size⟩, Rng.of_grown hgr hg hgh⟩
theorem heldRB {u : World} {lo hi : Nat} {a : Option Addr} {m c : Nat} (k0 : Nat) (h : RBox u lo hi a m c (imarks k0 m)) (hm : m ≤ 1048576) (h1 : k0 ≤ 10000000) :
    Calls Try.prog 82 #[.slice a m c, .int .i64 (k0 : Int)] u fun e v => e = .returned (.int .i64 ((k0 : Int) + (m : Int))) ∧ v = u :=
  heldIntS_any m k0 a c hm h1 u h.is
set_option maxHeartbeats 1000000 in
theorem toIntS_any (ls : List Int) (n : Nat) (a : Option Addr) (cap : Nat) (hn : n ≤ 1048576) (w : World) (h : Is w w.heap.size a n ls) :
    Calls Try.prog 73 #[.slice a n cap] w fun e w' => ∃ g, e = .returned (.slice (some ⟨g, 0, none⟩) n n) ∧ w'.ownsRow w.heap.size 3 1 (.slice (some ⟨g, 0, none⟩) n n) n (ic ls) ∧ Below w.heap.size w w' := by
  obtain ⟨i0, hi, hz0, hz1, hz2⟩ := info_parts info3i
  obtain ⟨hlen, hrow⟩ := h
  have hmk : ∀ u : World, (Instr.makeSlice 35 (.int .i64 (n : Int)) (.int .i64 (n : Int))).run Try.prog u =
      .ok (.slice (some ⟨u.heap.size, 0, none⟩) n n) (u.alloc (.cells (madeCells #[.int .i64 0] n) 3)) := fun u => by
    have h := run_make (P := Try.prog) u 35 3 i0 _ Try.underlying35 hi hz0 .i64 .i64 (n : Int) (n : Int) (by omega) (by omega) (by rw [hz2]; omega) (by omega)
    rw [Int.toNat_natCast] at h
    simpa [hz1, Value.cells] using h
  have HR := hideIt hrow
  clear hrow
  go_enter Try.func73, Try.ntmps73
  go_wp2
  go_loopw [4] (fun i wr => ∃ (k : Nat) (xs : List Value), k ≤ n ∧ i = .int .i64 (k : Int) ∧ Hid (xs.take k = ic (ls.take k)) ∧ wr.ownsRow w.heap.size 3 1 (.slice (some ⟨w.heap.size, 0, none⟩) n n) n xs ∧ Below w.heap.size w wr)
    (fun i _ => n - (intOf i).toNat)
  case atStart => exact ⟨0, _, by omega, rfl, by show _ = _; simp [ic], World.ownsRow_lit (base := w.heap.size) (e := 3) (size := 1) w (madeCells #[.int .i64 0] n) n (Nat.le_refl _) (by unfold maxLen; omega) (by simp [madeCells]), (Below.refl _ _).alloc (Nat.le_refl _) _⟩
  case round =>
    obtain ⟨k, xs, hk, rfl, hx, hown, hb⟩ := hrel
    have hl3 : xs.length = n * 1 := hown.1
    by_cases hlt : k < n
    · rcases HR.out with hz | ⟨b, off, rfl, hbl, hc⟩
      · omega
      · obtain ⟨f, hf⟩ : ∃ f, ls[k]? = some f := ⟨ls[k]'(by omega), List.getElem?_eq_getElem (by omega)⟩
        have e0 : wr.cell? ⟨b, off + k, none⟩ = some (.int .i64 f) := by rw [hb.cell hbl]; exact hc k f hf
        have b1 : (0 : Int) ≤ (k : Int) := by omega
        have b2 : (k : Int) < (n : Int) := by omega
        have HTk := hideIt (take_snocF ls k f hf)
        have f0 := hown.frozenAt k
        have x0 : wr.cell? ⟨w.heap.size, k, none⟩ = some (xs[k]'(by omega)) := by rw [hown.cellAt k (by omega)]; exact List.getElem?_eq_getElem (by omega)
        clear hc hf
        go_wp2
        refine ⟨⟨k + 1, xs.set k (.int .i64 f), by omega, by go_num, ?_, (hown.stored k _).1, hb.setCell (Nat.le_refl _) _⟩, by simp [intOf]; omega⟩
        show _ = _
        rw [HTk.out, List.take_add_one, List.take_set_of_le (Nat.le_refl _), hx.out]
        simp [ic, show k < xs.length by omega]
    · have e : ls.take k = ls := List.take_of_length_le (by omega)
      have HX : Hid (xs = ic ls) := by
        show _ = _
        have := hx.out
        rw [e, List.take_of_length_le (by omega)] at this
        exact this
      have HO := hideIt hown
      clear hx e hown hl3
      go_wp2
      go_ret
      exact ⟨w.heap.size, rfl, by rw [← HX.out]; exact HO.out, hb⟩

end Go.Proofs.Ytkhhagjcmbbdpaa
