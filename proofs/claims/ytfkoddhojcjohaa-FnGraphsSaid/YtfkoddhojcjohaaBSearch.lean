/- The library's BinarySearchFunc over edges, at the program's compareEdges. -/
import Derived.Test.YtfkoddhojcjohaaIns
import Derived.Test.YtfkoddhojcjohaaICmp
namespace Go.Proofs.Ytfkoddhojcjohaa
open Go.RowKit

set_option maxRecDepth 100000 in
set_option maxHeartbeats 2000000 in
theorem BSF_any (es : List EdgeV) (ha : Asc es) (e : EdgeV) (n : Nat) (a : Option Addr) (c : Nat) (hn : n ≤ 1048576) (w : World) (h : Es w w.heap.size a n es) :
    Calls Try.prog 35 #[.slice a n c, .agg #[.int .i64 e.1, .int .i64 e.2], .func (.func 36) #[] #[]] w fun x w' => ∃ (p : Nat) (fb : Bool), x = .returned (.tuple #[.int .i64 (p : Int), .bool fb]) ∧ Split es e p ∧ Below w.heap.size w w' := by
  obtain ⟨hlen, hrow⟩ := h
  have HR := hideIt hrow
  have HA := hideIt ha
  clear hrow ha
  go_enter Try.func35, Try.ntmps35
  go_wp2
  go_loopw [9, 10] (fun vi vj wr => ∃ (i j : Nat), i ≤ j ∧ j ≤ n ∧ vi = .int .i64 (i : Int) ∧ vj = .int .i64 (j : Int) ∧ Hid (∀ m d, m < i → es[m]? = some d → lt d e = true) ∧ Hid (∀ m d, j ≤ m → es[m]? = some d → lt d e = false) ∧
      Below w.heap.size w wr ∧ wr.cell? ⟨w.heap.size, 0, none⟩ = some (.int .i64 e.1) ∧ wr.cell? ⟨w.heap.size, 1, none⟩ = some (.int .i64 e.2) ∧ w.heap.size < wr.heap.size) (fun vi vj _ => (intOf vj).toNat - (intOf vi).toNat)
  case atStart => exact ⟨0, n, by omega, by omega, rfl, rfl, fun m d hm => by omega, fun m d hm hd => by have := (List.getElem?_eq_some_iff.1 hd).1; omega, (Below.refl _ _).alloc (Nat.le_refl _) _, by simp, by simp, by simp⟩
  case round =>
    obtain ⟨i, j, hij, hjn, rfl, rfl, hlo, hhi, hb, x0, x1, hsz⟩ := hrel
    by_cases hlt : i < j
    · have b0 : (i : Int) < (j : Int) := by omega
      rcases HR.out with hz | ⟨b, off, rfl, hbl, hc⟩
      · omega
      · obtain ⟨h, hh⟩ : ∃ h, h = (i + j) / 2 := ⟨_, rfl⟩
        have hm : ((i : Int) + (j : Int)) / 2 = (h : Int) := by omega
        obtain ⟨f, hf⟩ : ∃ f, es[h]? = some f := ⟨es[h]'(by omega), List.getElem?_eq_getElem (by omega)⟩
        obtain ⟨c0, c1⟩ := hc h f hf
        have b1 : (0 : Int) ≤ (h : Int) := by omega
        have b2 : (h : Int) < (n : Int) := by omega
        have hhi2 : h < j := by omega
        have hhi3 : i ≤ h := by omega
        have hbd := hb.drew
        have HK : Hid (∀ W : World, Below (w.heap.size + 1) wr W → (W.cell? ⟨b, off + h * 2, none⟩ = some (.int .i64 f.1) ∧ W.cell? ⟨b, off + h * 2 + 1, none⟩ = some (.int .i64 f.2)) ∧ W.cell? ⟨w.heap.size, 0, none⟩ = some (.int .i64 e.1) ∧ W.cell? ⟨w.heap.size, 1, none⟩ = some (.int .i64 e.2)) := fun W hW =>
          ⟨⟨by rw [hW.cell (by show b < _; omega), hb.cell hbl]; exact c0, by rw [hW.cell (by show b < _; omega), hb.cell hbl]; exact c1⟩, by rw [hW.cell (by show w.heap.size < _; omega)]; exact x0, by rw [hW.cell (by show w.heap.size < _; omega)]; exact x1⟩
        have HC : Hid (∀ W : World, Below (w.heap.size + 1) wr W → Calls Try.prog 36 #[.agg #[.int .i64 f.1, .int .i64 f.2], .agg #[.int .i64 e.1, .int .i64 e.2]] W fun x w' => x = .returned (.int .i64 (cmpE f e)) ∧ Below (w.heap.size + 1) wr w') := fun W hW =>
          (compareEdges_any f e W).mono fun _ _ ⟨he, hb'⟩ => ⟨he, hW.trans (hb'.mono (Nat.le_trans (by omega) hW.size))⟩
        have S0 : Below (w.heap.size + 1) wr wr.drew := (Below.refl _ _).drew
        cases hL : lt f e with
        | true =>
          have dc : decide (cmpE f e < 0) = true := decide_eq_true ((cmpE_neg f e).2 hL)
          have HLO : Hid (∀ m d, m < h + 1 → es[m]? = some d → lt d e = true) := fun m d hm hd => by
            by_cases hmh : m = h
            · subst hmh; rw [hf] at hd; obtain rfl := Option.some.inj hd; exact hL
            · exact lt_trans' (HA.out m h d f (by omega) hd hf) hL
          generalize cmpE f e = cv at HC dc
          clear hc hf c0 c1 hlo hL hh
          go_wp2
          go_region_held3 (fun u => Below (w.heap.size + 1) wr u ∧ (u.cell? ⟨b, off + h * 2, none⟩ = some (.int .i64 f.1) ∧ u.cell? ⟨b, off + h * 2 + 1, none⟩ = some (.int .i64 f.2)) ∧ u.cell? ⟨w.heap.size, 0, none⟩ = some (.int .i64 e.1) ∧ u.cell? ⟨w.heap.size, 1, none⟩ = some (.int .i64 e.2))
            (first | exact ⟨S1, HK.out _ S1⟩ | exact ⟨S0, HK.out _ S0⟩)
            ((go_at_call 36; refine (HC.out _ S0).mono ?_; rintro x w1 ⟨rfl, S1⟩))
          all_goals
            obtain ⟨_, y0, y1⟩ := HK.out _ S1
            have hs1 := S1.size
            go_wp2
            exact ⟨⟨h + 1, j, by omega, by omega, by go_num, rfl, HLO, hhi, hb.trans (S1.mono (by omega)), y0, y1, by omega⟩, by simp [intOf]; omega⟩
        | false =>
          have dc : decide (cmpE f e < 0) = false := decide_eq_false fun h2 => by rw [(cmpE_neg f e).1 h2] at hL; cases hL
          have HHI : Hid (∀ m d, h ≤ m → es[m]? = some d → lt d e = false) := fun m d hm hd => by
            by_cases hmh : m = h
            · subst hmh; rw [hf] at hd; obtain rfl := Option.some.inj hd; exact hL
            · cases h3 : lt d e with
              | false => rfl
              | true => rw [lt_trans' (HA.out h m f d (by omega) hf hd) h3] at hL; cases hL
          generalize cmpE f e = cv at HC dc
          clear hc hf c0 c1 hhi hL hh
          go_wp2
          go_region_held3 (fun u => Below (w.heap.size + 1) wr u ∧ (u.cell? ⟨b, off + h * 2, none⟩ = some (.int .i64 f.1) ∧ u.cell? ⟨b, off + h * 2 + 1, none⟩ = some (.int .i64 f.2)) ∧ u.cell? ⟨w.heap.size, 0, none⟩ = some (.int .i64 e.1) ∧ u.cell? ⟨w.heap.size, 1, none⟩ = some (.int .i64 e.2))
            (first | exact ⟨S1, HK.out _ S1⟩ | exact ⟨S0, HK.out _ S0⟩)
            ((go_at_call 36; refine (HC.out _ S0).mono ?_; rintro x w1 ⟨rfl, S1⟩))
          all_goals
            obtain ⟨_, y0, y1⟩ := HK.out _ S1
            have hs1 := S1.size
            go_wp2
            exact ⟨⟨i, h, by omega, by omega, rfl, rfl, hlo, HHI, hb.trans (S1.mono (by omega)), y0, y1, by omega⟩, by simp [intOf]; omega⟩
    · obtain rfl : i = j := by omega
      have HS : Hid (Split es e i) := ⟨by omega, hlo.out, hhi.out⟩
      have S0 : Below (w.heap.size + 1) wr wr.drew := (Below.refl _ _).drew
      clear hlo hhi
      by_cases hin : i < n
      · rcases HR.out with hz | ⟨b, off, rfl, hbl, hc⟩
        · omega
        · obtain ⟨f, hf⟩ : ∃ f, es[i]? = some f := ⟨es[i]'(by omega), List.getElem?_eq_getElem (by omega)⟩
          obtain ⟨c0, c1⟩ := hc i f hf
          have b1 : (0 : Int) ≤ (i : Int) := by omega
          have b2 : (i : Int) < (n : Int) := by omega
          have HK : Hid (∀ W : World, Below (w.heap.size + 1) wr W → (W.cell? ⟨b, off + i * 2, none⟩ = some (.int .i64 f.1) ∧ W.cell? ⟨b, off + i * 2 + 1, none⟩ = some (.int .i64 f.2)) ∧ W.cell? ⟨w.heap.size, 0, none⟩ = some (.int .i64 e.1) ∧ W.cell? ⟨w.heap.size, 1, none⟩ = some (.int .i64 e.2)) := fun W hW =>
            ⟨⟨by rw [hW.cell (by show b < _; omega), hb.cell hbl]; exact c0, by rw [hW.cell (by show b < _; omega), hb.cell hbl]; exact c1⟩, by rw [hW.cell (by show w.heap.size < _; omega)]; exact x0, by rw [hW.cell (by show w.heap.size < _; omega)]; exact x1⟩
          have HC : Hid (∀ W : World, Below (w.heap.size + 1) wr W → Calls Try.prog 36 #[.agg #[.int .i64 f.1, .int .i64 f.2], .agg #[.int .i64 e.1, .int .i64 e.2]] W fun x w' => x = .returned (.int .i64 (cmpE f e)) ∧ Below (w.heap.size + 1) wr w') := fun W hW =>
            (compareEdges_any f e W).mono fun _ _ ⟨he, hb'⟩ => ⟨he, hW.trans (hb'.mono (Nat.le_trans (by omega) hW.size))⟩
          have dl : decide ((i : Int) < (n : Int)) = true := decide_eq_true b2
          generalize cmpE f e = cv at HC
          clear hc hf c0 c1
          go_wp2
          go_region_held3 (fun u => Below (w.heap.size + 1) wr u ∧ (u.cell? ⟨b, off + i * 2, none⟩ = some (.int .i64 f.1) ∧ u.cell? ⟨b, off + i * 2 + 1, none⟩ = some (.int .i64 f.2)) ∧ u.cell? ⟨w.heap.size, 0, none⟩ = some (.int .i64 e.1) ∧ u.cell? ⟨w.heap.size, 1, none⟩ = some (.int .i64 e.2))
            (first | exact ⟨S1, HK.out _ S1⟩ | exact ⟨S0, HK.out _ S0⟩)
            ((go_at_call 36; refine (HC.out _ S0).mono ?_; rintro x w1 ⟨rfl, S1⟩))
          all_goals
            go_wp2
            exact bodyPost_ret (v := .tuple #[.int .i64 (i : Int), .bool (cv == 0)]) (by simp [results, Try.results35, go_sem]) rfl ⟨i, cv == 0, rfl, HS.out, hb.trans (S1.mono (by omega))⟩
      · obtain rfl : i = n := by omega
        go_wp2
        refine wp_region_any (by kernel_rfl) ?_
        change wpAny _ _ _ _ _ _ _ (World.drew _)
        refine takeOp (i := 0) (v := ?_) rfl (by kernel_rfl) (by kernel_rfl) (by kernel_rfl) (fun _ _ _ h => h) (by kernel_rfl) ?_ ?_
        rotate_left
        · intro w; go_simp; try with_reducible rfl
        refine takeOp (i := 1) (v := ?_) rfl (by kernel_rfl) (by kernel_rfl) (by kernel_rfl) (fun _ _ _ h => h) (by kernel_rfl) ?_ ?_
        rotate_left
        · intro w; go_simp; try with_reducible rfl
        refine takeOp (i := 2) (v := ?_) rfl (by kernel_rfl) (by kernel_rfl) (by kernel_rfl) (fun _ _ _ h => h) (by kernel_rfl) ?_ ?_
        rotate_left
        · intro w; go_simp; try with_reducible rfl
        refine wpAny_ready (rs := [3]) (by kernel_rfl) (by simp) ?_
        refine AllReady.cons rfl (fun K hK => ?_) AllReady.nil
        go_simp
        refine hK _ _ ?_
        clear hK K
        refine wpAny_ready (rs := [4]) (by kernel_rfl) (by simp) ?_
        refine AllReady.cons rfl (fun K hK => ?_) AllReady.nil
        go_simp
        refine hK _ _ ?_
        clear hK K
        refine skipOp (i := 5) rfl (by kernel_rfl) (by kernel_rfl) (by kernel_rfl) (fun _ _ _ h => h) (by kernel_rfl) ?_
        refine skipOp (i := 6) rfl (by kernel_rfl) (by kernel_rfl) (by kernel_rfl) (fun _ _ _ h => h) (by kernel_rfl) ?_
        refine skipOp (i := 7) rfl (by kernel_rfl) (by kernel_rfl) (by kernel_rfl) (fun _ _ _ h => h) (by kernel_rfl) ?_
        refine skipOp (i := 8) rfl (by kernel_rfl) (by kernel_rfl) (by kernel_rfl) (fun _ _ _ h => h) (by kernel_rfl) ?_
        refine skipOp (i := 9) rfl (by kernel_rfl) (by kernel_rfl) (by kernel_rfl) (fun _ _ _ h => h) (by kernel_rfl) ?_
        refine skipOp (i := 10) rfl (by kernel_rfl) (by kernel_rfl) (by kernel_rfl) (fun _ _ _ h => h) (by kernel_rfl) ?_
        refine skipOp (i := 11) rfl (by kernel_rfl) (by kernel_rfl) (by kernel_rfl) (fun _ _ _ h => h) (by kernel_rfl) ?_
        refine skipOp (i := 12) rfl (by kernel_rfl) (by kernel_rfl) (by kernel_rfl) (fun _ _ _ h => h) (by kernel_rfl) ?_
        refine takeOp (i := 13) (v := ?_) rfl (by kernel_rfl) (by kernel_rfl) (by kernel_rfl) (fun _ _ _ h => h) (by kernel_rfl) ?_ ?_
        rotate_left
        · intro w; go_simp; try with_reducible rfl
        refine takeOp (i := 14) (v := ?_) rfl (by kernel_rfl) (by kernel_rfl) (by kernel_rfl) (fun _ _ _ h => h) (by kernel_rfl) ?_ ?_
        rotate_left
        · intro w; go_simp; try with_reducible rfl
        refine wpAny_ready (rs := [15]) (by kernel_rfl) (by simp) ?_
        refine AllReady.cons rfl (fun K hK => ?_) AllReady.nil
        go_simp
        refine hK _ _ ?_
        clear hK K
        refine wpAny_done (by kernel_rfl) ?_ _
        go_wp2
        exact bodyPost_ret (v := .tuple #[.int .i64 (i : Int), .bool false]) (by simp [results, Try.results35, go_sem]) rfl ⟨i, false, rfl, HS.out, hb.trans (S0.mono (by omega))⟩
end Go.Proofs.Ytfkoddhojcjohaa
