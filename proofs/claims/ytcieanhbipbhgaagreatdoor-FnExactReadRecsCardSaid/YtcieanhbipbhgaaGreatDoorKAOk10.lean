/- The library's comparisons; the program's compareEdges. The specification's GraphOk and HasEdge. The program's GraphOk and HasEdge. What an order wants done, as the program has it. Whether what an order wants done is right, as the program tells it. When an answer is right, on both sides. -/
import Derived.Test.YtcieanhbipbhgaaGreatDoorKOr10
import Derived.Test.YtcieanhbipbhgaaGreatDoorKIntsO10
namespace Go.Proofs.YtcieanhbipbhgaaGreatDoor
open Go.RowKit

/-- -1, 0 or 1 -/
def cmpI (x y : Int) : Int := if x < y then -1 else if y < x then 1 else 0
/-- the comparison of two edges -/
def cmpE (d e : EdgeV) : Int := if cmpI d.1 e.1 ≠ 0 then cmpI d.1 e.1 else cmpI d.2 e.2

theorem cmpI_zero (x y : Int) : cmpI x y = 0 ↔ x = y := by unfold cmpI; split <;> (try split) <;> omega
theorem cmpI_neg (x y : Int) : cmpI x y < 0 ↔ x < y := by unfold cmpI; split <;> (try split) <;> omega
theorem cmpE_neg (d e : EdgeV) : cmpE d e < 0 ↔ lt d e = true := by
  unfold cmpE lt
  rw [decide_eq_true_iff]
  by_cases h : cmpI d.1 e.1 = 0
  · rw [if_neg (by simpa using h), cmpI_neg]
    have := (cmpI_zero d.1 e.1).1 h
    omega
  · rw [if_pos h, cmpI_neg]
    have := mt (cmpI_zero d.1 e.1).2 h
    omega
theorem cmpE_zero (d e : EdgeV) : cmpE d e = 0 ↔ d = e := by
  unfold cmpE
  by_cases h : cmpI d.1 e.1 = 0
  · rw [if_neg (by simpa using h), cmpI_zero]
    exact ⟨fun h2 => Prod.ext ((cmpI_zero _ _).1 h) h2, fun h2 => by rw [h2]⟩
  · rw [if_pos h]
    exact ⟨fun h2 => absurd h2 h, fun h2 => absurd ((cmpI_zero _ _).2 (by rw [h2])) h⟩

theorem cmpCompare_any (x y : Int) (w : World) : Calls Tryz.prog 97 #[.int .i64 x, .int .i64 y] w fun e w' => e = .returned (.int .i64 (cmpI x y)) ∧ w' = w := by
  unfold cmpI
  by_cases h1 : x < y
  · rw [if_pos h1]
    have d1 : decide (x < y) = true := decide_eq_true h1
    go_enter Tryz.func97, Tryz.ntmps97
    go_wp2
    go_ret
    exact ⟨rfl, rfl⟩
  · rw [if_neg h1]
    have d1 : decide (x < y) = false := decide_eq_false h1
    by_cases h2 : y < x
    · rw [if_pos h2]
      have d2 : decide (y < x) = true := decide_eq_true h2
      go_enter Tryz.func97, Tryz.ntmps97
      go_wp2
      go_ret
      exact ⟨rfl, rfl⟩
    · rw [if_neg h2]
      have d2 : decide (y < x) = false := decide_eq_false h2
      go_enter Tryz.func97, Tryz.ntmps97
      go_wp2
      go_ret
      exact ⟨rfl, rfl⟩

theorem cmpOr_any (x y : Int) (b : Nat) (w : World) (h0 : w.cell? ⟨b, 0, none⟩ = some (.int .i64 x)) (h1 : w.cell? ⟨b, 1, none⟩ = some (.int .i64 y)) :
    Calls Tryz.prog 96 #[.slice (some ⟨b, 0, none⟩) 2 2] w fun e w' => e = .returned (.int .i64 (if x ≠ 0 then x else y)) ∧ w' = w := by
  go_enter Tryz.func96, Tryz.ntmps96
  go_wp2
  go_loopw [8] (fun i wr => ∃ k : Nat, k ≤ 2 ∧ i = .int .i64 (k : Int) ∧ wr = w ∧ Hid (1 ≤ k → x = 0) ∧ Hid (2 ≤ k → y = 0)) (fun i _ => 2 - (intOf i).toNat)
  case atStart => exact ⟨0, by omega, rfl, rfl, fun h => by omega, fun h => by omega⟩
  case round =>
    obtain ⟨k, hk, rfl, rfl, hx, hy⟩ := hrel
    rcases k with _ | _ | k
    · by_cases g : x = 0
      · subst g
        go_wp2
        exact ⟨⟨1, by omega, by go_num, by first | trivial | rfl, by first | exact fun _ => True.intro | exact fun _ => rfl, by first | exact True.intro | exact fun h => by omega⟩, by simp [intOf]⟩
      · have d : (x != 0) = true := by simpa using g
        go_wp2
        go_ret
        exact ⟨rfl, rfl⟩
    · have g := hx.out (by omega)
      subst g
      clear hx hy
      by_cases g : y = 0
      · subst g
        go_wp2
        exact ⟨⟨2, by omega, by go_num, by first | trivial | rfl, by first | exact fun _ => True.intro | exact fun _ => rfl, by first | exact fun _ => True.intro | exact fun _ => rfl⟩, by simp [intOf]⟩
      · have d : (y != 0) = true := by simpa using g
        go_wp2
        go_ret
        exact ⟨rfl, rfl⟩
    · obtain rfl : k = 0 := by omega
      have g := hx.out (by omega)
      have g2 := hy.out (by omega)
      subst g g2
      clear hx hy
      go_wp2
      go_ret
      exact ⟨rfl, rfl⟩

set_option maxHeartbeats 1000000 in
theorem compareEdges_any (d e : EdgeV) (w : World) :
    Calls Tryz.prog 94 #[.agg #[.int .i64 d.1, .int .i64 d.2], .agg #[.int .i64 e.1, .int .i64 e.2]] w fun x w' => x = .returned (.int .i64 (cmpE d e)) ∧ Below w.heap.size w w' := by
  obtain ⟨a, b⟩ := d
  obtain ⟨c, f⟩ := e
  dsimp only
  have HC := hideIt cmpCompare_any
  have HO : Hid (Calls Tryz.prog 96 #[.slice (some ⟨w.heap.size + 1 + 1, 0, none⟩) 2 2] (((w.alloc (.cells #[.int .i64 a, .int .i64 b] 79)).alloc (.cells #[.int .i64 c, .int .i64 f] 79)).alloc (.cells #[.int .i64 (cmpI a c), .int .i64 (cmpI b f)] 3)).drew
      fun e w' => e = .returned (.int .i64 (cmpE (a, b) (c, f))) ∧ w' = (((w.alloc (.cells #[.int .i64 a, .int .i64 b] 79)).alloc (.cells #[.int .i64 c, .int .i64 f] 79)).alloc (.cells #[.int .i64 (cmpI a c), .int .i64 (cmpI b f)] 3)).drew) :=
    cmpOr_any (cmpI a c) (cmpI b f) (w.heap.size + 1 + 1) _ (by simp [go_sem]) (by simp [go_sem])
  go_enter Tryz.func94, Tryz.ntmps94
  go_wp2
  go_region_held3 (fun u => (u.cell? ⟨w.heap.size, 0, none⟩ = some (.int .i64 a) ∧ u.cell? ⟨w.heap.size, 1, none⟩ = some (.int .i64 b)) ∧ u.cell? ⟨w.heap.size + 1, 0, none⟩ = some (.int .i64 c) ∧ u.cell? ⟨w.heap.size + 1, 1, none⟩ = some (.int .i64 f))
    (go_keep)
    (first
      | (go_at_call 97; refine (HC.out _ _ _).mono ?_; rintro e w1 ⟨rfl, rfl⟩)
      | (go_at_call 96; refine HO.out.mono ?_; rintro e w1 ⟨rfl, rfl⟩))
  all_goals
    go_wp2
    go_ret
    exact ⟨rfl, ((((Below.refl _ _).alloc (Nat.le_refl _) _).alloc (by simp) _).alloc (by simp; omega) _).drew⟩
end Go.Proofs.YtcieanhbipbhgaaGreatDoor
namespace Go.Proofs.YtcieanhbipbhgaaGreatDoor
open Go.RowKit

/-- it is one of them -/
def hasB (es : List EdgeV) (e : EdgeV) : Bool := decide (e ∈ es)
theorem hasB_yes {es : List EdgeV} {e : EdgeV} {k : Nat} (h : es[k]? = some e) : hasB es e = true := decide_eq_true (List.mem_of_getElem? h)
theorem hasB_no {es : List EdgeV} {e : EdgeV} (h : ∀ j, j < es.length → es[j]? ≠ some e) : hasB es e = false := decide_eq_false fun hm => by
  obtain ⟨j, hj, rfl⟩ := List.getElem_of_mem hm
  exact h j hj (List.getElem?_eq_getElem hj)

end Go.Proofs.YtcieanhbipbhgaaGreatDoor
namespace Go.Proofs.YtcieanhbipbhgaaGreatDoor
open Go.RowKit

theorem cmpE_ge (d e : EdgeV) (b : Bool) (h : lt d e = b) : decide (0 ≤ cmpE d e) = !b := by
  cases b with
  | true => have := (cmpE_neg d e).2 h; simp; omega
  | false =>
    have : ¬ cmpE d e < 0 := fun h2 => by rw [(cmpE_neg d e).1 h2] at h; cases h
    simp; omega

set_option maxRecDepth 100000 in
set_option maxHeartbeats 2000000 in
theorem edgesOk_any (N : Int) (es : List EdgeV) (n : Nat) (a : Option Addr) (c : Nat) (hn : n ≤ 1048576) (w : World) (h : Es w w.heap.size a n es) :
    Calls Tryz.prog 88 #[.int .i64 N, .slice a n c] w fun e w' => e = .returned (.bool (chk N es && decide (es.length ≤ 66))) ∧ Below w.heap.size w w' := by
  obtain ⟨hlen, hrow⟩ := h
  have HR := hideIt hrow
  clear hrow
  by_cases g66 : 66 < n
  · have d66 : decide ((66 : Int) < (n : Int)) = true := decide_eq_true (by omega)
    have HG : Hid (decide (es.length ≤ 66) = false) := decide_eq_false (by omega)
    go_enter Tryz.func88, Tryz.ntmps88
    go_wp2
    go_ret
    exact ⟨by rw [HG.out]; simp, Below.refl _ _⟩
  · have d66 : decide ((66 : Int) < (n : Int)) = false := decide_eq_false (by omega)
    have HG : Hid (decide (es.length ≤ 66) = true) := decide_eq_true (by omega)
    go_enter Tryz.func88, Tryz.ntmps88
    go_wp2
    go_loopw [12] (fun i wr => ∃ k : Nat, k ≤ n ∧ i = .int .i64 (k : Int) ∧ Hid (∀ j, j < k → chkAt N es j = true) ∧ Below w.heap.size w wr) (fun i _ => n - (intOf i).toNat)
    case atStart => exact ⟨0, by omega, rfl, fun j hj => by omega, Below.refl _ _⟩
    case round =>
      obtain ⟨k, hk, rfl, hck, hb⟩ := hrel
      by_cases hlt : k < n
      · rcases HR.out with hz | ⟨b, off, rfl, hbl, hc⟩
        · omega
        · obtain ⟨f, hf⟩ : ∃ f, es[k]? = some f := ⟨es[k]'(by omega), List.getElem?_eq_getElem (by omega)⟩
          obtain ⟨c0, c1⟩ := hc k f hf
          have e0 : wr.cell? ⟨b, off + k * 2, none⟩ = some (.int .i64 f.1) := by rw [hb.cell hbl]; exact c0
          have e1 : wr.cell? ⟨b, off + k * 2 + 1, none⟩ = some (.int .i64 f.2) := by rw [hb.cell hbl]; exact c1
          have b1 : (0 : Int) ≤ (k : Int) := by omega
          have b2 : (k : Int) < (n : Int) := by omega
          have z0 : wr.heap.size < (wr.alloc (.cells #[.int .i64 f.1, .int .i64 f.2] 79)).heap.size := by simp
          have hb5 : Below w.heap.size w (wr.alloc (.cells #[.int .i64 f.1, .int .i64 f.2] 79)) := hb.alloc hb.size _
          have hbd : Below (wr.alloc (.cells #[.int .i64 f.1, .int .i64 f.2] 79)).heap.size (wr.alloc (.cells #[.int .i64 f.1, .int .i64 f.2] 79)) (wr.alloc (.cells #[.int .i64 f.1, .int .i64 f.2] 79)).drew := (Below.refl _ _).drew
          have HZ := hideIt (fun W (hW : Below (wr.alloc (.cells #[.int .i64 f.1, .int .i64 f.2] 79)).heap.size (wr.alloc (.cells #[.int .i64 f.1, .int .i64 f.2] 79)) W) => hb5.trans (hW.mono hb5.size))
          have HE : Hid (∀ W : World, Below (wr.alloc (.cells #[.int .i64 f.1, .int .i64 f.2] 79)).heap.size (wr.alloc (.cells #[.int .i64 f.1, .int .i64 f.2] 79)) W → Calls Tryz.prog 93 #[.int .i64 N, .agg #[.int .i64 f.1, .int .i64 f.2]] W fun e w' => e = .returned (.bool (eB N f)) ∧ Below (wr.alloc (.cells #[.int .i64 f.1, .int .i64 f.2] 79)).heap.size (wr.alloc (.cells #[.int .i64 f.1, .int .i64 f.2] 79)) w') := fun W hW =>
            (iEdgeOk_any N f W).mono fun _ _ ⟨he, hb'⟩ => ⟨he, hW.trans (hb'.mono hW.size)⟩
          have HK : Hid (∀ W : World, Below (wr.alloc (.cells #[.int .i64 f.1, .int .i64 f.2] 79)).heap.size (wr.alloc (.cells #[.int .i64 f.1, .int .i64 f.2] 79)) W → (W.cell? ⟨wr.heap.size, 0, none⟩ = some (.int .i64 f.1) ∧ W.cell? ⟨wr.heap.size, 1, none⟩ = some (.int .i64 f.2))) := fun W hW =>
            ⟨by rw [hW.cell z0]; simp, by rw [hW.cell z0]; simp⟩
          cases hE : eB N f with
          | false =>
            rw [hE] at HE
            have HN := hideIt (chk_no (by omega : k < es.length) (chkAt_no hf hE))
            clear hf hc c0 c1 hE hck
            go_wp2
            refine wp_region_any (by kernel_rfl) ?_
            change wpAny _ _ _ _ _ _ _ (World.drew _)
            refine takeOp (i := 0) (v := ?_) rfl (by kernel_rfl) (by kernel_rfl) (by kernel_rfl) (fun _ _ _ h => h) (by kernel_rfl) ?_ ?_
            rotate_left
            · intro w; go_simp; try with_reducible rfl
            refine wpAny_ready (rs := [1]) (by kernel_rfl) (by simp) ?_
            refine AllReady.cons rfl (fun K hK => ?_) AllReady.nil
            go_simp
            refine hK _ _ ?_
            clear hK K
            refine wpAny_ready (rs := [2]) (by kernel_rfl) (by simp) ?_
            refine AllReady.cons rfl (fun K hK => ?_) AllReady.nil
            go_wp2_with (go_at_call 93; refine (HE.out _ hbd).mono ?_; rintro e w1 ⟨rfl, hb3⟩; refine Hid.out ?_)
            refine (show ∀ {p : Prop}, p → Hid p from fun h => h) ?_
            try refine hK _ _ ?_
            clear hK K
            refine wpAny_ready (rs := [3]) (by kernel_rfl) (by simp) ?_
            refine AllReady.cons rfl (fun K hK => ?_) AllReady.nil
            go_simp
            refine hK _ _ ?_
            clear hK K
            refine wpAny_ready (rs := [4]) (by kernel_rfl) (by simp) ?_
            refine AllReady.cons rfl (fun K hK => ?_) AllReady.nil
            go_simp
            refine hK _ _ ?_
            clear hK K
            refine skipOp (i := 5) rfl (by kernel_rfl) (by kernel_rfl) (by kernel_rfl) (fun _ _ _ h => h) (by kernel_rfl) ?_
            refine skipOp (i := 6) rfl (by kernel_rfl) (by kernel_rfl) (by kernel_rfl) (fun _ _ _ h => h) (by kernel_rfl) ?_
            refine skipOp (i := 7) rfl (by kernel_rfl) (by kernel_rfl) (by kernel_rfl) (fun _ _ _ h => h) (by kernel_rfl) ?_
            refine skipOp (i := 8) rfl (by kernel_rfl) (by kernel_rfl) (by kernel_rfl) (fun _ _ _ h => h) (by kernel_rfl) ?_
            refine skipOp (i := 9) rfl (by kernel_rfl) (by kernel_rfl) (by kernel_rfl) (fun _ _ _ h => h) (by kernel_rfl) ?_
            refine skipOp (i := 10) rfl (by kernel_rfl) (by kernel_rfl) (by kernel_rfl) (fun _ _ _ h => h) (by kernel_rfl) ?_
            refine skipOp (i := 11) rfl (by kernel_rfl) (by kernel_rfl) (by kernel_rfl) (fun _ _ _ h => h) (by kernel_rfl) ?_
            refine skipOp (i := 12) rfl (by kernel_rfl) (by kernel_rfl) (by kernel_rfl) (fun _ _ _ h => h) (by kernel_rfl) ?_
            refine skipOp (i := 13) rfl (by kernel_rfl) (by kernel_rfl) (by kernel_rfl) (fun _ _ _ h => h) (by kernel_rfl) ?_
            refine skipOp (i := 14) rfl (by kernel_rfl) (by kernel_rfl) (by kernel_rfl) (fun _ _ _ h => h) (by kernel_rfl) ?_
            refine skipOp (i := 15) rfl (by kernel_rfl) (by kernel_rfl) (by kernel_rfl) (fun _ _ _ h => h) (by kernel_rfl) ?_
            refine skipOp (i := 16) rfl (by kernel_rfl) (by kernel_rfl) (by kernel_rfl) (fun _ _ _ h => h) (by kernel_rfl) ?_
            refine wpAny_ready (rs := [17]) (by kernel_rfl) (by simp) ?_
            refine AllReady.cons rfl (fun K hK => ?_) AllReady.nil
            go_simp
            refine hK _ _ ?_
            clear hK K
            refine wpAny_done (by kernel_rfl) ?_ _
            go_wp2
            go_ret
            exact ⟨by rw [HN.out]; rfl, HZ.out _ hb3⟩
          | true =>
            rw [hE] at HE
            rcases k with _ | i
            · have HY := hideIt (show chkAt N es 0 = true by rw [chkAt_zero hf]; exact hE)
              clear hf hc c0 c1 hE
              rw [Nat.zero_mul, Nat.add_zero] at e0 e1
              go_wp2
              refine wp_region_any (by kernel_rfl) ?_
              change wpAny _ _ _ _ _ _ _ (World.drew _)
              refine takeOp (i := 0) (v := ?_) rfl (by kernel_rfl) (by kernel_rfl) (by kernel_rfl) (fun _ _ _ h => h) (by kernel_rfl) ?_ ?_
              rotate_left
              · intro w; go_simp; try with_reducible rfl
              refine wpAny_ready (rs := [1]) (by kernel_rfl) (by simp) ?_
              refine AllReady.cons rfl (fun K hK => ?_) AllReady.nil
              go_simp
              refine hK _ _ ?_
              clear hK K
              refine wpAny_ready (rs := [2]) (by kernel_rfl) (by simp) ?_
              refine AllReady.cons rfl (fun K hK => ?_) AllReady.nil
              go_wp2_with (go_at_call 93; refine (HE.out _ hbd).mono ?_; rintro e w1 ⟨rfl, hb3⟩; refine Hid.out ?_)
              refine (show ∀ {p : Prop}, p → Hid p from fun h => h) ?_
              try refine hK _ _ ?_
              clear hK K
              refine wpAny_ready (rs := [3]) (by kernel_rfl) (by simp) ?_
              refine AllReady.cons rfl (fun K hK => ?_) AllReady.nil
              go_simp
              refine hK _ _ ?_
              clear hK K
              refine wpAny_ready (rs := [4]) (by kernel_rfl) (by simp) ?_
              refine AllReady.cons rfl (fun K hK => ?_) AllReady.nil
              go_simp
              refine hK _ _ ?_
              clear hK K
              refine wpAny_ready (rs := [5]) (by kernel_rfl) (by simp) ?_
              refine AllReady.cons rfl (fun K hK => ?_) AllReady.nil
              go_simp
              refine hK _ _ ?_
              clear hK K
              refine wpAny_ready (rs := [6]) (by kernel_rfl) (by simp) ?_
              refine AllReady.cons rfl (fun K hK => ?_) AllReady.nil
              go_simp
              refine hK _ _ ?_
              clear hK K
              refine wpAny_ready (rs := [7]) (by kernel_rfl) (by simp) ?_
              refine AllReady.cons rfl (fun K hK => ?_) AllReady.nil
              go_simp
              refine hK _ _ ?_
              clear hK K
              refine skipOp (i := 8) rfl (by kernel_rfl) (by kernel_rfl) (by kernel_rfl) (fun _ _ _ h => h) (by kernel_rfl) ?_
              refine skipOp (i := 9) rfl (by kernel_rfl) (by kernel_rfl) (by kernel_rfl) (fun _ _ _ h => h) (by kernel_rfl) ?_
              refine skipOp (i := 10) rfl (by kernel_rfl) (by kernel_rfl) (by kernel_rfl) (fun _ _ _ h => h) (by kernel_rfl) ?_
              refine skipOp (i := 11) rfl (by kernel_rfl) (by kernel_rfl) (by kernel_rfl) (fun _ _ _ h => h) (by kernel_rfl) ?_
              refine skipOp (i := 12) rfl (by kernel_rfl) (by kernel_rfl) (by kernel_rfl) (fun _ _ _ h => h) (by kernel_rfl) ?_
              refine skipOp (i := 13) rfl (by kernel_rfl) (by kernel_rfl) (by kernel_rfl) (fun _ _ _ h => h) (by kernel_rfl) ?_
              refine skipOp (i := 14) rfl (by kernel_rfl) (by kernel_rfl) (by kernel_rfl) (fun _ _ _ h => h) (by kernel_rfl) ?_
              refine skipOp (i := 15) rfl (by kernel_rfl) (by kernel_rfl) (by kernel_rfl) (fun _ _ _ h => h) (by kernel_rfl) ?_
              refine wpAny_ready (rs := [16]) (by kernel_rfl) (by simp) ?_
              refine AllReady.cons rfl (fun K hK => ?_) AllReady.nil
              go_simp
              refine hK _ _ ?_
              clear hK K
              refine wpAny_ready (rs := [17]) (by kernel_rfl) (by simp) ?_
              refine AllReady.cons rfl (fun K hK => ?_) AllReady.nil
              go_simp
              refine hK _ _ ?_
              clear hK K
              refine wpAny_done (by kernel_rfl) ?_ _
              go_wp2
              exact ⟨⟨1, by omega, by go_num, fun j hj => by
                obtain rfl : j = 0 := by omega
                exact HY.out, HZ.out _ hb3⟩, by simp [intOf]; omega⟩
            · obtain ⟨d, hd⟩ : ∃ d, es[i]? = some d := ⟨es[i]'(by omega), List.getElem?_eq_getElem (by omega)⟩
              obtain ⟨c2, c3⟩ := hc i d hd
              have HK2 : Hid (∀ W : World, Below (wr.alloc (.cells #[.int .i64 f.1, .int .i64 f.2] 79)).heap.size (wr.alloc (.cells #[.int .i64 f.1, .int .i64 f.2] 79)) W → (W.cell? ⟨b, off + i * 2, none⟩ = some (.int .i64 d.1) ∧ W.cell? ⟨b, off + i * 2 + 1, none⟩ = some (.int .i64 d.2))) := fun W hW =>
                ⟨by rw [(HZ.out W hW).cell hbl]; exact c2, by rw [(HZ.out W hW).cell hbl]; exact c3⟩
              have HC := hideIt (chkAt_succ (n := N) hf hd)
              have HL2 : Hid (∀ W : World, Below (wr.alloc (.cells #[.int .i64 f.1, .int .i64 f.2] 79)).heap.size (wr.alloc (.cells #[.int .i64 f.1, .int .i64 f.2] 79)) W → Calls Tryz.prog 94 #[.agg #[.int .i64 d.1, .int .i64 d.2], .agg #[.int .i64 f.1, .int .i64 f.2]] W fun e w' => e = .returned (.int .i64 (cmpE d f)) ∧ Below (wr.alloc (.cells #[.int .i64 f.1, .int .i64 f.2] 79)).heap.size (wr.alloc (.cells #[.int .i64 f.1, .int .i64 f.2] 79)) w') := fun W hW =>
                (compareEdges_any d f W).mono fun _ _ ⟨he, hb'⟩ => ⟨he, hW.trans (hb'.mono hW.size)⟩
              have HE0 := hideIt hE
              have ek : ((i + 1 : Nat) : Int) = (i : Int) + 1 := by omega
              rw [ek] at b1 b2
              have b3 : (0 : Int) ≤ (i : Int) := by omega
              have b4 : (i : Int) < (n : Int) := by omega
              have tn : ((i : Int) + 1).toNat = i + 1 := by omega
              have d0 : decide ((0 : Int) < (i : Int) + 1) = true := decide_eq_true (by omega)
              have hw1 : IntKind.i64.wrap (i : Int) = (i : Int) := by rw [IntKind.wrap_i64]; omega
              rw [ek]
              clear ek hf hd hc c0 c1 c2 c3 hE
              cases hL : lt d f with
              | true =>
                have dc := cmpE_ge d f true hL
                have HY := hideIt (show chkAt N es (i + 1) = true by rw [HC.out, HE0.out, hL]; rfl)
                clear HC hL HE0
                generalize cmpE d f = cv at HL2 dc
                go_wp2
                go_region_held3 (fun u => Below (wr.alloc (.cells #[.int .i64 f.1, .int .i64 f.2] 79)).heap.size (wr.alloc (.cells #[.int .i64 f.1, .int .i64 f.2] 79)) u ∧ (u.cell? ⟨wr.heap.size, 0, none⟩ = some (.int .i64 f.1) ∧ u.cell? ⟨wr.heap.size, 1, none⟩ = some (.int .i64 f.2)) ∧ u.cell? ⟨b, off + i * 2, none⟩ = some (.int .i64 d.1) ∧ u.cell? ⟨b, off + i * 2 + 1, none⟩ = some (.int .i64 d.2))
                  (first | exact ⟨hb4, HK.out _ hb4, HK2.out _ hb4⟩ | exact ⟨hb3, HK.out _ hb3, HK2.out _ hb3⟩ | exact ⟨hbd, HK.out _ hbd, HK2.out _ hbd⟩)
                  (first
                  | (go_at_call 93; refine (HE.out _ hbd).mono ?_; rintro e w1 ⟨rfl, hb3⟩)
                  | (go_at_call 94; refine (HL2.out _ hb3).mono ?_; rintro e w2 ⟨rfl, hb4⟩))
                all_goals
                  go_wp2
                  exact ⟨⟨i + 2, by omega, by go_num, fun j hj => by
                    by_cases hji : j = i + 1
                    · subst hji; exact HY.out
                    · exact hck.out j (by omega), HZ.out _ hb4⟩, by simp [intOf]; omega⟩
              | false =>
                have dc := cmpE_ge d f false hL
                have HN := hideIt (chk_no (by omega : i + 1 < es.length) (show chkAt N es (i + 1) = false by rw [HC.out, HE0.out, hL]; rfl))
                clear HC hL HE0
                generalize cmpE d f = cv at HL2 dc
                go_wp2
                go_region_held3 (fun u => Below (wr.alloc (.cells #[.int .i64 f.1, .int .i64 f.2] 79)).heap.size (wr.alloc (.cells #[.int .i64 f.1, .int .i64 f.2] 79)) u ∧ (u.cell? ⟨wr.heap.size, 0, none⟩ = some (.int .i64 f.1) ∧ u.cell? ⟨wr.heap.size, 1, none⟩ = some (.int .i64 f.2)) ∧ u.cell? ⟨b, off + i * 2, none⟩ = some (.int .i64 d.1) ∧ u.cell? ⟨b, off + i * 2 + 1, none⟩ = some (.int .i64 d.2))
                  (first | exact ⟨hb4, HK.out _ hb4, HK2.out _ hb4⟩ | exact ⟨hb3, HK.out _ hb3, HK2.out _ hb3⟩ | exact ⟨hbd, HK.out _ hbd, HK2.out _ hbd⟩)
                  (first
                  | (go_at_call 93; refine (HE.out _ hbd).mono ?_; rintro e w1 ⟨rfl, hb3⟩)
                  | (go_at_call 94; refine (HL2.out _ hb3).mono ?_; rintro e w2 ⟨rfl, hb4⟩))
                all_goals
                  go_wp2
                  go_ret
                  exact ⟨by rw [HN.out]; rfl, HZ.out _ hb4⟩
      · have HY := hideIt (chk_yes (n := N) (es := es) (fun j hj => hck.out j (by omega)))
        clear hck
        go_wp2
        go_ret
        exact ⟨by rw [HY.out, HG.out]; rfl, hb⟩

end Go.Proofs.YtcieanhbipbhgaaGreatDoor
namespace Go.Proofs.YtcieanhbipbhgaaGreatDoor
open Go.RowKit Vt

theorem numOk_any (x : Int) (w : World) : Calls Tryz.prog 87 #[.int .i64 x] w fun e w' => e = .returned (.bool (decide (1 ≤ x ∧ x ≤ 100000))) ∧ w' = w := by
  by_cases h1 : 1 ≤ x
  · have d1 : decide (1 ≤ x) = true := by simpa using h1
    go_enter Tryz.func87, Tryz.ntmps87
    go_wp2
    go_ret
    exact ⟨by simp [h1], rfl⟩
  · have d1 : decide (1 ≤ x) = false := by simpa using h1
    go_enter Tryz.func87, Tryz.ntmps87
    go_wp2
    go_ret
    exact ⟨by simp, rfl⟩

theorem commandOf_rel (num v : Int) (a : Option Addr) (c : Nat) (w : World) :
    Calls Tryz.prog 92 #[ordV num 3 a 0 c v] w fun e w' => e = .returned (.iface 129 (.agg #[.int .i64 v])) ∧ Below w.heap.size w w' := by
  unfold ordV
  go_enter Tryz.func92, Tryz.ntmps92
  go_wp2
  go_ret
  exact ⟨rfl, bel1 _ _⟩

theorem commandOf_v (num op v : Int) (a : Option Addr) (k c : Nat) (hv : v ≠ 0) (ho : ¬ (op = 3 ∧ k = 0)) (w : World) :
    Calls Tryz.prog 92 #[ordV num op a k c v] w fun e w' => e = .returned .nilIface ∧ Below w.heap.size w w' := by
  unfold ordV
  have e1 : (v != 0) = true := by simpa using hv
  by_cases h3 : op = 3
  · subst h3
    have e0 : ((k : Int) == 0) = false := by simp; omega
    go_enter Tryz.func92, Tryz.ntmps92
    go_wp2
    go_ret
    exact ⟨rfl, bel1 _ _⟩
  · have e0 : (op == 3) = false := by simpa using h3
    go_enter Tryz.func92, Tryz.ntmps92
    go_wp2
    go_ret
    exact ⟨rfl, bel1 _ _⟩

theorem commandOf_add (num : Int) (e : EdgeV) (b off : Nat) (c : Nat) (w : World) (c0 : w.cell? ⟨b, off, none⟩ = some (.int .i64 e.1)) (c1 : w.cell? ⟨b, off + 1, none⟩ = some (.int .i64 e.2)) (hb : b < w.heap.size) :
    Calls Tryz.prog 92 #[ordV num 1 (some ⟨b, off, none⟩) 1 c 0] w fun x w' => x = .returned (.iface 126 (.agg #[.int .i64 e.1, .int .i64 e.2])) ∧ Below w.heap.size w w' := by
  unfold ordV
  have e0 : (w.alloc (.cells #[.int .i64 num, .int .i64 1, .slice (some ⟨b, off, none⟩) 1 c, .int .i64 0] 38)).cell? ⟨b, off, none⟩ = some (.int .i64 e.1) := by rw [World.cell?_of_block (w := w) (Below.heap_alloc w _ b hb)]; exact c0
  have e1 : (w.alloc (.cells #[.int .i64 num, .int .i64 1, .slice (some ⟨b, off, none⟩) 1 c, .int .i64 0] 38)).cell? ⟨b, off + 1, none⟩ = some (.int .i64 e.2) := by rw [World.cell?_of_block (w := w) (Below.heap_alloc w _ b hb)]; exact c1
  clear c0 c1
  go_enter Tryz.func92, Tryz.ntmps92
  go_wp2
  go_ret
  exact ⟨rfl, bel1 _ _⟩

theorem commandOf_take (num : Int) (e : EdgeV) (b off : Nat) (c : Nat) (w : World) (c0 : w.cell? ⟨b, off, none⟩ = some (.int .i64 e.1)) (c1 : w.cell? ⟨b, off + 1, none⟩ = some (.int .i64 e.2)) (hb : b < w.heap.size) :
    Calls Tryz.prog 92 #[ordV num 2 (some ⟨b, off, none⟩) 1 c 0] w fun x w' => x = .returned (.iface 127 (.agg #[.int .i64 e.1, .int .i64 e.2])) ∧ Below w.heap.size w w' := by
  unfold ordV
  have e0 : (w.alloc (.cells #[.int .i64 num, .int .i64 2, .slice (some ⟨b, off, none⟩) 1 c, .int .i64 0] 38)).cell? ⟨b, off, none⟩ = some (.int .i64 e.1) := by rw [World.cell?_of_block (w := w) (Below.heap_alloc w _ b hb)]; exact c0
  have e1 : (w.alloc (.cells #[.int .i64 num, .int .i64 2, .slice (some ⟨b, off, none⟩) 1 c, .int .i64 0] 38)).cell? ⟨b, off + 1, none⟩ = some (.int .i64 e.2) := by rw [World.cell?_of_block (w := w) (Below.heap_alloc w _ b hb)]; exact c1
  clear c0 c1
  go_enter Tryz.func92, Tryz.ntmps92
  go_wp2
  go_ret
  exact ⟨rfl, bel1 _ _⟩

theorem commandOf_acc (num : Int) (a : Option Addr) (k c : Nat) (hk : 0 < k) (w : World) :
    Calls Tryz.prog 92 #[ordV num 4 a k c 0] w fun x w' => x = .returned (.iface 131 (.agg #[.slice a k c])) ∧ Below w.heap.size w w' := by
  unfold ordV
  have e0 : decide (0 < (k : Int)) = true := by simp; omega
  go_enter Tryz.func92, Tryz.ntmps92
  go_wp2
  go_ret
  exact ⟨rfl, bel1 _ _⟩

/-- parts that no order has -/
theorem commandOf_no (num op : Int) (a : Option Addr) (k c : Nat) (h3 : ¬ (op = 3 ∧ k = 0)) (h1 : ¬ (op = 1 ∧ k = 1)) (h2 : ¬ (op = 2 ∧ k = 1)) (h4 : ¬ (op = 4 ∧ 0 < k)) (w : World) :
    Calls Tryz.prog 92 #[ordV num op a k c 0] w fun x w' => x = .returned .nilIface ∧ Below w.heap.size w w' := by
  unfold ordV
  by_cases o3 : op = 3
  · subst o3
    have e0 : ((k : Int) == 0) = false := by simp; omega
    go_enter Tryz.func92, Tryz.ntmps92
    go_wp2
    go_ret
    exact ⟨rfl, bel1 _ _⟩
  · by_cases o1 : op = 1
    · subst o1
      have e0 : ((k : Int) == 1) = false := by simp; omega
      go_enter Tryz.func92, Tryz.ntmps92
      go_wp2
      go_ret
      exact ⟨rfl, bel1 _ _⟩
    · by_cases o2 : op = 2
      · subst o2
        have e0 : ((k : Int) == 1) = false := by simp; omega
        go_enter Tryz.func92, Tryz.ntmps92
        go_wp2
        go_ret
        exact ⟨rfl, bel1 _ _⟩
      · by_cases o4 : op = 4
        · subst o4
          have e0 : decide (0 < (k : Int)) = false := by simp; omega
          go_enter Tryz.func92, Tryz.ntmps92
          go_wp2
          go_ret
          exact ⟨rfl, bel1 _ _⟩
        · have q3 : (op == 3) = false := by simpa using o3
          have q1 : (op == 1) = false := by simpa using o1
          have q2 : (op == 2) = false := by simpa using o2
          have q4 : (op == 4) = false := by simpa using o4
          go_enter Tryz.func92, Tryz.ntmps92
          go_wp2
          go_ret
          exact ⟨rfl, bel1 _ _⟩
end Go.Proofs.YtcieanhbipbhgaaGreatDoor
namespace Go.Proofs.YtcieanhbipbhgaaGreatDoor
open Go.RowKit Vt

theorem ta_yes_add (x y : Value) (w : World) : (Instr.typeAssert (.iface 126 (.agg #[x, y])) 122 126 true).run Tryz.prog w = .ok (.tuple #[.agg #[x, y], .bool true]) w := by kernel_rfl
theorem ta_no_ta (x y : Value) (w : World) : (Instr.typeAssert (.iface 127 (.agg #[x, y])) 122 126 true).run Tryz.prog w = .ok (.tuple #[.agg #[.int .i64 0, .int .i64 0], .bool false]) w := by kernel_rfl
theorem ta_yes_ta (x y : Value) (w : World) : (Instr.typeAssert (.iface 127 (.agg #[x, y])) 122 127 true).run Tryz.prog w = .ok (.tuple #[.agg #[x, y], .bool true]) w := by kernel_rfl
theorem ta_no_re1 (x : Value) (w : World) : (Instr.typeAssert (.iface 129 (.agg #[x])) 122 126 true).run Tryz.prog w = .ok (.tuple #[.agg #[.int .i64 0, .int .i64 0], .bool false]) w := by kernel_rfl
theorem ta_no_re2 (x : Value) (w : World) : (Instr.typeAssert (.iface 129 (.agg #[x])) 122 127 true).run Tryz.prog w = .ok (.tuple #[.agg #[.int .i64 0, .int .i64 0], .bool false]) w := by kernel_rfl
theorem ta_yes_re (x : Value) (w : World) : (Instr.typeAssert (.iface 129 (.agg #[x])) 122 129 true).run Tryz.prog w = .ok (.tuple #[.agg #[x], .bool true]) w := by kernel_rfl
theorem ta_no_ac1 (x : Value) (w : World) : (Instr.typeAssert (.iface 131 (.agg #[x])) 122 126 true).run Tryz.prog w = .ok (.tuple #[.agg #[.int .i64 0, .int .i64 0], .bool false]) w := by kernel_rfl
theorem ta_no_ac2 (x : Value) (w : World) : (Instr.typeAssert (.iface 131 (.agg #[x])) 122 127 true).run Tryz.prog w = .ok (.tuple #[.agg #[.int .i64 0, .int .i64 0], .bool false]) w := by kernel_rfl
theorem ta_no_ac3 (x : Value) (w : World) : (Instr.typeAssert (.iface 131 (.agg #[x])) 122 129 true).run Tryz.prog w = .ok (.tuple #[.agg #[.int .i64 0], .bool false]) w := by kernel_rfl
theorem ta_yes_ac (x : Value) (w : World) : (Instr.typeAssert (.iface 131 (.agg #[x])) 122 131 true).run Tryz.prog w = .ok (.tuple #[.agg #[x], .bool true]) w := by kernel_rfl
theorem ta_nil1 (w : World) : (Instr.typeAssert .nilIface 122 126 true).run Tryz.prog w = .ok (.tuple #[.agg #[.int .i64 0, .int .i64 0], .bool false]) w := by kernel_rfl
theorem ta_nil2 (w : World) : (Instr.typeAssert .nilIface 122 127 true).run Tryz.prog w = .ok (.tuple #[.agg #[.int .i64 0, .int .i64 0], .bool false]) w := by kernel_rfl
theorem ta_nil3 (w : World) : (Instr.typeAssert .nilIface 122 129 true).run Tryz.prog w = .ok (.tuple #[.agg #[.int .i64 0], .bool false]) w := by kernel_rfl
theorem ta_nil4 (w : World) : (Instr.typeAssert .nilIface 122 131 true).run Tryz.prog w = .ok (.tuple #[.agg #[.slice none 0 0], .bool false]) w := by kernel_rfl

theorem bel2 {w w' : World} (o p : Obj) (h : Below ((w.alloc o).alloc p).heap.size ((w.alloc o).alloc p) w') : Below w.heap.size w w' :=
  (((Below.refl _ _).alloc (Nat.le_refl _) _).alloc (by simp) _).trans (h.mono (by simp; omega))

theorem commandOk_nil (n : Int) (w : World) :
    Calls Tryz.prog 91 #[.int .i64 n, .nilIface] w fun e w' => e = .returned (.bool false) ∧ Below w.heap.size w w' := by
  have t1 := ta_nil1; have t2 := ta_nil2; have t3 := ta_nil3; have t4 := ta_nil4
  go_enter Tryz.func91, Tryz.ntmps91
  go_wp2
  go_ret
  exact ⟨rfl, Below.refl _ _⟩

theorem commandOk_rel (n v : Int) (w : World) :
    Calls Tryz.prog 91 #[.int .i64 n, .iface 129 (.agg #[.int .i64 v])] w fun e w' => e = .returned (.bool (decide (0 ≤ v ∧ v < n))) ∧ Below w.heap.size w w' := by
  have t1 := ta_no_re1 (.int .i64 v); have t2 := ta_no_re2 (.int .i64 v); have t3 := ta_yes_re (.int .i64 v)
  by_cases h : 0 ≤ v
  · have d1 : decide (0 ≤ v) = true := by simpa using h
    go_enter Tryz.func91, Tryz.ntmps91
    go_wp2
    go_ret
    exact ⟨by simp [h], bel1 _ _⟩
  · have d1 : decide (0 ≤ v) = false := by simpa using h
    go_enter Tryz.func91, Tryz.ntmps91
    go_wp2
    go_ret
    exact ⟨by simp, bel1 _ _⟩

theorem commandOk_add (n : Int) (f : EdgeV) (w : World) :
    Calls Tryz.prog 91 #[.int .i64 n, .iface 126 (.agg #[.int .i64 f.1, .int .i64 f.2])] w fun e w' => e = .returned (.bool (eB n f)) ∧ Below w.heap.size w w' := by
  have t1 := ta_yes_add (.int .i64 f.1) (.int .i64 f.2)
  have HE := hideIt (iEdgeOk_any n f)
  go_enter Tryz.func91, Tryz.ntmps91
  go_wp2_with (go_at_call 93; refine (HE.out _).mono ?_; rintro e w1 ⟨rfl, hb⟩)
  go_ret
  exact ⟨rfl, (bel1 _ _).trans (hb.mono (by simp))⟩

theorem commandOk_take (n : Int) (f : EdgeV) (w : World) :
    Calls Tryz.prog 91 #[.int .i64 n, .iface 127 (.agg #[.int .i64 f.1, .int .i64 f.2])] w fun e w' => e = .returned (.bool (eB n f)) ∧ Below w.heap.size w w' := by
  have t1 := ta_no_ta (.int .i64 f.1) (.int .i64 f.2)
  have t2 := ta_yes_ta (.int .i64 f.1) (.int .i64 f.2)
  have HE := hideIt (iEdgeOk_any n f)
  go_enter Tryz.func91, Tryz.ntmps91
  go_wp2_with (go_at_call 93; refine (HE.out _).mono ?_; rintro e w1 ⟨rfl, hb⟩)
  go_ret
  exact ⟨rfl, (bel1 _ _).trans (hb.mono (by simp))⟩

theorem commandOk_acc (n : Int) (es : List EdgeV) (k : Nat) (a : Option Addr) (c : Nat) (hk : k ≤ 1048576) (w : World) (h : Es w w.heap.size a k es) :
    Calls Tryz.prog 91 #[.int .i64 n, .iface 131 (.agg #[.slice a k c])] w fun e w' => e = .returned (.bool (eOk n es)) ∧ Below w.heap.size w w' := by
  have t1 := ta_no_ac1 (.slice a k c); have t2 := ta_no_ac2 (.slice a k c); have t3 := ta_no_ac3 (.slice a k c); have t4 := ta_yes_ac (.slice a k c)
  have HT := hideIt (edgesOk_any n es k a c hk (w.alloc (.cells #[.slice a k c] 131)) ((h.alloc (Nat.le_refl _) _).mono (by simp)))
  clear h
  go_enter Tryz.func91, Tryz.ntmps91
  go_wp2_with (go_at_call 88; refine HT.out.mono ?_; rintro e w1 ⟨rfl, hb⟩)
  go_ret
  exact ⟨rfl, (bel1 _ _).trans (hb.mono (by simp))⟩

theorem eOk_nil (n : Int) : eOk n [] = true := rfl
theorem eOk_one (n : Int) (f : EdgeV) : eOk n [f] = eB n f := by
  unfold eOk chk
  simp [chkAt]

/-- what an order wants done, and whether that is right -/
theorem cmd_ok (num op : Int) (es : List EdgeV) (v : Int) (k : Nat) (a : Option Addr) (c : Nat) (hk : k ≤ 1048576) (w : World) (h : Es w w.heap.size a k es) :
    Calls Tryz.prog 92 #[ordV num op a k c v] w fun e w' => ∃ cv, e = .returned cv ∧ Below w.heap.size w w' ∧
      Hid (∀ n, Calls Tryz.prog 91 #[.int .i64 n, cv] w' fun e w'' => e = .returned (.bool (eOk n es && decide (OpOk n ⟨num, op, es, v⟩))) ∧ Below w'.heap.size w' w'') := by
  have hlen := h.1
  by_cases h3 : op = 3 ∧ k = 0
  · obtain ⟨rfl, rfl⟩ := h3
    have e0 : es = [] := List.length_eq_zero_iff.1 hlen
    subst e0
    refine (commandOf_rel num v a c w).mono ?_
    rintro e w' ⟨rfl, hb⟩
    refine ⟨_, rfl, hb, fun n => (commandOk_rel n v w').mono ?_⟩
    rintro e w'' ⟨rfl, hb'⟩
    exact ⟨rett (by rw [eOk_nil, Bool.true_and]; apply decide_eq_decide.2; unfold OpOk; dsimp only [List.length_nil]; omega), hb'⟩
  · by_cases hv : v = 0
    · subst hv
      by_cases h1 : (op = 1 ∨ op = 2) ∧ k = 1
      · obtain ⟨ho, rfl⟩ := h1
        obtain ⟨f, rfl⟩ := List.length_eq_one_iff.1 hlen
        rcases h.2 with h0 | ⟨b, off, rfl, hb0, hc⟩
        · omega
        · obtain ⟨c0, c1⟩ := hc 0 f rfl
          rw [Nat.zero_mul, Nat.add_zero] at c0 c1
          have fin : ∀ n, (eOk n [f] && decide (OpOk n ⟨num, op, [f], 0⟩)) = eB n f := fun n => by
            rw [eOk_one, decide_eq_true (by unfold OpOk; dsimp only [List.length_cons, List.length_nil]; omega), Bool.and_true]
          rcases ho with rfl | rfl
          · refine (commandOf_add num f b off c w c0 c1 hb0).mono ?_
            rintro e w' ⟨rfl, hb⟩
            refine ⟨_, rfl, hb, fun n => (commandOk_add n f w').mono ?_⟩
            rintro e w'' ⟨rfl, hb'⟩
            exact ⟨rett (fin n).symm, hb'⟩
          · refine (commandOf_take num f b off c w c0 c1 hb0).mono ?_
            rintro e w' ⟨rfl, hb⟩
            refine ⟨_, rfl, hb, fun n => (commandOk_take n f w').mono ?_⟩
            rintro e w'' ⟨rfl, hb'⟩
            exact ⟨rett (fin n).symm, hb'⟩
      · by_cases h4 : op = 4 ∧ 0 < k
        · obtain ⟨rfl, h4⟩ := h4
          refine (commandOf_acc num a k c h4 w).mono ?_
          rintro e w' ⟨rfl, hb⟩
          refine ⟨_, rfl, hb, fun n => (commandOk_acc n es k a c hk w' (h.up hb)).mono ?_⟩
          rintro e w'' ⟨rfl, hb'⟩
          exact ⟨rett (by rw [decide_eq_true (by unfold OpOk; dsimp only; omega), Bool.and_true]), hb'⟩
        · refine (commandOf_no num op a k c h3 (by omega) (by omega) (by omega) w).mono ?_
          rintro e w' ⟨rfl, hb⟩
          refine ⟨_, rfl, hb, fun n => (commandOk_nil n w').mono ?_⟩
          rintro e w'' ⟨rfl, hb'⟩
          exact ⟨rett (by rw [decide_eq_false (by unfold OpOk; dsimp only; omega), Bool.and_false]), hb'⟩
    · refine (commandOf_v num op v a k c hv h3 w).mono ?_
      rintro e w' ⟨rfl, hb⟩
      refine ⟨_, rfl, hb, fun n => (commandOk_nil n w').mono ?_⟩
      rintro e w'' ⟨rfl, hb'⟩
      exact ⟨rett (by rw [decide_eq_false (by unfold OpOk; dsimp only; omega), Bool.and_false]), hb'⟩

set_option maxRecDepth 100000 in
set_option maxHeartbeats 4000000 in
theorem iOrderOk_any (n num op : Int) (es : List EdgeV) (v : Int) (k : Nat) (a : Option Addr) (c : Nat) (hk : k ≤ 1048576) (w : World) (h : Es w w.heap.size a k es) :
    Calls Tryz.prog 85 #[.int .i64 n, ordV num op a k c v] w fun e w' => e = .returned (.bool (oB n ⟨num, op, es, v⟩)) ∧ Below w.heap.size w w' := by
  have HV := hideIt vertsOk_any
  have HN := hideIt numOk_any
  have HC := hideIt (cmd_ok num op es v k a c hk (w.alloc (.cells #[.int .i64 num, .int .i64 op, .slice a k c, .int .i64 v] 38)) ((h.alloc (Nat.le_refl _) _).mono (by simp)))
  unfold ordV at HC ⊢
  clear h
  by_cases h1 : 1 ≤ n ∧ n ≤ 12
  · have r1 : decide (1 ≤ n ∧ n ≤ 12) = true := by simpa using h1
    by_cases h2 : 1 ≤ num ∧ num ≤ 100000
    · have r2 : decide (1 ≤ num ∧ num ≤ 100000) = true := by simpa using h2
      have HB : Hid (oB n ⟨num, op, es, v⟩ = (eOk n es && decide (OpOk n ⟨num, op, es, v⟩))) := by
        show _ = _
        unfold oB; dsimp only; rw [r1, r2]; rfl
      go_enter Tryz.func85, Tryz.ntmps85
      go_wp2_with (first | (go_at_call 76; refine (HV.out _ _).mono ?_; rintro e w1 ⟨rfl, rfl⟩) | (go_at_call 87; refine (HN.out _ _).mono ?_; rintro e w1 ⟨rfl, rfl⟩) | (go_at_call 92; refine HC.out.mono ?_; rintro e w2 ⟨cv, rfl, hb2, HD⟩) | (go_at_call 91; refine (HD.out _).mono ?_; rintro e w3 ⟨rfl, hb3⟩))
      go_ret
      exact ⟨rett HB.out.symm, (bel1 _ _).trans ((hb2.trans (hb3.mono hb2.size)).mono (by simp))⟩
    · have r2 : decide (1 ≤ num ∧ num ≤ 100000) = false := by simpa using h2
      have HB := hideIt (oB_num (n := n) (o := ⟨num, op, es, v⟩) h2)
      clear HC
      go_enter Tryz.func85, Tryz.ntmps85
      go_wp2_with (first | (go_at_call 76; refine (HV.out _ _).mono ?_; rintro e w1 ⟨rfl, rfl⟩) | (go_at_call 87; refine (HN.out _ _).mono ?_; rintro e w1 ⟨rfl, rfl⟩))
      go_ret
      exact ⟨rett HB.out.symm, bel1 _ _⟩
  · have r1 : decide (1 ≤ n ∧ n ≤ 12) = false := by simpa using h1
    have HB := hideIt (oB_n (o := ⟨num, op, es, v⟩) h1)
    clear HC
    go_enter Tryz.func85, Tryz.ntmps85
    go_wp2_with (go_at_call 76; refine (HV.out _ _).mono ?_; rintro e w1 ⟨rfl, rfl⟩)
    go_ret
    exact ⟨rett HB.out.symm, bel1 _ _⟩
end Go.Proofs.YtcieanhbipbhgaaGreatDoor
namespace Go.Proofs.YtcieanhbipbhgaaGreatDoor
open Go.RowKit Vt

theorem lbAt_out {ls : List Int} {i : Nat} {x : Int} (h : ls[i]? = some x) (hx : ¬ (0 ≤ x ∧ x ≤ (i : Int))) : lbAt ls i = false := by
  unfold lbAt
  rw [h]
  dsimp only
  rw [decide_eq_false hx]
  rfl
theorem lbAt_in {ls : List Int} {i x : Nat} {y : Int} (h : ls[i]? = some (x : Int)) (hx : x ≤ i) (hy : ls[x]? = some y) : lbAt ls i = decide (y = (x : Int)) := by
  unfold lbAt
  rw [h]
  dsimp only
  rw [decide_eq_true (by omega), Int.toNat_natCast, hy, Bool.true_and]
  simp

set_option maxRecDepth 100000 in
set_option maxHeartbeats 4000000 in
theorem l09Labels_any (n : Int) (ls : List Int) (k : Nat) (a : Option Addr) (c : Nat) (hk : k ≤ 1048576) (w : World) (h : Is w w.heap.size a k ls) :
    Calls Tryz.prog 67 #[.int .i64 n, .slice a k c] w fun e w' => e = .returned (.bool (lB n ls)) ∧ Below w.heap.size w w' := by
  obtain ⟨hlen, hrow⟩ := h
  by_cases hn : (k : Int) = n
  · subst hn
    have HB : Hid (lB (k : Int) ls = lbs ls) := by show _ = _; unfold lB; rw [decide_eq_true (by omega)]; rfl
    have HR := hideIt hrow
    have e0 : ((k : Int) != (k : Int)) = false := by simp
    clear hrow
    go_enter Tryz.func67, Tryz.ntmps67
    go_wp2
    go_loopw [5] (fun i wr => ∃ j : Nat, j ≤ k ∧ i = .int .i64 (j : Int) ∧ Hid (∀ t, t < j → lbAt ls t = true) ∧ Below w.heap.size w wr) (fun i _ => k - (intOf i).toNat)
    case atStart => exact ⟨0, by omega, rfl, fun t ht => by omega, Below.refl _ _⟩
    case round =>
      obtain ⟨j, hj, rfl, hck, hb⟩ := hrel
      by_cases hlt : j < k
      · rcases HR.out with hz | ⟨b, off, rfl, hbl, hc⟩
        · omega
        · obtain ⟨x, hx⟩ : ∃ x, ls[j]? = some x := ⟨ls[j]'(by omega), List.getElem?_eq_getElem (by omega)⟩
          have c0 : wr.cell? ⟨b, off + j, none⟩ = some (.int .i64 x) := by rw [hb.cell hbl]; exact hc j x hx
          have b1 : (0 : Int) ≤ (j : Int) := by omega
          have b2 : (j : Int) < (k : Int) := by omega
          by_cases hin : 0 ≤ x ∧ x ≤ (j : Int)
          · obtain ⟨xn, rfl⟩ := Int.eq_ofNat_of_zero_le hin.1
            obtain ⟨y, hy⟩ : ∃ y, ls[xn]? = some y := ⟨ls[xn]'(by omega), List.getElem?_eq_getElem (by omega)⟩
            have c1 : wr.cell? ⟨b, off + xn, none⟩ = some (.int .i64 y) := by rw [hb.cell hbl]; exact hc xn y hy
            have HA := hideIt (lbAt_in hx (by omega) hy)
            have r1 : decide ((0 : Int) ≤ (xn : Int) ∧ (xn : Int) ≤ (j : Int)) = true := by simpa using hin
            have b3 : (0 : Int) ≤ (xn : Int) := by omega
            have b4 : (xn : Int) < (k : Int) := by omega
            have HJ : Hid (∀ W : World, Calls Tryz.prog 26 #[.int .i64 (xn : Int), .int .i64 0, .int .i64 (j : Int)] W fun e w' => e = .returned (.bool true) ∧ w' = W) := fun W => by
              have := l01In_any (xn : Int) 0 (j : Int) W
              rw [r1] at this
              exact this
            by_cases hyx : y = (xn : Int)
            · have r2 : (y != (xn : Int)) = false := by simpa using hyx
              have HY : Hid (lbAt ls j = true) := by show _ = _; rw [HA.out, hyx]; simp
              clear hc hx hy HA hyx
              go_wp2
              go_quiet ((go_at_call 26; exact Calls.quiet_of_same (HJ.out _)))
              go_wp2
              refine ⟨⟨j + 1, by omega, by go_num, fun t ht => ?_, ?_⟩, by simp [intOf]; omega⟩
              · by_cases h9 : t = j
                · subst h9; exact HY.out
                · exact hck.out t (by omega)
              · first | exact hb.drewN _ | exact below_drewN hb _ | exact hb
            · have r2 : (y != (xn : Int)) = true := by simpa using hyx
              have HN := hideIt (lbs_no (by omega : j < ls.length) (show lbAt ls j = false by rw [HA.out]; simpa using hyx))
              clear hc hx hy HA hyx hck
              go_wp2
              go_quiet ((go_at_call 26; exact Calls.quiet_of_same (HJ.out _)))
              go_wp2
              go_ret
              exact ⟨by rw [HB.out, HN.out]; rfl, by first | exact hb.drewN _ | exact below_drewN hb _ | exact hb⟩
          · have r1 : decide ((0 : Int) ≤ x ∧ x ≤ (j : Int)) = false := by simpa using hin
            have HN := hideIt (lbs_no (by omega : j < ls.length) (lbAt_out hx hin))
            have HJ : Hid (∀ W : World, Calls Tryz.prog 26 #[.int .i64 x, .int .i64 0, .int .i64 (j : Int)] W fun e w' => e = .returned (.bool false) ∧ w' = W) := fun W => by
              have := l01In_any x 0 (j : Int) W
              rw [r1] at this
              exact this
            clear hc hx hck hin
            go_wp2
            go_quiet ((go_at_call 26; exact Calls.quiet_of_same (HJ.out _)))
            go_wp2
            go_ret
            exact ⟨by rw [HB.out, HN.out]; rfl, by first | exact hb.drewN _ | exact below_drewN hb _ | exact hb⟩
      · have HY := hideIt (lbs_yes (ls := ls) (fun t ht => hck.out t (by omega)))
        clear hck
        go_wp2
        go_ret
        exact ⟨by rw [HB.out, HY.out]; rfl, hb⟩
  · have e0 : ((k : Int) != n) = true := by simpa using hn
    have HB : Hid (lB n ls = false) := by show _ = _; unfold lB; rw [decide_eq_false (by omega)]; rfl
    clear hrow
    go_enter Tryz.func67, Tryz.ntmps67
    go_wp2
    go_ret
    exact ⟨by rw [HB.out]; rfl, Below.refl _ _⟩

set_option maxRecDepth 100000 in
set_option maxHeartbeats 4000000 in
theorem labelsOk_any (n : Int) (ls : List Int) (k : Nat) (a : Option Addr) (c : Nat) (hk : k ≤ 1048576) (w : World) (h : Is w w.heap.size a k ls) :
    Calls Tryz.prog 89 #[.int .i64 n, .slice a k c] w fun e w' => e = .returned (.bool (lB n ls)) ∧ Below w.heap.size w w' := by
  obtain ⟨hlen, hrow⟩ := h
  by_cases hn : (k : Int) = n
  · subst hn
    have HB : Hid (lB (k : Int) ls = lbs ls) := by show _ = _; unfold lB; rw [decide_eq_true (by omega)]; rfl
    have HR := hideIt hrow
    have e0 : ((k : Int) != (k : Int)) = false := by simp
    clear hrow
    go_enter Tryz.func89, Tryz.ntmps89
    go_wp2
    go_loopw [13] (fun i wr => ∃ j : Nat, j ≤ k ∧ i = .int .i64 (j : Int) ∧ Hid (∀ t, t < j → lbAt ls t = true) ∧ Below w.heap.size w wr) (fun i _ => k - (intOf i).toNat)
    case atStart => exact ⟨0, by omega, rfl, fun t ht => by omega, Below.refl _ _⟩
    case round =>
      obtain ⟨j, hj, rfl, hck, hb⟩ := hrel
      by_cases hlt : j < k
      · rcases HR.out with hz | ⟨b, off, rfl, hbl, hc⟩
        · omega
        · obtain ⟨x, hx⟩ : ∃ x, ls[j]? = some x := ⟨ls[j]'(by omega), List.getElem?_eq_getElem (by omega)⟩
          have c0 : wr.cell? ⟨b, off + j, none⟩ = some (.int .i64 x) := by rw [hb.cell hbl]; exact hc j x hx
          have b1 : (0 : Int) ≤ (j : Int) := by omega
          have b2 : (j : Int) < (k : Int) := by omega
          by_cases hin : 0 ≤ x ∧ x ≤ (j : Int)
          · obtain ⟨xn, rfl⟩ := Int.eq_ofNat_of_zero_le hin.1
            obtain ⟨y, hy⟩ : ∃ y, ls[xn]? = some y := ⟨ls[xn]'(by omega), List.getElem?_eq_getElem (by omega)⟩
            have c1 : wr.cell? ⟨b, off + xn, none⟩ = some (.int .i64 y) := by rw [hb.cell hbl]; exact hc xn y hy
            have HA := hideIt (lbAt_in hx (by omega) hy)
            have r1 : decide ((xn : Int) < 0) = false := by simp
            have r3 : decide ((j : Int) < (xn : Int)) = false := by simp; omega
            have b3 : (0 : Int) ≤ (xn : Int) := by omega
            have b4 : (xn : Int) < (k : Int) := by omega
            by_cases hyx : y = (xn : Int)
            · have r2 : (y != (xn : Int)) = false := by simpa using hyx
              have HY : Hid (lbAt ls j = true) := by show _ = _; rw [HA.out, hyx]; simp
              clear hc hx hy HA hyx
              go_wp2
              refine ⟨⟨j + 1, by omega, by go_num, fun t ht => ?_, hb⟩, by simp [intOf]; omega⟩
              by_cases h9 : t = j
              · subst h9; exact HY.out
              · exact hck.out t (by omega)
            · have r2 : (y != (xn : Int)) = true := by simpa using hyx
              have HN := hideIt (lbs_no (by omega : j < ls.length) (show lbAt ls j = false by rw [HA.out]; simpa using hyx))
              clear hc hx hy HA hyx hck
              go_wp2
              go_ret
              exact ⟨by rw [HB.out, HN.out]; rfl, hb⟩
          · have HN := hideIt (lbs_no (by omega : j < ls.length) (lbAt_out hx hin))
            clear hc hx hck
            by_cases hneg : x < 0
            · have r1 : decide (x < 0) = true := by simpa using hneg
              clear hin
              go_wp2
              go_ret
              exact ⟨by rw [HB.out, HN.out]; rfl, hb⟩
            · have r1 : decide (x < 0) = false := by simpa using hneg
              have r3 : decide ((j : Int) < x) = true := by simp; omega
              clear hin
              go_wp2
              go_ret
              exact ⟨by rw [HB.out, HN.out]; rfl, hb⟩
      · have HY := hideIt (lbs_yes (ls := ls) (fun t ht => hck.out t (by omega)))
        clear hck
        go_wp2
        go_ret
        exact ⟨by rw [HB.out, HY.out]; rfl, hb⟩
  · have e0 : ((k : Int) != n) = true := by simpa using hn
    have HB : Hid (lB n ls = false) := by show _ = _; unfold lB; rw [decide_eq_false (by omega)]; rfl
    clear hrow
    go_enter Tryz.func89, Tryz.ntmps89
    go_wp2
    go_ret
    exact ⟨by rw [HB.out]; rfl, Below.refl _ _⟩

/-- an answer as a value -/
abbrev ansV (num : Int) (ok : Bool) (a : Option Addr) (k c : Nat) (a' : Option Addr) (k' c' : Nat) : Value := .agg #[.int .i64 num, .bool ok, .slice a k c, .slice a' k' c']
theorem Is.alloc {w : World} {a : Option Addr} {n : Nat} {ls : List Int} (h : Is w w.heap.size a n ls) (o : Obj) : Is (w.alloc o) (w.alloc o).heap.size a n ls := h.up (bel1 w o)

theorem aB_n {n : Int} {o : AnsV} (h : ¬ (1 ≤ n ∧ n ≤ 12)) : aB n o = false := by unfold aB; rw [decide_eq_false h]; rfl
theorem aB_num {n : Int} {o : AnsV} (h : ¬ (1 ≤ o.num ∧ o.num ≤ 100000)) : aB n o = false := by unfold aB; rw [decide_eq_false h]; simp
theorem aB_es {n : Int} {o : AnsV} (h : eOk n o.es = false) : aB n o = false := by unfold aB; rw [h]; simp
theorem aB_ls {n : Int} {o : AnsV} (h1 : 1 ≤ n ∧ n ≤ 12) (h2 : 1 ≤ o.num ∧ o.num ≤ 100000) (h3 : eOk n o.es = true) : aB n o = lB n o.ls := by unfold aB; rw [h3, decide_eq_true h1, decide_eq_true h2]; rfl
end Go.Proofs.YtcieanhbipbhgaaGreatDoor
