/- The specification's GraphOk and HasEdge. -/
import Derived.Test.YtfkoddhojcjohaaEdges
namespace Go.Proofs.Ytfkoddhojcjohaa
open Go.RowKit

/-- the one edge comes ahead of the other -/
def lt (d e : EdgeV) : Bool := decide (d.1 < e.1 ∨ d.1 = e.1 ∧ d.2 < e.2)

/-- the edge of place j is right, and comes behind the one ahead of it -/
def chkAt (n : Int) (es : List EdgeV) (j : Nat) : Bool :=
  match es[j]? with
  | none => true
  | some e => eB n e && (match j with
    | 0 => true
    | i + 1 => match es[i]? with
      | none => true
      | some d => lt d e)
/-- all of them are so -/
def chk (n : Int) (es : List EdgeV) : Bool := (List.range es.length).all (chkAt n es)
/-- the graph is right -/
def gB (N : Int) (es : List EdgeV) : Bool := decide (1 ≤ N ∧ N ≤ 12) && (chk N es && decide (es.length ≤ 66))

theorem chk_no {n : Int} {es : List EdgeV} {j : Nat} (hj : j < es.length) (h : chkAt n es j = false) : chk n es = false := by
  unfold chk
  rw [List.all_eq_false]
  exact ⟨j, List.mem_range.2 hj, by simp [h]⟩
theorem chk_yes {n : Int} {es : List EdgeV} (h : ∀ j, j < es.length → chkAt n es j = true) : chk n es = true := by
  unfold chk
  rw [List.all_eq_true]
  exact fun j hj => h j (List.mem_range.1 hj)
theorem chkAt_zero {n : Int} {es : List EdgeV} {e : EdgeV} (h : es[0]? = some e) : chkAt n es 0 = eB n e := by simp [chkAt, h]
theorem chkAt_succ {n : Int} {es : List EdgeV} {i : Nat} {d e : EdgeV} (h : es[i + 1]? = some e) (hd : es[i]? = some d) : chkAt n es (i + 1) = (eB n e && lt d e) := by simp only [chkAt, h, hd]
theorem chkAt_no {n : Int} {es : List EdgeV} {j : Nat} {e : EdgeV} (h : es[j]? = some e) (he : eB n e = false) : chkAt n es j = false := by simp only [chkAt, h, he, Bool.false_and]

theorem l05Less_any (d e : EdgeV) (w : World) :
    Calls Try.prog 58 #[.agg #[.int .i64 d.1, .int .i64 d.2], .agg #[.int .i64 e.1, .int .i64 e.2]] w fun x w' => x = .returned (.bool (lt d e)) ∧ Below w.heap.size w w' := by
  obtain ⟨a, b⟩ := d
  obtain ⟨c, f⟩ := e
  dsimp only
  by_cases h1 : a < c
  · have r1 : decide (a < c) = true := by simpa using h1
    go_enter Try.func58, Try.ntmps58
    go_wp2
    go_ret
    exact ⟨by simp [lt]; omega, ((Below.refl _ _).alloc (Nat.le_refl _) _).alloc (by simp) _⟩
  · have r1 : decide (a < c) = false := by simpa using h1
    by_cases h2 : a = c
    · subst h2
      go_enter Try.func58, Try.ntmps58
      go_wp2
      go_ret
      exact ⟨bret (by dsimp only; omega), ((Below.refl _ _).alloc (Nat.le_refl _) _).alloc (by simp) _⟩
    · have r2 : (a == c) = false := by simpa using h2
      go_enter Try.func58, Try.ntmps58
      go_wp2
      go_ret
      exact ⟨by simp [lt]; omega, ((Below.refl _ _).alloc (Nat.le_refl _) _).alloc (by simp) _⟩

set_option maxRecDepth 100000 in
set_option maxHeartbeats 2000000 in
theorem l05Edges_any (N : Int) (es : List EdgeV) (n : Nat) (a : Option Addr) (c : Nat) (hn : n ≤ 1048576) (w : World) (h : Es w w.heap.size a n es) :
    Calls Try.prog 43 #[.int .i64 N, .slice a n c] w fun e w' => e = .returned (.bool (chk N es && decide (es.length ≤ 66))) ∧ Below w.heap.size w w' := by
  obtain ⟨hlen, hrow⟩ := h
  have HR := hideIt hrow
  have HL := hideIt hlen
  clear hrow
  go_enter Try.func43, Try.ntmps43
  go_wp2
  go_loopw [5] (fun i wr => ∃ k : Nat, k ≤ n ∧ i = .int .i64 (k : Int) ∧ Hid (∀ j, j < k → chkAt N es j = true) ∧ Below w.heap.size w wr) (fun i _ => n - (intOf i).toNat)
  case atStart => exact ⟨0, by omega, rfl, fun j hj => by omega, Below.refl _ _⟩
  case round =>
    obtain ⟨k, hk, rfl, hck, hb⟩ := hrel
    by_cases hlt : k < n
    · rcases HR.out with hz | ⟨b, off, rfl, hbl, hc⟩
      · omega
      · obtain ⟨f, hf⟩ : ∃ f, es[k]? = some f := ⟨es[k]'(by omega), List.getElem?_eq_getElem (by omega)⟩
        obtain ⟨c0, c1⟩ := hc k f hf
        have e0 : wr.cell? ⟨b, off + k * 2, none⟩ = some (.int .i64 f.1) := by rw [hb.cell hbl]; exact c0
        have e1 : wr.cell? ⟨b, off + k * 2 + 1, none⟩ = some (.int .i64 f.2) := by rw [hb.cell hbl]; exact c1
        have b1 : (0 : Int) ≤ (k : Int) := by omega
        have b2 : (k : Int) < (n : Int) := by omega
        have hbd := hb.drew
        have HE : Hid (∀ W : World, Below w.heap.size w W → Calls Try.prog 24 #[.int .i64 N, .agg #[.int .i64 f.1, .int .i64 f.2]] W fun e w' => e = .returned (.bool (eB N f)) ∧ Below w.heap.size w w') := fun W hW =>
          (sEdgeOk_any N f W).mono fun _ _ ⟨he, hb'⟩ => ⟨he, hW.trans (hb'.mono hW.size)⟩
        have HK : Hid (∀ W : World, Below w.heap.size w W → (W.cell? ⟨b, off + k * 2, none⟩ = some (.int .i64 f.1) ∧ W.cell? ⟨b, off + k * 2 + 1, none⟩ = some (.int .i64 f.2))) := fun W hW =>
          ⟨by rw [hW.cell hbl]; exact c0, by rw [hW.cell hbl]; exact c1⟩
        cases hE : eB N f with
        | false =>
          rw [hE] at HE
          have HN := hideIt (chk_no (by omega : k < es.length) (chkAt_no hf hE))
          clear hf hc c0 c1 hE hck
          go_wp2
          refine wp_region_any (by kernel_rfl) ?_
          change wpAny _ _ _ _ _ _ _ (World.drew _)
          refine takeOp (i := 0) (v := ?_) rfl (by kernel_rfl) (by kernel_rfl) (by kernel_rfl) (fun _ _ _ h => h) (by kernel_rfl) ?_ ?_
          rotate_left
          · intro w; go_simp; try with_reducible rfl
          refine takeOp (i := 1) (v := ?_) rfl (by kernel_rfl) (by kernel_rfl) (by kernel_rfl) (fun _ _ _ h => h) (by kernel_rfl) ?_ ?_
          rotate_left
          · intro w; go_simp; try with_reducible rfl
          refine takeOp (i := 2) (v := ?_) rfl (by kernel_rfl) (by kernel_rfl) (by kernel_rfl) (fun _ _ _ h => h) (by kernel_rfl) ?_ ?_
          rotate_left
          · intro w; go_simp; try with_reducible rfl
          refine wpAny_ready (rs := [3]) (by kernel_rfl) (by simp) ?_
          refine AllReady.cons rfl (fun K hK => ?_) AllReady.nil
          go_simp
          refine hK _ _ ?_
          clear hK K
          refine wpAny_ready (rs := [4]) (by kernel_rfl) (by simp) ?_
          refine AllReady.cons rfl (fun K hK => ?_) AllReady.nil
          go_simp
          refine hK _ _ ?_
          clear hK K
          refine wpAny_ready (rs := [5]) (by kernel_rfl) (by simp) ?_
          refine AllReady.cons rfl (fun K hK => ?_) AllReady.nil
          go_wp2_with (go_at_call 24; refine (HE.out _ hbd).mono ?_; rintro e w1 ⟨rfl, hb3⟩; refine Hid.out ?_)
          refine (show ∀ {p : Prop}, p → Hid p from fun h => h) ?_
          try refine hK _ _ ?_
          clear hK K
          refine wpAny_ready (rs := [6]) (by kernel_rfl) (by simp) ?_
          refine AllReady.cons rfl (fun K hK => ?_) AllReady.nil
          go_simp
          refine hK _ _ ?_
          clear hK K
          refine wpAny_ready (rs := [7]) (by kernel_rfl) (by simp) ?_
          refine AllReady.cons rfl (fun K hK => ?_) AllReady.nil
          go_simp
          refine hK _ _ ?_
          clear hK K
          refine skipOp (i := 8) rfl (by kernel_rfl) (by kernel_rfl) (by kernel_rfl) (fun _ _ _ h => h) (by kernel_rfl) ?_
          refine skipOp (i := 9) rfl (by kernel_rfl) (by kernel_rfl) (by kernel_rfl) (fun _ _ _ h => h) (by kernel_rfl) ?_
          refine skipOp (i := 10) rfl (by kernel_rfl) (by kernel_rfl) (by kernel_rfl) (fun _ _ _ h => h) (by kernel_rfl) ?_
          refine skipOp (i := 11) rfl (by kernel_rfl) (by kernel_rfl) (by kernel_rfl) (fun _ _ _ h => h) (by kernel_rfl) ?_
          refine skipOp (i := 12) rfl (by kernel_rfl) (by kernel_rfl) (by kernel_rfl) (fun _ _ _ h => h) (by kernel_rfl) ?_
          refine skipOp (i := 13) rfl (by kernel_rfl) (by kernel_rfl) (by kernel_rfl) (fun _ _ _ h => h) (by kernel_rfl) ?_
          refine skipOp (i := 14) rfl (by kernel_rfl) (by kernel_rfl) (by kernel_rfl) (fun _ _ _ h => h) (by kernel_rfl) ?_
          refine skipOp (i := 15) rfl (by kernel_rfl) (by kernel_rfl) (by kernel_rfl) (fun _ _ _ h => h) (by kernel_rfl) ?_
          refine skipOp (i := 16) rfl (by kernel_rfl) (by kernel_rfl) (by kernel_rfl) (fun _ _ _ h => h) (by kernel_rfl) ?_
          refine skipOp (i := 17) rfl (by kernel_rfl) (by kernel_rfl) (by kernel_rfl) (fun _ _ _ h => h) (by kernel_rfl) ?_
          refine skipOp (i := 18) rfl (by kernel_rfl) (by kernel_rfl) (by kernel_rfl) (fun _ _ _ h => h) (by kernel_rfl) ?_
          refine skipOp (i := 19) rfl (by kernel_rfl) (by kernel_rfl) (by kernel_rfl) (fun _ _ _ h => h) (by kernel_rfl) ?_
          refine skipOp (i := 20) rfl (by kernel_rfl) (by kernel_rfl) (by kernel_rfl) (fun _ _ _ h => h) (by kernel_rfl) ?_
          refine skipOp (i := 21) rfl (by kernel_rfl) (by kernel_rfl) (by kernel_rfl) (fun _ _ _ h => h) (by kernel_rfl) ?_
          refine skipOp (i := 22) rfl (by kernel_rfl) (by kernel_rfl) (by kernel_rfl) (fun _ _ _ h => h) (by kernel_rfl) ?_
          refine wpAny_ready (rs := [23]) (by kernel_rfl) (by simp) ?_
          refine AllReady.cons rfl (fun K hK => ?_) AllReady.nil
          go_simp
          refine hK _ _ ?_
          clear hK K
          refine wpAny_done (by kernel_rfl) ?_ _
          go_wp2
          go_ret
          exact ⟨by rw [HN.out]; rfl, hb3⟩
        | true =>
          rw [hE] at HE
          rcases k with _ | i
          · have HY := hideIt (show chkAt N es 0 = true by rw [chkAt_zero hf]; exact hE)
            clear hf hc c0 c1 hE
            rw [Nat.zero_mul, Nat.add_zero] at e0 e1
            go_wp2
            refine wp_region_any (by kernel_rfl) ?_
            change wpAny _ _ _ _ _ _ _ (World.drew _)
            refine takeOp (i := 0) (v := ?_) rfl (by kernel_rfl) (by kernel_rfl) (by kernel_rfl) (fun _ _ _ h => h) (by kernel_rfl) ?_ ?_
            rotate_left
            · intro w; go_simp; try with_reducible rfl
            refine takeOp (i := 1) (v := ?_) rfl (by kernel_rfl) (by kernel_rfl) (by kernel_rfl) (fun _ _ _ h => h) (by kernel_rfl) ?_ ?_
            rotate_left
            · intro w; go_simp; try with_reducible rfl
            refine takeOp (i := 2) (v := ?_) rfl (by kernel_rfl) (by kernel_rfl) (by kernel_rfl) (fun _ _ _ h => h) (by kernel_rfl) ?_ ?_
            rotate_left
            · intro w; go_simp; try with_reducible rfl
            refine wpAny_ready (rs := [3]) (by kernel_rfl) (by simp) ?_
            refine AllReady.cons rfl (fun K hK => ?_) AllReady.nil
            go_simp
            refine hK _ _ ?_
            clear hK K
            refine wpAny_ready (rs := [4]) (by kernel_rfl) (by simp) ?_
            refine AllReady.cons rfl (fun K hK => ?_) AllReady.nil
            go_simp
            refine hK _ _ ?_
            clear hK K
            refine wpAny_ready (rs := [5]) (by kernel_rfl) (by simp) ?_
            refine AllReady.cons rfl (fun K hK => ?_) AllReady.nil
            go_wp2_with (go_at_call 24; refine (HE.out _ hbd).mono ?_; rintro e w1 ⟨rfl, hb3⟩; refine Hid.out ?_)
            refine (show ∀ {p : Prop}, p → Hid p from fun h => h) ?_
            try refine hK _ _ ?_
            clear hK K
            refine wpAny_ready (rs := [6]) (by kernel_rfl) (by simp) ?_
            refine AllReady.cons rfl (fun K hK => ?_) AllReady.nil
            go_simp
            refine hK _ _ ?_
            clear hK K
            refine wpAny_ready (rs := [7]) (by kernel_rfl) (by simp) ?_
            refine AllReady.cons rfl (fun K hK => ?_) AllReady.nil
            go_simp
            refine hK _ _ ?_
            clear hK K
            refine wpAny_ready (rs := [8]) (by kernel_rfl) (by simp) ?_
            refine AllReady.cons rfl (fun K hK => ?_) AllReady.nil
            go_simp
            refine hK _ _ ?_
            clear hK K
            refine wpAny_ready (rs := [9]) (by kernel_rfl) (by simp) ?_
            refine AllReady.cons rfl (fun K hK => ?_) AllReady.nil
            go_simp
            refine hK _ _ ?_
            clear hK K
            refine wpAny_ready (rs := [10]) (by kernel_rfl) (by simp) ?_
            refine AllReady.cons rfl (fun K hK => ?_) AllReady.nil
            go_simp
            refine hK _ _ ?_
            clear hK K
            refine skipOp (i := 11) rfl (by kernel_rfl) (by kernel_rfl) (by kernel_rfl) (fun _ _ _ h => h) (by kernel_rfl) ?_
            refine skipOp (i := 12) rfl (by kernel_rfl) (by kernel_rfl) (by kernel_rfl) (fun _ _ _ h => h) (by kernel_rfl) ?_
            refine skipOp (i := 13) rfl (by kernel_rfl) (by kernel_rfl) (by kernel_rfl) (fun _ _ _ h => h) (by kernel_rfl) ?_
            refine skipOp (i := 14) rfl (by kernel_rfl) (by kernel_rfl) (by kernel_rfl) (fun _ _ _ h => h) (by kernel_rfl) ?_
            refine skipOp (i := 15) rfl (by kernel_rfl) (by kernel_rfl) (by kernel_rfl) (fun _ _ _ h => h) (by kernel_rfl) ?_
            refine skipOp (i := 16) rfl (by kernel_rfl) (by kernel_rfl) (by kernel_rfl) (fun _ _ _ h => h) (by kernel_rfl) ?_
            refine skipOp (i := 17) rfl (by kernel_rfl) (by kernel_rfl) (by kernel_rfl) (fun _ _ _ h => h) (by kernel_rfl) ?_
            refine skipOp (i := 18) rfl (by kernel_rfl) (by kernel_rfl) (by kernel_rfl) (fun _ _ _ h => h) (by kernel_rfl) ?_
            refine skipOp (i := 19) rfl (by kernel_rfl) (by kernel_rfl) (by kernel_rfl) (fun _ _ _ h => h) (by kernel_rfl) ?_
            refine skipOp (i := 20) rfl (by kernel_rfl) (by kernel_rfl) (by kernel_rfl) (fun _ _ _ h => h) (by kernel_rfl) ?_
            refine skipOp (i := 21) rfl (by kernel_rfl) (by kernel_rfl) (by kernel_rfl) (fun _ _ _ h => h) (by kernel_rfl) ?_
            refine wpAny_ready (rs := [22]) (by kernel_rfl) (by simp) ?_
            refine AllReady.cons rfl (fun K hK => ?_) AllReady.nil
            go_simp
            refine hK _ _ ?_
            clear hK K
            refine wpAny_ready (rs := [23]) (by kernel_rfl) (by simp) ?_
            refine AllReady.cons rfl (fun K hK => ?_) AllReady.nil
            go_simp
            refine hK _ _ ?_
            clear hK K
            refine wpAny_done (by kernel_rfl) ?_ _
            go_wp2
            exact ⟨⟨1, by omega, by go_num, fun j hj => by
              obtain rfl : j = 0 := by omega
              exact HY.out, hb3⟩, by simp [intOf]; omega⟩
          · obtain ⟨d, hd⟩ : ∃ d, es[i]? = some d := ⟨es[i]'(by omega), List.getElem?_eq_getElem (by omega)⟩
            obtain ⟨c2, c3⟩ := hc i d hd
            have HK2 : Hid (∀ W : World, Below w.heap.size w W → (W.cell? ⟨b, off + i * 2, none⟩ = some (.int .i64 d.1) ∧ W.cell? ⟨b, off + i * 2 + 1, none⟩ = some (.int .i64 d.2))) := fun W hW =>
              ⟨by rw [hW.cell hbl]; exact c2, by rw [hW.cell hbl]; exact c3⟩
            have HC := hideIt (chkAt_succ (n := N) hf hd)
            have HL2 : Hid (∀ W : World, Below w.heap.size w W → Calls Try.prog 58 #[.agg #[.int .i64 d.1, .int .i64 d.2], .agg #[.int .i64 f.1, .int .i64 f.2]] W fun e w' => e = .returned (.bool (lt d f)) ∧ Below w.heap.size w w') := fun W hW =>
              (l05Less_any d f W).mono fun _ _ ⟨he, hb'⟩ => ⟨he, hW.trans (hb'.mono hW.size)⟩
            have HE0 := hideIt hE
            have ek : ((i + 1 : Nat) : Int) = (i : Int) + 1 := by omega
            rw [ek] at b1 b2
            have b3 : (0 : Int) ≤ (i : Int) := by omega
            have b4 : (i : Int) < (n : Int) := by omega
            have tn : ((i : Int) + 1).toNat = i + 1 := by omega
            have d0 : decide ((0 : Int) < (i : Int) + 1) = true := decide_eq_true (by omega)
            have hw1 : IntKind.i64.wrap (i : Int) = (i : Int) := by rw [IntKind.wrap_i64]; omega
            rw [ek]
            clear ek hf hd hc c0 c1 c2 c3 hE
            cases hL : lt d f with
            | true =>
              rw [hL] at HL2
              have HY := hideIt (show chkAt N es (i + 1) = true by rw [HC.out, HE0.out, hL]; rfl)
              clear HC hL HE0
              go_wp2
              go_region_held3 (fun u => Below w.heap.size w u ∧ (u.cell? ⟨b, off + (i + 1) * 2, none⟩ = some (.int .i64 f.1) ∧ u.cell? ⟨b, off + (i + 1) * 2 + 1, none⟩ = some (.int .i64 f.2)) ∧ u.cell? ⟨b, off + i * 2, none⟩ = some (.int .i64 d.1) ∧ u.cell? ⟨b, off + i * 2 + 1, none⟩ = some (.int .i64 d.2))
                (first | exact ⟨hb4, HK.out _ hb4, HK2.out _ hb4⟩ | exact ⟨hb3, HK.out _ hb3, HK2.out _ hb3⟩ | exact ⟨hbd, HK.out _ hbd, HK2.out _ hbd⟩)
                (first
                | (go_at_call 24; refine (HE.out _ hbd).mono ?_; rintro e w1 ⟨rfl, hb3⟩)
                | (go_at_call 58; refine (HL2.out _ hb3).mono ?_; rintro e w2 ⟨rfl, hb4⟩))
              all_goals
                go_wp2
                exact ⟨⟨i + 2, by omega, by go_num, fun j hj => by
                  by_cases hji : j = i + 1
                  · subst hji; exact HY.out
                  · exact hck.out j (by omega), hb4⟩, by simp [intOf]; omega⟩
            | false =>
              rw [hL] at HL2
              have HN := hideIt (chk_no (by omega : i + 1 < es.length) (show chkAt N es (i + 1) = false by rw [HC.out, HE0.out, hL]; rfl))
              clear HC hL HE0
              go_wp2
              go_region_held3 (fun u => Below w.heap.size w u ∧ (u.cell? ⟨b, off + (i + 1) * 2, none⟩ = some (.int .i64 f.1) ∧ u.cell? ⟨b, off + (i + 1) * 2 + 1, none⟩ = some (.int .i64 f.2)) ∧ u.cell? ⟨b, off + i * 2, none⟩ = some (.int .i64 d.1) ∧ u.cell? ⟨b, off + i * 2 + 1, none⟩ = some (.int .i64 d.2))
                (first | exact ⟨hb4, HK.out _ hb4, HK2.out _ hb4⟩ | exact ⟨hb3, HK.out _ hb3, HK2.out _ hb3⟩ | exact ⟨hbd, HK.out _ hbd, HK2.out _ hbd⟩)
                (first
                | (go_at_call 24; refine (HE.out _ hbd).mono ?_; rintro e w1 ⟨rfl, hb3⟩)
                | (go_at_call 58; refine (HL2.out _ hb3).mono ?_; rintro e w2 ⟨rfl, hb4⟩))
              all_goals
                go_wp2
                go_ret
                exact ⟨by rw [HN.out]; rfl, hb4⟩
    · have HY := hideIt (chk_yes (n := N) (es := es) (fun j hj => hck.out j (by omega)))
      clear hck
      go_wp2
      go_ret
      exact ⟨by rw [HY.out, HL.out]; simp; omega, hb⟩
end Go.Proofs.Ytfkoddhojcjohaa
