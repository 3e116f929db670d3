/- The specification's GraphOk and HasEdge. The specification's GraphOk and HasEdge. Edges that ascend: where one is put in, and what is left without one. (No walk.). The library's comparisons; the program's compareEdges. The library's BinarySearchFunc over edges, at the program's compareEdges. The library's Grow (of nothing) and Concat, over edges. -/
import Derived.Test.YtkkplppcgnikoaaGreatKMarkE
import Derived.Lib.AppendZerosOnto
import Derived.Lib.Walk
import Derived.Lib.SliceRun
import Derived.Laws.AppendOwnNone
namespace Go.Proofs.YtkkplppcgnikoaaGreat.O
open Go.RowKit

/-- the one edge comes ahead of the other -/
def lt (d e : EdgeV) : Bool := decide (d.1 < e.1 ∨ d.1 = e.1 ∧ d.2 < e.2)

/-- the edge of place j is right, and comes behind the one ahead of it -/
def chkAt (n : Int) (es : List EdgeV) (j : Nat) : Bool :=
  match es[j]? with
  | none => true
  | some e => eB n e && (match j with
    | 0 => true
    | i + 1 => match es[i]? with
      | none => true
      | some d => lt d e)
/-- all of them are so -/
def chk (n : Int) (es : List EdgeV) : Bool := (List.range es.length).all (chkAt n es)
/-- the graph is right -/
def gB (N : Int) (es : List EdgeV) : Bool := decide (1 ≤ N ∧ N ≤ 12) && (chk N es && decide (es.length ≤ 66))

theorem chk_no {n : Int} {es : List EdgeV} {j : Nat} (hj : j < es.length) (h : chkAt n es j = false) : chk n es = false := by
  unfold chk
  rw [List.all_eq_false]
  exact ⟨j, List.mem_range.2 hj, by simp [h]⟩
theorem chk_yes {n : Int} {es : List EdgeV} (h : ∀ j, j < es.length → chkAt n es j = true) : chk n es = true := by
  unfold chk
  rw [List.all_eq_true]
  exact fun j hj => h j (List.mem_range.1 hj)
theorem chkAt_zero {n : Int} {es : List EdgeV} {e : EdgeV} (h : es[0]? = some e) : chkAt n es 0 = eB n e := by simp [chkAt, h]
theorem chkAt_succ {n : Int} {es : List EdgeV} {i : Nat} {d e : EdgeV} (h : es[i + 1]? = some e) (hd : es[i]? = some d) : chkAt n es (i + 1) = (eB n e && lt d e) := by simp only [chkAt, h, hd]
theorem chkAt_no {n : Int} {es : List EdgeV} {j : Nat} {e : EdgeV} (h : es[j]? = some e) (he : eB n e = false) : chkAt n es j = false := by simp only [chkAt, h, he, Bool.false_and]

theorem l05Less_any (d e : EdgeV) (w : World) :
    Calls Tryz.prog 167 #[.agg #[.int .i64 d.1, .int .i64 d.2], .agg #[.int .i64 e.1, .int .i64 e.2]] w fun x w' => x = .returned (.bool (lt d e)) ∧ Below w.heap.size w w' := by
  obtain ⟨a, b⟩ := d
  obtain ⟨c, f⟩ := e
  dsimp only
  by_cases h1 : a < c
  · have r1 : decide (a < c) = true := by simpa using h1
    go_enter Tryz.func167, Tryz.ntmps167
    go_wp2
    go_ret
    exact ⟨by simp [lt]; omega, ((Below.refl _ _).alloc (Nat.le_refl _) _).alloc (by simp) _⟩
  · have r1 : decide (a < c) = false := by simpa using h1
    by_cases h2 : a = c
    · subst h2
      go_enter Tryz.func167, Tryz.ntmps167
      go_wp2
      go_ret
      exact ⟨bret (by dsimp only; omega), ((Below.refl _ _).alloc (Nat.le_refl _) _).alloc (by simp) _⟩
    · have r2 : (a == c) = false := by simpa using h2
      go_enter Tryz.func167, Tryz.ntmps167
      go_wp2
      go_ret
      exact ⟨by simp [lt]; omega, ((Below.refl _ _).alloc (Nat.le_refl _) _).alloc (by simp) _⟩

set_option maxRecDepth 100000 in
set_option maxHeartbeats 2000000 in
theorem l05Edges_any (N : Int) (es : List EdgeV) (n : Nat) (a : Option Addr) (c : Nat) (hn : n ≤ 1048576) (w : World) (h : Es w w.heap.size a n es) :
    Calls Tryz.prog 158 #[.int .i64 N, .slice a n c] w fun e w' => e = .returned (.bool (chk N es && decide (es.length ≤ 66))) ∧ Below w.heap.size w w' := by
  obtain ⟨hlen, hrow⟩ := h
  have HR := hideIt hrow
  have HL := hideIt hlen
  clear hrow
  go_enter Tryz.func158, Tryz.ntmps158
  go_wp2
  go_loopw [5] (fun i wr => ∃ k : Nat, k ≤ n ∧ i = .int .i64 (k : Int) ∧ Hid (∀ j, j < k → chkAt N es j = true) ∧ Below w.heap.size w wr) (fun i _ => n - (intOf i).toNat)
  case atStart => exact ⟨0, by omega, rfl, fun j hj => by omega, Below.refl _ _⟩
  case round =>
    obtain ⟨k, hk, rfl, hck, hb⟩ := hrel
    by_cases hlt : k < n
    · rcases HR.out with hz | ⟨b, off, rfl, hbl, hc⟩
      · omega
      · obtain ⟨f, hf⟩ : ∃ f, es[k]? = some f := ⟨es[k]'(by omega), List.getElem?_eq_getElem (by omega)⟩
        obtain ⟨c0, c1⟩ := hc k f hf
        have e0 : wr.cell? ⟨b, off + k * 2, none⟩ = some (.int .i64 f.1) := by rw [hb.cell hbl]; exact c0
        have e1 : wr.cell? ⟨b, off + k * 2 + 1, none⟩ = some (.int .i64 f.2) := by rw [hb.cell hbl]; exact c1
        have b1 : (0 : Int) ≤ (k : Int) := by omega
        have b2 : (k : Int) < (n : Int) := by omega
        have hbd := hb.drew
        have HE : Hid (∀ W : World, Below w.heap.size w W → Calls Tryz.prog 77 #[.int .i64 N, .agg #[.int .i64 f.1, .int .i64 f.2]] W fun e w' => e = .returned (.bool (eB N f)) ∧ Below w.heap.size w w') := fun W hW =>
          (sEdgeOk_any N f W).mono fun _ _ ⟨he, hb'⟩ => ⟨he, hW.trans (hb'.mono hW.size)⟩
        have HK : Hid (∀ W : World, Below w.heap.size w W → (W.cell? ⟨b, off + k * 2, none⟩ = some (.int .i64 f.1) ∧ W.cell? ⟨b, off + k * 2 + 1, none⟩ = some (.int .i64 f.2))) := fun W hW =>
          ⟨by rw [hW.cell hbl]; exact c0, by rw [hW.cell hbl]; exact c1⟩
        cases hE : eB N f with
        | false =>
          rw [hE] at HE
          have HN := hideIt (chk_no (by omega : k < es.length) (chkAt_no hf hE))
          clear hf hc c0 c1 hE hck
          go_wp2
          refine wp_region_any (by kernel_rfl) ?_
          change wpAny _ _ _ _ _ _ _ (World.drew _)
          refine takeOp (i := 0) (v := ?_) rfl (by kernel_rfl) (by kernel_rfl) (by kernel_rfl) (fun _ _ _ h => h) (by kernel_rfl) ?_ ?_
          rotate_left
          · intro w; go_simp; try with_reducible rfl
          refine takeOp (i := 1) (v := ?_) rfl (by kernel_rfl) (by kernel_rfl) (by kernel_rfl) (fun _ _ _ h => h) (by kernel_rfl) ?_ ?_
          rotate_left
          · intro w; go_simp; try with_reducible rfl
          refine takeOp (i := 2) (v := ?_) rfl (by kernel_rfl) (by kernel_rfl) (by kernel_rfl) (fun _ _ _ h => h) (by kernel_rfl) ?_ ?_
          rotate_left
          · intro w; go_simp; try with_reducible rfl
          refine wpAny_ready (rs := [3]) (by kernel_rfl) (by simp) ?_
          refine AllReady.cons rfl (fun K hK => ?_) AllReady.nil
          go_simp
          refine hK _ _ ?_
          clear hK K
          refine wpAny_ready (rs := [4]) (by kernel_rfl) (by simp) ?_
          refine AllReady.cons rfl (fun K hK => ?_) AllReady.nil
          go_simp
          refine hK _ _ ?_
          clear hK K
          refine wpAny_ready (rs := [5]) (by kernel_rfl) (by simp) ?_
          refine AllReady.cons rfl (fun K hK => ?_) AllReady.nil
          go_wp2_with (go_at_call 77; refine (HE.out _ hbd).mono ?_; rintro e w1 ⟨rfl, hb3⟩; refine Hid.out ?_)
          refine (show ∀ {p : Prop}, p → Hid p from fun h => h) ?_
          try refine hK _ _ ?_
          clear hK K
          refine wpAny_ready (rs := [6]) (by kernel_rfl) (by simp) ?_
          refine AllReady.cons rfl (fun K hK => ?_) AllReady.nil
          go_simp
          refine hK _ _ ?_
          clear hK K
          refine wpAny_ready (rs := [7]) (by kernel_rfl) (by simp) ?_
          refine AllReady.cons rfl (fun K hK => ?_) AllReady.nil
          go_simp
          refine hK _ _ ?_
          clear hK K
          refine skipOp (i := 8) rfl (by kernel_rfl) (by kernel_rfl) (by kernel_rfl) (fun _ _ _ h => h) (by kernel_rfl) ?_
          refine skipOp (i := 9) rfl (by kernel_rfl) (by kernel_rfl) (by kernel_rfl) (fun _ _ _ h => h) (by kernel_rfl) ?_
          refine skipOp (i := 10) rfl (by kernel_rfl) (by kernel_rfl) (by kernel_rfl) (fun _ _ _ h => h) (by kernel_rfl) ?_
          refine skipOp (i := 11) rfl (by kernel_rfl) (by kernel_rfl) (by kernel_rfl) (fun _ _ _ h => h) (by kernel_rfl) ?_
          refine skipOp (i := 12) rfl (by kernel_rfl) (by kernel_rfl) (by kernel_rfl) (fun _ _ _ h => h) (by kernel_rfl) ?_
          refine skipOp (i := 13) rfl (by kernel_rfl) (by kernel_rfl) (by kernel_rfl) (fun _ _ _ h => h) (by kernel_rfl) ?_
          refine skipOp (i := 14) rfl (by kernel_rfl) (by kernel_rfl) (by kernel_rfl) (fun _ _ _ h => h) (by kernel_rfl) ?_
          refine skipOp (i := 15) rfl (by kernel_rfl) (by kernel_rfl) (by kernel_rfl) (fun _ _ _ h => h) (by kernel_rfl) ?_
          refine skipOp (i := 16) rfl (by kernel_rfl) (by kernel_rfl) (by kernel_rfl) (fun _ _ _ h => h) (by kernel_rfl) ?_
          refine skipOp (i := 17) rfl (by kernel_rfl) (by kernel_rfl) (by kernel_rfl) (fun _ _ _ h => h) (by kernel_rfl) ?_
          refine skipOp (i := 18) rfl (by kernel_rfl) (by kernel_rfl) (by kernel_rfl) (fun _ _ _ h => h) (by kernel_rfl) ?_
          refine skipOp (i := 19) rfl (by kernel_rfl) (by kernel_rfl) (by kernel_rfl) (fun _ _ _ h => h) (by kernel_rfl) ?_
          refine skipOp (i := 20) rfl (by kernel_rfl) (by kernel_rfl) (by kernel_rfl) (fun _ _ _ h => h) (by kernel_rfl) ?_
          refine skipOp (i := 21) rfl (by kernel_rfl) (by kernel_rfl) (by kernel_rfl) (fun _ _ _ h => h) (by kernel_rfl) ?_
          refine skipOp (i := 22) rfl (by kernel_rfl) (by kernel_rfl) (by kernel_rfl) (fun _ _ _ h => h) (by kernel_rfl) ?_
          refine wpAny_ready (rs := [23]) (by kernel_rfl) (by simp) ?_
          refine AllReady.cons rfl (fun K hK => ?_) AllReady.nil
          go_simp
          refine hK _ _ ?_
          clear hK K
          refine wpAny_done (by kernel_rfl) ?_ _
          go_wp2
          go_ret
          exact ⟨by rw [HN.out]; rfl, hb3⟩
        | true =>
          rw [hE] at HE
          rcases k with _ | i
          · have HY := hideIt (show chkAt N es 0 = true by rw [chkAt_zero hf]; exact hE)
            clear hf hc c0 c1 hE
            rw [Nat.zero_mul, Nat.add_zero] at e0 e1
            go_wp2
            refine wp_region_any (by kernel_rfl) ?_
            change wpAny _ _ _ _ _ _ _ (World.drew _)
            refine takeOp (i := 0) (v := ?_) rfl (by kernel_rfl) (by kernel_rfl) (by kernel_rfl) (fun _ _ _ h => h) (by kernel_rfl) ?_ ?_
            rotate_left
            · intro w; go_simp; try with_reducible rfl
            refine takeOp (i := 1) (v := ?_) rfl (by kernel_rfl) (by kernel_rfl) (by kernel_rfl) (fun _ _ _ h => h) (by kernel_rfl) ?_ ?_
            rotate_left
            · intro w; go_simp; try with_reducible rfl
            refine takeOp (i := 2) (v := ?_) rfl (by kernel_rfl) (by kernel_rfl) (by kernel_rfl) (fun _ _ _ h => h) (by kernel_rfl) ?_ ?_
            rotate_left
            · intro w; go_simp; try with_reducible rfl
            refine wpAny_ready (rs := [3]) (by kernel_rfl) (by simp) ?_
            refine AllReady.cons rfl (fun K hK => ?_) AllReady.nil
            go_simp
            refine hK _ _ ?_
            clear hK K
            refine wpAny_ready (rs := [4]) (by kernel_rfl) (by simp) ?_
            refine AllReady.cons rfl (fun K hK => ?_) AllReady.nil
            go_simp
            refine hK _ _ ?_
            clear hK K
            refine wpAny_ready (rs := [5]) (by kernel_rfl) (by simp) ?_
            refine AllReady.cons rfl (fun K hK => ?_) AllReady.nil
            go_wp2_with (go_at_call 77; refine (HE.out _ hbd).mono ?_; rintro e w1 ⟨rfl, hb3⟩; refine Hid.out ?_)
            refine (show ∀ {p : Prop}, p → Hid p from fun h => h) ?_
            try refine hK _ _ ?_
            clear hK K
            refine wpAny_ready (rs := [6]) (by kernel_rfl) (by simp) ?_
            refine AllReady.cons rfl (fun K hK => ?_) AllReady.nil
            go_simp
            refine hK _ _ ?_
            clear hK K
            refine wpAny_ready (rs := [7]) (by kernel_rfl) (by simp) ?_
            refine AllReady.cons rfl (fun K hK => ?_) AllReady.nil
            go_simp
            refine hK _ _ ?_
            clear hK K
            refine wpAny_ready (rs := [8]) (by kernel_rfl) (by simp) ?_
            refine AllReady.cons rfl (fun K hK => ?_) AllReady.nil
            go_simp
            refine hK _ _ ?_
            clear hK K
            refine wpAny_ready (rs := [9]) (by kernel_rfl) (by simp) ?_
            refine AllReady.cons rfl (fun K hK => ?_) AllReady.nil
            go_simp
            refine hK _ _ ?_
            clear hK K
            refine wpAny_ready (rs := [10]) (by kernel_rfl) (by simp) ?_
            refine AllReady.cons rfl (fun K hK => ?_) AllReady.nil
            go_simp
            refine hK _ _ ?_
            clear hK K
            refine skipOp (i := 11) rfl (by kernel_rfl) (by kernel_rfl) (by kernel_rfl) (fun _ _ _ h => h) (by kernel_rfl) ?_
            refine skipOp (i := 12) rfl (by kernel_rfl) (by kernel_rfl) (by kernel_rfl) (fun _ _ _ h => h) (by kernel_rfl) ?_
            refine skipOp (i := 13) rfl (by kernel_rfl) (by kernel_rfl) (by kernel_rfl) (fun _ _ _ h => h) (by kernel_rfl) ?_
            refine skipOp (i := 14) rfl (by kernel_rfl) (by kernel_rfl) (by kernel_rfl) (fun _ _ _ h => h) (by kernel_rfl) ?_
            refine skipOp (i := 15) rfl (by kernel_rfl) (by kernel_rfl) (by kernel_rfl) (fun _ _ _ h => h) (by kernel_rfl) ?_
            refine skipOp (i := 16) rfl (by kernel_rfl) (by kernel_rfl) (by kernel_rfl) (fun _ _ _ h => h) (by kernel_rfl) ?_
            refine skipOp (i := 17) rfl (by kernel_rfl) (by kernel_rfl) (by kernel_rfl) (fun _ _ _ h => h) (by kernel_rfl) ?_
            refine skipOp (i := 18) rfl (by kernel_rfl) (by kernel_rfl) (by kernel_rfl) (fun _ _ _ h => h) (by kernel_rfl) ?_
            refine skipOp (i := 19) rfl (by kernel_rfl) (by kernel_rfl) (by kernel_rfl) (fun _ _ _ h => h) (by kernel_rfl) ?_
            refine skipOp (i := 20) rfl (by kernel_rfl) (by kernel_rfl) (by kernel_rfl) (fun _ _ _ h => h) (by kernel_rfl) ?_
            refine skipOp (i := 21) rfl (by kernel_rfl) (by kernel_rfl) (by kernel_rfl) (fun _ _ _ h => h) (by kernel_rfl) ?_
            refine wpAny_ready (rs := [22]) (by kernel_rfl) (by simp) ?_
            refine AllReady.cons rfl (fun K hK => ?_) AllReady.nil
            go_simp
            refine hK _ _ ?_
            clear hK K
            refine wpAny_ready (rs := [23]) (by kernel_rfl) (by simp) ?_
            refine AllReady.cons rfl (fun K hK => ?_) AllReady.nil
            go_simp
            refine hK _ _ ?_
            clear hK K
            refine wpAny_done (by kernel_rfl) ?_ _
            go_wp2
            exact ⟨⟨1, by omega, by go_num, fun j hj => by
              obtain rfl : j = 0 := by omega
              exact HY.out, hb3⟩, by simp [intOf]; omega⟩
          · obtain ⟨d, hd⟩ : ∃ d, es[i]? = some d := ⟨es[i]'(by omega), List.getElem?_eq_getElem (by omega)⟩
            obtain ⟨c2, c3⟩ := hc i d hd
            have HK2 : Hid (∀ W : World, Below w.heap.size w W → (W.cell? ⟨b, off + i * 2, none⟩ = some (.int .i64 d.1) ∧ W.cell? ⟨b, off + i * 2 + 1, none⟩ = some (.int .i64 d.2))) := fun W hW =>
              ⟨by rw [hW.cell hbl]; exact c2, by rw [hW.cell hbl]; exact c3⟩
            have HC := hideIt (chkAt_succ (n := N) hf hd)
            have HL2 : Hid (∀ W : World, Below w.heap.size w W → Calls Tryz.prog 167 #[.agg #[.int .i64 d.1, .int .i64 d.2], .agg #[.int .i64 f.1, .int .i64 f.2]] W fun e w' => e = .returned (.bool (lt d f)) ∧ Below w.heap.size w w') := fun W hW =>
              (l05Less_any d f W).mono fun _ _ ⟨he, hb'⟩ => ⟨he, hW.trans (hb'.mono hW.size)⟩
            have HE0 := hideIt hE
            have ek : ((i + 1 : Nat) : Int) = (i : Int) + 1 := by omega
            rw [ek] at b1 b2
            have b3 : (0 : Int) ≤ (i : Int) := by omega
            have b4 : (i : Int) < (n : Int) := by omega
            have tn : ((i : Int) + 1).toNat = i + 1 := by omega
            have d0 : decide ((0 : Int) < (i : Int) + 1) = true := decide_eq_true (by omega)
            have hw1 : IntKind.i64.wrap (i : Int) = (i : Int) := by rw [IntKind.wrap_i64]; omega
            rw [ek]
            clear ek hf hd hc c0 c1 c2 c3 hE
            cases hL : lt d f with
            | true =>
              rw [hL] at HL2
              have HY := hideIt (show chkAt N es (i + 1) = true by rw [HC.out, HE0.out, hL]; rfl)
              clear HC hL HE0
              go_wp2
              go_region_held3 (fun u => Below w.heap.size w u ∧ (u.cell? ⟨b, off + (i + 1) * 2, none⟩ = some (.int .i64 f.1) ∧ u.cell? ⟨b, off + (i + 1) * 2 + 1, none⟩ = some (.int .i64 f.2)) ∧ u.cell? ⟨b, off + i * 2, none⟩ = some (.int .i64 d.1) ∧ u.cell? ⟨b, off + i * 2 + 1, none⟩ = some (.int .i64 d.2))
                (first | exact ⟨hb4, HK.out _ hb4, HK2.out _ hb4⟩ | exact ⟨hb3, HK.out _ hb3, HK2.out _ hb3⟩ | exact ⟨hbd, HK.out _ hbd, HK2.out _ hbd⟩)
                (first
                | (go_at_call 77; refine (HE.out _ hbd).mono ?_; rintro e w1 ⟨rfl, hb3⟩)
                | (go_at_call 167; refine (HL2.out _ hb3).mono ?_; rintro e w2 ⟨rfl, hb4⟩))
              all_goals
                go_wp2
                exact ⟨⟨i + 2, by omega, by go_num, fun j hj => by
                  by_cases hji : j = i + 1
                  · subst hji; exact HY.out
                  · exact hck.out j (by omega), hb4⟩, by simp [intOf]; omega⟩
            | false =>
              rw [hL] at HL2
              have HN := hideIt (chk_no (by omega : i + 1 < es.length) (show chkAt N es (i + 1) = false by rw [HC.out, HE0.out, hL]; rfl))
              clear HC hL HE0
              go_wp2
              go_region_held3 (fun u => Below w.heap.size w u ∧ (u.cell? ⟨b, off + (i + 1) * 2, none⟩ = some (.int .i64 f.1) ∧ u.cell? ⟨b, off + (i + 1) * 2 + 1, none⟩ = some (.int .i64 f.2)) ∧ u.cell? ⟨b, off + i * 2, none⟩ = some (.int .i64 d.1) ∧ u.cell? ⟨b, off + i * 2 + 1, none⟩ = some (.int .i64 d.2))
                (first | exact ⟨hb4, HK.out _ hb4, HK2.out _ hb4⟩ | exact ⟨hb3, HK.out _ hb3, HK2.out _ hb3⟩ | exact ⟨hbd, HK.out _ hbd, HK2.out _ hbd⟩)
                (first
                | (go_at_call 77; refine (HE.out _ hbd).mono ?_; rintro e w1 ⟨rfl, hb3⟩)
                | (go_at_call 167; refine (HL2.out _ hb3).mono ?_; rintro e w2 ⟨rfl, hb4⟩))
              all_goals
                go_wp2
                go_ret
                exact ⟨by rw [HN.out]; rfl, hb4⟩
    · have HY := hideIt (chk_yes (n := N) (es := es) (fun j hj => hck.out j (by omega)))
      clear hck
      go_wp2
      go_ret
      exact ⟨by rw [HY.out, HL.out]; simp; omega, hb⟩
end Go.Proofs.YtkkplppcgnikoaaGreat.O
namespace Go.Proofs.YtkkplppcgnikoaaGreat.O
open Go.RowKit

set_option maxHeartbeats 1000000 in
theorem sGraphOk_any (N : Int) (es : List EdgeV) (n : Nat) (a : Option Addr) (c : Nat) (hn : n ≤ 1048576) (w : World) (h : Es w w.heap.size a n es) :
    Calls Tryz.prog 72 #[.agg #[.int .i64 N, .slice a n c]] w fun e w' => e = .returned (.bool (gB N es)) ∧ Below w.heap.size w w' := by
  have HT := hideIt (l05Edges_any N es n a c hn (w.alloc (.cells #[.int .i64 N, .slice a n c] 33)) ((h.alloc (Nat.le_refl _) _).mono (by simp)))
  have HI := hideIt l01In_any
  clear h
  by_cases h1 : 1 ≤ N ∧ N ≤ 12
  · have r1 : decide (1 ≤ N ∧ N ≤ 12) = true := by simpa using h1
    have HG : Hid (gB N es = (chk N es && decide (es.length ≤ 66))) := by show _ = _; unfold gB; rw [r1]; rfl
    generalize (chk N es && decide (es.length ≤ 66)) = r at HG HT
    go_enter Tryz.func72, Tryz.ntmps72
    go_wp2_with (first | (go_at_call 81; refine (HI.out _ _ _ _).mono ?_; rintro e w1 ⟨rfl, rfl⟩) | (go_at_call 158; refine HT.out.mono ?_; rintro e w2 ⟨rfl, hb2⟩))
    go_ret
    exact ⟨by rw [HG.out]; rfl, ((Below.refl _ _).alloc (Nat.le_refl _) _).trans (hb2.mono (by simp))⟩
  · have r1 : decide (1 ≤ N ∧ N ≤ 12) = false := by simpa using h1
    have HG : Hid (gB N es = false) := by show _ = _; unfold gB; rw [r1]; rfl
    clear HT
    go_enter Tryz.func72, Tryz.ntmps72
    go_wp2_with (go_at_call 81; refine (HI.out _ _ _ _).mono ?_; rintro e w1 ⟨rfl, rfl⟩)
    go_ret
    exact ⟨by rw [HG.out]; rfl, (Below.refl _ _).alloc (Nat.le_refl _) _⟩

/-- it is one of them -/
def hasB (es : List EdgeV) (e : EdgeV) : Bool := decide (e ∈ es)
theorem hasB_yes {es : List EdgeV} {e : EdgeV} {k : Nat} (h : es[k]? = some e) : hasB es e = true := decide_eq_true (List.mem_of_getElem? h)
theorem hasB_no {es : List EdgeV} {e : EdgeV} (h : ∀ j, j < es.length → es[j]? ≠ some e) : hasB es e = false := decide_eq_false fun hm => by
  obtain ⟨j, hj, rfl⟩ := List.getElem_of_mem hm
  exact h j hj (List.getElem?_eq_getElem hj)

set_option maxHeartbeats 1000000 in
theorem l05Has_any (es : List EdgeV) (e : EdgeV) (n : Nat) (a : Option Addr) (c : Nat) (hn : n ≤ 1048576) (w : World) (h : Es w w.heap.size a n es) :
    Calls Tryz.prog 68 #[.slice a n c, .agg #[.int .i64 e.1, .int .i64 e.2]] w fun x w' => x = .returned (.bool (hasB es e)) ∧ Below w.heap.size w w' := by
  obtain ⟨hlen, hrow⟩ := h
  have HR := hideIt hrow
  clear hrow
  go_enter Tryz.func68, Tryz.ntmps68
  go_wp2
  go_loopw [5] (fun i wr => ∃ k : Nat, k ≤ n ∧ i = .int .i64 (k : Int) ∧ Hid (∀ j, j < k → es[j]? ≠ some e) ∧ Below w.heap.size w wr ∧ wr.cell? ⟨w.heap.size, 0, none⟩ = some (.int .i64 e.1) ∧ wr.cell? ⟨w.heap.size, 1, none⟩ = some (.int .i64 e.2)) (fun i _ => n - (intOf i).toNat)
  case atStart => exact ⟨0, by omega, rfl, fun j hj => by omega, (Below.refl _ _).alloc (Nat.le_refl _) _, by simp, by simp⟩
  case round =>
    obtain ⟨k, hk, rfl, hck, hb, x0, x1⟩ := hrel
    by_cases hlt : k < n
    · rcases HR.out with hz | ⟨b, off, rfl, hbl, hc⟩
      · omega
      · obtain ⟨f, hf⟩ : ∃ f, es[k]? = some f := ⟨es[k]'(by omega), List.getElem?_eq_getElem (by omega)⟩
        obtain ⟨c0, c1⟩ := hc k f hf
        have e0 : wr.cell? ⟨b, off + k * 2, none⟩ = some (.int .i64 f.1) := by rw [hb.cell hbl]; exact c0
        have e1 : wr.cell? ⟨b, off + k * 2 + 1, none⟩ = some (.int .i64 f.2) := by rw [hb.cell hbl]; exact c1
        have b1 : (0 : Int) ≤ (k : Int) := by omega
        have b2 : (k : Int) < (n : Int) := by omega
        by_cases hfe : f = e
        · subst hfe
          have HY := hideIt (hasB_yes hf)
          clear hf hc c0 c1 hck
          go_wp2
          go_quiet (fail)
          go_wp2
          go_ret
          exact ⟨by rw [HY.out]; rfl, below_drewN hb _⟩
        · have HN : Hid (∀ j, j < k + 1 → es[j]? ≠ some e) := fun j hj => by
            by_cases hjk : j = k
            · subst hjk; rw [hf]; exact fun hh => hfe (Option.some.inj hh)
            · exact hck.out j (by omega)
          clear hf hc c0 c1 hck
          by_cases h1 : f.1 = e.1
          · have h2 : ¬ f.2 = e.2 := fun h2 => hfe (Prod.ext h1 h2)
            rw [h1] at e0
            have d2 : (f.2 == e.2) = false := by simpa using h2
            clear hfe
            go_wp2
            go_quiet (fail)
            go_wp2
            exact ⟨⟨k + 1, by omega, by go_num, HN, below_drewN hb _, x0, x1⟩, by simp [intOf]; omega⟩
          · have d1 : (f.1 == e.1) = false := by simpa using h1
            clear hfe
            go_wp2
            go_quiet (fail)
            go_wp2
            exact ⟨⟨k + 1, by omega, by go_num, HN, below_drewN hb _, x0, x1⟩, by simp [intOf]; omega⟩
    · have HN := hideIt (hasB_no (es := es) (e := e) (fun j hj => hck.out j (by omega)))
      clear hck
      go_wp2
      go_ret
      exact ⟨by rw [HN.out]; rfl, hb⟩

theorem sHasEdge_any (N : Int) (es : List EdgeV) (e : EdgeV) (n : Nat) (a : Option Addr) (c : Nat) (hn : n ≤ 1048576) (w : World) (h : Es w w.heap.size a n es) :
    Calls Tryz.prog 13 #[.agg #[.int .i64 N, .slice a n c], .agg #[.int .i64 e.1, .int .i64 e.2]] w fun x w' => x = .returned (.bool (hasB es e)) ∧ Below w.heap.size w w' := by
  have HT := hideIt (l05Has_any es e n a c hn ((w.alloc (.cells #[.int .i64 N, .slice a n c] 33)).alloc (.cells #[.int .i64 e.1, .int .i64 e.2] 28)) (((h.alloc (Nat.le_refl _) _).alloc (by simp) _).mono (by simp; omega)))
  clear h
  go_enter Tryz.func13, Tryz.ntmps13
  go_wp2_with (go_at_call 68; refine HT.out.mono ?_; rintro e w1 ⟨rfl, hb1⟩)
  go_ret
  exact ⟨rfl, (((Below.refl _ _).alloc (Nat.le_refl _) _).alloc (by simp) _).trans (hb1.mono (by simp; omega))⟩
end Go.Proofs.YtkkplppcgnikoaaGreat.O
namespace Go.Proofs.YtkkplppcgnikoaaGreat.O

theorem chk_all {n : Int} {es : List EdgeV} (h : chk n es = true) (j : Nat) (hj : j < es.length) : chkAt n es j = true := by
  unfold chk at h
  rw [List.all_eq_true] at h
  exact h j (List.mem_range.2 hj)
theorem chk_eB {n : Int} {es : List EdgeV} (h : chk n es = true) {e : EdgeV} (he : e ∈ es) : eB n e = true := by
  obtain ⟨j, hj, rfl⟩ := List.getElem_of_mem he
  have h1 := chk_all h j hj
  have h2 : es[j]? = some es[j] := List.getElem?_eq_getElem hj
  cases h3 : eB n es[j] with
  | true => rfl
  | false => rw [chkAt_no h2 h3] at h1; cases h1
/-- all but the edge -/
def outE (es : List EdgeV) (e : EdgeV) : List EdgeV := es.filter (fun d => decide (d ≠ e))

/-- TakeEdge -/
def takE (N : Int) (es : List EdgeV) (e : EdgeV) : Option (List EdgeV) := if gB N es = true ∧ hasB es e = true then some (outE es e) else none

theorem gB_chk {N : Int} {es : List EdgeV} (h : gB N es = true) : (1 ≤ N ∧ N ≤ 12) ∧ chk N es = true ∧ es.length ≤ 66 := by
  unfold gB at h
  simp only [Bool.and_eq_true, decide_eq_true_eq] at h
  exact ⟨h.1, h.2.1, h.2.2⟩
end Go.Proofs.YtkkplppcgnikoaaGreat.O
namespace Go.Proofs.YtkkplppcgnikoaaGreat.O
open Go.RowKit

end Go.Proofs.YtkkplppcgnikoaaGreat.O
namespace Go.Proofs.YtkkplppcgnikoaaGreat.O
open Go.RowKit

end Go.Proofs.YtkkplppcgnikoaaGreat.O
namespace Go.Proofs.YtkkplppcgnikoaaGreat.O
open Go.RowKit

theorem own_form {w : World} {B e s n : Nat} {v : Value} {xs : List Value} (h : w.ownsRow B e s v n xs) : ∃ a c, v = .slice a n c := by
  rcases h.2 with ⟨hv, h0⟩ | ⟨g, cap, cur, hv, _⟩
  · subst h0; exact ⟨none, 0, hv⟩
  · exact ⟨_, cap, hv⟩
end Go.Proofs.YtkkplppcgnikoaaGreat.O
