/- The specification's GraphOk and HasEdge. Orders and answers as bytes, and how they are read: no program is named here. The program's reader of parts: a number, a byte. The program's reader of parts: edges, a flag, labels; whether it has ended. The specification's OrderOk. What lies in memory while an order is read, and what is answered then. -/
import Derived.Test.YthnibebljbljdaaGreatDoorKOpenGraph
import Derived.Test.YthnibebljbljdaaGreatDoorKVtBack
import Derived.Deep.AppendLies
namespace Go.Proofs.YthnibebljbljdaaGreatDoor
open Go.RowKit

/-- the one edge comes ahead of the other -/
def lt (d e : EdgeV) : Bool := decide (d.1 < e.1 ∨ d.1 = e.1 ∧ d.2 < e.2)

/-- the edge of place j is right, and comes behind the one ahead of it -/
def chkAt (n : Int) (es : List EdgeV) (j : Nat) : Bool :=
  match es[j]? with
  | none => true
  | some e => eB n e && (match j with
    | 0 => true
    | i + 1 => match es[i]? with
      | none => true
      | some d => lt d e)
/-- all of them are so -/
def chk (n : Int) (es : List EdgeV) : Bool := (List.range es.length).all (chkAt n es)
/-- the graph is right -/
def gB (N : Int) (es : List EdgeV) : Bool := decide (1 ≤ N ∧ N ≤ 12) && (chk N es && decide (es.length ≤ 66))

theorem chk_no {n : Int} {es : List EdgeV} {j : Nat} (hj : j < es.length) (h : chkAt n es j = false) : chk n es = false := by
  unfold chk
  rw [List.all_eq_false]
  exact ⟨j, List.mem_range.2 hj, by simp [h]⟩
theorem chk_yes {n : Int} {es : List EdgeV} (h : ∀ j, j < es.length → chkAt n es j = true) : chk n es = true := by
  unfold chk
  rw [List.all_eq_true]
  exact fun j hj => h j (List.mem_range.1 hj)
theorem chkAt_zero {n : Int} {es : List EdgeV} {e : EdgeV} (h : es[0]? = some e) : chkAt n es 0 = eB n e := by simp [chkAt, h]
theorem chkAt_succ {n : Int} {es : List EdgeV} {i : Nat} {d e : EdgeV} (h : es[i + 1]? = some e) (hd : es[i]? = some d) : chkAt n es (i + 1) = (eB n e && lt d e) := by simp only [chkAt, h, hd]
theorem chkAt_no {n : Int} {es : List EdgeV} {j : Nat} {e : EdgeV} (h : es[j]? = some e) (he : eB n e = false) : chkAt n es j = false := by simp only [chkAt, h, he, Bool.false_and]

theorem l05Less_any (d e : EdgeV) (w : World) :
    Calls Tryz.prog 139 #[.agg #[.int .i64 d.1, .int .i64 d.2], .agg #[.int .i64 e.1, .int .i64 e.2]] w fun x w' => x = .returned (.bool (lt d e)) ∧ Below w.heap.size w w' := by
  obtain ⟨a, b⟩ := d
  obtain ⟨c, f⟩ := e
  dsimp only
  by_cases h1 : a < c
  · have r1 : decide (a < c) = true := by simpa using h1
    go_enter Tryz.func139, Tryz.ntmps139
    go_wp2
    go_ret
    exact ⟨by simp [lt]; omega, ((Below.refl _ _).alloc (Nat.le_refl _) _).alloc (by simp) _⟩
  · have r1 : decide (a < c) = false := by simpa using h1
    by_cases h2 : a = c
    · subst h2
      go_enter Tryz.func139, Tryz.ntmps139
      go_wp2
      go_ret
      exact ⟨bret (by dsimp only; omega), ((Below.refl _ _).alloc (Nat.le_refl _) _).alloc (by simp) _⟩
    · have r2 : (a == c) = false := by simpa using h2
      go_enter Tryz.func139, Tryz.ntmps139
      go_wp2
      go_ret
      exact ⟨by simp [lt]; omega, ((Below.refl _ _).alloc (Nat.le_refl _) _).alloc (by simp) _⟩

set_option maxRecDepth 100000 in
set_option maxHeartbeats 2000000 in
theorem l05Edges_any (N : Int) (es : List EdgeV) (n : Nat) (a : Option Addr) (c : Nat) (hn : n ≤ 1048576) (w : World) (h : Es w w.heap.size a n es) :
    Calls Tryz.prog 123 #[.int .i64 N, .slice a n c] w fun e w' => e = .returned (.bool (chk N es && decide (es.length ≤ 66))) ∧ Below w.heap.size w w' := by
  obtain ⟨hlen, hrow⟩ := h
  have HR := hideIt hrow
  have HL := hideIt hlen
  clear hrow
  go_enter Tryz.func123, Tryz.ntmps123
  go_wp2
  go_loopw [5] (fun i wr => ∃ k : Nat, k ≤ n ∧ i = .int .i64 (k : Int) ∧ Hid (∀ j, j < k → chkAt N es j = true) ∧ Below w.heap.size w wr) (fun i _ => n - (intOf i).toNat)
  case atStart => exact ⟨0, by omega, rfl, fun j hj => by omega, Below.refl _ _⟩
  case round =>
    obtain ⟨k, hk, rfl, hck, hb⟩ := hrel
    by_cases hlt : k < n
    · rcases HR.out with hz | ⟨b, off, rfl, hbl, hc⟩
      · omega
      · obtain ⟨f, hf⟩ : ∃ f, es[k]? = some f := ⟨es[k]'(by omega), List.getElem?_eq_getElem (by omega)⟩
        obtain ⟨c0, c1⟩ := hc k f hf
        have e0 : wr.cell? ⟨b, off + k * 2, none⟩ = some (.int .i64 f.1) := by rw [hb.cell hbl]; exact c0
        have e1 : wr.cell? ⟨b, off + k * 2 + 1, none⟩ = some (.int .i64 f.2) := by rw [hb.cell hbl]; exact c1
        have b1 : (0 : Int) ≤ (k : Int) := by omega
        have b2 : (k : Int) < (n : Int) := by omega
        have hbd := hb.drew
        have HE : Hid (∀ W : World, Below w.heap.size w W → Calls Tryz.prog 138 #[.int .i64 N, .agg #[.int .i64 f.1, .int .i64 f.2]] W fun e w' => e = .returned (.bool (eB N f)) ∧ Below w.heap.size w w') := fun W hW =>
          (sEdgeOk_any N f W).mono fun _ _ ⟨he, hb'⟩ => ⟨he, hW.trans (hb'.mono hW.size)⟩
        have HK : Hid (∀ W : World, Below w.heap.size w W → (W.cell? ⟨b, off + k * 2, none⟩ = some (.int .i64 f.1) ∧ W.cell? ⟨b, off + k * 2 + 1, none⟩ = some (.int .i64 f.2))) := fun W hW =>
          ⟨by rw [hW.cell hbl]; exact c0, by rw [hW.cell hbl]; exact c1⟩
        cases hE : eB N f with
        | false =>
          rw [hE] at HE
          have HN := hideIt (chk_no (by omega : k < es.length) (chkAt_no hf hE))
          clear hf hc c0 c1 hE hck
          go_wp2
          refine wp_region_any (by kernel_rfl) ?_
          change wpAny _ _ _ _ _ _ _ (World.drew _)
          refine takeOp (i := 0) (v := ?_) rfl (by kernel_rfl) (by kernel_rfl) (by kernel_rfl) (fun _ _ _ h => h) (by kernel_rfl) ?_ ?_
          rotate_left
          · intro w; go_simp; try with_reducible rfl
          refine takeOp (i := 1) (v := ?_) rfl (by kernel_rfl) (by kernel_rfl) (by kernel_rfl) (fun _ _ _ h => h) (by kernel_rfl) ?_ ?_
          rotate_left
          · intro w; go_simp; try with_reducible rfl
          refine takeOp (i := 2) (v := ?_) rfl (by kernel_rfl) (by kernel_rfl) (by kernel_rfl) (fun _ _ _ h => h) (by kernel_rfl) ?_ ?_
          rotate_left
          · intro w; go_simp; try with_reducible rfl
          refine wpAny_ready (rs := [3]) (by kernel_rfl) (by simp) ?_
          refine AllReady.cons rfl (fun K hK => ?_) AllReady.nil
          go_simp
          refine hK _ _ ?_
          clear hK K
          refine wpAny_ready (rs := [4]) (by kernel_rfl) (by simp) ?_
          refine AllReady.cons rfl (fun K hK => ?_) AllReady.nil
          go_simp
          refine hK _ _ ?_
          clear hK K
          refine wpAny_ready (rs := [5]) (by kernel_rfl) (by simp) ?_
          refine AllReady.cons rfl (fun K hK => ?_) AllReady.nil
          go_wp2_with (go_at_call 138; refine (HE.out _ hbd).mono ?_; rintro e w1 ⟨rfl, hb3⟩; refine Hid.out ?_)
          refine (show ∀ {p : Prop}, p → Hid p from fun h => h) ?_
          try refine hK _ _ ?_
          clear hK K
          refine wpAny_ready (rs := [6]) (by kernel_rfl) (by simp) ?_
          refine AllReady.cons rfl (fun K hK => ?_) AllReady.nil
          go_simp
          refine hK _ _ ?_
          clear hK K
          refine wpAny_ready (rs := [7]) (by kernel_rfl) (by simp) ?_
          refine AllReady.cons rfl (fun K hK => ?_) AllReady.nil
          go_simp
          refine hK _ _ ?_
          clear hK K
          refine skipOp (i := 8) rfl (by kernel_rfl) (by kernel_rfl) (by kernel_rfl) (fun _ _ _ h => h) (by kernel_rfl) ?_
          refine skipOp (i := 9) rfl (by kernel_rfl) (by kernel_rfl) (by kernel_rfl) (fun _ _ _ h => h) (by kernel_rfl) ?_
          refine skipOp (i := 10) rfl (by kernel_rfl) (by kernel_rfl) (by kernel_rfl) (fun _ _ _ h => h) (by kernel_rfl) ?_
          refine skipOp (i := 11) rfl (by kernel_rfl) (by kernel_rfl) (by kernel_rfl) (fun _ _ _ h => h) (by kernel_rfl) ?_
          refine skipOp (i := 12) rfl (by kernel_rfl) (by kernel_rfl) (by kernel_rfl) (fun _ _ _ h => h) (by kernel_rfl) ?_
          refine skipOp (i := 13) rfl (by kernel_rfl) (by kernel_rfl) (by kernel_rfl) (fun _ _ _ h => h) (by kernel_rfl) ?_
          refine skipOp (i := 14) rfl (by kernel_rfl) (by kernel_rfl) (by kernel_rfl) (fun _ _ _ h => h) (by kernel_rfl) ?_
          refine skipOp (i := 15) rfl (by kernel_rfl) (by kernel_rfl) (by kernel_rfl) (fun _ _ _ h => h) (by kernel_rfl) ?_
          refine skipOp (i := 16) rfl (by kernel_rfl) (by kernel_rfl) (by kernel_rfl) (fun _ _ _ h => h) (by kernel_rfl) ?_
          refine skipOp (i := 17) rfl (by kernel_rfl) (by kernel_rfl) (by kernel_rfl) (fun _ _ _ h => h) (by kernel_rfl) ?_
          refine skipOp (i := 18) rfl (by kernel_rfl) (by kernel_rfl) (by kernel_rfl) (fun _ _ _ h => h) (by kernel_rfl) ?_
          refine skipOp (i := 19) rfl (by kernel_rfl) (by kernel_rfl) (by kernel_rfl) (fun _ _ _ h => h) (by kernel_rfl) ?_
          refine skipOp (i := 20) rfl (by kernel_rfl) (by kernel_rfl) (by kernel_rfl) (fun _ _ _ h => h) (by kernel_rfl) ?_
          refine skipOp (i := 21) rfl (by kernel_rfl) (by kernel_rfl) (by kernel_rfl) (fun _ _ _ h => h) (by kernel_rfl) ?_
          refine skipOp (i := 22) rfl (by kernel_rfl) (by kernel_rfl) (by kernel_rfl) (fun _ _ _ h => h) (by kernel_rfl) ?_
          refine wpAny_ready (rs := [23]) (by kernel_rfl) (by simp) ?_
          refine AllReady.cons rfl (fun K hK => ?_) AllReady.nil
          go_simp
          refine hK _ _ ?_
          clear hK K
          refine wpAny_done (by kernel_rfl) ?_ _
          go_wp2
          go_ret
          exact ⟨by rw [HN.out]; rfl, hb3⟩
        | true =>
          rw [hE] at HE
          rcases k with _ | i
          · have HY := hideIt (show chkAt N es 0 = true by rw [chkAt_zero hf]; exact hE)
            clear hf hc c0 c1 hE
            rw [Nat.zero_mul, Nat.add_zero] at e0 e1
            go_wp2
            refine wp_region_any (by kernel_rfl) ?_
            change wpAny _ _ _ _ _ _ _ (World.drew _)
            refine takeOp (i := 0) (v := ?_) rfl (by kernel_rfl) (by kernel_rfl) (by kernel_rfl) (fun _ _ _ h => h) (by kernel_rfl) ?_ ?_
            rotate_left
            · intro w; go_simp; try with_reducible rfl
            refine takeOp (i := 1) (v := ?_) rfl (by kernel_rfl) (by kernel_rfl) (by kernel_rfl) (fun _ _ _ h => h) (by kernel_rfl) ?_ ?_
            rotate_left
            · intro w; go_simp; try with_reducible rfl
            refine takeOp (i := 2) (v := ?_) rfl (by kernel_rfl) (by kernel_rfl) (by kernel_rfl) (fun _ _ _ h => h) (by kernel_rfl) ?_ ?_
            rotate_left
            · intro w; go_simp; try with_reducible rfl
            refine wpAny_ready (rs := [3]) (by kernel_rfl) (by simp) ?_
            refine AllReady.cons rfl (fun K hK => ?_) AllReady.nil
            go_simp
            refine hK _ _ ?_
            clear hK K
            refine wpAny_ready (rs := [4]) (by kernel_rfl) (by simp) ?_
            refine AllReady.cons rfl (fun K hK => ?_) AllReady.nil
            go_simp
            refine hK _ _ ?_
            clear hK K
            refine wpAny_ready (rs := [5]) (by kernel_rfl) (by simp) ?_
            refine AllReady.cons rfl (fun K hK => ?_) AllReady.nil
            go_wp2_with (go_at_call 138; refine (HE.out _ hbd).mono ?_; rintro e w1 ⟨rfl, hb3⟩; refine Hid.out ?_)
            refine (show ∀ {p : Prop}, p → Hid p from fun h => h) ?_
            try refine hK _ _ ?_
            clear hK K
            refine wpAny_ready (rs := [6]) (by kernel_rfl) (by simp) ?_
            refine AllReady.cons rfl (fun K hK => ?_) AllReady.nil
            go_simp
            refine hK _ _ ?_
            clear hK K
            refine wpAny_ready (rs := [7]) (by kernel_rfl) (by simp) ?_
            refine AllReady.cons rfl (fun K hK => ?_) AllReady.nil
            go_simp
            refine hK _ _ ?_
            clear hK K
            refine wpAny_ready (rs := [8]) (by kernel_rfl) (by simp) ?_
            refine AllReady.cons rfl (fun K hK => ?_) AllReady.nil
            go_simp
            refine hK _ _ ?_
            clear hK K
            refine wpAny_ready (rs := [9]) (by kernel_rfl) (by simp) ?_
            refine AllReady.cons rfl (fun K hK => ?_) AllReady.nil
            go_simp
            refine hK _ _ ?_
            clear hK K
            refine wpAny_ready (rs := [10]) (by kernel_rfl) (by simp) ?_
            refine AllReady.cons rfl (fun K hK => ?_) AllReady.nil
            go_simp
            refine hK _ _ ?_
            clear hK K
            refine skipOp (i := 11) rfl (by kernel_rfl) (by kernel_rfl) (by kernel_rfl) (fun _ _ _ h => h) (by kernel_rfl) ?_
            refine skipOp (i := 12) rfl (by kernel_rfl) (by kernel_rfl) (by kernel_rfl) (fun _ _ _ h => h) (by kernel_rfl) ?_
            refine skipOp (i := 13) rfl (by kernel_rfl) (by kernel_rfl) (by kernel_rfl) (fun _ _ _ h => h) (by kernel_rfl) ?_
            refine skipOp (i := 14) rfl (by kernel_rfl) (by kernel_rfl) (by kernel_rfl) (fun _ _ _ h => h) (by kernel_rfl) ?_
            refine skipOp (i := 15) rfl (by kernel_rfl) (by kernel_rfl) (by kernel_rfl) (fun _ _ _ h => h) (by kernel_rfl) ?_
            refine skipOp (i := 16) rfl (by kernel_rfl) (by kernel_rfl) (by kernel_rfl) (fun _ _ _ h => h) (by kernel_rfl) ?_
            refine skipOp (i := 17) rfl (by kernel_rfl) (by kernel_rfl) (by kernel_rfl) (fun _ _ _ h => h) (by kernel_rfl) ?_
            refine skipOp (i := 18) rfl (by kernel_rfl) (by kernel_rfl) (by kernel_rfl) (fun _ _ _ h => h) (by kernel_rfl) ?_
            refine skipOp (i := 19) rfl (by kernel_rfl) (by kernel_rfl) (by kernel_rfl) (fun _ _ _ h => h) (by kernel_rfl) ?_
            refine skipOp (i := 20) rfl (by kernel_rfl) (by kernel_rfl) (by kernel_rfl) (fun _ _ _ h => h) (by kernel_rfl) ?_
            refine skipOp (i := 21) rfl (by kernel_rfl) (by kernel_rfl) (by kernel_rfl) (fun _ _ _ h => h) (by kernel_rfl) ?_
            refine wpAny_ready (rs := [22]) (by kernel_rfl) (by simp) ?_
            refine AllReady.cons rfl (fun K hK => ?_) AllReady.nil
            go_simp
            refine hK _ _ ?_
            clear hK K
            refine wpAny_ready (rs := [23]) (by kernel_rfl) (by simp) ?_
            refine AllReady.cons rfl (fun K hK => ?_) AllReady.nil
            go_simp
            refine hK _ _ ?_
            clear hK K
            refine wpAny_done (by kernel_rfl) ?_ _
            go_wp2
            exact ⟨⟨1, by omega, by go_num, fun j hj => by
              obtain rfl : j = 0 := by omega
              exact HY.out, hb3⟩, by simp [intOf]; omega⟩
          · obtain ⟨d, hd⟩ : ∃ d, es[i]? = some d := ⟨es[i]'(by omega), List.getElem?_eq_getElem (by omega)⟩
            obtain ⟨c2, c3⟩ := hc i d hd
            have HK2 : Hid (∀ W : World, Below w.heap.size w W → (W.cell? ⟨b, off + i * 2, none⟩ = some (.int .i64 d.1) ∧ W.cell? ⟨b, off + i * 2 + 1, none⟩ = some (.int .i64 d.2))) := fun W hW =>
              ⟨by rw [hW.cell hbl]; exact c2, by rw [hW.cell hbl]; exact c3⟩
            have HC := hideIt (chkAt_succ (n := N) hf hd)
            have HL2 : Hid (∀ W : World, Below w.heap.size w W → Calls Tryz.prog 139 #[.agg #[.int .i64 d.1, .int .i64 d.2], .agg #[.int .i64 f.1, .int .i64 f.2]] W fun e w' => e = .returned (.bool (lt d f)) ∧ Below w.heap.size w w') := fun W hW =>
              (l05Less_any d f W).mono fun _ _ ⟨he, hb'⟩ => ⟨he, hW.trans (hb'.mono hW.size)⟩
            have HE0 := hideIt hE
            have ek : ((i + 1 : Nat) : Int) = (i : Int) + 1 := by omega
            rw [ek] at b1 b2
            have b3 : (0 : Int) ≤ (i : Int) := by omega
            have b4 : (i : Int) < (n : Int) := by omega
            have tn : ((i : Int) + 1).toNat = i + 1 := by omega
            have d0 : decide ((0 : Int) < (i : Int) + 1) = true := decide_eq_true (by omega)
            have hw1 : IntKind.i64.wrap (i : Int) = (i : Int) := by rw [IntKind.wrap_i64]; omega
            rw [ek]
            clear ek hf hd hc c0 c1 c2 c3 hE
            cases hL : lt d f with
            | true =>
              rw [hL] at HL2
              have HY := hideIt (show chkAt N es (i + 1) = true by rw [HC.out, HE0.out, hL]; rfl)
              clear HC hL HE0
              go_wp2
              go_region_held3 (fun u => Below w.heap.size w u ∧ (u.cell? ⟨b, off + (i + 1) * 2, none⟩ = some (.int .i64 f.1) ∧ u.cell? ⟨b, off + (i + 1) * 2 + 1, none⟩ = some (.int .i64 f.2)) ∧ u.cell? ⟨b, off + i * 2, none⟩ = some (.int .i64 d.1) ∧ u.cell? ⟨b, off + i * 2 + 1, none⟩ = some (.int .i64 d.2))
                (first | exact ⟨hb4, HK.out _ hb4, HK2.out _ hb4⟩ | exact ⟨hb3, HK.out _ hb3, HK2.out _ hb3⟩ | exact ⟨hbd, HK.out _ hbd, HK2.out _ hbd⟩)
                (first
                | (go_at_call 138; refine (HE.out _ hbd).mono ?_; rintro e w1 ⟨rfl, hb3⟩)
                | (go_at_call 139; refine (HL2.out _ hb3).mono ?_; rintro e w2 ⟨rfl, hb4⟩))
              all_goals
                go_wp2
                exact ⟨⟨i + 2, by omega, by go_num, fun j hj => by
                  by_cases hji : j = i + 1
                  · subst hji; exact HY.out
                  · exact hck.out j (by omega), hb4⟩, by simp [intOf]; omega⟩
            | false =>
              rw [hL] at HL2
              have HN := hideIt (chk_no (by omega : i + 1 < es.length) (show chkAt N es (i + 1) = false by rw [HC.out, HE0.out, hL]; rfl))
              clear HC hL HE0
              go_wp2
              go_region_held3 (fun u => Below w.heap.size w u ∧ (u.cell? ⟨b, off + (i + 1) * 2, none⟩ = some (.int .i64 f.1) ∧ u.cell? ⟨b, off + (i + 1) * 2 + 1, none⟩ = some (.int .i64 f.2)) ∧ u.cell? ⟨b, off + i * 2, none⟩ = some (.int .i64 d.1) ∧ u.cell? ⟨b, off + i * 2 + 1, none⟩ = some (.int .i64 d.2))
                (first | exact ⟨hb4, HK.out _ hb4, HK2.out _ hb4⟩ | exact ⟨hb3, HK.out _ hb3, HK2.out _ hb3⟩ | exact ⟨hbd, HK.out _ hbd, HK2.out _ hbd⟩)
                (first
                | (go_at_call 138; refine (HE.out _ hbd).mono ?_; rintro e w1 ⟨rfl, hb3⟩)
                | (go_at_call 139; refine (HL2.out _ hb3).mono ?_; rintro e w2 ⟨rfl, hb4⟩))
              all_goals
                go_wp2
                go_ret
                exact ⟨by rw [HN.out]; rfl, hb4⟩
    · have HY := hideIt (chk_yes (n := N) (es := es) (fun j hj => hck.out j (by omega)))
      clear hck
      go_wp2
      go_ret
      exact ⟨by rw [HY.out, HL.out]; simp; omega, hb⟩
end Go.Proofs.YthnibebljbljdaaGreatDoor
namespace Go.Proofs.YthnibebljbljdaaGreatDoor
open Go.RowKit Vt

/-- an order -/
structure OrdV where
  num : Int
  op : Int
  es : List EdgeV
  v : Int
/-- an answer -/
structure AnsV where
  num : Int
  ok : Bool
  es : List EdgeV
  ls : List Int

/-- so many right edges, ascending, and not too many -/
def eOk (n : Int) (es : List EdgeV) : Bool := chk n es && decide (es.length ≤ 66)
/-- what an order asks has the parts that it must have -/
def OpOk (n : Int) (o : OrdV) : Prop :=
  (o.op = 3 ∧ o.es.length = 0 ∧ 0 ≤ o.v ∧ o.v < n) ∨ (o.v = 0 ∧ (o.op = 1 ∨ o.op = 2) ∧ o.es.length = 1) ∨ (o.v = 0 ∧ o.op = 4 ∧ 0 < o.es.length)
instance (n : Int) (o : OrdV) : Decidable (OpOk n o) := by unfold OpOk; infer_instance
/-- the order is right -/
def oB (n : Int) (o : OrdV) : Bool := decide (1 ≤ n ∧ n ≤ 12) && (decide (1 ≤ o.num ∧ o.num ≤ 100000) && (eOk n o.es && decide (OpOk n o)))

/-- the label of this place is the label of itself -/
def lbAt (ls : List Int) (i : Nat) : Bool := match ls[i]? with
  | none => true
  | some x => decide (0 ≤ x ∧ x ≤ (i : Int)) && decide (ls[x.toNat]? = some x)
def lbs (ls : List Int) : Bool := (List.range ls.length).all (lbAt ls)
def lB (n : Int) (ls : List Int) : Bool := decide ((ls.length : Int) = n) && lbs ls
/-- the answer is right -/
def aB (n : Int) (a : AnsV) : Bool := decide (1 ≤ n ∧ n ≤ 12) && (decide (1 ≤ a.num ∧ a.num ≤ 100000) && (eOk n a.es && lB n a.ls))

theorem lbs_no {ls : List Int} {j : Nat} (hj : j < ls.length) (h : lbAt ls j = false) : lbs ls = false := by
  unfold lbs
  rw [List.all_eq_false]
  exact ⟨j, List.mem_range.2 hj, by simp [h]⟩
theorem lbs_yes {ls : List Int} (h : ∀ j, j < ls.length → lbAt ls j = true) : lbs ls = true := by
  unfold lbs
  rw [List.all_eq_true]
  exact fun j hj => h j (List.mem_range.1 hj)

/-- a number as one byte -/
def ob (x : Int) : UInt8 := UInt8.ofNat x.toNat
/-- edges as bytes -/
def eb (es : List EdgeV) : List UInt8 := es.flatMap fun e => [ob e.1, ob e.2]
/-- edges that are bytes -/
def EB8 (es : List EdgeV) : Prop := ∀ e ∈ es, (0 ≤ e.1 ∧ e.1 < 256) ∧ (0 ≤ e.2 ∧ e.2 < 256)
def et (es : List EdgeV) : List UInt8 := vt es.length ++ eb es
/-- an order's bytes -/
def oText (o : OrdV) : List UInt8 := vt o.num.toNat ++ (ob o.op :: (vt o.v.toNat ++ et o.es))
/-- an answer's bytes -/
def aText (a : AnsV) : List UInt8 := vt a.num.toNat ++ ((if a.ok then 1 else 0) :: (et a.es ++ a.ls.map ob))

theorem eb_cons (e : EdgeV) (es : List EdgeV) : eb (e :: es) = ob e.1 :: ob e.2 :: eb es := by simp [eb]
theorem eb_append (es fs : List EdgeV) : eb (es ++ fs) = eb es ++ eb fs := by simp [eb]
theorem eb_length (es : List EdgeV) : (eb es).length = es.length * 2 := by
  induction es with
  | nil => rfl
  | cons e es ih => rw [eb_cons]; simp only [List.length_cons, ih]; omega

theorem ob_nat (c : UInt8) : ob ((c.toNat : Nat) : Int) = c := by
  unfold ob
  rw [Int.toNat_natCast]
  exact UInt8.ofNat_toNat
theorem ob_back {x : Int} (h : 0 ≤ x ∧ x < 256) : (((ob x).toNat : Nat) : Int) = x := by
  unfold ob
  rw [UInt8.toNat_ofNat']
  omega

/-- bytes, two by two -/
def pairs : List UInt8 → List EdgeV
  | a :: b :: r => ((a.toNat : Int), (b.toNat : Int)) :: pairs r
  | _ => []

theorem pairs_eb : ∀ (es : List EdgeV) (_ : EB8 es), pairs (eb es) = es
  | [], _ => rfl
  | e :: es, h => by
    have he := h e (by simp)
    rw [eb_cons, pairs, ob_back he.1, ob_back he.2, pairs_eb es (fun f hf => h f (by simp [hf]))]

theorem eb_pairs : ∀ (k : Nat) (M : List UInt8), M.length = 2 * k → eb (pairs M) = M ∧ (pairs M).length = k ∧ EB8 (pairs M)
  | 0, M, h => by
    have : M = [] := List.length_eq_zero_iff.1 (by omega)
    subst this
    exact ⟨rfl, rfl, fun e he => by simp [pairs] at he⟩
  | k + 1, M, h => by
    match M, h with
    | [], h => simp at h
    | [_], h => simp at h; omega
    | a :: b :: r, h =>
      obtain ⟨h1, h2, h3⟩ := eb_pairs k r (by simp at h; omega)
      refine ⟨by rw [pairs, eb_cons, h1, ob_nat, ob_nat], by simp [pairs, h2], fun e he => ?_⟩
      simp only [pairs, List.mem_cons] at he
      rcases he with rfl | he
      · have := UInt8.toNat_lt a
        have := UInt8.toNat_lt b
        dsimp only
        omega
      · exact h3 e he

/-- a number is read off the head of a list -/
def pN (L : List UInt8) : Option (Nat × List UInt8) := (rv 0 L).map fun x => (x.1, L.drop x.2)
/-- a byte is -/
def pO : List UInt8 → Option (Nat × List UInt8)
  | [] => none
  | c :: r => some (c.toNat, r)

/-- a part is read where nothing has failed -/
def nx (f : List UInt8 → Option (Nat × List UInt8)) : Option (List UInt8) → Nat × Option (List UInt8)
  | none => (0, none)
  | some L => match f L with
    | none => (0, none)
    | some (n, r) => (n, some r)

theorem rv_from (a : Nat) (L : List UInt8) : rv a L = (rv 0 L).map fun x => (x.1, a + x.2) := by
  unfold rv
  split
  · rfl
  · split
    · simp; omega
    · rfl

theorem pN_vt (n : Nat) (r : List UInt8) (hn : n ≤ 1000000000) : pN (vt n ++ r) = some (n, r) := by
  unfold pN
  rw [rv_vt 0 n r hn]
  simp

theorem tw_big (L : List UInt8) : ∀ b ∈ L.takeWhile big, big b = true := by
  induction L with
  | nil => simp
  | cons a L ih =>
    intro b hb
    by_cases h : big a = true
    · rw [List.takeWhile_cons_of_pos h, List.mem_cons] at hb
      rcases hb with rfl | hb
      · exact h
      · exact ih b hb
    · rw [List.takeWhile_cons_of_neg h] at hb
      simp at hb
theorem dw_head {L : List UInt8} {c : UInt8} {r : List UInt8} (h : L.dropWhile big = c :: r) : big c = false := by
  induction L with
  | nil => simp at h
  | cons a L ih =>
    by_cases ha : big a = true
    · rw [List.dropWhile_cons_of_pos ha] at h
      exact ih h
    · rw [List.dropWhile_cons_of_neg ha] at h
      simp only [List.cons.injEq] at h
      rw [← h.1]
      simpa using ha

theorem pN_some {L : List UInt8} {n : Nat} {r : List UInt8} (h : pN L = some (n, r)) : L = vt n ++ r ∧ n ≤ 1000000000 := by
  unfold pN at h
  rw [Option.map_eq_some_iff] at h
  obtain ⟨⟨m, j⟩, h1, h2⟩ := h
  simp only [Prod.mk.injEq] at h2
  obtain ⟨rfl, rfl⟩ := h2
  have hb := rv_some h1
  refine ⟨?_, hb.1⟩
  unfold rv at h1
  split at h1
  · cases h1
  · rename_i c r' hd
    split at h1
    · rename_i hc
      simp only [Option.some.injEq, Prod.mk.injEq] at h1
      obtain ⟨rfl, rfl⟩ := h1
      have e : L.takeWhile big ++ L.dropWhile big = L := List.takeWhile_append_dropWhile
      have hbig := tw_big L
      have hcc := dw_head hd
      have hv := (vt_val _ hbig c hcc).2 hc.2.1
      rw [hv]
      conv => lhs; rw [← e, hd]
      have hL : L.drop (0 + (L.takeWhile big).length + 1) = r' := by
        have e2 : L = L.takeWhile big ++ c :: r' := by rw [← hd, e]
        rw [Nat.zero_add]
        generalize L.takeWhile big = p at e2
        subst e2
        clear hb hv hbig hc hd e hcc
        induction p with
        | nil => rfl
        | cons b p ih => simp
      rw [hL]
      simp
    · cases h1

theorem nx_pN_le (st : Option (List UInt8)) : (nx pN st).1 ≤ 1000000000 := by
  unfold nx
  split
  · omega
  · split
    · simp
    · rename_i h
      exact (pN_some h).2
theorem nx_pO_le (st : Option (List UInt8)) : (nx pO st).1 ≤ 255 := by
  unfold nx
  split
  · omega
  · rename_i L
    match L with
    | [] => simp [pO]
    | c :: r => simp [pO]; have := UInt8.toNat_lt c; omega

theorem nx_some {f : List UInt8 → Option (Nat × List UInt8)} {st : Option (List UInt8)} {n : Nat} {r : List UInt8} (h : nx f st = (n, some r)) : ∃ L, st = some L ∧ f L = some (n, r) := by
  unfold nx at h
  split at h
  · simp at h
  · split at h
    · simp at h
    · rename_i L _ _ _ hf
      simp at h
      obtain ⟨rfl, rfl⟩ := h
      exact ⟨L, rfl, hf⟩
theorem nx_of {f : List UInt8 → Option (Nat × List UInt8)} {L : List UInt8} {n : Nat} {r : List UInt8} (h : f L = some (n, r)) : nx f (some L) = (n, some r) := by
  unfold nx; dsimp only; rw [h]

/-- edges are read: as many as the number ahead of them says, if there are so many -/
def ER (st : Option (List UInt8)) (es : List EdgeV) (st' : Option (List UInt8)) : Prop :=
  match (nx pN st).2 with
  | none => st' = none
  | some L => if 66 < (nx pN st).1 then st' = none ∨ 66 < es.length else if L.length < 2 * (nx pN st).1 then st' = none else st' = some (L.drop (2 * (nx pN st).1)) ∧ es = pairs (L.take (2 * (nx pN st).1))

theorem ER.full {es0 es : List EdgeV} {r : List UInt8} {st' : Option (List UInt8)} (h : ER (some (et es0 ++ r)) es st') (hl : es0.length ≤ 66) (hb : EB8 es0) : es = es0 ∧ st' = some r := by
  have e : nx pN (some (et es0 ++ r)) = (es0.length, some (eb es0 ++ r)) := nx_of (by unfold et; rw [List.append_assoc]; exact pN_vt _ _ (by omega))
  have hle := eb_length es0
  unfold ER at h
  rw [e] at h
  dsimp only at h
  rw [if_neg (by omega), if_neg (by simp; omega)] at h
  obtain ⟨h1, h2⟩ := h
  have hq : 2 * es0.length = (eb es0).length := by omega
  rw [hq, List.drop_left] at h1
  rw [hq, List.take_left, pairs_eb es0 hb] at h2
  exact ⟨h2, h1⟩

theorem ER.sound {st : Option (List UInt8)} {es : List EdgeV} {r : List UInt8} (h : ER st es (some r)) (hl : es.length ≤ 66) : ∃ L, st = some L ∧ L = et es ++ r ∧ EB8 es := by
  unfold ER at h
  cases hn : nx pN st with
  | mk k s1 =>
    rw [hn] at h
    cases s1 with
    | none => simp at h
    | some M =>
      obtain ⟨L, rfl, hp⟩ := nx_some hn
      obtain ⟨hL, _⟩ := pN_some hp
      dsimp only at h
      split at h
      · rcases h with h | h
        · cases h
        · omega
      · split at h
        · cases h
        · rename_i h1 h2
          obtain ⟨h3, h4⟩ := h
          obtain ⟨e1, e2, e3⟩ := eb_pairs k (M.take (2 * k)) (by simp; omega)
          subst h4
          simp only [Option.some.injEq] at h3
          refine ⟨L, rfl, ?_, e3⟩
          unfold et
          rw [e1, e2, h3, List.append_assoc, List.take_append_drop]
          exact hL

/-- the parts of an order, one by one -/
def Ch (L : List UInt8) (o : OrdV) (st' : Option (List UInt8)) : Prop :=
  ∃ s1 s2 s3, o.num = (((nx pN (some L)).1 : Nat) : Int) ∧ s1 = (nx pN (some L)).2 ∧ o.op = (((nx pO s1).1 : Nat) : Int) ∧ s2 = (nx pO s1).2 ∧ o.v = (((nx pN s2).1 : Nat) : Int) ∧ s3 = (nx pN s2).2 ∧ ER s3 o.es st'

theorem eB_bytes {n : Int} {e : EdgeV} (h : eB n e = true) : (0 ≤ e.1 ∧ e.1 < 256) ∧ (0 ≤ e.2 ∧ e.2 < 256) := by
  simp [eB] at h
  omega

theorem chk_each {n : Int} {es : List EdgeV} (h : chk n es = true) : ∀ e ∈ es, eB n e = true := by
  intro e he
  obtain ⟨j, hj, rfl⟩ := List.getElem_of_mem he
  have h1 : chkAt n es j = true := by
    unfold chk at h
    rw [List.all_eq_true] at h
    exact h j (List.mem_range.2 hj)
  cases hb : eB n es[j] with
  | true => rfl
  | false => rw [chkAt_no (List.getElem?_eq_getElem hj) hb] at h1; cases h1

theorem eOk_bytes {n : Int} {es : List EdgeV} (h : eOk n es = true) : EB8 es ∧ es.length ≤ 66 := by
  unfold eOk at h
  simp only [Bool.and_eq_true, decide_eq_true_eq] at h
  exact ⟨fun e he => eB_bytes (chk_each h.1 e he), h.2⟩

theorem oB_parts {n : Int} {o : OrdV} (h : oB n o = true) : (1 ≤ n ∧ n ≤ 12) ∧ (1 ≤ o.num ∧ o.num ≤ 100000) ∧ (EB8 o.es ∧ o.es.length ≤ 66) ∧ (1 ≤ o.op ∧ o.op ≤ 4) ∧ (0 ≤ o.v ∧ o.v ≤ 12) := by
  unfold oB at h
  simp only [Bool.and_eq_true, decide_eq_true_eq] at h
  obtain ⟨h1, h2, h3, h4⟩ := h
  refine ⟨h1, h2, eOk_bytes h3, ?_, ?_⟩ <;> unfold OpOk at h4 <;> omega

theorem aB_parts {n : Int} {a : AnsV} (h : aB n a = true) : (1 ≤ n ∧ n ≤ 12) ∧ (1 ≤ a.num ∧ a.num ≤ 100000) ∧ (EB8 a.es ∧ a.es.length ≤ 66) ∧ lB n a.ls = true := by
  unfold aB at h
  simp only [Bool.and_eq_true, decide_eq_true_eq] at h
  obtain ⟨h1, h2, h3, h4⟩ := h
  exact ⟨h1, h2, eOk_bytes h3, h4⟩

/-- what a right order's bytes are read as -/
theorem Ch.full {n : Int} {o0 o : OrdV} {st' : Option (List UInt8)} (h0 : oB n o0 = true) (h : Ch (oText o0) o st') : o = o0 ∧ st' = some [] := by
  obtain ⟨s1, s2, s3, a1, rfl, a2, rfl, a3, rfl, hE⟩ := h
  obtain ⟨_, p1, ⟨p2, p3⟩, p4, p5⟩ := oB_parts h0
  have e1 : nx pN (some (oText o0)) = (o0.num.toNat, some (ob o0.op :: (vt o0.v.toNat ++ et o0.es))) := nx_of (pN_vt _ _ (by omega))
  rw [e1] at a1 a2 a3 hE
  have e2 : nx pO (some (ob o0.op :: (vt o0.v.toNat ++ et o0.es))) = ((ob o0.op).toNat, some (vt o0.v.toNat ++ et o0.es)) := nx_of rfl
  dsimp only at a1 a2 a3 hE
  rw [e2] at a2 a3 hE
  have e3 : nx pN (some (vt o0.v.toNat ++ et o0.es)) = (o0.v.toNat, some (et o0.es)) := nx_of (pN_vt _ _ (by omega))
  dsimp only at a2 a3 hE
  rw [e3] at a3 hE
  dsimp only at a3 hE
  rw [← List.append_nil (et o0.es)] at hE
  obtain ⟨h5, h6⟩ := hE.full p3 p2
  rw [ob_back (by omega)] at a2
  obtain ⟨a, b, c, d⟩ := o
  obtain ⟨a', b', c', d'⟩ := o0
  dsimp only at *
  refine ⟨?_, h6⟩
  simp only [OrdV.mk.injEq]
  exact ⟨by omega, a2, h5, by omega⟩

/-- what is read to its end is the bytes of it -/
theorem Ch.sound {L : List UInt8} {o : OrdV} (h : Ch L o (some [])) (hl : o.es.length ≤ 66) : L = oText o := by
  obtain ⟨s1, s2, s3, a1, b1, a2, b2, a3, b3, hE⟩ := h
  obtain ⟨L3, rfl, hL3, _⟩ := hE.sound hl
  obtain ⟨L2, rfl, h3⟩ := nx_some (f := pN) (st := s2) (n := (nx pN s2).1) (r := L3) (by rw [b3])
  obtain ⟨L1, rfl, h2⟩ := nx_some (f := pO) (st := s1) (n := (nx pO s1).1) (r := L2) (by rw [b2])
  obtain ⟨L0, hL0, h1⟩ := nx_some (f := pN) (st := some L) (n := (nx pN (some L)).1) (r := L1) (by rw [b1])
  simp only [Option.some.injEq] at hL0
  subst hL0
  have q3 := (pN_some h3).1
  have q1 := (pN_some h1).1
  have q2 : L1 = ob o.op :: L2 := by
    cases L1 with
    | nil => simp [pO] at h2
    | cons c r =>
      simp only [pO, Option.some.injEq, Prod.mk.injEq] at h2
      rw [a2, ← h2.1, ob_nat, h2.2]
  unfold oText
  rw [a1, a3, Int.toNat_natCast, Int.toNat_natCast]
  rw [List.append_nil] at hL3
  rw [← hL3, ← q3, ← q2]
  exact q1

/-- what is the right order of these bytes, if there is one -/
def IsO (n : Int) (L : List UInt8) : Option OrdV → Prop
  | none => ∀ o, oB n o = true → oText o ≠ L
  | some o => oB n o = true ∧ oText o = L

theorem Ch.self {n : Int} {o : OrdV} (h0 : oB n o = true) : Ch (oText o) o (some []) := by
  obtain ⟨_, p1, ⟨p2, p3⟩, p4, p5⟩ := oB_parts h0
  have e1 : nx pN (some (oText o)) = (o.num.toNat, some (ob o.op :: (vt o.v.toNat ++ et o.es))) := nx_of (pN_vt _ _ (by omega))
  have e2 : nx pO (some (ob o.op :: (vt o.v.toNat ++ et o.es))) = ((ob o.op).toNat, some (vt o.v.toNat ++ et o.es)) := nx_of rfl
  have e3 : nx pN (some (vt o.v.toNat ++ et o.es)) = (o.v.toNat, some (et o.es)) := nx_of (pN_vt _ _ (by omega))
  have e4 : nx pN (some (et o.es)) = (o.es.length, some (eb o.es)) := nx_of (pN_vt _ _ (by omega))
  have hle := eb_length o.es
  refine ⟨some (ob o.op :: (vt o.v.toNat ++ et o.es)), some (vt o.v.toNat ++ et o.es), some (et o.es), by rw [e1]; dsimp only; omega, by rw [e1], by rw [e2]; dsimp only; rw [ob_back (by omega)], by rw [e2], by rw [e3]; dsimp only; omega, by rw [e3], ?_⟩
  unfold ER
  rw [e4]
  dsimp only
  rw [if_neg (by omega), if_neg (by omega)]
  have hq : 2 * o.es.length = (eb o.es).length := by omega
  rw [hq, List.drop_length, List.take_length, pairs_eb _ p2]
  exact ⟨rfl, rfl⟩

theorem IsO.uniq {n : Int} {L : List UInt8} : ∀ {r r' : Option OrdV}, IsO n L r → IsO n L r' → r = r'
  | none, none, _, _ => rfl
  | none, some o, h, h' => absurd h'.2 (h o h'.1)
  | some o, none, h, h' => absurd h.2 (h' o h.1)
  | some o, some o', h, h' => by
    have := Ch.self h.1
    rw [h.2, ← h'.2] at this
    rw [(Ch.full h'.1 this).1]

theorem IsO.yes {n : Int} {L : List UInt8} {o : OrdV} (h : Ch L o (some [])) (h0 : oB n o = true) : IsO n L (some o) :=
  ⟨h0, (h.sound (oB_parts h0).2.2.1.2).symm⟩
theorem IsO.no {n : Int} {L : List UInt8} {o : OrdV} {st' : Option (List UInt8)} (h : Ch L o st') (h0 : st' ≠ some [] ∨ oB n o = false) : IsO n L none := by
  intro o' ho' e
  subst e
  obtain ⟨rfl, rfl⟩ := Ch.full ho' h
  rcases h0 with h0 | h0
  · exact h0 rfl
  · rw [ho'] at h0; cases h0
/-- as the specification asks: what was read has these bytes again -/
theorem IsO.back {n : Int} {L : List UInt8} {o : OrdV} {st' : Option (List UInt8)} (h : Ch L o st') (h0 : st' = none ∨ oB n o = false ∨ oText o ≠ L) : IsO n L none := by
  intro o' ho' e
  subst e
  obtain ⟨rfl, rfl⟩ := Ch.full ho' h
  rcases h0 with h0 | h0 | h0
  · cases h0
  · rw [ho'] at h0; cases h0
  · exact h0 rfl

/-- so many labels are read, if there are so many bytes -/
def LR (n : Nat) (st : Option (List UInt8)) (ls : List Int) (st' : Option (List UInt8)) : Prop :=
  match st with
  | none => st' = none
  | some L => if L.length < n then st' = none else st' = some (L.drop n) ∧ ls = (L.take n).map fun c => ((c.toNat : Nat) : Int)

/-- the parts of an answer, one by one -/
def Ca (n : Nat) (L : List UInt8) (a : AnsV) (st' : Option (List UInt8)) : Prop :=
  ∃ s1 s2 s3 s4, a.num = (((nx pN (some L)).1 : Nat) : Int) ∧ s1 = (nx pN (some L)).2 ∧ a.ok = decide ((nx pO s1).1 = 1) ∧ (s2 = (nx pO s1).2 ∨ s2 = none ∧ 1 < (nx pO s1).1) ∧ ER s2 a.es s3 ∧ LR n s3 a.ls s4 ∧ st' = s4

theorem lB_bytes {n : Int} {ls : List Int} (hn : n ≤ 12) (h : lB n ls = true) : (ls.length : Int) = n ∧ ∀ x ∈ ls, 0 ≤ x ∧ x < 256 := by
  unfold lB at h
  simp only [Bool.and_eq_true, decide_eq_true_eq] at h
  refine ⟨h.1, fun x hx => ?_⟩
  obtain ⟨j, hj, rfl⟩ := List.getElem_of_mem hx
  have h2 := h.2
  unfold lbs at h2
  rw [List.all_eq_true] at h2
  have h3 := h2 j (List.mem_range.2 hj)
  unfold lbAt at h3
  rw [List.getElem?_eq_getElem hj] at h3
  simp only [Bool.and_eq_true, decide_eq_true_eq] at h3
  omega

theorem map_back (ls : List Int) (h : ∀ x ∈ ls, 0 ≤ x ∧ x < 256) : ((ls.map ob).map fun c => ((c.toNat : Nat) : Int)) = ls := by
  rw [List.map_map]
  conv => rhs; rw [← List.map_id ls]
  exact List.map_congr_left fun x hx => by simp only [Function.comp, id]; exact ob_back (h x hx)
theorem map_forth (L : List UInt8) : ((L.map fun c => ((c.toNat : Nat) : Int)).map ob) = L := by
  rw [List.map_map]
  conv => rhs; rw [← List.map_id L]
  exact List.map_congr_left fun x _ => by simp only [Function.comp, id]; exact ob_nat x

def okb (b : Bool) : UInt8 := if b then 1 else 0
theorem okb_is (b : Bool) : decide ((okb b).toNat = 1) = b ∧ (okb b).toNat ≤ 1 := by cases b <;> simp [okb]

theorem Ca.full {n : Int} {m : Nat} {a0 a : AnsV} {st' : Option (List UInt8)} (hm : (m : Int) = n) (h0 : aB n a0 = true) (h : Ca m (aText a0) a st') : a = a0 ∧ st' = some [] := by
  obtain ⟨s1, s2, s3, s4, a1, rfl, a2, b2, hE, hL, rfl⟩ := h
  obtain ⟨p0, p1, ⟨p2, p3⟩, p4⟩ := aB_parts h0
  obtain ⟨p5, p6⟩ := lB_bytes p0.2 p4
  have e1 : nx pN (some (aText a0)) = (a0.num.toNat, some (okb a0.ok :: (et a0.es ++ a0.ls.map ob))) := nx_of (pN_vt _ _ (by omega))
  rw [e1] at a1 a2 b2
  have e2 : nx pO (some (okb a0.ok :: (et a0.es ++ a0.ls.map ob))) = ((okb a0.ok).toNat, some (et a0.es ++ a0.ls.map ob)) := nx_of rfl
  dsimp only at a1 a2 b2
  rw [e2] at a2 b2
  dsimp only at a2 b2
  have ho := okb_is a0.ok
  rw [ho.1] at a2
  have hs2 : s2 = some (et a0.es ++ a0.ls.map ob) := by
    rcases b2 with b2 | b2
    · exact b2
    · omega
  subst hs2
  obtain ⟨h5, rfl⟩ := hE.full p3 p2
  unfold LR at hL
  dsimp only at hL
  rw [if_neg (by simp; omega)] at hL
  obtain ⟨h6, h7⟩ := hL
  have hlen : m = (a0.ls.map ob).length := by simp; omega
  rw [hlen, List.drop_length] at h6
  rw [hlen, List.take_length, map_back _ p6] at h7
  obtain ⟨a', b', c', d'⟩ := a
  obtain ⟨a'', b'', c'', d''⟩ := a0
  dsimp only at *
  refine ⟨?_, h6⟩
  simp only [AnsV.mk.injEq]
  exact ⟨by omega, a2, h5, h7⟩

theorem Ca.sound {n : Nat} {L : List UInt8} {a : AnsV} (h : Ca n L a (some [])) (hl : a.es.length ≤ 66)
    (hf : (nx pO (nx pN (some L)).2).1 ≤ 1) : L = aText a := by
  obtain ⟨s1, s2, s3, s4, a1, b1, a2, b2, hE, hL, hs4⟩ := h
  subst hs4
  cases s3 with
  | none => simp [LR] at hL
  | some M =>
    unfold LR at hL
    dsimp only at hL
    split at hL
    · cases hL
    · rename_i hlen
      obtain ⟨h6, h7⟩ := hL
      simp only [Option.some.injEq] at h6
      have hM : M = a.ls.map ob := by
        rw [h7, map_forth]
        conv => lhs; rw [← List.take_append_drop n M, ← h6, List.append_nil]
      obtain ⟨L2, rfl, hL2, _⟩ := hE.sound hl
      have b2' : some L2 = (nx pO s1).2 := by
        rcases b2 with b2 | ⟨b2, _⟩
        · exact b2
        · cases b2
      obtain ⟨L1, rfl, h2⟩ := nx_some (f := pO) (st := s1) (n := (nx pO s1).1) (r := L2) (by rw [b2'])
      obtain ⟨L0, hL0, h1⟩ := nx_some (f := pN) (st := some L) (n := (nx pN (some L)).1) (r := L1) (by rw [b1])
      simp only [Option.some.injEq] at hL0
      subst hL0
      rw [← b1] at hf
      have q1 := (pN_some h1).1
      have q2 : L1 = okb a.ok :: L2 := by
        cases L1 with
        | nil => simp [pO] at h2
        | cons c r =>
          simp only [pO, Option.some.injEq, Prod.mk.injEq] at h2
          have hc : c = okb a.ok := by
            rw [a2, ← h2.1]
            have : c.toNat ≤ 1 := by rw [h2.1]; exact hf
            by_cases h : c.toNat = 1
            · simp [okb, h]; exact UInt8.toNat_inj.1 (by simp [h])
            · simp [okb, h]; exact UInt8.toNat_inj.1 (by simp; omega)
          rw [hc, h2.2]
      unfold aText
      rw [a1, Int.toNat_natCast, ← hM]
      show L = _ ++ okb a.ok :: _
      rw [← hL2, ← q2]
      exact q1

def IsA (n : Int) (L : List UInt8) : Option AnsV → Prop
  | none => ∀ a, aB n a = true → aText a ≠ L
  | some a => aB n a = true ∧ aText a = L

theorem Ca.self {n : Int} {m : Nat} {a : AnsV} (hm : (m : Int) = n) (h0 : aB n a = true) : Ca m (aText a) a (some []) := by
  obtain ⟨p0, p1, ⟨p2, p3⟩, p4⟩ := aB_parts h0
  obtain ⟨p5, p6⟩ := lB_bytes p0.2 p4
  have e1 : nx pN (some (aText a)) = (a.num.toNat, some (okb a.ok :: (et a.es ++ a.ls.map ob))) := nx_of (pN_vt _ _ (by omega))
  have e2 : nx pO (some (okb a.ok :: (et a.es ++ a.ls.map ob))) = ((okb a.ok).toNat, some (et a.es ++ a.ls.map ob)) := nx_of rfl
  have e4 : nx pN (some (et a.es ++ a.ls.map ob)) = (a.es.length, some (eb a.es ++ a.ls.map ob)) := nx_of (by unfold et; rw [List.append_assoc]; exact pN_vt _ _ (by omega))
  have hle := eb_length a.es
  refine ⟨some (okb a.ok :: (et a.es ++ a.ls.map ob)), some (et a.es ++ a.ls.map ob), some (a.ls.map ob), some [], by rw [e1]; dsimp only; omega, by rw [e1], by rw [e2]; exact (okb_is a.ok).1.symm, .inl (by rw [e2]), ?_, ?_, rfl⟩
  · unfold ER
    rw [e4]
    dsimp only
    rw [if_neg (by omega), if_neg (by simp; omega)]
    have hq : 2 * a.es.length = (eb a.es).length := by omega
    rw [hq, List.drop_left, List.take_left, pairs_eb _ p2]
    exact ⟨rfl, rfl⟩
  · have hlen : m = (a.ls.map ob).length := by simp; omega
    unfold LR
    dsimp only
    rw [if_neg (by omega), hlen, List.drop_length, List.take_length, map_back _ p6]
    exact ⟨rfl, rfl⟩

theorem IsA.uniq {n : Int} {L : List UInt8} : ∀ {r r' : Option AnsV}, IsA n L r → IsA n L r' → r = r'
  | none, none, _, _ => rfl
  | none, some o, h, h' => absurd h'.2 (h o h'.1)
  | some o, none, h, h' => absurd h.2 (h' o h.1)
  | some a, some a', h, h' => by
    have hp := (aB_parts h.1).1
    have := Ca.self (m := n.toNat) (by omega) h.1
    rw [h.2, ← h'.2] at this
    rw [(Ca.full (by omega) h'.1 this).1]

theorem IsA.yes {n : Int} {m : Nat} {L : List UInt8} {a : AnsV} (h : Ca m L a (some [])) (h0 : aB n a = true) (hf : (nx pO (nx pN (some L)).2).1 ≤ 1) : IsA n L (some a) := by
  obtain ⟨_, _, ⟨_, p3⟩, _⟩ := aB_parts h0
  exact ⟨h0, (h.sound p3 hf).symm⟩
theorem IsA.no {n : Int} {m : Nat} {L : List UInt8} {a : AnsV} {st' : Option (List UInt8)} (hm : (m : Int) = n) (h : Ca m L a st') (h0 : st' ≠ some [] ∨ aB n a = false) : IsA n L none := by
  intro o' ho' e
  subst e
  obtain ⟨rfl, rfl⟩ := Ca.full hm ho' h
  rcases h0 with h0 | h0
  · exact h0 rfl
  · rw [ho'] at h0; cases h0
theorem IsA.back {n : Int} {m : Nat} {L : List UInt8} {a : AnsV} {st' : Option (List UInt8)} (hm : (m : Int) = n) (h : Ca m L a st') (h0 : st' = none ∨ aB n a = false ∨ aText a ≠ L) : IsA n L none := by
  intro o' ho' e
  subst e
  obtain ⟨rfl, rfl⟩ := Ca.full hm ho' h
  rcases h0 with h0 | h0 | h0
  · cases h0
  · rw [ho'] at h0; cases h0
  · exact h0 rfl
theorem IsA.out {n : Int} {L : List UInt8} (h : ¬ (1 ≤ n ∧ n ≤ 12)) : IsA n L none := fun _ ha _ => h (aB_parts ha).1
end Go.Proofs.YthnibebljbljdaaGreatDoor
namespace Go.Proofs.YthnibebljbljdaaGreatDoor
open Go.RowKit Vt

/-- the reader of the text s stands in block G, and st is what is still to be read; e: where it has failed it stands at the end -/
def RdAt (e : Prop) (t : TypeId) (w : World) (G : Nat) (s : ByteArray) (st : Option (List UInt8)) : Prop :=
  ∃ (p : Nat) (f : Bool), w.heap[G]? = some (.cells #[.string s, .int .i64 (p : Int), .bool f] t (0, 0)) ∧ p ≤ s.size ∧ (f = false ∧ st = some (from_ s p) ∨ f = true ∧ st = none ∧ (e → p = s.size))

theorem gr_set (w : World) (G j : Nat) (u : Value) : w.grownBy (w.setCell ⟨G, j, none⟩ u) (some G) :=
  ⟨rfl, rfl, rfl, by simp [World.setCell], fun k _ hk => heap_setCell_other w ⟨G, j, none⟩ k u (fun e => hk (by simp [e]))⟩
theorem gr_trans {a b c : World} {row : Option Nat} (h : a.grownBy b row) (k : b.grownBy c row) : a.grownBy c row :=
  ⟨k.os.trans h.os, k.tape.trans h.tape, k.output.trans h.output, Nat.le_trans h.size k.size, fun i hi hr => (k.block i (Nat.lt_of_lt_of_le hi h.size) hr).trans (h.block i hi hr)⟩
theorem gr_refl (w : World) (row : Option Nat) : w.grownBy w row := ⟨rfl, rfl, rfl, Nat.le_refl _, fun _ _ _ => rfl⟩
theorem gr_drew (w : World) (row : Option Nat) : w.grownBy w.drew row := ⟨rfl, rfl, rfl, Nat.le_refl _, fun _ _ _ => rfl⟩
theorem gr_drews (w : World) (n : Nat) (row : Option Nat) : w.grownBy (w.drewN n) row := ⟨rfl, rfl, rfl, Nat.le_refl _, fun _ _ _ => rfl⟩
theorem gr_below {w w' : World} (h : Below w.heap.size w w') (row : Option Nat) : w.grownBy w' row := ⟨h.os, h.tape, h.output, h.size, fun i hi _ => h.block i hi⟩
theorem st1 {w : World} {G : Nat} {A B C D : Value} {t : TypeId} (h : w.heap[G]? = some (.cells #[A, B, C] t (0, 0))) : (w.setCell ⟨G, 1, none⟩ D).heap[G]? = some (.cells #[A, D, C] t (0, 0)) := by
  rw [heap_setCell_same w G 1 _ t D h]; rfl
theorem st2 {w : World} {G : Nat} {A B C D : Value} {t : TypeId} (h : w.heap[G]? = some (.cells #[A, B, C] t (0, 0))) : (w.setCell ⟨G, 2, none⟩ D).heap[G]? = some (.cells #[A, B, D] t (0, 0)) := by
  rw [heap_setCell_same w G 2 _ t D h]; rfl

theorem from_drop (s : ByteArray) (p k : Nat) : (from_ s p).drop k = from_ s (p + k) := by unfold from_; rw [List.drop_drop]
theorem from_end (s : ByteArray) : from_ s s.size = [] := by unfold from_; exact List.drop_of_length_le (by simp)
theorem from_at_cons (s : ByteArray) (p : Nat) (h : p < s.size) : from_ s p = s[p] :: from_ s (p + 1) := by
  unfold from_
  rw [List.drop_eq_getElem_cons (by simpa using h)]
  rfl

theorem nx_rv_none {s : ByteArray} {p : Nat} (h : rv p (from_ s p) = none) : nx pN (some (from_ s p)) = (0, none) := by
  have : pN (from_ s p) = none := by
    rw [rv_from, Option.map_eq_none_iff] at h
    unfold pN
    rw [h]; rfl
  unfold nx
  dsimp only
  rw [this]
theorem nx_rv_some {s : ByteArray} {p n j : Nat} (hp : p ≤ s.size) (h : rv p (from_ s p) = some (n, j)) : nx pN (some (from_ s p)) = (n, some (from_ s j)) ∧ j ≤ s.size ∧ n ≤ 1000000000 := by
  have hb := rv_some h
  rw [from_length] at hb
  rw [rv_from, Option.map_eq_some_iff] at h
  obtain ⟨⟨m, i⟩, h1, h2⟩ := h
  simp only [Prod.mk.injEq] at h2
  obtain ⟨rfl, rfl⟩ := h2
  refine ⟨nx_of ?_, by omega, hb.1⟩
  unfold pN
  rw [h1]
  simp [from_drop]

theorem nx_none (f : List UInt8 → Option (Nat × List UInt8)) : nx f none = (0, none) := rfl
theorem nx_oct {s : ByteArray} {p : Nat} (h : p < s.size) : nx pO (some (from_ s p)) = ((s[p]).toNat, some (from_ s (p + 1))) := by
  rw [from_at_cons s p h]; rfl
theorem nx_oct_end (s : ByteArray) : nx pO (some (from_ s s.size)) = (0, none) := by rw [from_end]; rfl

theorem rFail_any (s : ByteArray) (w : World) (G : Nat) (x : Int) (y : Bool) (hG : w.heap[G]? = some (.cells #[.string s, .int .i64 x, .bool y] 200 (0, 0))) :
    Calls Tryz.prog 152 #[.pointer (some ⟨G, 0, none⟩)] w fun e w' => e = .returned (.tuple #[]) ∧ w'.heap[G]? = some (.cells #[.string s, .int .i64 (s.size : Int), .bool true] 200 (0, 0)) ∧ w.grownBy w' (some G) := by
  have c0 : w.cell? ⟨G, 0, none⟩ = some (.string s) := by rw [cell_of_row w G 0 _ _ _ hG]; rfl
  have c1 : w.cell? ⟨G, 1, none⟩ = some (.int .i64 x) := by rw [cell_of_row w G 1 _ _ _ hG]; rfl
  have c2 : w.cell? ⟨G, 2, none⟩ = some (.bool y) := by rw [cell_of_row w G 2 _ _ _ hG]; rfl
  have f1 : w.frozen? ⟨G, 1, none⟩ = false := frozen_of_row w G 1 _ _ hG
  have f2 : w.frozen? ⟨G, 2, none⟩ = false := frozen_of_row w G 2 _ _ hG
  have HG := hideIt hG
  clear hG
  go_enter Tryz.func152, Tryz.ntmps152
  go_wp2
  refine bodyPost_end (v := .tuple #[]) ?_ rfl ?_
  · simp [results, Tryz.results152, go_sem]
  exact ⟨rfl, st2 (st1 HG.out), gr_trans (gr_set _ _ _ _) (gr_set _ _ _ _)⟩

set_option maxRecDepth 100000 in
set_option maxHeartbeats 4000000 in
theorem rNumber_any (s : ByteArray) (hs : s.size ≤ 1048576) (w : World) (G : Nat) (st : Option (List UInt8)) (h : RdAt True 200 w G s st) :
    Calls Tryz.prog 143 #[.pointer (some ⟨G, 0, none⟩)] w fun e w' => e = .returned (.int .i64 (((nx pN st).1 : Nat) : Int)) ∧ RdAt True 200 w' G s (nx pN st).2 ∧ w.grownBy w' (some G) := by
  obtain ⟨p, f, hG, hp, hf⟩ := h
  have c0 : w.cell? ⟨G, 0, none⟩ = some (.string s) := by rw [cell_of_row w G 0 _ _ _ hG]; rfl
  have c1 : w.cell? ⟨G, 1, none⟩ = some (.int .i64 (p : Int)) := by rw [cell_of_row w G 1 _ _ _ hG]; rfl
  have f1 : w.frozen? ⟨G, 1, none⟩ = false := frozen_of_row w G 1 _ _ hG
  have HV := hideIt (iReadVar_in s hs p hp)
  have HF := hideIt (fun W => rFail_any s W G (p : Int) f)
  have HG := hideIt hG
  clear hG
  cases hr : rv p (from_ s p) with
  | none =>
    rw [hr] at HV
    have hnx : Hid (nx pN st = (0, none)) := by
      show _ = _
      rcases hf with ⟨_, rfl⟩ | ⟨_, rfl, _⟩
      · exact nx_rv_none hr
      · rfl
    clear hf hr
    unfold rvV at HV
    go_enter Tryz.func143, Tryz.ntmps143
    go_wp2
    go_region_held3 (fun u => u.cell? ⟨G, 0, none⟩ = some (.string s) ∧ u.cell? ⟨G, 1, none⟩ = some (.int .i64 (p : Int))) (exact ⟨c0, c1⟩)
      ((go_at_call 91; refine (HV.out _).mono ?_; rintro e w1 ⟨rfl, rfl⟩))
    go_wp2_with (go_at_call 152; refine (HF.out w.drew HG.out).mono ?_; rintro e w2 ⟨rfl, hg2, hr2⟩)
    go_ret
    rw [hnx.out]
    exact ⟨rfl, ⟨s.size, true, hg2, Nat.le_refl _, .inr ⟨rfl, rfl, fun _ => rfl⟩⟩, gr_trans (gr_drew _ _) hr2⟩
  | some x =>
    obtain ⟨n, j⟩ := x
    rw [hr] at HV
    have hnx : Hid (nx pN st = (n, some (from_ s j)) ∧ j ≤ s.size ∧ f = false) := by
      show _ ∧ _
      rcases hf with ⟨h1, rfl⟩ | ⟨_, rfl, h3⟩
      · have := nx_rv_some hp hr
        exact ⟨this.1, this.2.1, h1⟩
      · have h4 := h3 trivial
        subst h4
        rw [from_end] at hr
        simp [rv] at hr
    clear hf hr
    unfold rvV at HV
    go_enter Tryz.func143, Tryz.ntmps143
    go_wp2
    go_region_held3 (fun u => u.cell? ⟨G, 0, none⟩ = some (.string s) ∧ u.cell? ⟨G, 1, none⟩ = some (.int .i64 (p : Int))) (exact ⟨c0, c1⟩)
      ((go_at_call 91; refine (HV.out _).mono ?_; rintro e w1 ⟨rfl, rfl⟩))
    go_wp2
    go_ret
    rw [hnx.out.1]
    refine ⟨rfl, ⟨j, f, st1 HG.out, hnx.out.2.1, .inl ⟨hnx.out.2.2, rfl⟩⟩, gr_trans (gr_drew _ _) (gr_set _ _ _ _)⟩

set_option maxRecDepth 100000 in
set_option maxHeartbeats 4000000 in
theorem rOctet_any (s : ByteArray) (hs : s.size ≤ 1048576) (w : World) (G : Nat) (st : Option (List UInt8)) (h : RdAt True 200 w G s st) :
    Calls Tryz.prog 149 #[.pointer (some ⟨G, 0, none⟩)] w fun e w' => e = .returned (.int .i64 (((nx pO st).1 : Nat) : Int)) ∧ RdAt True 200 w' G s (nx pO st).2 ∧ w.grownBy w' (some G) := by
  obtain ⟨p, f, hG, hp, hf⟩ := h
  have c0 : w.cell? ⟨G, 0, none⟩ = some (.string s) := by rw [cell_of_row w G 0 _ _ _ hG]; rfl
  have c1 : w.cell? ⟨G, 1, none⟩ = some (.int .i64 (p : Int)) := by rw [cell_of_row w G 1 _ _ _ hG]; rfl
  have f1 : w.frozen? ⟨G, 1, none⟩ = false := frozen_of_row w G 1 _ _ hG
  have HF := hideIt (fun W => rFail_any s W G (p : Int) f)
  have HG := hideIt hG
  clear hG
  by_cases hlt : p < s.size
  · have hnx : Hid (nx pO st = ((s[p]).toNat, some (from_ s (p + 1))) ∧ f = false) := by
      show _ ∧ _
      rcases hf with ⟨h1, rfl⟩ | ⟨_, rfl, h3⟩
      · exact ⟨nx_oct hlt, h1⟩
      · have := h3 trivial
        omega
    have e1 : ((p : Int) == (s.size : Int)) = false := by simp; omega
    have b1 : (0 : Int) ≤ (p : Int) := by omega
    have b2 : (p : Int) < (s.size : Int) := by omega
    have wp1 : IntKind.i64.wrap ((p : Int) + 1) = (p : Int) + 1 := by rw [IntKind.wrap_i64]; omega
    have wp2 : IntKind.i64.wrap ((p : Int) + 1 - 1) = (p : Int) := by rw [IntKind.wrap_i64]; omega
    clear hf
    go_enter Tryz.func149, Tryz.ntmps149
    go_wp2
    go_quiet (fail)
    go_wp2
    go_quiet (fail)
    go_wp2
    go_ret
    rw [hnx.out.1]
    refine ⟨?_, ⟨p + 1, f, ?_, by omega, .inl ⟨hnx.out.2, rfl⟩⟩, ?_⟩
    · have h8 := UInt8.toNat_lt s[p]
      have hw : wrap64 ((s[p]).toNat : Int) = ((s[p]).toNat : Int) := by unfold wrap64; omega
      exact congrArg (fun z => Ending.returned (.int .i64 z)) hw
    · exact st1 HG.out
    · exact gr_trans (gr_trans (gr_drews _ _ _) (gr_set _ _ _ _)) (gr_drews _ _ _)
  · have hnx : Hid (nx pO st = (0, none)) := by
      show _ = _
      rcases hf with ⟨_, rfl⟩ | ⟨_, rfl, _⟩
      · obtain rfl : p = s.size := by omega
        exact nx_oct_end s
      · rfl
    obtain rfl : p = s.size := by omega
    clear hf
    go_enter Tryz.func149, Tryz.ntmps149
    go_wp2
    go_quiet (fail)
    go_wp2_with (go_at_call 152; refine (HF.out (World.drewN w _) HG.out).mono ?_; rintro e w2 ⟨rfl, hg2, hr2⟩)
    go_ret
    rw [hnx.out]
    exact ⟨rfl, ⟨s.size, true, hg2, Nat.le_refl _, .inr ⟨rfl, rfl, fun _ => rfl⟩⟩, gr_trans (gr_drews _ _ _) hr2⟩
end Go.Proofs.YthnibebljbljdaaGreatDoor
namespace Go.Proofs.YthnibebljbljdaaGreatDoor
open Go.RowKit Vt

/-- behind k edges: the bytes ahead of what is still to be read, or too few of them -/
def EdSt (L : List UInt8) (k : Nat) (es : List EdgeV) (st : Option (List UInt8)) : Prop :=
  es.length = k ∧ EB8 es ∧ (if L.length < 2 * k then st = none else st = some (L.drop (2 * k)) ∧ es = pairs (L.take (2 * k)))

theorem EdSt.start (L : List UInt8) : EdSt L 0 [] (some L) := by
  refine ⟨rfl, (fun e he => by cases he), ?_⟩
  rw [if_neg (by omega)]
  simp [pairs]

theorem pairs_snoc : ∀ (k : Nat) (L : List UInt8) (a b : UInt8) (r : List UInt8), L.length = 2 * k → pairs (L ++ [a, b] ++ r) = pairs L ++ ((a.toNat : Int), (b.toNat : Int)) :: pairs r
  | 0, L, a, b, r, h => by
    obtain rfl : L = [] := List.length_eq_zero_iff.1 (by omega)
    simp [pairs]
  | k + 1, L, a, b, r, h => by
    match L, h with
    | [], h => simp at h
    | [_], h => simp at h; omega
    | x :: y :: M, h =>
      have := pairs_snoc k M a b r (by simp at h; omega)
      simp only [List.cons_append, pairs, this]

/-- one edge more -/
theorem EdSt.step {L : List UInt8} {k : Nat} {es : List EdgeV} {st : Option (List UInt8)} (h : EdSt L k es st) :
    EdSt L (k + 1) (es ++ [((((nx pO st).1 : Nat) : Int), (((nx pO (nx pO st).2).1 : Nat) : Int))]) (nx pO (nx pO st).2).2 := by
  obtain ⟨h1, h2, h3⟩ := h
  refine ⟨by simp [h1], ?_, ?_⟩
  · intro e he
    rcases List.mem_append.1 he with he | he
    · exact h2 e he
    · simp at he
      subst he
      have a1 := nx_pO_le st
      have a2 := nx_pO_le (nx pO st).2
      dsimp only
      omega
  · split at h3
    · subst h3
      rw [if_pos (by omega)]
      rfl
    · obtain ⟨h4, h5⟩ := h3
      subst h4
      match hM : L.drop (2 * k) with
      | [] =>
        have := congrArg List.length hM
        simp at this
        rw [if_pos (by omega)]
        rfl
      | [a] =>
        have := congrArg List.length hM
        simp at this
        rw [if_pos (by omega)]
        rfl
      | a :: b :: r =>
        have hl := congrArg List.length hM
        simp at hl
        rw [if_neg (by omega)]
        have e1 : L.take (2 * (k + 1)) = L.take (2 * k) ++ [a, b] ++ [] := by
          conv => lhs; rw [← List.take_append_drop (2 * k) L, hM]
          rw [List.take_append, List.length_take, show min (2 * k) L.length = 2 * k by omega, show 2 * (k + 1) - 2 * k = 2 by omega, List.take_of_length_le (by simp; omega)]
          simp
        have e2 : L.drop (2 * (k + 1)) = r := by
          rw [show 2 * (k + 1) = 2 * k + 2 by omega, ← List.drop_drop, hM]
          rfl
        refine ⟨?_, ?_⟩
        · rw [e2]; rfl
        · rw [e1, pairs_snoc k _ a b [] (by simp; omega), h5]
          rfl

theorem EdSt.er {st : Option (List UInt8)} {L : List UInt8} {k : Nat} {es : List EdgeV} {st' : Option (List UInt8)} (hn : nx pN st = (k, some L)) (hk : k ≤ 66) (h : EdSt L k es st') : ER st es st' := by
  unfold ER
  rw [hn]
  dsimp only
  rw [if_neg (by omega)]
  exact h.2.2

/-- what edges that were read are -/
structure EdAns (e : Prop) (t : TypeId) (w w' : World) (G : Nat) (s : ByteArray) (st : Option (List UInt8)) (v : Value) (most : Nat) : Prop where
  out : ∃ (a : Option Addr) (n c : Nat) (es : List EdgeV) (st' : Option (List UInt8)), v = .slice a n c ∧ n ≤ most ∧ EB8 es ∧ w'.ownsRow w.heap.size 120 2 (.slice a n c) n (ecells es) ∧ ER st es st' ∧ RdAt e t w' G s st'
  grown : w.grownBy w' (some G)

theorem RdAt.other {e : Prop} {t : TypeId} {w w' : World} {G g : Nat} {s : ByteArray} {st : Option (List UInt8)} (h : RdAt e t w G s st) (hg : w.grownBy w' (some g)) (hne : G ≠ g) : RdAt e t w' G s st := by
  obtain ⟨p, f, hG, rest⟩ := h
  refine ⟨p, f, ?_, rest⟩
  rw [hg.block G (Array.getElem?_eq_some_iff.1 hG).1 (by simp; exact hne)]
  exact hG
theorem RdAt.lt {e : Prop} {t : TypeId} {w : World} {G : Nat} {s : ByteArray} {st : Option (List UInt8)} (h : RdAt e t w G s st) : G < w.heap.size := by
  obtain ⟨p, f, hG, _⟩ := h
  exact (Array.getElem?_eq_some_iff.1 hG).1
theorem RdAt.alloc {e : Prop} {t : TypeId} {w : World} {G : Nat} {s : ByteArray} {st : Option (List UInt8)} (h : RdAt e t w G s st) (o : Obj) : RdAt e t (w.alloc o) G s st := by
  have hl := h.lt
  obtain ⟨p, f, hG, rest⟩ := h
  refine ⟨p, f, ?_, rest⟩
  rw [Below.heap_alloc w o G hl]
  exact hG

/-- a row of its own, and what two stores of the reader's and its own leave: all but the reader's block is as it was -/
theorem gr_set_new {w wr : World} {G g j : Nat} {u : Value} (h : w.grownBy wr (some G)) (hg : w.heap.size ≤ g) : w.grownBy (wr.setCell ⟨g, j, none⟩ u) (some G) := by
  have hs := gr_set wr g j u
  refine ⟨hs.os.trans h.os, hs.tape.trans h.tape, hs.output.trans h.output, Nat.le_trans h.size hs.size, fun i hi hr => ?_⟩
  rw [hs.block i (Nat.lt_of_lt_of_le hi h.size) (by simp; omega)]
  exact h.block i hi hr
theorem gr_alloc {w wr : World} {G : Nat} (h : w.grownBy wr (some G)) (o : Obj) : w.grownBy (wr.alloc o) (some G) :=
  gr_trans h (World.grownBy_alloc wr o (some G))

set_option maxRecDepth 100000 in
set_option maxHeartbeats 4000000 in
theorem rEdges_any (s : ByteArray) (hs : s.size ≤ 1048576) (w : World) (G : Nat) (st : Option (List UInt8)) (h : RdAt True 200 w G s st) :
    Calls Tryz.prog 145 #[.pointer (some ⟨G, 0, none⟩)] w fun e w' => ∃ v, e = .returned v ∧ EdAns True 200 w w' G s st v 66 := by
  obtain ⟨i0, hi, hz0, hz1, hz2⟩ := info_parts infoIE
  have HN := hideIt (rNumber_any s hs w G st h)
  have hle := nx_pN_le st
  cases hn : nx pN st with
  | mk k s1 =>
    rw [hn] at HN hle
    dsimp only at hle HN
    have hGl := h.lt
    clear h
    by_cases hk : 66 < k
    · have d1 : decide ((66 : Int) < (k : Int)) = true := by simp; omega
      have HE : Hid (ER st [] none) := by
        show ER _ _ _
        unfold ER
        rw [hn]
        cases s1 with
        | none => rfl
        | some L => dsimp only; rw [if_pos hk]; exact .inl rfl
      clear hn
      go_enter Tryz.func145, Tryz.ntmps145
      go_wp2_with (go_at_call 143; refine HN.out.mono ?_; rintro e w1 ⟨rfl, ⟨p, f, hG, hp, hf⟩, hg1⟩; refine Hid.out ?_)
      refine (show ∀ {p : Prop}, p → Hid p from fun h => h) ?_
      have HF := hideIt (rFail_any s w1 G (p : Int) f hG)
      clear hG HN
      go_wp2_with (go_at_call 152; refine HF.out.mono ?_; rintro e w2 ⟨rfl, hG2, hg2⟩)
      go_ret
      exact ⟨_, rfl, ⟨⟨none, 0, 0, [], none, rfl, by omega, fun e he => (by cases he), ⟨rfl, .inl ⟨rfl, rfl⟩⟩, HE.out, ⟨s.size, true, hG2, Nat.le_refl _, .inr ⟨rfl, rfl, fun _ => rfl⟩⟩⟩, gr_trans hg1 hg2⟩⟩
    · have d1 : decide ((66 : Int) < (k : Int)) = false := by simp; omega
      have hmk : ∀ u : World, (Instr.makeSlice 51 (.int .i64 (k : Int)) (.int .i64 (k : Int))).run Tryz.prog u =
          .ok (.slice (some ⟨u.heap.size, 0, none⟩) k k) (u.alloc (.cells (madeCells #[.int .i64 0, .int .i64 0] (k * 2)) 120)) := fun u => by
        have h := run_make (P := Tryz.prog) u 51 120 i0 _ Tryz.underlying51 hi hz0 .i64 .i64 (k : Int) (k : Int) (by omega) (by omega) (by rw [hz2]; omega) (by omega)
        rw [Int.toNat_natCast] at h
        simpa [hz1, Value.cells] using h
      have HO : Hid (∀ W st, RdAt True 200 W G s st → Calls Tryz.prog 149 #[.pointer (some ⟨G, 0, none⟩)] W fun e w' => e = .returned (.int .i64 (((nx pO st).1 : Nat) : Int)) ∧ RdAt True 200 w' G s (nx pO st).2 ∧ W.grownBy w' (some G)) := fun W st hW => rOctet_any s hs W G st hW
      obtain ⟨L, hL⟩ : ∃ L : List UInt8, Hid ((s1 = some L ∨ s1 = none ∧ L = []) ∧ (s1 = none → k = 0)) := by
        cases s1 with
        | some L => exact ⟨L, ⟨.inl rfl, fun h => by cases h⟩⟩
        | none =>
          refine ⟨[], ⟨.inr ⟨rfl, rfl⟩, fun _ => ?_⟩⟩
          unfold nx at hn
          split at hn
          · simp at hn; omega
          · split at hn
            · simp at hn; omega
            · simp at hn
      have HH := hideIt hn
      clear hn
      go_enter Tryz.func145, Tryz.ntmps145
      go_wp2_with (go_at_call 143; refine HN.out.mono ?_; rintro e w1 ⟨rfl, hR, hg1⟩; refine Hid.out ?_)
      refine (show ∀ {p : Prop}, p → Hid p from fun h => h) ?_
      have hz := hg1.size
      have HR := hideIt hR
      clear HN hR
      go_wp2
      go_loopw [16] (fun i wr => ∃ (j : Nat) (xs : List Value) (es : List EdgeV) (st : Option (List UInt8)), j ≤ k ∧ i = .int .i64 (j : Int) ∧ Hid (xs.take (j * 2) = ecells es) ∧ Hid (s1 = none ∧ es = [] ∧ st = none ∨ s1 = some L ∧ EdSt L j es st) ∧ wr.ownsRow w.heap.size 120 2 (.slice (some ⟨w1.heap.size, 0, none⟩) k k) k xs ∧ RdAt True 200 wr G s st ∧ w.grownBy wr (some G)) (fun i _ => k - (intOf i).toNat)
      case atStart =>
        refine ⟨0, _, [], s1, by omega, rfl, by show _ = _; simp [ecells], ?_, own_mono (World.ownsRow_lit (base := w1.heap.size) (e := 120) (size := 2) w1 (madeCells #[.int .i64 0, .int .i64 0] (k * 2)) k (Nat.le_refl _) (by unfold maxLen; omega) (by simp [madeCells])) hz, HR.out.alloc _, gr_alloc hg1 _⟩
        show _ ∨ _
        rcases hL.out.1 with rfl | ⟨rfl, rfl⟩
        · exact .inr ⟨rfl, EdSt.start L⟩
        · exact .inl ⟨rfl, rfl, rfl⟩
      case round =>
        obtain ⟨j, xs, es, st1, hj, rfl, hx, hE, hown, hR, hg⟩ := hrel
        by_cases hlt : j < k
        · have b1 : (0 : Int) ≤ (j : Int) := by omega
          have b2 : (j : Int) < (k : Int) := by omega
          have hgz := hg.size
          have hne : G ≠ w1.heap.size := by omega
          go_wp2_with (go_at_call 149; refine (HO.out _ st1 hR).mono ?_; rintro e w3 ⟨rfl, hR3, hg3⟩; refine Hid.out ?_)
          refine (show ∀ {p : Prop}, p → Hid p from fun h => h) ?_
          have hown3 := World.ownsRow.kept hown hg3 (.inr (by simp [Value.ownBlock]; omega))
          have hl3 : xs.length = k * 2 := hown3.1
          have y0 := hown3.frozenAt (j * 2)
          have x0 : w3.cell? ⟨w1.heap.size, j * 2, none⟩ = some (xs[j * 2]'(by omega)) := by rw [hown3.cellAt (j * 2) (by omega)]; exact List.getElem?_eq_getElem (by omega)
          have hR4 := (hR3.other (gr_set w3 w1.heap.size (j * 2) (.int .i64 (((nx pO st1).1 : Nat) : Int))) hne)
          have hown4 := (hown3.stored (j * 2) (.int .i64 (((nx pO st1).1 : Nat) : Int))).1
          have hg4 := gr_set_new (j := j * 2) (u := .int .i64 (((nx pO st1).1 : Nat) : Int)) (gr_trans hg hg3) hz
          clear hown hown3 hR hR3 hg3 hg
          go_wp2_with (go_at_call 149; refine (HO.out _ _ hR4).mono ?_; rintro e w5 ⟨rfl, hR5, hg5⟩; refine Hid.out ?_)
          refine (show ∀ {p : Prop}, p → Hid p from fun h => h) ?_
          have hown5 := World.ownsRow.kept hown4 hg5 (.inr (by simp [Value.ownBlock]; omega))
          have y1 := hown5.frozenAt (j * 2 + 1)
          have x1 : w5.cell? ⟨w1.heap.size, j * 2 + 1, none⟩ = some (xs[j * 2 + 1]'(by omega)) := by
            rw [hown5.cellAt (j * 2 + 1) (by omega), List.getElem?_set_ne (by omega)]
            exact List.getElem?_eq_getElem (by omega)
          have HR6 := hideIt (hR5.other (gr_set w5 w1.heap.size (j * 2 + 1) (.int .i64 (((nx pO (nx pO st1).2).1 : Nat) : Int))) hne)
          have HO6 := hideIt (hown5.stored (j * 2 + 1) (.int .i64 (((nx pO (nx pO st1).2).1 : Nat) : Int))).1
          have HG6 := hideIt (gr_set_new (j := j * 2 + 1) (u := .int .i64 (((nx pO (nx pO st1).2).1 : Nat) : Int)) (gr_trans hg4 hg5) hz)
          clear hown4 hown5 hR4 hR5 hg5 hg4 x0 y0
          go_wp2
          refine ⟨⟨j + 1, _, es ++ [((((nx pO st1).1 : Nat) : Int), (((nx pO (nx pO st1).2).1 : Nat) : Int))], _, by omega, by go_num, ?_, ?_, HO6.out, HR6.out, HG6.out⟩, by simp [intOf]; omega⟩
          · show _ = _
            rw [show (j + 1) * 2 = j * 2 + 2 by omega, take_set2 _ _ _ _ (by omega), hx.out, ecells_snoc]
          · show _ ∨ _
            rcases hE.out with ⟨h1, _, _⟩ | ⟨h1, h2⟩
            · have := hL.out.2 h1
              omega
            · exact .inr ⟨h1, h2.step⟩
        · have hl3 : xs.length = k * 2 := hown.1
          have HX : Hid (xs = ecells es) := by
            show _ = _
            have := hx.out
            rw [List.take_of_length_le (by omega)] at this
            exact this
          obtain rfl : j = k := by omega
          have HOw := hideIt hown
          have HRr := hideIt hR
          have HGg := hideIt hg
          clear hx hown hR hg hl3
          go_wp2
          go_ret
          refine ⟨_, rfl, ⟨⟨_, _, _, es, st1, rfl, by omega, ?_, by rw [← HX.out]; exact HOw.out, ?_, HRr.out⟩, HGg.out⟩⟩
          · rcases hE.out with ⟨_, rfl, _⟩ | ⟨_, h2⟩
            · exact fun e he => by cases he
            · exact h2.2.1
          · rcases hE.out with ⟨h1, rfl, rfl⟩ | ⟨h1, h2⟩
            · unfold ER
              rw [HH.out, h1]
            · exact EdSt.er (by rw [HH.out, h1]) (by omega) h2
end Go.Proofs.YthnibebljbljdaaGreatDoor
namespace Go.Proofs.YthnibebljbljdaaGreatDoor
open Go.RowKit Vt

/-- an order as a value -/
abbrev ordV (num op : Int) (a : Option Addr) (k c : Nat) (v : Int) : Value := .agg #[.int .i64 num, .int .i64 op, .slice a k c, .int .i64 v]

theorem oB_n {n : Int} {o : OrdV} (h : ¬ (1 ≤ n ∧ n ≤ 12)) : oB n o = false := by unfold oB; rw [decide_eq_false h]; rfl
theorem oB_num {n : Int} {o : OrdV} (h : ¬ (1 ≤ o.num ∧ o.num ≤ 100000)) : oB n o = false := by unfold oB; rw [decide_eq_false h]; simp
theorem oB_es {n : Int} {o : OrdV} (h : eOk n o.es = false) : oB n o = false := by unfold oB; rw [h]; simp
theorem oB_op {n : Int} {o : OrdV} (h1 : 1 ≤ n ∧ n ≤ 12) (h2 : 1 ≤ o.num ∧ o.num ≤ 100000) (h3 : eOk n o.es = true) : oB n o = decide (OpOk n o) := by unfold oB; rw [h3, decide_eq_true h1, decide_eq_true h2]; rfl
theorem oB_not {n : Int} {o : OrdV} (h : ¬ OpOk n o) : oB n o = false := by unfold oB; rw [decide_eq_false h]; simp

theorem bel1 (w : World) (o : Obj) : Below w.heap.size w (w.alloc o) := (Below.refl _ _).alloc (Nat.le_refl _) _
theorem rett {b c : Bool} (h : b = c) : Ending.returned (.bool b) = Ending.returned (.bool c) := by rw [h]

set_option maxRecDepth 100000 in
set_option maxHeartbeats 4000000 in
theorem sOrderOk_any (n num op : Int) (es : List EdgeV) (v : Int) (k : Nat) (a : Option Addr) (c : Nat) (hk : k ≤ 1048576) (w : World) (h : Es w w.heap.size a k es) :
    Calls Tryz.prog 100 #[.int .i64 n, ordV num op a k c v] w fun e w' => e = .returned (.bool (oB n ⟨num, op, es, v⟩)) ∧ Below w.heap.size w w' := by
  unfold ordV
  have hlen : es.length = k := h.1
  have HI := hideIt l01In_any
  have HT : Hid (Calls Tryz.prog 123 #[.int .i64 n, .slice a k c] (w.alloc (.cells #[.int .i64 num, .int .i64 op, .slice a k c, .int .i64 v] 55)) fun e w' => e = .returned (.bool (eOk n es)) ∧ Below w.heap.size w w' ∧
      w'.cell? ⟨w.heap.size, 1, none⟩ = some (.int .i64 op) ∧ w'.cell? ⟨w.heap.size, 2, none⟩ = some (.slice a k c) ∧ w'.cell? ⟨w.heap.size, 3, none⟩ = some (.int .i64 v)) :=
    (l05Edges_any n es k a c hk (w.alloc (.cells #[.int .i64 num, .int .i64 op, .slice a k c, .int .i64 v] 55)) ((h.alloc (Nat.le_refl _) _).mono (by simp))).mono fun _ _ ⟨he, hb⟩ =>
      ⟨he, (bel1 _ _).trans (hb.mono (by simp)), by rw [hb.cell (by simp)]; simp, by rw [hb.cell (by simp)]; simp, by rw [hb.cell (by simp)]; simp⟩
  have B0 : Hid (Below w.heap.size w (w.alloc (.cells #[.int .i64 num, .int .i64 op, .slice a k c, .int .i64 v] 55))) := (Below.refl _ _).alloc (Nat.le_refl _) _
  clear h
  by_cases h1 : 1 ≤ n ∧ n ≤ 12
  · have r1 : decide (1 ≤ n ∧ n ≤ 12) = true := by simpa using h1
    by_cases h2 : 1 ≤ num ∧ num ≤ 100000
    · have r2 : decide (1 ≤ num ∧ num ≤ 100000) = true := by simpa using h2
      by_cases h3 : 1 ≤ op ∧ op ≤ 4
      · have r3 : decide (1 ≤ op ∧ op ≤ 4) = true := by simpa using h3
        cases hE : eOk n es with
        | true =>
          rw [hE] at HT
          have HB := hideIt (oB_op (o := ⟨num, op, es, v⟩) h1 h2 hE)
          rcases (show op = 3 ∨ op = 4 ∨ op = 1 ∨ op = 2 by omega) with rfl | rfl | rfl | rfl
          · by_cases h0 : k = 0
            · subst h0
              go_enter Tryz.func100, Tryz.ntmps100
              go_wp2_with (first | (go_at_call 57; refine (HI.out _ _ _ _).mono ?_; rintro e w1 ⟨rfl, rfl⟩) | (go_at_call 123; refine HT.out.mono ?_; rintro e w2 ⟨rfl, hb2, q1, q2, q3⟩))
              go_ret
              exact ⟨rett (by rw [HB.out, ← Bool.decide_and]; apply decide_eq_decide.2; unfold OpOk; dsimp only; omega), hb2⟩
            · have e0 : ((k : Int) == 0) = false := by simp; omega
              go_enter Tryz.func100, Tryz.ntmps100
              go_wp2_with (first | (go_at_call 57; refine (HI.out _ _ _ _).mono ?_; rintro e w1 ⟨rfl, rfl⟩) | (go_at_call 123; refine HT.out.mono ?_; rintro e w2 ⟨rfl, hb2, q1, q2, q3⟩))
              go_ret
              exact ⟨rett (by rw [HB.out]; symm; apply decide_eq_false; unfold OpOk; dsimp only; omega), hb2⟩
          · by_cases h0 : 0 < k
            · have e0 : decide (0 < (k : Int)) = true := by simp; omega
              by_cases hv : v = 0
              · subst hv
                go_enter Tryz.func100, Tryz.ntmps100
                go_wp2_with (first | (go_at_call 57; refine (HI.out _ _ _ _).mono ?_; rintro e w1 ⟨rfl, rfl⟩) | (go_at_call 123; refine HT.out.mono ?_; rintro e w2 ⟨rfl, hb2, q1, q2, q3⟩))
                go_ret
                exact ⟨rett (by rw [HB.out]; symm; apply decide_eq_true; unfold OpOk; dsimp only; omega), hb2⟩
              · have e1 : (v == 0) = false := by simpa using hv
                go_enter Tryz.func100, Tryz.ntmps100
                go_wp2_with (first | (go_at_call 57; refine (HI.out _ _ _ _).mono ?_; rintro e w1 ⟨rfl, rfl⟩) | (go_at_call 123; refine HT.out.mono ?_; rintro e w2 ⟨rfl, hb2, q1, q2, q3⟩))
                go_ret
                exact ⟨rett (by rw [HB.out]; symm; apply decide_eq_false; unfold OpOk; dsimp only; omega), hb2⟩
            · have e0 : decide (0 < (k : Int)) = false := by simp; omega
              go_enter Tryz.func100, Tryz.ntmps100
              go_wp2_with (first | (go_at_call 57; refine (HI.out _ _ _ _).mono ?_; rintro e w1 ⟨rfl, rfl⟩) | (go_at_call 123; refine HT.out.mono ?_; rintro e w2 ⟨rfl, hb2, q1, q2, q3⟩))
              go_ret
              exact ⟨rett (by rw [HB.out]; symm; apply decide_eq_false; unfold OpOk; dsimp only; omega), hb2⟩
          · by_cases h0 : k = 1
            · subst h0
              by_cases hv : v = 0
              · subst hv
                go_enter Tryz.func100, Tryz.ntmps100
                go_wp2_with (first | (go_at_call 57; refine (HI.out _ _ _ _).mono ?_; rintro e w1 ⟨rfl, rfl⟩) | (go_at_call 123; refine HT.out.mono ?_; rintro e w2 ⟨rfl, hb2, q1, q2, q3⟩))
                go_ret
                exact ⟨rett (by rw [HB.out]; symm; apply decide_eq_true; unfold OpOk; dsimp only; omega), hb2⟩
              · have e1 : (v == 0) = false := by simpa using hv
                go_enter Tryz.func100, Tryz.ntmps100
                go_wp2_with (first | (go_at_call 57; refine (HI.out _ _ _ _).mono ?_; rintro e w1 ⟨rfl, rfl⟩) | (go_at_call 123; refine HT.out.mono ?_; rintro e w2 ⟨rfl, hb2, q1, q2, q3⟩))
                go_ret
                exact ⟨rett (by rw [HB.out]; symm; apply decide_eq_false; unfold OpOk; dsimp only; omega), hb2⟩
            · have e0 : ((k : Int) == 1) = false := by simp; omega
              go_enter Tryz.func100, Tryz.ntmps100
              go_wp2_with (first | (go_at_call 57; refine (HI.out _ _ _ _).mono ?_; rintro e w1 ⟨rfl, rfl⟩) | (go_at_call 123; refine HT.out.mono ?_; rintro e w2 ⟨rfl, hb2, q1, q2, q3⟩))
              go_ret
              exact ⟨rett (by rw [HB.out]; symm; apply decide_eq_false; unfold OpOk; dsimp only; omega), hb2⟩
          · by_cases h0 : k = 1
            · subst h0
              by_cases hv : v = 0
              · subst hv
                go_enter Tryz.func100, Tryz.ntmps100
                go_wp2_with (first | (go_at_call 57; refine (HI.out _ _ _ _).mono ?_; rintro e w1 ⟨rfl, rfl⟩) | (go_at_call 123; refine HT.out.mono ?_; rintro e w2 ⟨rfl, hb2, q1, q2, q3⟩))
                go_ret
                exact ⟨rett (by rw [HB.out]; symm; apply decide_eq_true; unfold OpOk; dsimp only; omega), hb2⟩
              · have e1 : (v == 0) = false := by simpa using hv
                go_enter Tryz.func100, Tryz.ntmps100
                go_wp2_with (first | (go_at_call 57; refine (HI.out _ _ _ _).mono ?_; rintro e w1 ⟨rfl, rfl⟩) | (go_at_call 123; refine HT.out.mono ?_; rintro e w2 ⟨rfl, hb2, q1, q2, q3⟩))
                go_ret
                exact ⟨rett (by rw [HB.out]; symm; apply decide_eq_false; unfold OpOk; dsimp only; omega), hb2⟩
            · have e0 : ((k : Int) == 1) = false := by simp; omega
              go_enter Tryz.func100, Tryz.ntmps100
              go_wp2_with (first | (go_at_call 57; refine (HI.out _ _ _ _).mono ?_; rintro e w1 ⟨rfl, rfl⟩) | (go_at_call 123; refine HT.out.mono ?_; rintro e w2 ⟨rfl, hb2, q1, q2, q3⟩))
              go_ret
              exact ⟨rett (by rw [HB.out]; symm; apply decide_eq_false; unfold OpOk; dsimp only; omega), hb2⟩
        | false =>
          rw [hE] at HT
          have HB := hideIt (oB_es (o := ⟨num, op, es, v⟩) hE)
          go_enter Tryz.func100, Tryz.ntmps100
          go_wp2_with (first | (go_at_call 57; refine (HI.out _ _ _ _).mono ?_; rintro e w1 ⟨rfl, rfl⟩) | (go_at_call 123; refine HT.out.mono ?_; rintro e w2 ⟨rfl, hb2, q1, q2, q3⟩))
          go_ret
          exact ⟨rett HB.out.symm, hb2⟩
      · have r3 : decide (1 ≤ op ∧ op ≤ 4) = false := by simpa using h3
        have HB := hideIt (oB_not (n := n) (o := ⟨num, op, es, v⟩) (by unfold OpOk; dsimp only; omega))
        clear HT
        go_enter Tryz.func100, Tryz.ntmps100
        go_wp2_with (go_at_call 57; refine (HI.out _ _ _ _).mono ?_; rintro e w1 ⟨rfl, rfl⟩)
        go_ret
        exact ⟨rett HB.out.symm, B0.out⟩
    · have r2 : decide (1 ≤ num ∧ num ≤ 100000) = false := by simpa using h2
      have HB := hideIt (oB_num (n := n) (o := ⟨num, op, es, v⟩) h2)
      clear HT
      go_enter Tryz.func100, Tryz.ntmps100
      go_wp2_with (go_at_call 57; refine (HI.out _ _ _ _).mono ?_; rintro e w1 ⟨rfl, rfl⟩)
      go_ret
      exact ⟨rett HB.out.symm, B0.out⟩
  · have r1 : decide (1 ≤ n ∧ n ≤ 12) = false := by simpa using h1
    have HB := hideIt (oB_n (o := ⟨num, op, es, v⟩) h1)
    clear HT
    go_enter Tryz.func100, Tryz.ntmps100
    go_wp2_with (go_at_call 57; refine (HI.out _ _ _ _).mono ?_; rintro e w1 ⟨rfl, rfl⟩)
    go_ret
    exact ⟨rett HB.out.symm, B0.out⟩
end Go.Proofs.YthnibebljbljdaaGreatDoor
namespace Go.Proofs.YthnibebljbljdaaGreatDoor
open Go.RowKit Vt

/-- whether all was read -/
def endB : Option (List UInt8) → Bool
  | none => false
  | some L => L.isEmpty
theorem endB_iff (st : Option (List UInt8)) : endB st = true ↔ st = some [] := by
  cases st with
  | none => simp [endB]
  | some L => cases L <;> simp [endB]

/-- the cells of an order -/
abbrev oc (num op : Int) (a : Option Addr) (k c : Nat) (v : Int) : Array Value := #[.int .i64 num, .int .i64 op, .slice a k c, .int .i64 v]

/-- the reader in block G, the order in block O, the answer's box R -/
structure RO (e : Prop) (t : TypeId) (w W : World) (G O R : Nat) (s : ByteArray) (st : Option (List UInt8)) (num op : Int) (a : Option Addr) (k c : Nat) (v : Int) : Prop where
  rd : RdAt e t W G s st
  ob : W.heap[O]? = some (.cells (oc num op a k c v) 55 (0, 0))
  rb : W.heap[R]? = some (.cells (oc 0 0 none 0 0 0) 55 (0, 0))
  bel : Below w.heap.size w W
  ge : w.heap.size ≤ G ∧ w.heap.size ≤ O ∧ w.heap.size ≤ R
  ne : G ≠ O ∧ G ≠ R ∧ O ≠ R

section
variable {e : Prop} {t : TypeId} {w W W' : World} {G O R : Nat} {s : ByteArray} {st st' : Option (List UInt8)} {num op : Int} {a : Option Addr} {k c : Nat} {v : Int}

theorem bel_grown {w W W' : World} {G : Nat} (h : Below w.heap.size w W) (hg : W.grownBy W' (some G)) (hG : w.heap.size ≤ G) : Below w.heap.size w W' :=
  h.grown hg (h.size) (fun q hq => by simp at hq; omega)

theorem RO.lt (h : RO e t w W G O R s st num op a k c v) : G < W.heap.size ∧ O < W.heap.size ∧ R < W.heap.size :=
  ⟨h.rd.lt, (Array.getElem?_eq_some_iff.1 h.ob).1, (Array.getElem?_eq_some_iff.1 h.rb).1⟩

theorem RO.call (h : RO e t w W G O R s st num op a k c v) (hr : RdAt e t W' G s st') (hg : W.grownBy W' (some G)) : RO e t w W' G O R s st' num op a k c v :=
  ⟨hr, by rw [hg.block O h.lt.2.1 (by simp; exact Ne.symm h.ne.1)]; exact h.ob, by rw [hg.block R h.lt.2.2 (by simp; exact Ne.symm h.ne.2.1)]; exact h.rb, bel_grown h.bel hg h.ge.1, h.ge, h.ne⟩

theorem RO.cells (h : RO e t w W G O R s st num op a k c v) : W.cell? ⟨O, 0, none⟩ = some (.int .i64 num) ∧ W.cell? ⟨O, 1, none⟩ = some (.int .i64 op) ∧ W.cell? ⟨O, 2, none⟩ = some (.slice a k c) ∧ W.cell? ⟨O, 3, none⟩ = some (.int .i64 v) :=
  ⟨by rw [cell_of_row W O 0 _ _ _ h.ob]; rfl, by rw [cell_of_row W O 1 _ _ _ h.ob]; rfl, by rw [cell_of_row W O 2 _ _ _ h.ob]; rfl, by rw [cell_of_row W O 3 _ _ _ h.ob]; rfl⟩
theorem RO.cellsR (h : RO e t w W G O R s st num op a k c v) : W.cell? ⟨R, 0, none⟩ = some (.int .i64 0) ∧ W.cell? ⟨R, 1, none⟩ = some (.int .i64 0) ∧ W.cell? ⟨R, 2, none⟩ = some (.slice none 0 0) ∧ W.cell? ⟨R, 3, none⟩ = some (.int .i64 0) :=
  ⟨by rw [cell_of_row W R 0 _ _ _ h.rb]; rfl, by rw [cell_of_row W R 1 _ _ _ h.rb]; rfl, by rw [cell_of_row W R 2 _ _ _ h.rb]; rfl, by rw [cell_of_row W R 3 _ _ _ h.rb]; rfl⟩
theorem RO.frozen (h : RO e t w W G O R s st num op a k c v) (j : Nat) : W.frozen? ⟨O, j, none⟩ = false := frozen_of_row W O j _ _ h.ob
theorem RO.frozenR (h : RO e t w W G O R s st num op a k c v) (j : Nat) : W.frozen? ⟨R, j, none⟩ = false := frozen_of_row W R j _ _ h.rb

theorem RO.set {num' op' : Int} {a' : Option Addr} {k' c' : Nat} {v' : Int} (h : RO e t w W G O R s st num op a k c v) (j : Nat) (u : Value) (hc : (oc num op a k c v).setIfInBounds j u = oc num' op' a' k' c' v') :
    RO e t w (W.setCell ⟨O, j, none⟩ u) G O R s st num' op' a' k' c' v' :=
  ⟨h.rd.other (gr_set W O j u) h.ne.1, by rw [heap_setCell_same W O j _ _ u h.ob, hc], by rw [(gr_set W O j u).block R h.lt.2.2 (by simp; exact Ne.symm h.ne.2.2)]; exact h.rb, bel_grown h.bel (gr_set W O j u) h.ge.2.1, h.ge, h.ne⟩

theorem RO.below (h : RO e t w W G O R s st num op a k c v) (hb : Below W.heap.size W W') : RO e t w W' G O R s st num op a k c v :=
  ⟨by obtain ⟨p, f, hG, rest⟩ := h.rd; exact ⟨p, f, by rw [hb.block G h.lt.1]; exact hG, rest⟩, by rw [hb.block O h.lt.2.1]; exact h.ob, by rw [hb.block R h.lt.2.2]; exact h.rb, h.bel.trans (hb.mono h.bel.size), h.ge, h.ne⟩
end

/-- an order, or the order of nothing -/
def orO : Option OrdV → OrdV
  | none => ⟨0, 0, [], 0⟩
  | some o => o
/-- what a reader of orders answers: the order in memory of its own -/
def OrdAns (w w' : World) (e : Ending) (r : Option OrdV) : Prop :=
  ∃ (a : Option Addr) (k c : Nat), e = .returned (.tuple #[ordV (orO r).num (orO r).op a k c (orO r).v, .bool r.isSome]) ∧ w'.ownsRow w.heap.size 120 2 (.slice a k c) k (ecells (orO r).es) ∧ k ≤ 100 ∧ Below w.heap.size w w'

set_option maxRecDepth 100000 in
set_option maxHeartbeats 4000000 in
theorem rEnded_any (s : ByteArray) (w : World) (G : Nat) (st : Option (List UInt8)) (h : RdAt True 200 w G s st) :
    Calls Tryz.prog 147 #[.pointer (some ⟨G, 0, none⟩)] w fun e w' => e = .returned (.bool (endB st)) ∧ RdAt True 200 w' G s st ∧ w.grownBy w' (some G) := by
  obtain ⟨p, f, hG, hp, hf⟩ := h
  have c0 : w.cell? ⟨G, 0, none⟩ = some (.string s) := by rw [cell_of_row w G 0 _ _ _ hG]; rfl
  have c1 : w.cell? ⟨G, 1, none⟩ = some (.int .i64 (p : Int)) := by rw [cell_of_row w G 1 _ _ _ hG]; rfl
  have c2 : w.cell? ⟨G, 2, none⟩ = some (.bool f) := by rw [cell_of_row w G 2 _ _ _ hG]; rfl
  have HG := hideIt hG
  have HF := hideIt hf
  clear hG
  cases hff : f with
  | true =>
    rw [hff] at c2
    have HS : Hid (st = none) := by
      show _ = _
      rcases hf with ⟨h1, _⟩ | ⟨_, h2, _⟩
      · rw [hff] at h1; cases h1
      · exact h2
    clear hf
    go_enter Tryz.func147, Tryz.ntmps147
    go_wp2
    go_quiet (fail)
    go_wp2
    go_ret
    exact ⟨by rw [HS.out]; rfl, ⟨p, f, HG.out, hp, HF.out⟩, gr_drews _ _ _⟩
  | false =>
    rw [hff] at c2
    have HS : Hid (st = some (from_ s p)) := by
      show _ = _
      rcases hf with ⟨_, h2⟩ | ⟨h1, _, _⟩
      · exact h2
      · rw [hff] at h1; cases h1
    clear hf
    go_enter Tryz.func147, Tryz.ntmps147
    go_wp2
    go_quiet (fail)
    go_wp2
    go_ret
    refine ⟨?_, ⟨p, f, HG.out, hp, HF.out⟩, gr_drews _ _ _⟩
    rw [HS.out]
    refine rett (c := endB (some (from_ s p))) ?_
    have hlen := from_length s p
    by_cases hq : p = s.size
    · subst hq
      rw [from_end]
      simp [endB]
    · have : from_ s p ≠ [] := fun h => by rw [h] at hlen; simp at hlen; omega
      cases hc : from_ s p with
      | nil => exact absurd hc this
      | cons x y => simp [endB]; omega
end Go.Proofs.YthnibebljbljdaaGreatDoor
