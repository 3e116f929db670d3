/- What the program's Unframe answers: it ranges over the reader of frames. -/
import Derived.Deep.AppendLies
import Derived.Test.YtegknhnmfaafmaaDoorIFrames
namespace Go.Proofs.YtegknhnmfaafmaaDoor
open Go.RowKit Go.Shelf Vt Crc
attribute [local go_sem] Oper.semAt_some

theorem frames_stops (n B : Nat) (hn : 1 ≤ n) (s : ByteArray) (hs : s.size ≤ 20000) (w : World) (ht : Tab w) (w1 : World) (hw : Below w.heap.size w w1) (hB : B < w1.heap.size) (hc : w1.cell? ⟨B, 0, none⟩ = some (.string s)) :
    SeqStopsK Fence.wide n Tryd.prog 36 #[.pointer (some ⟨B, 0, none⟩)] recV (KeepF w.heap.size B) (fun ys => un s = (txts ys, endOf ys)) (fun _ => True) 4000 w1 := fun l J Jx W hW hJ _ hY h0 =>
  framesIt_in n l B hn s hs w ht W.heap.size J Jx hJ hY W (hw.trans (hW.mono hw.size)) ((hW.cell (p := ⟨B, 0, none⟩) hB).trans hc) h0

theorem framesOf_in (n : Nat) (s : ByteArray) (w : World) :
    CallsIn Fence.wide n Tryd.prog 27 #[.string s] w fun e w' => e = .returned (.func (.func 36) #[] #[.pointer (some ⟨w.heap.size, 0, none⟩)]) ∧ w' = w.alloc (.cells #[.string s] 9) := by
  refine callsIn_of_wp Tryd.func27 rfl trivial ?_ rfl
  simp only [Tryd.ntmps27, List.size_toArray, List.length_cons, List.length_nil, Nat.reduceAdd, Nat.reduceSub, Array.replicate_succ, Array.replicate_zero, List.push_toArray, List.append_toArray, List.nil_append, List.cons_append]
  gi_wp2
  go_ret
  exact ⟨rfl, rfl⟩

theorem info9 : (Tryd.prog.info? 9).map (fun i => (i.zero, i.size, i.bytes)) = some (some (.string ⟨#[]⟩), 1, 16) := by kernel_rfl

/-- the row of records is written out, and is not the file's cell -/
def RowF (n : Nat) (pre : List Rec) (v : Value) : Prop := ∃ g cap, v = .slice (some ⟨g, 0, none⟩) (txts pre).length cap ∧ g ≠ n + 1 + 1 + 1

/-- what an answer of a reader of a file is -/
def UnOut (s : ByteArray) (w : World) (e : Ending) (w' : World) : Prop :=
  ∃ v, e = .returned (.tuple #[v, .int .i64 ((un s).2 : Int)]) ∧ w'.ownsRow w.heap.size 9 1 v (un s).1.length ((un s).1.map Value.string) ∧ Below w.heap.size w w'

theorem iUnframe_long (s : ByteArray) (hs : 20000 < s.size) (hm : s.size ≤ maxLen) (w : World) : Calls Tryd.prog 10 #[.string s] w (UnOut s w) := by
  unfold maxLen at hm
  have E := hidOf (un_long s hs)
  go_enter Tryd.func10, Tryd.ntmps10
  go_wp2
  go_ret2
  unfold UnOut
  rw [E.out]
  exact ⟨_, rfl, World.ownsRow_nil _ _ _ _, Below.refl _ _⟩

theorem stepIn_append {F : Fence} {n : Nat} {P : Program} {ops : Array Oper} {o : Oper} {a : Act} {w : World} {K : Act → World → Prop} {Q : Exit → Act → World → Prop} {E : Prop} (hgd : o.guard = none) (s x : Operand) (t : TypeId)
    (ho : o.op = .call { callee := .builtin .append, args := #[s, x], argTypes := #[t, t] }) {v v2 v' : Value} {w' : World} (hs : a.eval s = v) (hx : a.eval x = v2) (hr : (Builtin.append_ #[t, t] o.type #[v, v2]).run P w = .ok v' w') (hK : K (a.put o.dst v') w') :
    if Region.wanted o (yielded ops a.tmps) = true then Oper.wpIn F n P o a w K Q else E := by
  have hw : Region.wanted o (yielded ops a.tmps) = true := by simp [Region.wanted, hgd]
  rw [if_pos hw]
  unfold Oper.wpIn
  refine ⟨?_, ?_⟩
  · simp [Oper.about, ho, resolve, Target.leads, Sem.run_pure]
  · rw [Oper.semAt_plain F _ _ (by rw [ho]; intro c hc'; cases hc')]
    simp [execOp, ho, resolve, invoke, builtin, hs, hx, hr, Result.andThen]
    exact hK

/-- what a round owes, from the world W where it begins to the world where it ends -/
structure RoundF (w : World) (pre : List Rec) (W : World) (X : ByteArray) (Y : Int) (k g cap : Nat) (W3 : World) : Prop where
  others : KeepsOthers W W3
  keep : KeepF w.heap.size (w.heap.size + 1 + 1 + 1) W W3
  box : Boxed W3 (w.heap.size + 1) 27 (.slice (some ⟨g, 0, none⟩) (k + 1) cap)
  row : W3.ownsRow w.heap.size 9 1 (.slice (some ⟨g, 0, none⟩) (k + 1) cap) (k + 1) ((txts pre).map Value.string ++ [.string X])
  place : g ≠ w.heap.size + 1 + 1 + 1
  last : Boxed W3 (w.heap.size + 1 + 1) 3 (.int .i64 Y)

theorem RoundF.out {w : World} {pre : List Rec} {W W3 : World} {X : ByteArray} {Y : Int} {k g cap : Nat} (h : RoundF w pre W X Y k g cap W3) (hB : Below w.heap.size w W) (x : Rec) (hk : k = (txts pre).length) (hX : X = x.1.1) (hY : Y = (x.1.2 : Int)) :
    ((∃ v, Boxed W3 (w.heap.size + 1) 27 v ∧ W3.ownsRow w.heap.size 9 1 v (txts (pre ++ [x])).length ((txts (pre ++ [x])).map Value.string) ∧ RowF w.heap.size (pre ++ [x]) v) ∧ Boxed W3 (w.heap.size + 1 + 1) 3 (.int .i64 (endOf (pre ++ [x]) : Int))) ∧ Below w.heap.size w W3 := by
  have hl : (txts (pre ++ [x])).length = k + 1 := by rw [txts_snoc, List.length_append, ← hk]; rfl
  refine ⟨⟨⟨_, h.box, ?_, g, cap, by rw [hl], h.place⟩, ?_⟩, hB.trans h.keep.low⟩
  · rw [hl, txts_snoc, List.map_append, ← hX]
    exact h.row
  · rw [endOf_snoc, ← hY]
    exact h.last

/-- a round: the record's copy, the row with it, the two boxes -/
theorem clone_round {w W : World} {pre : List Rec} {X : ByteArray} (hxs : X.size ≤ 1048576) (Y E : Int) {k g cap : Nat} (hk4 : k < 4000) (hW3 : w.heap.size + 1 + 1 + 1 < W.heap.size)
    (hv : Boxed W (w.heap.size + 1) 27 (.slice (some ⟨g, 0, none⟩) k cap)) (hrow : W.ownsRow w.heap.size 9 1 (.slice (some ⟨g, 0, none⟩) k cap) k ((txts pre).map Value.string))
    (hE : Boxed W (w.heap.size + 1 + 1) 3 (.int .i64 E)) (hg : g ≠ w.heap.size + 1 + 1 + 1) :
    Calls Tryd.prog 28 #[.string X] W.drew fun e w1 => e = .returned (.string X) ∧ w1.cell? ⟨w.heap.size + 1, 0, none⟩ = some (.slice (some ⟨g, 0, none⟩) k cap) ∧ w.heap.size + 1 < w1.heap.size ∧
      ∃ g' cap' w2, (Builtin.append_ #[27, 27] 27 #[.slice (some ⟨g, 0, none⟩) k cap, .slice (some ⟨w1.heap.size, 0, none⟩) 1 1]).run Tryd.prog (w1.alloc (.cells #[.string X] 9)) = .ok (.slice (some ⟨g', 0, none⟩) (k + 1) cap') w2 ∧
        w2.cell? ⟨w.heap.size + 1, 0, none⟩ = some (.slice (some ⟨g, 0, none⟩) k cap) ∧ w2.frozen? ⟨w.heap.size + 1, 0, none⟩ = false ∧ w2.cell? ⟨w.heap.size + 1 + 1, 0, none⟩ = some (.int .i64 E) ∧ w2.frozen? ⟨w.heap.size + 1 + 1, 0, none⟩ = false ∧
        RoundF w pre W X Y k g' cap' ((w2.setCell ⟨w.heap.size + 1, 0, none⟩ (.slice (some ⟨g', 0, none⟩) (k + 1) cap')).setCell ⟨w.heap.size + 1 + 1, 0, none⟩ (.int .i64 Y)) := by
  obtain ⟨i0, hi, hz0, hz1, hz2⟩ := info_parts info9
  refine (clone_any X hxs W.drew).mono fun e w1 ⟨he, hb1⟩ => ⟨he, ?_⟩
  have hs1 : W.heap.size ≤ w1.heap.size := hb1.size
  have hv1 : Boxed w1 (w.heap.size + 1) 27 (.slice (some ⟨g, 0, none⟩) k cap) := Boxed.kept (W := W.drew) hv (grown_low hb1 none) (by simp)
  have hrow1 : w1.ownsRow w.heap.size 9 1 (.slice (some ⟨g, 0, none⟩) k cap) k ((txts pre).map Value.string) := World.ownsRow.kept (w := W.drew) hrow (grown_low hb1 none) (by simp [Value.ownBlock])
  have hE1 : Boxed w1 (w.heap.size + 1 + 1) 3 (.int .i64 E) := Boxed.kept (W := W.drew) hE (grown_low hb1 none) (by simp)
  obtain ⟨g', cap', w2, happ, hown2, hgrow2, hlies, hlt2⟩ := run_append_lies (P := Tryd.prog) (w1.alloc (.cells #[.string X] 9)) 27 27 w.heap.size 9 i0 (.string ⟨#[]⟩) 1 16 Tryd.underlying27 hi hz0 hz1 hz2 rfl (by decide) (.slice (some ⟨g, 0, none⟩) k cap) k _ (hrow1.alloc _) ⟨w1.heap.size, 0, none⟩ 1 1 [.string X] rfl (cell_one_new _ _ _) (by simp [Value.oneCell']) (by omega) (by unfold maxLen; omega) (by omega) (by simp; omega) _ rfl
  obtain ⟨a1, a2, a3, a4, a5⟩ := hv1.appended (by decide) hrow1 (by omega) (by omega) hown2 hgrow2
  have hE2 : Boxed w2 (w.heap.size + 1 + 1) 3 (.int .i64 E) := (hE1.alloc _).kept hgrow2 (hE1.not_row (by decide) hrow1)
  have hgl : g' ≠ w.heap.size + 1 + 1 + 1 := by
    rcases hlies with h | h
    · simp [Value.ownBlock] at h; omega
    · simp at h; omega
  refine ⟨hv1.cell, by omega, g', cap', w2, happ, a1.cell, a1.frozen, hE2.cell, hE2.frozen, ?_, ?_, ?_, ?_, hgl, ?_⟩
  · exact (((KeepsOthers.drew W).trans (KeepsOthers.of_grownBy (grown_low hb1 none) (fun j o ej _ => by cases ej))).trans a4).trans (KeepsOthers.setCell _ _ _)
  · refine ⟨(((Below.refl _ W).drew.trans (hb1.mono (by show _ ≤ W.heap.size; omega))).trans a5).setCell (by show _ ≤ w.heap.size + 1 + 1; omega) _, fun v hc => ?_⟩
    have h1 : w1.heap[w.heap.size + 1 + 1 + 1]? = W.heap[w.heap.size + 1 + 1 + 1]? := hb1.block _ hW3
    have h2 : w2.heap[w.heap.size + 1 + 1 + 1]? = (w1.alloc (.cells #[.string X] 9)).heap[w.heap.size + 1 + 1 + 1]? := hgrow2.block _ (by simp; omega) (by simp [Value.ownBlock]; omega)
    have h3 := Below.heap_alloc w1 (.cells #[.string X] 9) (w.heap.size + 1 + 1 + 1) (by omega)
    rw [← hc]
    refine World.cell?_of_block ?_
    show ((w2.setCell _ _).setCell _ _).heap[w.heap.size + 1 + 1 + 1]? = _
    rw [Below.heap_setCell _ _ _ _ (by show w.heap.size + 1 + 1 + 1 ≠ w.heap.size + 1 + 1; omega), Below.heap_setCell _ _ _ _ (by show w.heap.size + 1 + 1 + 1 ≠ w.heap.size + 1; omega), h2, h3, h1]
  · exact a2.other (by omega) _
  · exact a3.kept (grownBy_setCell' _ _ _) (.inr ((hE2.other (by omega) _).not_row (by decide) a3).symm)
  · exact (hE2.other (by omega) _).set _

set_option maxRecDepth 100000 in
set_option maxHeartbeats 4000000 in
theorem iUnframe_short (s : ByteArray) (hs : s.size ≤ 20000) (w : World) (ht : Tab w) : Calls Tryd.prog 10 #[.string s] w (UnOut s w) := by
  obtain ⟨i0, hi, hz0, hz1, hz2⟩ := info_parts info9
  have hmx : Tryd.prog.follows .mixedOrders = true := by kernel_rfl
  have d0 : decide ((20000 : Int) < (s.size : Int)) = false := by simp; omega
  have HT := hidOf ht
  clear ht
  refine (callsIn_wide (n := 6)).1 ?_
  refine callsIn_of_wp_marks Tryd.func10 rfl trivial ?_ rfl
  simp only [Tryd.ntmps10, List.size_toArray, List.length_cons, List.length_nil, Nat.reduceAdd, Nat.reduceSub, Array.replicate_succ, Array.replicate_zero, List.push_toArray, List.append_toArray, List.nil_append, List.cons_append]
  gi_wp2_with (refine ⟨trivial, ?_⟩; gi_at_call 27; refine (framesOf_in _ s _).mono ?_; rintro e w' ⟨rfl, rfl⟩)
  have o0 : (w.alloc (.cells #[] 9)).ownsRow w.heap.size 9 1 (.slice (some ⟨w.heap.size, 0, none⟩) 0 0) 0 [] := World.ownsRow_made _ _ _ (Nat.le_refl _) (by unfold maxLen; omega) rfl
  have o1 := ((o0.alloc (.cells #[.slice (some ⟨w.heap.size, 0, none⟩) 0 0] 27)).alloc (.cells #[.int .i64 0] 3)).alloc (.cells #[.string s] 9)
  have bR0 := Boxed.new (w.alloc (.cells #[] 9)) 27 (.slice (some ⟨w.heap.size, 0, none⟩) 0 0)
  rw [World.size_alloc] at bR0
  have bR := (bR0.alloc (.cells #[.int .i64 0] 3)).alloc (.cells #[.string s] 9)
  have bE0 := Boxed.new ((w.alloc (.cells #[] 9)).alloc (.cells #[.slice (some ⟨w.heap.size, 0, none⟩) 0 0] 27)) 3 (.int .i64 0)
  rw [World.size_alloc, World.size_alloc] at bE0
  have bE := bE0.alloc (.cells #[.string s] 9)
  have bF := Boxed.new (((w.alloc (.cells #[] 9)).alloc (.cells #[.slice (some ⟨w.heap.size, 0, none⟩) 0 0] 27)).alloc (.cells #[.int .i64 0] 3)) 9 (.string s)
  rw [World.size_alloc, World.size_alloc, World.size_alloc] at bF
  have hB0 : Below w.heap.size w ((((w.alloc (.cells #[] 9)).alloc (.cells #[.slice (some ⟨w.heap.size, 0, none⟩) 0 0] 27)).alloc (.cells #[.int .i64 0] 3)).alloc (.cells #[.string s] 9)) := ((((Below.refl _ w).alloc (Nat.le_refl _) _).alloc (by simp) _).alloc (by simp; omega) _).alloc (by simp; omega) _
  refine wpIn_rangeFunc_ownG rfl (by omega) (gf := 36) (lb := #[.pointer (some ⟨w.heap.size + 1 + 1 + 1, 0, none⟩)]) rfl trivial (enters_of Tryd.func36 (by kernel_rfl) rfl)
    (frames_stops 5 (w.heap.size + 1 + 1 + 1) (by omega) s hs w HT.out _ hB0 (by simp) bF.cell) KeepF.trans (KeepF.turn (by simp; omega)) (Below.refl _ _) (fun _ => rfl)
    (fun pre W => (((∃ v, Boxed W (w.heap.size + 1) 27 v ∧ W.ownsRow w.heap.size 9 1 v (txts pre).length ((txts pre).map Value.string) ∧ RowF w.heap.size pre v) ∧ Boxed W (w.heap.size + 1 + 1) 3 (.int .i64 (endOf pre : Int))) ∧ Below w.heap.size w W) ∧ w.heap.size + 1 + 1 + 1 < W.heap.size)
    (fun _ _ _ => False)
    (OwnFrom.and (OwnFrom.and (OwnFrom.and (Own.from (holdsRow_own w.heap.size (w.heap.size + 1) 27 9 1 (fun pre => (txts pre).length) (fun pre => (txts pre).map Value.string) (RowF w.heap.size)) _) (Own.from (boxed_own _ _ _) _)) (ownFrom_below (Nat.le_refl _) (by simp; omega))) (fun _ _ _ _ hs hg _ => Nat.lt_of_lt_of_le hs hg.size))
    (fun _ _ _ _ _ hs _ _ => hs)
    ⟨⟨⟨⟨_, bR, o1, ⟨w.heap.size, 0, rfl, by omega⟩⟩, bE⟩, hB0⟩, by simp⟩
    (fun x => { tmps := #[.string s, undef, .slice none 0 0, .int .i64 0, .pointer (some ⟨w.heap.size + 1, 0, none⟩), .pointer (some ⟨w.heap.size + 1 + 1, 0, none⟩), .string x.1.1, .int .i64 (x.1.2 : Int), .string s, .int .i64 (s.size : Int), .bool false, .slice (some ⟨w.heap.size, 0, none⟩) 0 0, .string s, .func (.func 36) #[] #[.pointer (some ⟨w.heap.size + 1 + 1 + 1, 0, none⟩)], .string x.1.1, .int .i64 (x.1.2 : Int), undef, undef, undef, undef, undef, undef, undef, undef], defers := [] }) ?assign ?body ?done ?stop
  case assign =>
    intro l x W K hK
    gi_wp2
    exact hK
  case body =>
    rintro l pre x W ⟨⟨⟨⟨v, hv, hrow, g, cap, rfl, hg⟩, hE⟩, hB⟩, hW3⟩ hlt
    have HB := hidOf hB
    have hc := hv.cell
    have hxs : x.1.1.size ≤ 1048576 := by have := x.2; omega
    obtain ⟨k, hk⟩ : ∃ k, k = (txts pre).length := ⟨_, rfl⟩
    have hk4 : k < 4000 := by rw [hk, txts_length]; exact hlt
    rw [← hk] at hv hrow hc
    have HK := hidOf hk
    obtain ⟨X, hX⟩ : ∃ X, X = x.1.1 := ⟨_, rfl⟩
    obtain ⟨Y, hY⟩ : ∃ Y : Int, Y = (x.1.2 : Int) := ⟨_, rfl⟩
    have HX := hidOf hX
    have HY := hidOf hY
    rw [← hX] at hxs ⊢
    rw [← hY]

    clear hk hX hY
    clear hB
    gi_wp2
    refine wpIn_region_any hmx ?_
    change wpAnyIn _ _ _ _ _ _ _ _ _ (World.drew _)
    refine wpAnyIn_ready (rs := [0, 1]) (by kernel_rfl) (by simp) (AllReadyIn.cons rfl (fun K hK => ?_) (AllReadyIn.cons rfl (fun K hK => ?_) AllReadyIn.nil))
    · go_simp
      refine hK _ _ ?_
      clear hK K
      refine wpAnyIn_ready (rs := [1]) (by kernel_rfl) (by simp) (AllReadyIn.cons rfl (fun K hK => ?_) AllReadyIn.nil)
      go_simp
      refine hK _ _ ?_
      clear hK K
      refine wpAnyIn_ready (rs := [2]) (by kernel_rfl) (by simp) (AllReadyIn.cons rfl (fun K hK => ?_) AllReadyIn.nil)
      go_simp
      refine ⟨trivial, (CallsIn.inRound l (callsIn_wide.2 (clone_round hxs Y (endOf pre : Int) hk4 hW3 hv hrow hE hg))).mono ?_⟩
      rintro e w1 ⟨rfl, hc1, hz1, g', cap', w2, happ, hx1, hx2, hx3, hx4, hRd⟩
      dsimp only
      refine hK _ _ ?_
      clear hK K
      refine wpAnyIn_ready (rs := [3]) (by kernel_rfl) (by simp) (AllReadyIn.cons rfl (fun K hK => ?_) AllReadyIn.nil)
      go_simp
      refine hK _ _ ?_
      clear hK K
      refine wpAnyIn_ready (rs := [4]) (by kernel_rfl) (by simp) (AllReadyIn.cons rfl (fun K hK => stepIn_append rfl _ _ 27 rfl rfl rfl happ (hK _ _ ?_)) AllReadyIn.nil)
      refine wpAnyIn_ready (rs := [5]) (by kernel_rfl) (by simp) (AllReadyIn.cons rfl (fun K hK => ?_) AllReadyIn.nil)
      go_simp
      refine hK _ _ ?_
      clear hK K
      refine wpAnyIn_done (by kernel_rfl) ?_ _
      gi_wp2
      exact ⟨hRd.others.from _, hRd.keep, hRd.out HB.out x HK.out HX.out HY.out, Nat.lt_of_lt_of_le hW3 hRd.keep.low.size⟩
    · go_simp
      refine hK _ _ ?_
      clear hK K
      refine wpAnyIn_ready (rs := [0, 2]) (by kernel_rfl) (by simp) (AllReadyIn.cons rfl (fun K hK => ?_) (AllReadyIn.cons rfl (fun K hK => ?_) AllReadyIn.nil))
      · go_simp
        refine hK _ _ ?_
        clear hK K
        refine wpAnyIn_ready (rs := [2]) (by kernel_rfl) (by simp) (AllReadyIn.cons rfl (fun K hK => ?_) AllReadyIn.nil)
        go_simp
        refine ⟨trivial, (CallsIn.inRound l (callsIn_wide.2 (clone_round hxs Y (endOf pre : Int) hk4 hW3 hv hrow hE hg))).mono ?_⟩
        rintro e w1 ⟨rfl, hc1, hz1, g', cap', w2, happ, hx1, hx2, hx3, hx4, hRd⟩
        dsimp only
        refine hK _ _ ?_
        clear hK K
        refine wpAnyIn_ready (rs := [3]) (by kernel_rfl) (by simp) (AllReadyIn.cons rfl (fun K hK => ?_) AllReadyIn.nil)
        go_simp
        refine hK _ _ ?_
        clear hK K
        refine wpAnyIn_ready (rs := [4]) (by kernel_rfl) (by simp) (AllReadyIn.cons rfl (fun K hK => stepIn_append rfl _ _ 27 rfl rfl rfl happ (hK _ _ ?_)) AllReadyIn.nil)
        refine wpAnyIn_ready (rs := [5]) (by kernel_rfl) (by simp) (AllReadyIn.cons rfl (fun K hK => ?_) AllReadyIn.nil)
        go_simp
        refine hK _ _ ?_
        clear hK K
        refine wpAnyIn_done (by kernel_rfl) ?_ _
        gi_wp2
        exact ⟨hRd.others.from _, hRd.keep, hRd.out HB.out x HK.out HX.out HY.out, Nat.lt_of_lt_of_le hW3 hRd.keep.low.size⟩
      · go_simp
        refine ⟨trivial, (CallsIn.inRound l (callsIn_wide.2 (clone_round hxs Y (endOf pre : Int) hk4 hW3 hv hrow hE hg))).mono ?_⟩
        rintro e w1 ⟨rfl, hc1, hz1, g', cap', w2, happ, hx1, hx2, hx3, hx4, hRd⟩
        dsimp only
        refine hK _ _ ?_
        clear hK K
        refine wpAnyIn_ready (rs := [0, 3]) (by kernel_rfl) (by simp) (AllReadyIn.cons rfl (fun K hK => ?_) (AllReadyIn.cons rfl (fun K hK => ?_) AllReadyIn.nil))
        · go_simp
          refine hK _ _ ?_
          clear hK K
          refine wpAnyIn_ready (rs := [3]) (by kernel_rfl) (by simp) (AllReadyIn.cons rfl (fun K hK => ?_) AllReadyIn.nil)
          go_simp
          refine hK _ _ ?_
          clear hK K
          refine wpAnyIn_ready (rs := [4]) (by kernel_rfl) (by simp) (AllReadyIn.cons rfl (fun K hK => stepIn_append rfl _ _ 27 rfl rfl rfl happ (hK _ _ ?_)) AllReadyIn.nil)
          refine wpAnyIn_ready (rs := [5]) (by kernel_rfl) (by simp) (AllReadyIn.cons rfl (fun K hK => ?_) AllReadyIn.nil)
          go_simp
          refine hK _ _ ?_
          clear hK K
          refine wpAnyIn_done (by kernel_rfl) ?_ _
          gi_wp2
          exact ⟨hRd.others.from _, hRd.keep, hRd.out HB.out x HK.out HX.out HY.out, Nat.lt_of_lt_of_le hW3 hRd.keep.low.size⟩
        · go_simp
          refine hK _ _ ?_
          clear hK K
          refine wpAnyIn_ready (rs := [0]) (by kernel_rfl) (by simp) (AllReadyIn.cons rfl (fun K hK => ?_) AllReadyIn.nil)
          go_simp
          refine hK _ _ ?_
          clear hK K
          refine wpAnyIn_ready (rs := [4]) (by kernel_rfl) (by simp) (AllReadyIn.cons rfl (fun K hK => stepIn_append rfl _ _ 27 rfl rfl rfl happ (hK _ _ ?_)) AllReadyIn.nil)
          refine wpAnyIn_ready (rs := [5]) (by kernel_rfl) (by simp) (AllReadyIn.cons rfl (fun K hK => ?_) AllReadyIn.nil)
          go_simp
          refine hK _ _ ?_
          clear hK K
          refine wpAnyIn_done (by kernel_rfl) ?_ _
          gi_wp2
          exact ⟨hRd.others.from _, hRd.keep, hRd.out HB.out x HK.out HX.out HY.out, Nat.lt_of_lt_of_le hW3 hRd.keep.low.size⟩
  case done =>
    rintro D ys W hD hun ⟨⟨⟨⟨v, hv, hrow, g, cap, rfl, hg⟩, hE⟩, hB⟩, hW3⟩ hK
    have hc := hv.cell
    have hc2 := hE.cell
    clear o0 o1 bR0 bR bE0 bE bF hB0
    gi_wp2
    gi_big_quiet_th_o (fail)
    all_goals
      gi_wp2
      have hK2 : (W.drewN nq).heap[D]? = some (.deferred (some [])) := hK
      refine ⟨by simp, .inl ⟨_, _, rfl, run_takeDeferred hK2, ?_⟩⟩
      refine ⟨.tuple #[.slice (some ⟨g, 0, none⟩) (txts ys).length cap, .int .i64 (endOf ys : Int)], by simp [results, Tryd.results10, go_sem], ?_⟩
      unfold UnOut
      rw [hun]
      exact ⟨_, rfl, ownsRow_putObj (W := W.drewN nq) hrow _ hK2 rfl, (below_drewN hB nq).trans (belowK_b (w := w) (Nat.le_refl _) (W.drewN nq) D _ _ (by simp at hD; omega) hK2 rfl rfl)⟩
  case stop =>
    rintro D c pre W _ _ h _
    exact h.elim

theorem iUnframe_any (s : ByteArray) (hs : s.size ≤ maxLen) (w : World) (ht : Tab w) : Calls Tryd.prog 10 #[.string s] w (UnOut s w) := by
  by_cases h : s.size ≤ 20000
  · exact iUnframe_short s h w ht
  · exact iUnframe_long s (by omega) hs w

/-- a row of no text -/
def OutZ (bf : Int) (w : World) (e : Ending) (w' : World) : Prop := ∃ a c, e = .returned (.tuple #[.slice a 0 c, .int .i64 bf]) ∧ Below w.heap.size w w'
/-- a row of n texts -/
def OutP (bf : Int) (n : Nat) (ss : List ByteArray) (w : World) (e : Ending) (w' : World) : Prop :=
  ∃ g c, e = .returned (.tuple #[.slice (some ⟨g, 0, none⟩) n c, .int .i64 bf]) ∧ w'.ownsRow w.heap.size 9 1 (.slice (some ⟨g, 0, none⟩) n c) n (ss.map Value.string) ∧ Below w.heap.size w w'

theorem outZ {s : ByteArray} {w : World} {e : Ending} {w' : World} (h : UnOut s w e w') (hz : (un s).1 = []) : OutZ ((un s).2 : Int) w e w' := by
  obtain ⟨v, he, ho, hb⟩ := h
  rw [hz] at ho
  rcases ho.2 with ⟨rfl, _⟩ | ⟨g, cap, cur, rfl, _⟩
  · exact ⟨_, _, he, hb⟩
  · exact ⟨_, _, he, hb⟩

theorem outP {s : ByteArray} {w : World} {e : Ending} {w' : World} (h : UnOut s w e w') (hz : 0 < (un s).1.length) :
    OutP ((un s).2 : Int) (un s).1.length (un s).1 w e w' := by
  obtain ⟨v, he, ho, hb⟩ := h
  have ho' := ho
  rcases ho.2 with ⟨_, h0⟩ | ⟨g, cap, cur, rfl, _⟩
  · omega
  · exact ⟨g, cap, he, ho', hb⟩

end Go.Proofs.YtegknhnmfaafmaaDoor
