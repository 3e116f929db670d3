/- WorldNew where no world is, both sides. A box of many cells, read and written whole; a result cell. WorldNew where no world is: the walks. A drawn region walked state by state: what is shown of a state once serves wherever the walk comes to it. Where the loops of WorldNew stand: a world's box, its rows. WorldNew: its start, its end; what its loops keep. -/
import Derived.Test.YtgdlpmmbeacejaaDoorKWo17
import Derived.Test.YtgdlpmmbeacejaaDoorKOpenGraph
import Derived.Deep.MidRow
import Derived.Test.YtgdlpmmbeacejaaDoorKFind6
import Derived.Deep.AppendLies
namespace Go.Proofs.YtgdlpmmbeacejaaDoor
open Go.RowKit

theorem wna_no {w w' : World} {n sh : Int} (h : hnB n sh = false) (hb : Below w.heap.size w w') : WnA w n sh (.returned (.tuple #[.agg #[.int .i64 0, .int .i64 0, .slice none 0 0, .slice none 0 0, .slice none 0 0, .slice none 0 0, .int .i64 0, .int .i64 0, .int .i64 0, .int .i64 0, .int .i64 0, .int .i64 0, .int .i64 0, .slice none 0 0, .int .i64 0, .slice none 0 0, .slice none 0 0, .slice none 0 0, .slice none 0 0, .slice none 0 0, .slice none 0 0, .slice none 0 0], .bool false])) w' := by
  have hh : ¬ ((1 ≤ n ∧ n ≤ 12) ∧ 1 ≤ sh ∧ sh ≤ 3) := by unfold hnB at h; simpa using h
  have e1 : hnH n sh = zeroH := (hn_no hh).1
  have e2 : wdS n sh = 0 := by unfold wdS; rw [h]; rfl
  have e3 : wdD n sh = 0 := by unfold wdD; rw [h]; rfl
  have e4 : wdM n sh = 0 := by unfold wdM; rw [h]; rfl
  refine ⟨none, 0, 0, none, 0, 0, none, [], none, 0, none, 0, none, 0, w'.heap.size, [], ?_, ?_, ?_, ?_, hb⟩
  · rw [e1, e2, e3, e4, h]; rfl
  · rw [e1, e2, e3]
    exact ⟨⟨World.ownsRow_nil _ _ _ _, FB.nil _ _, World.ownsRow_nil _ _ _ _, by simp [Value.ownBlock], by simp [Value.ownBlock], ⟨by simp [Value.ownBlock], by simp, by simp⟩⟩, World.ownsRow_nil _ _ _ _, World.ownsRow_nil _ _ _ _, World.ownsRow_nil _ _ _ _, by simp [Value.ownBlock], by simp [Value.ownBlock], by simp [Value.ownBlock], hb.size, Nat.le_refl _, Nat.le_refl _⟩
  · rw [e1]; rfl
  · rw [e2]; intro t ht; omega
end Go.Proofs.YtgdlpmmbeacejaaDoor
namespace Go.Proofs.YtgdlpmmbeacejaaDoor
open Go.RowKit

theorem BxA.range {w : World} {b : Nat} {t : TypeId} {l : List Value} (h : BxA w b t l.toArray) : w.rangeAt b 0 l := fun j v hv => by
  rw [Nat.zero_add]; exact h.at j hv
theorem BxA.there {w : World} {b : Nat} {t : TypeId} {l : List Value} (h : BxA w b t l.toArray) {n : Nat} (hn : n ≤ l.length) : w.there b 0 n := fun j hj => by
  rw [Nat.zero_add]
  exact ⟨by rw [h.at j (List.getElem?_eq_getElem (by omega))]; rfl, h.frozen j⟩
theorem setCells_setA (b : Nat) (vs : List Value) : ∀ (w : World) (k : Nat), w.setCells b k vs = setA w b k vs := by
  induction vs with
  | nil => intro w k; rfl
  | cons v r ih => intro w k; rw [World.setCells, setA]; exact ih _ _
/-- one result that is a box, one that is a value -/
theorem results_box {P : Program} {fn : Func} {tmps : Array Value} {w : World} {a x : Nat} {t : TypeId} {b : Nat} {l : List Value} {v : Value}
    (hr : fn.results = #[.cell a t, .tmp x]) (ha : tmps[a]?.getD undef = .pointer (some ⟨b, 0, none⟩)) (hx : tmps[x]?.getD undef = v)
    (hB : BxA w b t l.toArray) (hu : ∃ d, P.underlying t = some d ∧ d.isRow = true) (hi : (P.info? t).map (·.size) = some l.length) : (results fn tmps).run P w = .ok (.tuple #[.agg l.toArray, v]) w := by
  obtain ⟨d, hu, hd⟩ := hu
  have hl := run_loadVar_mid (P := P) w b 0 t l d hB.range hu hd hi
  have e1 : (asAddr (Value.pointer (some ⟨b, 0, none⟩))).run P w = .ok ⟨b, 0, none⟩ w := rfl
  unfold results
  rw [hr]
  simp [ha, hx, hl, e1, Sem.run_bind, Result.andThen_ok]
end Go.Proofs.YtgdlpmmbeacejaaDoor
namespace Go.Proofs.YtgdlpmmbeacejaaDoor
open Go.RowKit

set_option maxRecDepth 100000 in
set_option maxHeartbeats 8000000 in
theorem sWorldNew_no (n sh : Int) (h : hnB n sh = false) (w : World) : Calls Tryd.prog 12 #[.int .i64 n, .int .i64 sh] w fun e w' => WnA w n sh e w' := by
  obtain ⟨W, hW⟩ : ∃ W, W = w.alloc (.cells #[.int .i64 0, .int .i64 0, .slice none 0 0, .slice none 0 0, .slice none 0 0, .slice none 0 0, .int .i64 0, .int .i64 0, .int .i64 0, .int .i64 0, .int .i64 0, .int .i64 0, .int .i64 0, .slice none 0 0, .int .i64 0, .slice none 0 0, .slice none 0 0, .slice none 0 0, .slice none 0 0, .slice none 0 0, .slice none 0 0, .slice none 0 0] 53) := ⟨_, rfl⟩
  have B0 : BxA W w.heap.size 53 #[.int .i64 0, .int .i64 0, .slice none 0 0, .slice none 0 0, .slice none 0 0, .slice none 0 0, .int .i64 0, .int .i64 0, .int .i64 0, .int .i64 0, .int .i64 0, .int .i64 0, .int .i64 0, .slice none 0 0, .int .i64 0, .slice none 0 0, .slice none 0 0, .slice none 0 0, .slice none 0 0, .slice none 0 0, .slice none 0 0, .slice none 0 0] := by rw [hW]; exact BxA.new _ _ _
  have b0 : Below w.heap.size w W := by rw [hW]; exact belA _ _
  have HI := hideIt (sHeadNew_any n sh W)
  have HN := hideIt (fun (w' : World) => wna_no (w := w) (w' := w') h)
  unfold HnA at HI
  rw [h] at HI
  have H0 := hideIt B0
  have Hb := hideIt b0
  clear B0 b0 h
  obtain ⟨N, hN⟩ : ∃ N, N = (hnH n sh).N := ⟨_, rfl⟩
  rw [← hN] at HI
  clear hN
  go_enter Tryd.func12, Tryd.ntmps12
  go_upto_region 1 with fail
  rw [← hW]
  clear hW
  go_wp2_with (go_at_call 21; refine HI.out.mono ?_; rintro e w2 ⟨aO, v, cO, aL, k, cL, aN, R, rfl, _, _, b2⟩; refine Hid.out ?_)
  refine hidw ?_
  obtain ⟨W3, hW3⟩ : ∃ W3, W3 = w2.alloc (.cells #[.int .i64 N, .slice aO v cO, .slice none 0 0, .slice aL k cL, .slice aN k k, .int .i64 0, .int .i64 0, .int .i64 0, .int .i64 0, .int .i64 0, .int .i64 0, .int .i64 0, .slice none 0 0, .int .i64 0, .slice none 0 0] 45) := ⟨_, rfl⟩
  have b3 : Below W.heap.size W W3 := by rw [hW3]; exact b2.alloc b2.size _
  have X := H0.out.up b3
  have hb := bupN Hb.out b3
  have XF := BxA.setA (l := [.int .i64 0, .int .i64 0, .slice none 0 0, .slice none 0 0, .slice none 0 0, .slice none 0 0, .int .i64 0, .int .i64 0, .int .i64 0, .int .i64 0, .int .i64 0, .int .i64 0, .int .i64 0, .slice none 0 0, .int .i64 0, .slice none 0 0, .slice none 0 0, .slice none 0 0, .slice none 0 0, .slice none 0 0, .slice none 0 0, .slice none 0 0]) X 0 [.int .i64 0, .int .i64 0, .slice none 0 0, .slice none 0 0, .slice none 0 0, .slice none 0 0, .int .i64 0, .int .i64 0, .int .i64 0, .int .i64 0, .int .i64 0, .int .i64 0, .int .i64 0, .slice none 0 0, .int .i64 0, .slice none 0 0, .slice none 0 0, .slice none 0 0, .slice none 0 0, .slice none 0 0, .slice none 0 0, .slice none 0 0]
  rw [setV_all [.int .i64 0, .int .i64 0, .slice none 0 0, .slice none 0 0, .slice none 0 0, .slice none 0 0, .int .i64 0, .int .i64 0, .int .i64 0, .int .i64 0, .int .i64 0, .int .i64 0, .int .i64 0, .slice none 0 0, .int .i64 0, .slice none 0 0, .slice none 0 0, .slice none 0 0, .slice none 0 0, .slice none 0 0, .slice none 0 0, .slice none 0 0] [.int .i64 0, .int .i64 0, .slice none 0 0, .slice none 0 0, .slice none 0 0, .slice none 0 0, .int .i64 0, .int .i64 0, .int .i64 0, .int .i64 0, .int .i64 0, .int .i64 0, .int .i64 0, .slice none 0 0, .int .i64 0, .slice none 0 0, .slice none 0 0, .slice none 0 0, .slice none 0 0, .slice none 0 0, .slice none 0 0, .slice none 0 0] rfl] at XF
  have HFn := hideIt (below_setA hb (Nat.le_refl _) 0 [.int .i64 0, .int .i64 0, .slice none 0 0, .slice none 0 0, .slice none 0 0, .slice none 0 0, .int .i64 0, .int .i64 0, .int .i64 0, .int .i64 0, .int .i64 0, .int .i64 0, .int .i64 0, .slice none 0 0, .int .i64 0, .slice none 0 0, .slice none 0 0, .slice none 0 0, .slice none 0 0, .slice none 0 0, .slice none 0 0, .slice none 0 0])
  have HT := hideIt (BxA.there (l := [.int .i64 0, .int .i64 0, .slice none 0 0, .slice none 0 0, .slice none 0 0, .slice none 0 0, .int .i64 0, .int .i64 0, .int .i64 0, .int .i64 0, .int .i64 0, .int .i64 0, .int .i64 0, .slice none 0 0, .int .i64 0, .slice none 0 0, .slice none 0 0, .slice none 0 0, .slice none 0 0, .slice none 0 0, .slice none 0 0, .slice none 0 0]) X (Nat.le_refl _))
  have HX := hideIt XF
  clear X XF hb b3 b2 HI H0 Hb
  go_upto_region 2 with fail
  rw [← hW3]
  clear hW3
  go_upto_region 3 with fail
  go_step
  go_step
  go_step
  go_step
  go_step
  refine wp_store_mid 53 (.tmp 4) (.tmp 20) ?_ w.heap.size 0 #[.int .i64 0, .int .i64 0, .slice none 0 0, .slice none 0 0, .slice none 0 0, .slice none 0 0, .int .i64 0, .int .i64 0, .int .i64 0, .int .i64 0, .int .i64 0, .int .i64 0, .int .i64 0, .slice none 0 0, .int .i64 0, .slice none 0 0, .slice none 0 0, .slice none 0 0, .slice none 0 0, .slice none 0 0, .slice none 0 0, .slice none 0 0] ?_ ?_ ?_ ?_ ?_ ?_
  · rfl
  · rfl
  · rfl
  · exact HT.out
  · kernel_rfl
  · kernel_rfl
  refine Hid.out ?_
  refine hidw ?_
  rw [setCells_setA]
  obtain ⟨W4, hW4⟩ : ∃ W4, W4 = setA W3 w.heap.size 0 [.int .i64 0, .int .i64 0, .slice none 0 0, .slice none 0 0, .slice none 0 0, .slice none 0 0, .int .i64 0, .int .i64 0, .int .i64 0, .int .i64 0, .int .i64 0, .int .i64 0, .int .i64 0, .slice none 0 0, .int .i64 0, .slice none 0 0, .slice none 0 0, .slice none 0 0, .slice none 0 0, .slice none 0 0, .slice none 0 0, .slice none 0 0] := ⟨_, rfl⟩
  rw [← hW4] at HX HFn
  rw [show setA W3 w.heap.size 0 (#[.int .i64 0, .int .i64 0, .slice none 0 0, .slice none 0 0, .slice none 0 0, .slice none 0 0, .int .i64 0, .int .i64 0, .int .i64 0, .int .i64 0, .int .i64 0, .int .i64 0, .int .i64 0, .slice none 0 0, .int .i64 0, .slice none 0 0, .slice none 0 0, .slice none 0 0, .slice none 0 0, .slice none 0 0, .slice none 0 0, .slice none 0 0] : Array Value).toList = W4 from hW4.symm]
  clear hW4 HT
  go_wp2
  refine bodyPost_ret (v := .tuple #[.agg #[.int .i64 0, .int .i64 0, .slice none 0 0, .slice none 0 0, .slice none 0 0, .slice none 0 0, .int .i64 0, .int .i64 0, .int .i64 0, .int .i64 0, .int .i64 0, .int .i64 0, .int .i64 0, .slice none 0 0, .int .i64 0, .slice none 0 0, .slice none 0 0, .slice none 0 0, .slice none 0 0, .slice none 0 0, .slice none 0 0, .slice none 0 0], .bool false]) ?_ rfl (HN.out _ HFn.out)
  refine results_box (a := 4) (x := 5) (l := [.int .i64 0, .int .i64 0, .slice none 0 0, .slice none 0 0, .slice none 0 0, .slice none 0 0, .int .i64 0, .int .i64 0, .int .i64 0, .int .i64 0, .int .i64 0, .int .i64 0, .int .i64 0, .slice none 0 0, .int .i64 0, .slice none 0 0, .slice none 0 0, .slice none 0 0, .slice none 0 0, .slice none 0 0, .slice none 0 0, .slice none 0 0]) (b := w.heap.size) (t := 53) ?_ ?_ ?_ ?_ ?_ ?_
  · exact Tryd.results12
  · rfl
  · rfl
  · exact HX.out
  · exact ⟨_, Tryd.underlying53, rfl⟩
  · kernel_rfl
set_option maxRecDepth 100000 in
set_option maxHeartbeats 8000000 in
theorem iWorldNew_no (n sh : Int) (h : hnB n sh = false) (w : World) : Calls Tryd.prog 47 #[.int .i64 n, .int .i64 sh] w fun e w' => WnA w n sh e w' := by
  obtain ⟨W, hW⟩ : ∃ W, W = w.alloc (.cells #[.int .i64 0, .int .i64 0, .slice none 0 0, .slice none 0 0, .slice none 0 0, .slice none 0 0, .int .i64 0, .int .i64 0, .int .i64 0, .int .i64 0, .int .i64 0, .int .i64 0, .int .i64 0, .slice none 0 0, .int .i64 0, .slice none 0 0, .slice none 0 0, .slice none 0 0, .slice none 0 0, .slice none 0 0, .slice none 0 0, .slice none 0 0] 53) := ⟨_, rfl⟩
  have B0 : BxA W w.heap.size 53 #[.int .i64 0, .int .i64 0, .slice none 0 0, .slice none 0 0, .slice none 0 0, .slice none 0 0, .int .i64 0, .int .i64 0, .int .i64 0, .int .i64 0, .int .i64 0, .int .i64 0, .int .i64 0, .slice none 0 0, .int .i64 0, .slice none 0 0, .slice none 0 0, .slice none 0 0, .slice none 0 0, .slice none 0 0, .slice none 0 0, .slice none 0 0] := by rw [hW]; exact BxA.new _ _ _
  have b0 : Below w.heap.size w W := by rw [hW]; exact belA _ _
  have HI := hideIt (iHeadNew_any n sh W)
  have HN := hideIt (fun (w' : World) => wna_no (w := w) (w' := w') h)
  unfold HnA at HI
  rw [h] at HI
  have H0 := hideIt B0
  have Hb := hideIt b0
  clear B0 b0 h
  obtain ⟨N, hN⟩ : ∃ N, N = (hnH n sh).N := ⟨_, rfl⟩
  rw [← hN] at HI
  clear hN
  go_enter Tryd.func47, Tryd.ntmps47
  go_upto_region 1 with fail
  rw [← hW]
  clear hW
  go_wp2_with (go_at_call 56; refine HI.out.mono ?_; rintro e w2 ⟨aO, v, cO, aL, k, cL, aN, R, rfl, _, _, b2⟩; refine Hid.out ?_)
  refine hidw ?_
  obtain ⟨W3, hW3⟩ : ∃ W3, W3 = w2.alloc (.cells #[.int .i64 N, .slice aO v cO, .slice none 0 0, .slice aL k cL, .slice aN k k, .int .i64 0, .int .i64 0, .int .i64 0, .int .i64 0, .int .i64 0, .int .i64 0, .int .i64 0, .slice none 0 0, .int .i64 0, .slice none 0 0] 45) := ⟨_, rfl⟩
  have b3 : Below W.heap.size W W3 := by rw [hW3]; exact b2.alloc b2.size _
  have X := H0.out.up b3
  have hb := bupN Hb.out b3
  have XF := BxA.setA (l := [.int .i64 0, .int .i64 0, .slice none 0 0, .slice none 0 0, .slice none 0 0, .slice none 0 0, .int .i64 0, .int .i64 0, .int .i64 0, .int .i64 0, .int .i64 0, .int .i64 0, .int .i64 0, .slice none 0 0, .int .i64 0, .slice none 0 0, .slice none 0 0, .slice none 0 0, .slice none 0 0, .slice none 0 0, .slice none 0 0, .slice none 0 0]) X 0 [.int .i64 0, .int .i64 0, .slice none 0 0, .slice none 0 0, .slice none 0 0, .slice none 0 0, .int .i64 0, .int .i64 0, .int .i64 0, .int .i64 0, .int .i64 0, .int .i64 0, .int .i64 0, .slice none 0 0, .int .i64 0, .slice none 0 0, .slice none 0 0, .slice none 0 0, .slice none 0 0, .slice none 0 0, .slice none 0 0, .slice none 0 0]
  rw [setV_all [.int .i64 0, .int .i64 0, .slice none 0 0, .slice none 0 0, .slice none 0 0, .slice none 0 0, .int .i64 0, .int .i64 0, .int .i64 0, .int .i64 0, .int .i64 0, .int .i64 0, .int .i64 0, .slice none 0 0, .int .i64 0, .slice none 0 0, .slice none 0 0, .slice none 0 0, .slice none 0 0, .slice none 0 0, .slice none 0 0, .slice none 0 0] [.int .i64 0, .int .i64 0, .slice none 0 0, .slice none 0 0, .slice none 0 0, .slice none 0 0, .int .i64 0, .int .i64 0, .int .i64 0, .int .i64 0, .int .i64 0, .int .i64 0, .int .i64 0, .slice none 0 0, .int .i64 0, .slice none 0 0, .slice none 0 0, .slice none 0 0, .slice none 0 0, .slice none 0 0, .slice none 0 0, .slice none 0 0] rfl] at XF
  have HFn := hideIt (below_setA hb (Nat.le_refl _) 0 [.int .i64 0, .int .i64 0, .slice none 0 0, .slice none 0 0, .slice none 0 0, .slice none 0 0, .int .i64 0, .int .i64 0, .int .i64 0, .int .i64 0, .int .i64 0, .int .i64 0, .int .i64 0, .slice none 0 0, .int .i64 0, .slice none 0 0, .slice none 0 0, .slice none 0 0, .slice none 0 0, .slice none 0 0, .slice none 0 0, .slice none 0 0])
  have HT := hideIt (BxA.there (l := [.int .i64 0, .int .i64 0, .slice none 0 0, .slice none 0 0, .slice none 0 0, .slice none 0 0, .int .i64 0, .int .i64 0, .int .i64 0, .int .i64 0, .int .i64 0, .int .i64 0, .int .i64 0, .slice none 0 0, .int .i64 0, .slice none 0 0, .slice none 0 0, .slice none 0 0, .slice none 0 0, .slice none 0 0, .slice none 0 0, .slice none 0 0]) X (Nat.le_refl _))
  have HX := hideIt XF
  clear X XF hb b3 b2 HI H0 Hb
  go_upto_region 2 with fail
  rw [← hW3]
  clear hW3
  go_upto_region 3 with fail
  go_step
  go_step
  go_step
  go_step
  go_step
  refine wp_store_mid 53 (.tmp 4) (.tmp 20) ?_ w.heap.size 0 #[.int .i64 0, .int .i64 0, .slice none 0 0, .slice none 0 0, .slice none 0 0, .slice none 0 0, .int .i64 0, .int .i64 0, .int .i64 0, .int .i64 0, .int .i64 0, .int .i64 0, .int .i64 0, .slice none 0 0, .int .i64 0, .slice none 0 0, .slice none 0 0, .slice none 0 0, .slice none 0 0, .slice none 0 0, .slice none 0 0, .slice none 0 0] ?_ ?_ ?_ ?_ ?_ ?_
  · rfl
  · rfl
  · rfl
  · exact HT.out
  · kernel_rfl
  · kernel_rfl
  refine Hid.out ?_
  refine hidw ?_
  rw [setCells_setA]
  obtain ⟨W4, hW4⟩ : ∃ W4, W4 = setA W3 w.heap.size 0 [.int .i64 0, .int .i64 0, .slice none 0 0, .slice none 0 0, .slice none 0 0, .slice none 0 0, .int .i64 0, .int .i64 0, .int .i64 0, .int .i64 0, .int .i64 0, .int .i64 0, .int .i64 0, .slice none 0 0, .int .i64 0, .slice none 0 0, .slice none 0 0, .slice none 0 0, .slice none 0 0, .slice none 0 0, .slice none 0 0, .slice none 0 0] := ⟨_, rfl⟩
  rw [← hW4] at HX HFn
  rw [show setA W3 w.heap.size 0 (#[.int .i64 0, .int .i64 0, .slice none 0 0, .slice none 0 0, .slice none 0 0, .slice none 0 0, .int .i64 0, .int .i64 0, .int .i64 0, .int .i64 0, .int .i64 0, .int .i64 0, .int .i64 0, .slice none 0 0, .int .i64 0, .slice none 0 0, .slice none 0 0, .slice none 0 0, .slice none 0 0, .slice none 0 0, .slice none 0 0, .slice none 0 0] : Array Value).toList = W4 from hW4.symm]
  clear hW4 HT
  go_wp2
  refine bodyPost_ret (v := .tuple #[.agg #[.int .i64 0, .int .i64 0, .slice none 0 0, .slice none 0 0, .slice none 0 0, .slice none 0 0, .int .i64 0, .int .i64 0, .int .i64 0, .int .i64 0, .int .i64 0, .int .i64 0, .int .i64 0, .slice none 0 0, .int .i64 0, .slice none 0 0, .slice none 0 0, .slice none 0 0, .slice none 0 0, .slice none 0 0, .slice none 0 0, .slice none 0 0], .bool false]) ?_ rfl (HN.out _ HFn.out)
  refine results_box (a := 4) (x := 5) (l := [.int .i64 0, .int .i64 0, .slice none 0 0, .slice none 0 0, .slice none 0 0, .slice none 0 0, .int .i64 0, .int .i64 0, .int .i64 0, .int .i64 0, .int .i64 0, .int .i64 0, .int .i64 0, .slice none 0 0, .int .i64 0, .slice none 0 0, .slice none 0 0, .slice none 0 0, .slice none 0 0, .slice none 0 0, .slice none 0 0, .slice none 0 0]) (b := w.heap.size) (t := 53) ?_ ?_ ?_ ?_ ?_ ?_
  · exact Tryd.results47
  · rfl
  · rfl
  · exact HX.out
  · exact ⟨_, Tryd.underlying53, rfl⟩
  · kernel_rfl
end Go.Proofs.YtgdlpmmbeacejaaDoor
namespace Go.Proofs.YtgdlpmmbeacejaaDoor
open Go.RowKit

structure Bx (T : Prop) : Prop where
  out : T
theorem viaT {T G : Prop} (main : Bx T → G) (p : T) : G := main ⟨p⟩
theorem hidp {p : Prop} (h : p) : Hid p := h
theorem lstH {P : Program} {md : Region.Mode} {ops : Array Oper} {Q : Exit → Go.Act → World → Prop} {S : World → Prop} {fuel : Nat} {l l' : Array Bool} {a : Go.Act} {w : World} (h : l = l') (H : wpAnyH P md ops Q S fuel l' a w) : wpAnyH P md ops Q S fuel l a w := h ▸ H
end Go.Proofs.YtgdlpmmbeacejaaDoor
namespace Go.Proofs.YtgdlpmmbeacejaaDoor
open Go.RowKit

theorem BxA.news {w : World} {b : Nat} {t : TypeId} {l : List Value} (h : BxA w b t l.toArray) : ∀ j u, l[j]? = some u → w.cell? ((⟨b, 0, none⟩ : Addr).add j) = some u := fun j u hj => by
  rw [Addr.add_mid, Nat.zero_add]; exact h.at j hj
theorem infoSh : (Tryd.prog.info? 76).map (fun i => (i.zero, i.size, i.bytes)) = some (some (.agg #[.int .i64 0, .int .i64 0, .slice none 0 0, .int .i64 0, .bool false, .slice none 0 0, .slice none 0 0]), 7, 104) := by kernel_rfl
theorem infoBo : (Tryd.prog.info? 4).map (fun i => (i.zero, i.size, i.bytes)) = some (some (.bool false), 1, 1) := by kernel_rfl
theorem infoDk : (Tryd.prog.info? 161).map (fun i => (i.zero, i.size, i.bytes)) = some (some (.agg #[.slice none 0 0]), 1, 24) := by kernel_rfl
/-- a box of any cells, and three rows -/
structure WR (lo : Nat) (u : World) (b8 : Nat) (C : Array Value) (aS : Option Addr) (nS cS : Nat) (aD : Option Addr) (nD cD : Nat) (aU : Option Addr) (nU cU : Nat) (cs ds us : List Value) : Prop where
  box : BxA u b8 53 C
  s : u.ownsRow lo 76 7 (.slice aS nS cS) nS cs
  d : u.ownsRow lo 161 1 (.slice aD nD cD) nD ds
  b : u.ownsRow lo 4 1 (.slice aU nU cU) nU us
  hb : lo ≤ b8
section
variable {lo : Nat} {w u u' : World} {b8 : Nat} {C : Array Value} {aS : Option Addr} {nS cS : Nat} {aD : Option Addr} {nD cD : Nat} {aU : Option Addr} {nU cU : Nat} {cs ds us : List Value}
theorem WR.up (h : WR lo u b8 C aS nS cS aD nD cD aU nU cU cs ds us) (hb : Below u.heap.size u u') : WR lo u' b8 C aS nS cS aD nD cD aU nU cU cs ds us :=
  ⟨h.box.up hb, own_up h.s hb, own_up h.d hb, own_up h.b hb, h.hb⟩
theorem WR.drew (h : WR lo u b8 C aS nS cS aD nD cD aU nU cU cs ds us) : WR lo u.drew b8 C aS nS cS aD nD cD aU nU cU cs ds us := h.up (Below.refl _ _).drew
/-- a shard more -/
theorem WR.shard (h : WR lo u b8 C aS nS cS aD nD cD aU nU cU cs ds us) {cs' : List Value} {g m c : Nat} (ho : u'.ownsRow lo 76 7 (.slice (some ⟨g, 0, none⟩) m c) m cs') (hg : u.grownBy u' (Value.slice aS nS cS).ownBlock) :
    WR lo u' b8 C (some ⟨g, 0, none⟩) m c aD nD cD aU nU cU cs' ds us :=
  ⟨h.box.grown hg (rowBx h.s h.box (by decide)), ho, keptNe h.d h.s (by decide) hg, keptNe h.b h.s (by decide) hg, h.hb⟩
/-- a node more that is up -/
theorem WR.node (h : WR lo u b8 C aS nS cS aD nD cD aU nU cU cs ds us) {us' : List Value} {g m c : Nat} (ho : u'.ownsRow lo 4 1 (.slice (some ⟨g, 0, none⟩) m c) m us') (hg : u.grownBy u' (Value.slice aU nU cU).ownBlock) :
    WR lo u' b8 C aS nS cS aD nD cD (some ⟨g, 0, none⟩) m c cs ds us' :=
  ⟨h.box.grown hg (rowBx h.b h.box (by decide)), keptNe h.s h.b (by decide) hg, keptNe h.d h.b (by decide) hg, ho, h.hb⟩
theorem WR.set (h : WR lo u b8 C aS nS cS aD nD cD aU nU cU cs ds us) (j : Nat) (x : Value) : WR lo (u.setCell ⟨b8, j, none⟩ x) b8 (C.setIfInBounds j x) aS nS cS aD nD cD aU nU cU cs ds us :=
  ⟨h.box.set j x, own_setBx h.s h.box (by decide) _ _, own_setBx h.d h.box (by decide) _ _, own_setBx h.b h.box (by decide) _ _, h.hb⟩
theorem WR.gS (h : WR lo u b8 C aS nS cS aD nD cD aU nU cU cs ds us) (hl : Below lo w u) (hz : lo ≤ w.heap.size) (hg : u.grownBy u' (Value.slice aS nS cS).ownBlock) : Below lo w u' :=
  hl.grown hg (Nat.le_trans hz hl.size) (fun j hj => (h.s.lt j hj).1)
theorem WR.gU (h : WR lo u b8 C aS nS cS aD nD cD aU nU cU cs ds us) (hl : Below lo w u) (hz : lo ≤ w.heap.size) (hg : u.grownBy u' (Value.slice aU nU cU).ownBlock) : Below lo w u' :=
  hl.grown hg (Nat.le_trans hz hl.size) (fun j hj => (h.b.lt j hj).1)
end
end Go.Proofs.YtgdlpmmbeacejaaDoor
namespace Go.Proofs.YtgdlpmmbeacejaaDoor
open Go.RowKit

theorem own_setABx {u : World} {B e s n b : Nat} {t : TypeId} {v : Value} {xs : List Value} {l : List Value} (h : u.ownsRow B e s v n xs) (x : BxA u b t l.toArray) (hne : e ≠ t) (k : Nat) (vs : List Value) : (setA u b k vs).ownsRow B e s v n xs := by
  induction vs generalizing u l k with
  | nil => exact h
  | cons y ys ih => exact ih (l := l.set k y) (own_setBx h x hne k y) (by have := x.set k y; rw [List.setIfInBounds_toArray] at this; exact this) (k + 1)
theorem HK.lower {u : World} {lo lo' hi : Nat} {aO : Option Addr} {v cO : Nat} {aL : Option Addr} {k cL : Nat} {aN : Option Addr} {R : List Rw} {os ns : List Int} (h : HK u lo hi aO v cO aL k cL aN R os ns) (hl : lo' ≤ lo) : HK u lo' hi aO v cO aL k cL aN R os ns :=
  ⟨own_mono h.o hl, h.l.lo hl, own_mono h.n hl, h.oh, h.nh, h.s⟩
theorem HK.setA_low {u : World} {lo hi G : Nat} {aO : Option Addr} {v cO : Nat} {aL : Option Addr} {k cL : Nat} {aN : Option Addr} {R : List Rw} {os ns : List Int} (h : HK u lo hi aO v cO aL k cL aN R os ns) (hG : G < lo) (j : Nat) (vs : List Value) : HK (setA u G j vs) lo hi aO v cO aL k cL aN R os ns :=
  ⟨own_setA h.o hG j vs, fb_setA h.l hG j vs, own_setA h.n hG j vs, h.oh, h.nh, h.s⟩
theorem setA_size (u : World) (b k : Nat) (vs : List Value) : (setA u b k vs).heap.size = u.heap.size := by
  induction vs generalizing u k with
  | nil => rfl
  | cons v r ih => rw [setA, ih]; simp
theorem rng_low {u x : World} {B : Nat} (h : Below B u x) (hs : u.heap.size ≤ x.heap.size) : Rng B u.heap.size u x :=
  ⟨h.os, h.tape, h.output, hs, fun k hk ho => h.block k (by omega)⟩
theorem HK.below {u x : World} {lo hi : Nat} {aO : Option Addr} {v cO : Nat} {aL : Option Addr} {k cL : Nat} {aN : Option Addr} {R : List Rw} {os ns : List Int} (h : HK u lo hi aO v cO aL k cL aN R os ns) (hb : Below hi u x) : HK x lo hi aO v cO aL k cL aN R os ns :=
  h.rng (rng_low hb hb.size) (.inl (Nat.le_refl _))
theorem BxA.below {u x : World} {b B : Nat} {t : TypeId} {cs : Array Value} (h : BxA u b t cs) (hb : Below B u x) (hl : b < B) : BxA x b t cs := by
  unfold BxA; rw [hb.block b hl]; exact h
def tru (k m : Nat) : List Value := List.replicate k (.bool true) ++ List.replicate (m - k) (.bool false)
theorem tru_set (k m : Nat) (h : k < m) : (tru k m).set k (.bool true) = tru (k + 1) m := by
  unfold tru
  rw [List.set_append_right _ _ (by simp), List.length_replicate, Nat.sub_self]
  obtain ⟨d, hd⟩ : ∃ d, m - k = d + 1 := ⟨m - k - 1, by omega⟩
  rw [hd, show m - (k + 1) = d by omega, List.replicate_succ, List.set_cons_zero, List.replicate_succ' , List.append_assoc]
  rfl
theorem ns_one (i n : Int) : ∀ u ∈ nsC i n, u.oneCell' = true := by
  intro u hu
  simp only [nsC, List.mem_cons, List.not_mem_nil, or_false] at hu
  rcases hu with rfl | rfl | rfl | rfl | rfl | rfl | rfl <;> rfl
theorem tru_all (m : Nat) : tru m m = List.replicate m (.bool true) := by simp [tru]
theorem tru_none (m : Nat) : tru 0 m = List.replicate m (.bool false) := by simp [tru]
theorem wna_yes {w w' : World} {nn s : Nat} (hn : 1 ≤ nn ∧ nn ≤ 12) (hs : 1 ≤ s ∧ s ≤ 3) {aO : Option Addr} {v cO : Nat} {aL : Option Addr} {k cL : Nat} {aN : Option Addr} {R : List Rw} {aS : Option Addr} {cS : Nat} {aD : Option Addr} {cD : Nat} {aU : Option Addr} {cU hi b8 : Nat} {C : Array Value} {cs : List Value}
    (hk : HK w' w.heap.size hi aO v cO aL k cL aN R (hnH (nn : Int) (s : Int)).own (hnH (nn : Int) (s : Int)).nums) (hR : rts R = (hnH (nn : Int) (s : Int)).lab)
    (hw : WR hi w' b8 C aS s cS aD (s + 1) cD aU (s + 1) cU cs (List.replicate (s + 1) (.slice none 0 0)) (List.replicate (s + 1) (.bool true)))
    (he : ∀ t < s, El cs t (nsh (nn : Int) t)) (hl : w.heap.size ≤ hi) (hh : hi ≤ w'.heap.size) (hb : Below w.heap.size w w') :
    WnA w (nn : Int) (s : Int) (.returned (.tuple #[.agg (wvC (nn : Int) (hnH (nn : Int) (s : Int)).N aO v cO aL k cL aN aS s cS aD (s + 1) cD aU (s + 1) cU), .bool true])) w' := by
  have h1 : hnB (nn : Int) (s : Int) = true := by unfold hnB; simp; omega
  have e2 : wdS (nn : Int) (s : Int) = s := by unfold wdS; rw [if_pos h1]; simp
  have e3 : wdD (nn : Int) (s : Int) = s + 1 := by unfold wdD; rw [if_pos h1]; simp
  have e4 : wdM (nn : Int) (s : Int) = (nn : Int) := by unfold wdM; rw [if_pos h1]
  refine ⟨aO, v, cO, aL, k, cL, aN, R, aS, cS, aD, cD, aU, cU, hi, cs, ?_, ?_, hR, ?_, hb⟩
  · rw [e2, e3, e4, h1]
  · rw [e2, e3]
    exact ⟨hk, hw.s, hw.d, hw.b, fun g hg => (hw.s.lt g hg).2, fun g hg => (hw.d.lt g hg).2, fun g hg => (hw.b.lt g hg).2, hl, hh, Nat.le_refl _⟩
  · rw [e2]; exact he
end Go.Proofs.YtgdlpmmbeacejaaDoor
