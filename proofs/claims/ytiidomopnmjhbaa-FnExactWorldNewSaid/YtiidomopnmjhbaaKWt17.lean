/- What WorldNew answers; where its loops stand. WorldNew where no world is, both sides. A box of many cells, read and written whole; a result cell. WorldNew where no world is: the walks. A drawn region walked state by state: what is shown of a state once serves wherever the walk comes to it. Where the loops of WorldNew stand: a world's box, its rows. -/
import Derived.Test.YtiidomopnmjhbaaKWm17
import Derived.Test.YtiidomopnmjhbaaKOpenGraph
import Derived.Deep.MidRow
import Derived.Test.YtiidomopnmjhbaaKFind6
import Derived.Deep.AppendLies
namespace Go.Proofs.Ytiidomopnmjhbaa
open Go.RowKit

/-- a new world's cells -/
abbrev wvC (M N : Int) (aO : Option Addr) (v cO : Nat) (aL : Option Addr) (k cL : Nat) (aN : Option Addr) (aS : Option Addr) (nS cS : Nat) (aD : Option Addr) (nD cD : Nat) (aU : Option Addr) (nU cU : Nat) : Array Value := #[.int .i64 M, .int .i64 N, .slice aO v cO, .slice none 0 0, .slice aL k cL, .slice aN k k, .int .i64 0, .int .i64 0, .int .i64 0, .int .i64 0, .int .i64 0, .int .i64 0, .int .i64 0, .slice none 0 0, .int .i64 0, .slice none 0 0, .slice aS nS cS, .slice aD nD cD, .slice aU nU cU, .slice none 0 0, .slice none 0 0, .slice none 0 0]
/-- a new shard's cells -/
abbrev nsC (i n : Int) : List Value := [.int .i64 i, .int .i64 n, .slice none 0 0, .int .i64 0, .bool false, .slice none 0 0, .slice none 0 0]
/-- the t-th new shard -/
def nsh (n : Int) (t : Nat) : Shv := ⟨(t : Int) + 1, n, 0, false⟩
theorem El.app {cs ds : List Value} {t : Nat} {x : Shv} (h : El cs t x) : El (cs ++ ds) t x := by
  have l0 := (List.getElem?_eq_some_iff.1 h.c6).1
  refine ⟨?_, ?_, ?_, ?_, ?_, ?_, ?_⟩ <;> rw [List.getElem?_append_left (by omega)]
  · exact h.c0
  · exact h.c1
  · exact h.c2
  · exact h.c3
  · exact h.c4
  · exact h.c5
  · exact h.c6
theorem El.snoc {cs : List Value} {k : Nat} {n : Int} (hl : cs.length = k * 7) (h : ∀ t < k, El cs t (nsh n t)) : ∀ t < k + 1, El (cs ++ nsC ((k : Int) + 1) n) t (nsh n t) := by
  intro t ht
  by_cases e : t = k
  · subst e
    refine ⟨?_, ?_, ?_, ?_, ?_, ?_, ?_⟩ <;> rw [List.getElem?_append_right (by omega)]
    · rw [show t * 7 - cs.length = 0 by omega]; rfl
    · rw [show t * 7 + 1 - cs.length = 1 by omega]; rfl
    · rw [show t * 7 + 2 - cs.length = 2 by omega]; rfl
    · rw [show t * 7 + 3 - cs.length = 3 by omega]; rfl
    · rw [show t * 7 + 4 - cs.length = 4 by omega]; rfl
    · rw [show t * 7 + 5 - cs.length = 5 by omega]; rfl
    · rw [show t * 7 + 6 - cs.length = 6 by omega]; rfl
  · exact (h t (by omega)).app
/-- how many shards a new world has -/
def wdS (n sh : Int) : Nat := if hnB n sh = true then sh.toNat else 0
def wdD (n sh : Int) : Nat := if hnB n sh = true then sh.toNat + 1 else 0
def wdM (n sh : Int) : Int := if hnB n sh = true then n else 0
/-- what WorldNew answers -/
def WnA (w : World) (n sh : Int) (e : Ending) (w' : World) : Prop := ∃ (aO : Option Addr) (v cO : Nat) (aL : Option Addr) (k cL : Nat) (aN : Option Addr) (R : List Rw) (aS : Option Addr) (cS : Nat) (aD : Option Addr) (cD : Nat) (aU : Option Addr) (cU hi : Nat) (cs : List Value),
  e = .returned (.tuple #[.agg (wvC (wdM n sh) (hnH n sh).N aO v cO aL k cL aN aS (wdS n sh) cS aD (wdD n sh) cD aU (wdD n sh) cU), .bool (hnB n sh)]) ∧
  WK w' w.heap.size hi w'.heap.size aO v cO aL k cL aN R (hnH n sh).own (hnH n sh).nums aS (wdS n sh) cS aD (wdD n sh) cD aU (wdD n sh) cU cs (List.replicate (wdD n sh) (.slice none 0 0)) (List.replicate (wdD n sh) (.bool true)) ∧
  rts R = (hnH n sh).lab ∧ (∀ t < wdS n sh, El cs t (nsh n t)) ∧ Below w.heap.size w w'
/-- where the loop of WorldNew stands -/
structure WS (w2 u : World) (b8 : Nat) (M N : Int) (aO : Option Addr) (v cO : Nat) (aL : Option Addr) (k cL : Nat) (aN : Option Addr) (aS : Option Addr) (nS cS : Nat) (aD : Option Addr) (nD cD : Nat) (aU : Option Addr) (nU cU : Nat) (cs ds us : List Value) : Prop where
  box : BxA u b8 52 (wvC M N aO v cO aL k cL aN aS nS cS aD nD cD aU nU cU)
  s : u.ownsRow w2.heap.size 80 7 (.slice aS nS cS) nS cs
  d : u.ownsRow w2.heap.size 136 1 (.slice aD nD cD) nD ds
  b : u.ownsRow w2.heap.size 4 1 (.slice aU nU cU) nU us
  bl : Below w2.heap.size w2 u
  hb : w2.heap.size ≤ b8
theorem rowBx {u : World} {B e s n b : Nat} {t : TypeId} {v : Value} {xs : List Value} {cs : Array Value} (h : u.ownsRow B e s v n xs) (x : BxA u b t cs) (hne : e ≠ t) : v.ownBlock ≠ some b := by
  intro hg
  rcases h.2 with ⟨rfl, _⟩ | ⟨g, _, cur, rfl, _, h1, _⟩
  · simp [Value.ownBlock] at hg
  · simp [Value.ownBlock] at hg
    subst hg
    unfold BxA at x
    rw [h1] at x
    simp at x
    exact hne x.2
theorem own_setBx {u : World} {B e s n b : Nat} {t : TypeId} {v : Value} {xs : List Value} {cs : Array Value} (h : u.ownsRow B e s v n xs) (x : BxA u b t cs) (hne : e ≠ t) (j : Nat) (y : Value) : (u.setCell ⟨b, j, none⟩ y).ownsRow B e s v n xs := by
  have hn := rowBx h x hne
  rcases h.2 with ⟨rfl, _⟩ | ⟨g, c, cur, rfl, hr⟩
  · exact ⟨h.1, .inl ⟨rfl, by rcases h.2 with ⟨_, h0⟩ | ⟨_, _, _, hv, _⟩; exact h0; simp at hv⟩⟩
  · exact own_setOther h b j y (by simpa [Value.ownBlock] using hn)
section
variable {w2 u u' : World} {b8 : Nat} {M N : Int} {aO : Option Addr} {v cO : Nat} {aL : Option Addr} {k cL : Nat} {aN aS : Option Addr} {nS cS : Nat} {aD : Option Addr} {nD cD : Nat} {aU : Option Addr} {nU cU : Nat} {cs ds us : List Value}
theorem WS.up (h : WS w2 u b8 M N aO v cO aL k cL aN aS nS cS aD nD cD aU nU cU cs ds us) (hb : Below u.heap.size u u') : WS w2 u' b8 M N aO v cO aL k cL aN aS nS cS aD nD cD aU nU cU cs ds us :=
  ⟨h.box.up hb, own_up h.s hb, own_up h.d hb, own_up h.b hb, h.bl.trans (hb.mono h.bl.size), h.hb⟩
/-- a shard more -/
theorem WS.shard (h : WS w2 u b8 M N aO v cO aL k cL aN aS nS cS aD nD cD aU nU cU cs ds us) {cs' : List Value} {g m c : Nat} (ho : u'.ownsRow w2.heap.size 80 7 (.slice (some ⟨g, 0, none⟩) m c) m cs') (hg : u.grownBy u' (Value.slice aS nS cS).ownBlock) :
    WS w2 (u'.setCell ⟨b8, 16, none⟩ (.slice (some ⟨g, 0, none⟩) m c)) b8 M N aO v cO aL k cL aN (some ⟨g, 0, none⟩) m c aD nD cD aU nU cU cs' ds us := by
  have x := h.box.grown hg (rowBx h.s h.box (by decide))
  have bb : Below w2.heap.size w2 u' := h.bl.grown hg h.bl.size (fun j hj => (h.s.lt j hj).1)
  exact ⟨x.set 16 _, own_setBx ho x (by decide) _ _, own_setBx (keptNe h.d h.s (by decide) hg) x (by decide) _ _, own_setBx (keptNe h.b h.s (by decide) hg) x (by decide) _ _, bb.setCell (p := ⟨b8, 16, none⟩) h.hb _, h.hb⟩
/-- a node more that is up -/
theorem WS.node (h : WS w2 u b8 M N aO v cO aL k cL aN aS nS cS aD nD cD aU nU cU cs ds us) {us' : List Value} {g m c : Nat} (ho : u'.ownsRow w2.heap.size 4 1 (.slice (some ⟨g, 0, none⟩) m c) m us') (hg : u.grownBy u' (Value.slice aU nU cU).ownBlock) :
    WS w2 (u'.setCell ⟨b8, 18, none⟩ (.slice (some ⟨g, 0, none⟩) m c)) b8 M N aO v cO aL k cL aN aS nS cS aD nD cD (some ⟨g, 0, none⟩) m c cs ds us' := by
  have x := h.box.grown hg (rowBx h.b h.box (by decide))
  have bb : Below w2.heap.size w2 u' := h.bl.grown hg h.bl.size (fun j hj => (h.b.lt j hj).1)
  exact ⟨x.set 18 _, own_setBx (keptNe h.s h.b (by decide) hg) x (by decide) _ _, own_setBx (keptNe h.d h.b (by decide) hg) x (by decide) _ _, own_setBx ho x (by decide) _ _, bb.setCell (p := ⟨b8, 18, none⟩) h.hb _, h.hb⟩
end
end Go.Proofs.Ytiidomopnmjhbaa
namespace Go.Proofs.Ytiidomopnmjhbaa
open Go.RowKit

theorem wna_no {w w' : World} {n sh : Int} (h : hnB n sh = false) (hb : Below w.heap.size w w') : WnA w n sh (.returned (.tuple #[.agg #[.int .i64 0, .int .i64 0, .slice none 0 0, .slice none 0 0, .slice none 0 0, .slice none 0 0, .int .i64 0, .int .i64 0, .int .i64 0, .int .i64 0, .int .i64 0, .int .i64 0, .int .i64 0, .slice none 0 0, .int .i64 0, .slice none 0 0, .slice none 0 0, .slice none 0 0, .slice none 0 0, .slice none 0 0, .slice none 0 0, .slice none 0 0], .bool false])) w' := by
  have hh : ¬ ((1 ≤ n ∧ n ≤ 12) ∧ 1 ≤ sh ∧ sh ≤ 3) := by unfold hnB at h; simpa using h
  have e1 : hnH n sh = zeroH := (hn_no hh).1
  have e2 : wdS n sh = 0 := by unfold wdS; rw [h]; rfl
  have e3 : wdD n sh = 0 := by unfold wdD; rw [h]; rfl
  have e4 : wdM n sh = 0 := by unfold wdM; rw [h]; rfl
  refine ⟨none, 0, 0, none, 0, 0, none, [], none, 0, none, 0, none, 0, w'.heap.size, [], ?_, ?_, ?_, ?_, hb⟩
  · rw [e1, e2, e3, e4, h]; rfl
  · rw [e1, e2, e3]
    exact ⟨⟨World.ownsRow_nil _ _ _ _, FB.nil _ _, World.ownsRow_nil _ _ _ _, by simp [Value.ownBlock], by simp [Value.ownBlock], ⟨by simp [Value.ownBlock], by simp, by simp⟩⟩, World.ownsRow_nil _ _ _ _, World.ownsRow_nil _ _ _ _, World.ownsRow_nil _ _ _ _, by simp [Value.ownBlock], by simp [Value.ownBlock], by simp [Value.ownBlock], hb.size, Nat.le_refl _, Nat.le_refl _⟩
  · rw [e1]; rfl
  · rw [e2]; intro t ht; omega
end Go.Proofs.Ytiidomopnmjhbaa
namespace Go.Proofs.Ytiidomopnmjhbaa
open Go.RowKit

theorem BxA.range {w : World} {b : Nat} {t : TypeId} {l : List Value} (h : BxA w b t l.toArray) : w.rangeAt b 0 l := fun j v hv => by
  rw [Nat.zero_add]; exact h.at j hv
theorem BxA.there {w : World} {b : Nat} {t : TypeId} {l : List Value} (h : BxA w b t l.toArray) {n : Nat} (hn : n ≤ l.length) : w.there b 0 n := fun j hj => by
  rw [Nat.zero_add]
  exact ⟨by rw [h.at j (List.getElem?_eq_getElem (by omega))]; rfl, h.frozen j⟩
theorem setCells_setA (b : Nat) (vs : List Value) : ∀ (w : World) (k : Nat), w.setCells b k vs = setA w b k vs := by
  induction vs with
  | nil => intro w k; rfl
  | cons v r ih => intro w k; rw [World.setCells, setA]; exact ih _ _
/-- one result that is a box, one that is a value -/
theorem results_box {P : Program} {fn : Func} {tmps : Array Value} {w : World} {a x : Nat} {t : TypeId} {b : Nat} {l : List Value} {v : Value}
    (hr : fn.results = #[.cell a t, .tmp x]) (ha : tmps[a]?.getD undef = .pointer (some ⟨b, 0, none⟩)) (hx : tmps[x]?.getD undef = v)
    (hB : BxA w b t l.toArray) (hu : ∃ d, P.underlying t = some d ∧ d.isRow = true) (hi : (P.info? t).map (·.size) = some l.length) : (results fn tmps).run P w = .ok (.tuple #[.agg l.toArray, v]) w := by
  obtain ⟨d, hu, hd⟩ := hu
  have hl := run_loadVar_mid (P := P) w b 0 t l d hB.range hu hd hi
  have e1 : (asAddr (Value.pointer (some ⟨b, 0, none⟩))).run P w = .ok ⟨b, 0, none⟩ w := rfl
  unfold results
  rw [hr]
  simp [ha, hx, hl, e1, Sem.run_bind, Result.andThen_ok]
end Go.Proofs.Ytiidomopnmjhbaa
namespace Go.Proofs.Ytiidomopnmjhbaa
open Go.RowKit

set_option maxRecDepth 100000 in
set_option maxHeartbeats 8000000 in
theorem sWorldNew_no (n sh : Int) (h : hnB n sh = false) (w : World) : Calls Try.prog 13 #[.int .i64 n, .int .i64 sh] w fun e w' => WnA w n sh e w' := by
  obtain ⟨W, hW⟩ : ∃ W, W = w.alloc (.cells #[.int .i64 0, .int .i64 0, .slice none 0 0, .slice none 0 0, .slice none 0 0, .slice none 0 0, .int .i64 0, .int .i64 0, .int .i64 0, .int .i64 0, .int .i64 0, .int .i64 0, .int .i64 0, .slice none 0 0, .int .i64 0, .slice none 0 0, .slice none 0 0, .slice none 0 0, .slice none 0 0, .slice none 0 0, .slice none 0 0, .slice none 0 0] 52) := ⟨_, rfl⟩
  have B0 : BxA W w.heap.size 52 #[.int .i64 0, .int .i64 0, .slice none 0 0, .slice none 0 0, .slice none 0 0, .slice none 0 0, .int .i64 0, .int .i64 0, .int .i64 0, .int .i64 0, .int .i64 0, .int .i64 0, .int .i64 0, .slice none 0 0, .int .i64 0, .slice none 0 0, .slice none 0 0, .slice none 0 0, .slice none 0 0, .slice none 0 0, .slice none 0 0, .slice none 0 0] := by rw [hW]; exact BxA.new _ _ _
  have b0 : Below w.heap.size w W := by rw [hW]; exact belA _ _
  have HI := hideIt (sHeadNew_any n sh W)
  have HN := hideIt (fun (w' : World) => wna_no (w := w) (w' := w') h)
  unfold HnA at HI
  rw [h] at HI
  have H0 := hideIt B0
  have Hb := hideIt b0
  clear B0 b0 h
  obtain ⟨N, hN⟩ : ∃ N, N = (hnH n sh).N := ⟨_, rfl⟩
  rw [← hN] at HI
  clear hN
  go_enter Try.func13, Try.ntmps13
  go_upto_region 1 with fail
  rw [← hW]
  clear hW
  go_wp2_with (go_at_call 8; refine HI.out.mono ?_; rintro e w2 ⟨aO, v, cO, aL, k, cL, aN, R, rfl, _, _, b2⟩; refine Hid.out ?_)
  refine hidw ?_
  obtain ⟨W3, hW3⟩ : ∃ W3, W3 = w2.alloc (.cells #[.int .i64 N, .slice aO v cO, .slice none 0 0, .slice aL k cL, .slice aN k k, .int .i64 0, .int .i64 0, .int .i64 0, .int .i64 0, .int .i64 0, .int .i64 0, .int .i64 0, .slice none 0 0, .int .i64 0, .slice none 0 0] 37) := ⟨_, rfl⟩
  have b3 : Below W.heap.size W W3 := by rw [hW3]; exact b2.alloc b2.size _
  have X := H0.out.up b3
  have hb := bupN Hb.out b3
  have XF := BxA.setA (l := [.int .i64 0, .int .i64 0, .slice none 0 0, .slice none 0 0, .slice none 0 0, .slice none 0 0, .int .i64 0, .int .i64 0, .int .i64 0, .int .i64 0, .int .i64 0, .int .i64 0, .int .i64 0, .slice none 0 0, .int .i64 0, .slice none 0 0, .slice none 0 0, .slice none 0 0, .slice none 0 0, .slice none 0 0, .slice none 0 0, .slice none 0 0]) X 0 [.int .i64 0, .int .i64 0, .slice none 0 0, .slice none 0 0, .slice none 0 0, .slice none 0 0, .int .i64 0, .int .i64 0, .int .i64 0, .int .i64 0, .int .i64 0, .int .i64 0, .int .i64 0, .slice none 0 0, .int .i64 0, .slice none 0 0, .slice none 0 0, .slice none 0 0, .slice none 0 0, .slice none 0 0, .slice none 0 0, .slice none 0 0]
  rw [setV_all [.int .i64 0, .int .i64 0, .slice none 0 0, .slice none 0 0, .slice none 0 0, .slice none 0 0, .int .i64 0, .int .i64 0, .int .i64 0, .int .i64 0, .int .i64 0, .int .i64 0, .int .i64 0, .slice none 0 0, .int .i64 0, .slice none 0 0, .slice none 0 0, .slice none 0 0, .slice none 0 0, .slice none 0 0, .slice none 0 0, .slice none 0 0] [.int .i64 0, .int .i64 0, .slice none 0 0, .slice none 0 0, .slice none 0 0, .slice none 0 0, .int .i64 0, .int .i64 0, .int .i64 0, .int .i64 0, .int .i64 0, .int .i64 0, .int .i64 0, .slice none 0 0, .int .i64 0, .slice none 0 0, .slice none 0 0, .slice none 0 0, .slice none 0 0, .slice none 0 0, .slice none 0 0, .slice none 0 0] rfl] at XF
  have HFn := hideIt (below_setA hb (Nat.le_refl _) 0 [.int .i64 0, .int .i64 0, .slice none 0 0, .slice none 0 0, .slice none 0 0, .slice none 0 0, .int .i64 0, .int .i64 0, .int .i64 0, .int .i64 0, .int .i64 0, .int .i64 0, .int .i64 0, .slice none 0 0, .int .i64 0, .slice none 0 0, .slice none 0 0, .slice none 0 0, .slice none 0 0, .slice none 0 0, .slice none 0 0, .slice none 0 0])
  have HT := hideIt (BxA.there (l := [.int .i64 0, .int .i64 0, .slice none 0 0, .slice none 0 0, .slice none 0 0, .slice none 0 0, .int .i64 0, .int .i64 0, .int .i64 0, .int .i64 0, .int .i64 0, .int .i64 0, .int .i64 0, .slice none 0 0, .int .i64 0, .slice none 0 0, .slice none 0 0, .slice none 0 0, .slice none 0 0, .slice none 0 0, .slice none 0 0, .slice none 0 0]) X (Nat.le_refl _))
  have HX := hideIt XF
  clear X XF hb b3 b2 HI H0 Hb
  go_upto_region 2 with fail
  rw [← hW3]
  clear hW3
  go_upto_region 3 with fail
  go_step
  go_step
  go_step
  go_step
  go_step
  refine wp_store_mid 52 (.tmp 4) (.tmp 20) ?_ w.heap.size 0 #[.int .i64 0, .int .i64 0, .slice none 0 0, .slice none 0 0, .slice none 0 0, .slice none 0 0, .int .i64 0, .int .i64 0, .int .i64 0, .int .i64 0, .int .i64 0, .int .i64 0, .int .i64 0, .slice none 0 0, .int .i64 0, .slice none 0 0, .slice none 0 0, .slice none 0 0, .slice none 0 0, .slice none 0 0, .slice none 0 0, .slice none 0 0] ?_ ?_ ?_ ?_ ?_ ?_
  · rfl
  · rfl
  · rfl
  · exact HT.out
  · kernel_rfl
  · kernel_rfl
  refine Hid.out ?_
  refine hidw ?_
  rw [setCells_setA]
  obtain ⟨W4, hW4⟩ : ∃ W4, W4 = setA W3 w.heap.size 0 [.int .i64 0, .int .i64 0, .slice none 0 0, .slice none 0 0, .slice none 0 0, .slice none 0 0, .int .i64 0, .int .i64 0, .int .i64 0, .int .i64 0, .int .i64 0, .int .i64 0, .int .i64 0, .slice none 0 0, .int .i64 0, .slice none 0 0, .slice none 0 0, .slice none 0 0, .slice none 0 0, .slice none 0 0, .slice none 0 0, .slice none 0 0] := ⟨_, rfl⟩
  rw [← hW4] at HX HFn
  rw [show setA W3 w.heap.size 0 (#[.int .i64 0, .int .i64 0, .slice none 0 0, .slice none 0 0, .slice none 0 0, .slice none 0 0, .int .i64 0, .int .i64 0, .int .i64 0, .int .i64 0, .int .i64 0, .int .i64 0, .int .i64 0, .slice none 0 0, .int .i64 0, .slice none 0 0, .slice none 0 0, .slice none 0 0, .slice none 0 0, .slice none 0 0, .slice none 0 0, .slice none 0 0] : Array Value).toList = W4 from hW4.symm]
  clear hW4 HT
  go_wp2
  refine bodyPost_ret (v := .tuple #[.agg #[.int .i64 0, .int .i64 0, .slice none 0 0, .slice none 0 0, .slice none 0 0, .slice none 0 0, .int .i64 0, .int .i64 0, .int .i64 0, .int .i64 0, .int .i64 0, .int .i64 0, .int .i64 0, .slice none 0 0, .int .i64 0, .slice none 0 0, .slice none 0 0, .slice none 0 0, .slice none 0 0, .slice none 0 0, .slice none 0 0, .slice none 0 0], .bool false]) ?_ rfl (HN.out _ HFn.out)
  refine results_box (a := 4) (x := 5) (l := [.int .i64 0, .int .i64 0, .slice none 0 0, .slice none 0 0, .slice none 0 0, .slice none 0 0, .int .i64 0, .int .i64 0, .int .i64 0, .int .i64 0, .int .i64 0, .int .i64 0, .int .i64 0, .slice none 0 0, .int .i64 0, .slice none 0 0, .slice none 0 0, .slice none 0 0, .slice none 0 0, .slice none 0 0, .slice none 0 0, .slice none 0 0]) (b := w.heap.size) (t := 52) ?_ ?_ ?_ ?_ ?_ ?_
  · exact Try.results13
  · rfl
  · rfl
  · exact HX.out
  · exact ⟨_, Try.underlying52, rfl⟩
  · kernel_rfl
set_option maxRecDepth 100000 in
set_option maxHeartbeats 8000000 in
theorem iWorldNew_no (n sh : Int) (h : hnB n sh = false) (w : World) : Calls Try.prog 14 #[.int .i64 n, .int .i64 sh] w fun e w' => WnA w n sh e w' := by
  obtain ⟨W, hW⟩ : ∃ W, W = w.alloc (.cells #[.int .i64 0, .int .i64 0, .slice none 0 0, .slice none 0 0, .slice none 0 0, .slice none 0 0, .int .i64 0, .int .i64 0, .int .i64 0, .int .i64 0, .int .i64 0, .int .i64 0, .int .i64 0, .slice none 0 0, .int .i64 0, .slice none 0 0, .slice none 0 0, .slice none 0 0, .slice none 0 0, .slice none 0 0, .slice none 0 0, .slice none 0 0] 52) := ⟨_, rfl⟩
  have B0 : BxA W w.heap.size 52 #[.int .i64 0, .int .i64 0, .slice none 0 0, .slice none 0 0, .slice none 0 0, .slice none 0 0, .int .i64 0, .int .i64 0, .int .i64 0, .int .i64 0, .int .i64 0, .int .i64 0, .int .i64 0, .slice none 0 0, .int .i64 0, .slice none 0 0, .slice none 0 0, .slice none 0 0, .slice none 0 0, .slice none 0 0, .slice none 0 0, .slice none 0 0] := by rw [hW]; exact BxA.new _ _ _
  have b0 : Below w.heap.size w W := by rw [hW]; exact belA _ _
  have HI := hideIt (iHeadNew_any n sh W)
  have HN := hideIt (fun (w' : World) => wna_no (w := w) (w' := w') h)
  unfold HnA at HI
  rw [h] at HI
  have H0 := hideIt B0
  have Hb := hideIt b0
  clear B0 b0 h
  obtain ⟨N, hN⟩ : ∃ N, N = (hnH n sh).N := ⟨_, rfl⟩
  rw [← hN] at HI
  clear hN
  go_enter Try.func14, Try.ntmps14
  go_upto_region 1 with fail
  rw [← hW]
  clear hW
  go_wp2_with (go_at_call 7; refine HI.out.mono ?_; rintro e w2 ⟨aO, v, cO, aL, k, cL, aN, R, rfl, _, _, b2⟩; refine Hid.out ?_)
  refine hidw ?_
  obtain ⟨W3, hW3⟩ : ∃ W3, W3 = w2.alloc (.cells #[.int .i64 N, .slice aO v cO, .slice none 0 0, .slice aL k cL, .slice aN k k, .int .i64 0, .int .i64 0, .int .i64 0, .int .i64 0, .int .i64 0, .int .i64 0, .int .i64 0, .slice none 0 0, .int .i64 0, .slice none 0 0] 37) := ⟨_, rfl⟩
  have b3 : Below W.heap.size W W3 := by rw [hW3]; exact b2.alloc b2.size _
  have X := H0.out.up b3
  have hb := bupN Hb.out b3
  have XF := BxA.setA (l := [.int .i64 0, .int .i64 0, .slice none 0 0, .slice none 0 0, .slice none 0 0, .slice none 0 0, .int .i64 0, .int .i64 0, .int .i64 0, .int .i64 0, .int .i64 0, .int .i64 0, .int .i64 0, .slice none 0 0, .int .i64 0, .slice none 0 0, .slice none 0 0, .slice none 0 0, .slice none 0 0, .slice none 0 0, .slice none 0 0, .slice none 0 0]) X 0 [.int .i64 0, .int .i64 0, .slice none 0 0, .slice none 0 0, .slice none 0 0, .slice none 0 0, .int .i64 0, .int .i64 0, .int .i64 0, .int .i64 0, .int .i64 0, .int .i64 0, .int .i64 0, .slice none 0 0, .int .i64 0, .slice none 0 0, .slice none 0 0, .slice none 0 0, .slice none 0 0, .slice none 0 0, .slice none 0 0, .slice none 0 0]
  rw [setV_all [.int .i64 0, .int .i64 0, .slice none 0 0, .slice none 0 0, .slice none 0 0, .slice none 0 0, .int .i64 0, .int .i64 0, .int .i64 0, .int .i64 0, .int .i64 0, .int .i64 0, .int .i64 0, .slice none 0 0, .int .i64 0, .slice none 0 0, .slice none 0 0, .slice none 0 0, .slice none 0 0, .slice none 0 0, .slice none 0 0, .slice none 0 0] [.int .i64 0, .int .i64 0, .slice none 0 0, .slice none 0 0, .slice none 0 0, .slice none 0 0, .int .i64 0, .int .i64 0, .int .i64 0, .int .i64 0, .int .i64 0, .int .i64 0, .int .i64 0, .slice none 0 0, .int .i64 0, .slice none 0 0, .slice none 0 0, .slice none 0 0, .slice none 0 0, .slice none 0 0, .slice none 0 0, .slice none 0 0] rfl] at XF
  have HFn := hideIt (below_setA hb (Nat.le_refl _) 0 [.int .i64 0, .int .i64 0, .slice none 0 0, .slice none 0 0, .slice none 0 0, .slice none 0 0, .int .i64 0, .int .i64 0, .int .i64 0, .int .i64 0, .int .i64 0, .int .i64 0, .int .i64 0, .slice none 0 0, .int .i64 0, .slice none 0 0, .slice none 0 0, .slice none 0 0, .slice none 0 0, .slice none 0 0, .slice none 0 0, .slice none 0 0])
  have HT := hideIt (BxA.there (l := [.int .i64 0, .int .i64 0, .slice none 0 0, .slice none 0 0, .slice none 0 0, .slice none 0 0, .int .i64 0, .int .i64 0, .int .i64 0, .int .i64 0, .int .i64 0, .int .i64 0, .int .i64 0, .slice none 0 0, .int .i64 0, .slice none 0 0, .slice none 0 0, .slice none 0 0, .slice none 0 0, .slice none 0 0, .slice none 0 0, .slice none 0 0]) X (Nat.le_refl _))
  have HX := hideIt XF
  clear X XF hb b3 b2 HI H0 Hb
  go_upto_region 2 with fail
  rw [← hW3]
  clear hW3
  go_upto_region 3 with fail
  go_step
  go_step
  go_step
  go_step
  go_step
  refine wp_store_mid 52 (.tmp 4) (.tmp 20) ?_ w.heap.size 0 #[.int .i64 0, .int .i64 0, .slice none 0 0, .slice none 0 0, .slice none 0 0, .slice none 0 0, .int .i64 0, .int .i64 0, .int .i64 0, .int .i64 0, .int .i64 0, .int .i64 0, .int .i64 0, .slice none 0 0, .int .i64 0, .slice none 0 0, .slice none 0 0, .slice none 0 0, .slice none 0 0, .slice none 0 0, .slice none 0 0, .slice none 0 0] ?_ ?_ ?_ ?_ ?_ ?_
  · rfl
  · rfl
  · rfl
  · exact HT.out
  · kernel_rfl
  · kernel_rfl
  refine Hid.out ?_
  refine hidw ?_
  rw [setCells_setA]
  obtain ⟨W4, hW4⟩ : ∃ W4, W4 = setA W3 w.heap.size 0 [.int .i64 0, .int .i64 0, .slice none 0 0, .slice none 0 0, .slice none 0 0, .slice none 0 0, .int .i64 0, .int .i64 0, .int .i64 0, .int .i64 0, .int .i64 0, .int .i64 0, .int .i64 0, .slice none 0 0, .int .i64 0, .slice none 0 0, .slice none 0 0, .slice none 0 0, .slice none 0 0, .slice none 0 0, .slice none 0 0, .slice none 0 0] := ⟨_, rfl⟩
  rw [← hW4] at HX HFn
  rw [show setA W3 w.heap.size 0 (#[.int .i64 0, .int .i64 0, .slice none 0 0, .slice none 0 0, .slice none 0 0, .slice none 0 0, .int .i64 0, .int .i64 0, .int .i64 0, .int .i64 0, .int .i64 0, .int .i64 0, .int .i64 0, .slice none 0 0, .int .i64 0, .slice none 0 0, .slice none 0 0, .slice none 0 0, .slice none 0 0, .slice none 0 0, .slice none 0 0, .slice none 0 0] : Array Value).toList = W4 from hW4.symm]
  clear hW4 HT
  go_wp2
  refine bodyPost_ret (v := .tuple #[.agg #[.int .i64 0, .int .i64 0, .slice none 0 0, .slice none 0 0, .slice none 0 0, .slice none 0 0, .int .i64 0, .int .i64 0, .int .i64 0, .int .i64 0, .int .i64 0, .int .i64 0, .int .i64 0, .slice none 0 0, .int .i64 0, .slice none 0 0, .slice none 0 0, .slice none 0 0, .slice none 0 0, .slice none 0 0, .slice none 0 0, .slice none 0 0], .bool false]) ?_ rfl (HN.out _ HFn.out)
  refine results_box (a := 4) (x := 5) (l := [.int .i64 0, .int .i64 0, .slice none 0 0, .slice none 0 0, .slice none 0 0, .slice none 0 0, .int .i64 0, .int .i64 0, .int .i64 0, .int .i64 0, .int .i64 0, .int .i64 0, .int .i64 0, .slice none 0 0, .int .i64 0, .slice none 0 0, .slice none 0 0, .slice none 0 0, .slice none 0 0, .slice none 0 0, .slice none 0 0, .slice none 0 0]) (b := w.heap.size) (t := 52) ?_ ?_ ?_ ?_ ?_ ?_
  · exact Try.results14
  · rfl
  · rfl
  · exact HX.out
  · exact ⟨_, Try.underlying52, rfl⟩
  · kernel_rfl
end Go.Proofs.Ytiidomopnmjhbaa
namespace Go.Proofs.Ytiidomopnmjhbaa
open Go.RowKit

structure Bx (T : Prop) : Prop where
  out : T
theorem viaT {T G : Prop} (main : Bx T → G) (p : T) : G := main ⟨p⟩
theorem hidp {p : Prop} (h : p) : Hid p := h
theorem lstH {P : Program} {md : Region.Mode} {ops : Array Oper} {Q : Exit → Go.Act → World → Prop} {S : World → Prop} {fuel : Nat} {l l' : Array Bool} {a : Go.Act} {w : World} (h : l = l') (H : wpAnyH P md ops Q S fuel l' a w) : wpAnyH P md ops Q S fuel l a w := h ▸ H
end Go.Proofs.Ytiidomopnmjhbaa
namespace Go.Proofs.Ytiidomopnmjhbaa
open Go.RowKit

theorem BxA.news {w : World} {b : Nat} {t : TypeId} {l : List Value} (h : BxA w b t l.toArray) : ∀ j u, l[j]? = some u → w.cell? ((⟨b, 0, none⟩ : Addr).add j) = some u := fun j u hj => by
  rw [Addr.add_mid, Nat.zero_add]; exact h.at j hj
theorem infoSh : (Try.prog.info? 80).map (fun i => (i.zero, i.size, i.bytes)) = some (some (.agg #[.int .i64 0, .int .i64 0, .slice none 0 0, .int .i64 0, .bool false, .slice none 0 0, .slice none 0 0]), 7, 104) := by kernel_rfl
theorem infoBo : (Try.prog.info? 4).map (fun i => (i.zero, i.size, i.bytes)) = some (some (.bool false), 1, 1) := by kernel_rfl
theorem infoDk : (Try.prog.info? 136).map (fun i => (i.zero, i.size, i.bytes)) = some (some (.agg #[.slice none 0 0]), 1, 24) := by kernel_rfl
/-- a box of any cells, and three rows -/
structure WR (lo : Nat) (u : World) (b8 : Nat) (C : Array Value) (aS : Option Addr) (nS cS : Nat) (aD : Option Addr) (nD cD : Nat) (aU : Option Addr) (nU cU : Nat) (cs ds us : List Value) : Prop where
  box : BxA u b8 52 C
  s : u.ownsRow lo 80 7 (.slice aS nS cS) nS cs
  d : u.ownsRow lo 136 1 (.slice aD nD cD) nD ds
  b : u.ownsRow lo 4 1 (.slice aU nU cU) nU us
  hb : lo ≤ b8
section
variable {lo : Nat} {w u u' : World} {b8 : Nat} {C : Array Value} {aS : Option Addr} {nS cS : Nat} {aD : Option Addr} {nD cD : Nat} {aU : Option Addr} {nU cU : Nat} {cs ds us : List Value}
theorem WR.up (h : WR lo u b8 C aS nS cS aD nD cD aU nU cU cs ds us) (hb : Below u.heap.size u u') : WR lo u' b8 C aS nS cS aD nD cD aU nU cU cs ds us :=
  ⟨h.box.up hb, own_up h.s hb, own_up h.d hb, own_up h.b hb, h.hb⟩
theorem WR.drew (h : WR lo u b8 C aS nS cS aD nD cD aU nU cU cs ds us) : WR lo u.drew b8 C aS nS cS aD nD cD aU nU cU cs ds us := h.up (Below.refl _ _).drew
/-- a shard more -/
theorem WR.shard (h : WR lo u b8 C aS nS cS aD nD cD aU nU cU cs ds us) {cs' : List Value} {g m c : Nat} (ho : u'.ownsRow lo 80 7 (.slice (some ⟨g, 0, none⟩) m c) m cs') (hg : u.grownBy u' (Value.slice aS nS cS).ownBlock) :
    WR lo u' b8 C (some ⟨g, 0, none⟩) m c aD nD cD aU nU cU cs' ds us :=
  ⟨h.box.grown hg (rowBx h.s h.box (by decide)), ho, keptNe h.d h.s (by decide) hg, keptNe h.b h.s (by decide) hg, h.hb⟩
/-- a node more that is up -/
theorem WR.node (h : WR lo u b8 C aS nS cS aD nD cD aU nU cU cs ds us) {us' : List Value} {g m c : Nat} (ho : u'.ownsRow lo 4 1 (.slice (some ⟨g, 0, none⟩) m c) m us') (hg : u.grownBy u' (Value.slice aU nU cU).ownBlock) :
    WR lo u' b8 C aS nS cS aD nD cD (some ⟨g, 0, none⟩) m c cs ds us' :=
  ⟨h.box.grown hg (rowBx h.b h.box (by decide)), keptNe h.s h.b (by decide) hg, keptNe h.d h.b (by decide) hg, ho, h.hb⟩
theorem WR.set (h : WR lo u b8 C aS nS cS aD nD cD aU nU cU cs ds us) (j : Nat) (x : Value) : WR lo (u.setCell ⟨b8, j, none⟩ x) b8 (C.setIfInBounds j x) aS nS cS aD nD cD aU nU cU cs ds us :=
  ⟨h.box.set j x, own_setBx h.s h.box (by decide) _ _, own_setBx h.d h.box (by decide) _ _, own_setBx h.b h.box (by decide) _ _, h.hb⟩
theorem WR.gS (h : WR lo u b8 C aS nS cS aD nD cD aU nU cU cs ds us) (hl : Below lo w u) (hz : lo ≤ w.heap.size) (hg : u.grownBy u' (Value.slice aS nS cS).ownBlock) : Below lo w u' :=
  hl.grown hg (Nat.le_trans hz hl.size) (fun j hj => (h.s.lt j hj).1)
theorem WR.gU (h : WR lo u b8 C aS nS cS aD nD cD aU nU cU cs ds us) (hl : Below lo w u) (hz : lo ≤ w.heap.size) (hg : u.grownBy u' (Value.slice aU nU cU).ownBlock) : Below lo w u' :=
  hl.grown hg (Nat.le_trans hz hl.size) (fun j hj => (h.b.lt j hj).1)
end
end Go.Proofs.Ytiidomopnmjhbaa
