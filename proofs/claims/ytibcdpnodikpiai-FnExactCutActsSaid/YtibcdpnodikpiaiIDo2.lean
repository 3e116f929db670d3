/- What the program's do makes of the table. -/
import Derived.Test.YtibcdpnodikpiaiIDo
namespace Go.Proofs.Ytibcdpnodikpiai
open Go.RowKit Go.WideMaps Go.Maps

/-- the box of an act -/
def aObj (x : ActV) : Obj := .cells #[.int .i64 x.kind, .string x.name, .string x.text, .string x.to] 35

theorem Done.from {W : World} {B M : Nat} {fs : List FileV} {o : Option (List FileV)} {ob : Obj} {e : Ending} {w' : World} (h : Done (W.alloc ob) B M fs o e w') (hB : B ≤ W.heap.size) : Done W B M fs o e w' :=
  ⟨h.1, h.2.1, ((Below.refl B W).alloc hB _).trans h.2.2⟩

/-- the four looks at an act -/
theorem look4 (x : ActV) : ∃ p q r t : Bool, (x.kind != 1) = p ∧ x.text.toList.isEmpty = q ∧ (x.kind != 3) = r ∧ x.to.toList.isEmpty = t ∧ (Shape x ↔ ((p && !q) || (r && !t)) = false) := by
  refine ⟨_, _, _, _, rfl, rfl, rfl, rfl, ?_⟩
  have e1 : ∀ s : ByteArray, s.toList.isEmpty = decide (s.size = 0) := fun s => by
    by_cases h : s.size = 0
    · rw [str_empty h]; simp [h]
    · rw [str_nonempty h]; simp [h]
  rw [e1, e1]
  unfold Shape
  by_cases h1 : x.kind = 1
  · have h3 : ¬ x.kind = 3 := by omega
    by_cases h4 : x.to.size = 0 <;> simp [h1, h4]
  · by_cases h3 : x.kind = 3
    · by_cases h2 : x.text.size = 0 <;> simp [h3, h2]
    · by_cases h2 : x.text.size = 0 <;> by_cases h4 : x.to.size = 0 <;> simp [h1, h2, h3, h4]

set_option maxRecDepth 100000 in
set_option maxHeartbeats 8000000 in
theorem tDo_shape (W : World) (B M : Nat) (loc : ByteArray → Nat) (fs : List FileV) (D : DataW Unit) (T : Tab W B M loc fs D) (x : ActV) (hs : ¬ Shape x) :
    Calls Try.prog 41 #[.map (some M), .agg #[.int .i64 x.kind, .string x.name, .string x.text, .string x.to]] W (Done W B M fs (doAct fs x)) := by
  have ho := doAct_shape (fs := fs) hs
  obtain ⟨p, q, r, t, e1, e2, e3, e4, h⟩ := look4 x
  have hB := T.base_le
  have HT := hideIt T
  have h' : ((p && !q) || (r && !t)) = true := by
    cases hh : ((p && !q) || (r && !t))
    · exact absurd (h.2 hh) hs
    · rfl
  unfold Done
  rw [ho]
  clear T ho hs h
  by_cases hp : (p && !q) = true
  · obtain ⟨rfl, rfl⟩ : p = true ∧ q = false := by cases p <;> cases q <;> simp_all
    clear h' hp
    go_enter Try.func41, Try.ntmps41
    go_wp2
    go_ret
    exact ⟨rfl, ⟨loc, D, HT.out.alloc _⟩, (Below.refl B W).alloc hB _⟩
  · obtain ⟨rfl, rfl⟩ : r = true ∧ t = false := by cases p <;> cases q <;> cases r <;> cases t <;> simp_all
    clear h'
    cases p
    · clear hp
      go_enter Try.func41, Try.ntmps41
      go_wp2
      go_ret
      exact ⟨rfl, ⟨loc, D, HT.out.alloc _⟩, (Below.refl B W).alloc hB _⟩
    · obtain rfl : q = true := by cases q <;> simp_all
      clear hp
      go_enter Try.func41, Try.ntmps41
      go_wp2
      go_ret
      exact ⟨rfl, ⟨loc, D, HT.out.alloc _⟩, (Below.refl B W).alloc hB _⟩

/-- what is seen of an act of a right shape -/
theorem seen1 {x : ActV} (hs : Shape x) (hk : x.kind = 1) : (x.kind != 1) = false ∧ (x.kind != 3) = true ∧ x.to.toList.isEmpty = true ∧ (x.kind == 1) = true := by
  have : x.to.size = 0 := by rcases hs.2 with h | h; omega; exact h
  exact ⟨by simp [hk], by simp [hk], str_empty this, by simp [hk]⟩
theorem seen3 {x : ActV} (hs : Shape x) (hk : x.kind = 3) : (x.kind != 1) = true ∧ x.text.toList.isEmpty = true ∧ (x.kind != 3) = false ∧ (x.kind == 1) = false ∧ (x.kind == 2) = false ∧ (x.kind == 3) = true := by
  have : x.text.size = 0 := by rcases hs.1 with h | h; omega; exact h
  exact ⟨by simp [hk], str_empty this, by simp [hk], by simp [hk], by simp [hk], by simp [hk]⟩
theorem seen0 {x : ActV} (hs : Shape x) (h1 : x.kind ≠ 1) (h3 : x.kind ≠ 3) : (x.kind != 1) = true ∧ x.text.toList.isEmpty = true ∧ (x.kind != 3) = true ∧ x.to.toList.isEmpty = true ∧ (x.kind == 1) = false ∧ (x.kind == 3) = false := by
  have a1 : x.text.size = 0 := by rcases hs.1 with h | h; exact absurd h h1; exact h
  have a2 : x.to.size = 0 := by rcases hs.2 with h | h; exact absurd h h3; exact h
  exact ⟨by simp [h1], str_empty a1, by simp [h3], str_empty a2, by simp [h1], by simp [h3]⟩

set_option maxRecDepth 100000 in
set_option maxHeartbeats 8000000 in
theorem tDo_add (W : World) (B M : Nat) (loc : ByteArray → Nat) (fs : List FileV) (D : DataW Unit) (T : Tab W B M loc fs D) (hd : DiskR fs) (x : ActV) (hx : FitA x) (hs : Shape x) (hk : x.kind = 1) :
    Calls Try.prog 41 #[.map (some M), .agg #[.int .i64 x.kind, .string x.name, .string x.text, .string x.to]] W (Done W B M fs (doAct fs x)) := by
  have hB := T.base_le
  have H := hideIt (tAdd_any _ B M loc fs D (T.alloc (.cells #[.int .i64 x.kind, .string x.name, .string x.text, .string x.to] 35)) hd x hx hs hk)
  obtain ⟨e1, e2, e3, e4⟩ := seen1 hs hk
  generalize doAct fs x = o at *
  clear T hd hs hk hx
  go_enter Try.func41, Try.ntmps41
  go_wp2_with (go_at_call 54; refine H.out.mono ?_; rintro e w1 ⟨rfl, hT1, hb1⟩)
  go_ret
  exact ⟨rfl, hT1, ((Below.refl B W).alloc hB _).trans hb1⟩

set_option maxRecDepth 100000 in
set_option maxHeartbeats 8000000 in
theorem tDo_none (W : World) (B M : Nat) (loc : ByteArray → Nat) (fs : List FileV) (D : DataW Unit) (T : Tab W B M loc fs D) (x : ActV) (hx : FitA x) (hs : Shape x) (hk : x.kind ≠ 1) (hf : fileOf fs x.name = none) :
    Calls Try.prog 41 #[.map (some M), .agg #[.int .i64 x.kind, .string x.name, .string x.text, .string x.to]] W (Done W B M fs (doAct fs x)) := by
  have hB := T.base_le
  have HT := hideIt (T.alloc (.cells #[.int .i64 x.kind, .string x.name, .string x.text, .string x.to] 35))
  have HI := hideIt (isIn_no (fileOf_not hf))
  have ho := act_none hk hf
  have hnm : x.name.size ≤ maxLen := by unfold maxLen; have := hx.1; omega
  unfold Done
  rw [ho]
  by_cases h3 : x.kind = 3
  · obtain ⟨e1, e2, e3, e4, e5, e6⟩ := seen3 hs h3
    clear T hs hk hx ho hf h3
    go_enter Try.func41, Try.ntmps41
    go_wp2_with (at_lookup; refine look_no _ rfl _ _ rfl HT.out HI.out hnm rfl rfl ?_)
    go_ret
    exact ⟨rfl, ⟨loc, D, HT.out⟩, (Below.refl B W).alloc hB _⟩
  · obtain ⟨e1, e2, e3, e4, e5, e6⟩ := seen0 hs hk h3
    clear T hs hk hx ho hf h3
    go_enter Try.func41, Try.ntmps41
    go_wp2_with (at_lookup; refine look_no _ rfl _ _ rfl HT.out HI.out hnm rfl rfl ?_)
    go_ret
    exact ⟨rfl, ⟨loc, D, HT.out⟩, (Below.refl B W).alloc hB _⟩

set_option maxRecDepth 100000 in
set_option maxHeartbeats 8000000 in
theorem tDo_move (W : World) (B M : Nat) (loc : ByteArray → Nat) (fs : List FileV) (D : DataW Unit) (T : Tab W B M loc fs D) (hd : DiskR fs) (x : ActV) (hx : FitA x) (hs : Shape x) (hk : x.kind = 3) (f : FileV) (hf : fileOf fs x.name = some f) :
    Calls Try.prog 41 #[.map (some M), .agg #[.int .i64 x.kind, .string x.name, .string x.text, .string x.to]] W (Done W B M fs (doAct fs x)) := by
  have hB := T.base_le
  obtain ⟨hn, hok, hfm, hfn⟩ := name_of hd hf
  have hnm : x.name.size ≤ maxLen := by unfold maxLen; have := hx.1; omega
  have HT := hideIt (T.alloc (.cells #[.int .i64 x.kind, .string x.name, .string x.text, .string x.to] 35))
  have HM := hideIt hfm
  have H := hideIt (tMove_any _ B M loc fs D (T.alloc (.cells #[.int .i64 x.kind, .string x.name, .string x.text, .string x.to] 35)) hd x hx hs hk f hf)
  obtain ⟨e1, e2, e3, e4, e5, e6⟩ := seen3 hs hk
  generalize doAct fs x = o at *
  clear T hd hs hk hx hok hn hfm hf
  go_enter Try.func41, Try.ntmps41
  go_wp2_with (first
    | (at_lookup; refine look_yes _ rfl _ _ rfl HT.out HM.out hfn hnm rfl rfl ?_)
    | (go_at_call 55; refine H.out.mono ?_; rintro e w1 ⟨rfl, hT1, hb1⟩))
  go_ret
  exact ⟨rfl, hT1, ((Below.refl B W).alloc hB _).trans hb1⟩

set_option maxRecDepth 100000 in
set_option maxHeartbeats 8000000 in
theorem tDo_rest (W : World) (B M : Nat) (loc : ByteArray → Nat) (fs : List FileV) (D : DataW Unit) (T : Tab W B M loc fs D) (hd : DiskR fs) (x : ActV) (hx : FitA x) (hs : Shape x) (h1 : x.kind ≠ 1) (h3 : x.kind ≠ 3) (f : FileV) (hf : fileOf fs x.name = some f) :
    Calls Try.prog 41 #[.map (some M), .agg #[.int .i64 x.kind, .string x.name, .string x.text, .string x.to]] W (Done W B M fs (doAct fs x)) := by
  have hB := T.base_le
  obtain ⟨hn, hok, hfm, hfn⟩ := name_of hd hf
  obtain ⟨l1, l2, l3⟩ := T.loc_ne hfm
  have hnm : x.name.size ≤ maxLen := by unfold maxLen; have := hx.1; omega
  have T1 := T.alloc (.cells #[.int .i64 x.kind, .string x.name, .string x.text, .string x.to] 35)
  have X : FBox (W.alloc (.cells #[.int .i64 x.kind, .string x.name, .string x.text, .string x.to] 35)) (loc f.name) f := T1.box f hfm
  have HT := hideIt T1
  have HM := hideIt hfm
  have hsrt := ((disk_iff fs).1 hd).2.2
  obtain ⟨e1, e2, e3, e4, e5, e6⟩ := seen0 hs h1 h3
  by_cases h2 : x.kind = 2
  · have ho := act_keep hd hs h2 hf
    have e7 : (x.kind == 2) = true := by simp [h2]
    rw [hfn] at X l2 l3
    obtain ⟨x0, x1, x2⟩ := X.cells
    have z2 := X.frozen 2
    have X0 : FBox W (loc x.name) f := hfn ▸ T.box f hfm
    have T2 : Tab (W.setCell ⟨loc x.name, 2, none⟩ (.int .i64 (f.text.size : Int))) B M loc (put fs (fKeep f)) D := by
      refine T.turn (f := f) (f' := fKeep f) hfm rfl (by rw [hfn]; exact setGrown _ _ _ _) (by rw [hfn]; exact X0.kept _) (fun g => mem_put) ?_
      exact len_put_in hd (fKeep f) (isIn_iff.2 ⟨f, hfm, rfl⟩)
    have HT2 := hideIt (T2.alloc (.cells #[.int .i64 x.kind, .string x.name, .string x.text, .string x.to] 35))
    have K := hideIt (((Below.refl B W).setCell (p := ⟨loc x.name, 2, none⟩) l2 (.int .i64 (f.text.size : Int))).alloc (by simpa using hB) (.cells #[.int .i64 x.kind, .string x.name, .string x.text, .string x.to] 35))
    have hl3 : loc x.name < (W.alloc (.cells #[.int .i64 x.kind, .string x.name, .string x.text, .string x.to] 35)).heap.size := by simp; omega
    unfold Done
    rw [ho]
    clear T hd hs hx hok hn hfm hf T1 X X0 T2 ho h1 h3 h2 hsrt
    go_enter Try.func41, Try.ntmps41
    go_wp2_with (first
      | (at_lookup; refine look_yes _ rfl _ _ rfl HT.out HM.out hfn hnm rfl rfl ?_))
    go_ret
    exact ⟨rfl, ⟨loc, D, HT2.out⟩, K.out⟩
  · have e7 : (x.kind == 2) = false := by simp [h2]
    by_cases h4 : x.kind = 4
    · have ho := act_drop hd hs h4 hf
      have e8 : (x.kind == 4) = true := by simp [h4]
      have HW := hideIt (len_without hsrt x.name)
      have K := hideIt ((Below.refl B W).alloc hB (.cells #[.int .i64 x.kind, .string x.name, .string x.text, .string x.to] 35))
      unfold Done
      rw [ho]
      clear T hd hs hx hok hn hfm hf T1 X ho h1 h3 h2 h4 hsrt
      go_enter Try.func41, Try.ntmps41
      go_wp2_with (first
        | (at_lookup; refine look_yes _ rfl _ _ rfl HT.out HM.out hfn hnm rfl rfl ?_)
        | (at_delete; refine del_at _ rfl _ _ rfl (gs := without fs x.name) HT.out hnm (fun _ => mem_without) HW.out rfl rfl ?_; intro w1 hT1 hg1))
      go_ret
      exact ⟨rfl, ⟨loc, hT1⟩, K.out.grown hg1 (by simp; omega) (fun j hj => by cases hj; exact HT.out.base)⟩
    · have ho := act_other (fs := fs) h1 h2 h3 h4
      have e8 : (x.kind == 4) = false := by simp [h4]
      unfold Done
      rw [ho]
      clear T hd hs hx hok hn hfm hf T1 X ho h1 h3 h2 h4 hsrt
      go_enter Try.func41, Try.ntmps41
      go_wp2_with (first
        | (at_lookup; refine look_yes _ rfl _ _ rfl HT.out HM.out hfn hnm rfl rfl ?_))
      go_ret
      exact ⟨rfl, ⟨loc, D, HT.out⟩, (Below.refl B W).alloc hB _⟩

theorem tDo_any (W : World) (B M : Nat) (loc : ByteArray → Nat) (fs : List FileV) (D : DataW Unit) (T : Tab W B M loc fs D) (hd : DiskR fs) (x : ActV) (hx : FitA x) :
    Calls Try.prog 41 #[.map (some M), .agg #[.int .i64 x.kind, .string x.name, .string x.text, .string x.to]] W (Done W B M fs (doAct fs x)) := by
  by_cases hs : Shape x
  · by_cases h1 : x.kind = 1
    · exact tDo_add W B M loc fs D T hd x hx hs h1
    · cases hf : fileOf fs x.name with
      | none => exact tDo_none W B M loc fs D T x hx hs h1 hf
      | some f =>
        by_cases h3 : x.kind = 3
        · exact tDo_move W B M loc fs D T hd x hx hs h3 f hf
        · exact tDo_rest W B M loc fs D T hd x hx hs h1 h3 f hf
  · exact tDo_shape W B M loc fs D T x hs
end Go.Proofs.Ytibcdpnodikpiai
