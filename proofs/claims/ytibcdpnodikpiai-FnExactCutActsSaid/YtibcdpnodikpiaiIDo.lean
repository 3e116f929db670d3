/- What the program's add, move and do make of the table. -/
import Derived.Test.YtibcdpnodikpiaiITable
import Derived.Deep.RegionHeld3
import Derived.BigQuiet
import Derived.Lib.Strings
namespace Go.Proofs.Ytibcdpnodikpiai
open Go.RowKit Go.WideMaps Go.Maps

/-- behind what is done to a table -/
def Done (W : World) (B M : Nat) (fs : List FileV) (o : Option (List FileV)) (e : Ending) (w' : World) : Prop :=
  e = .returned (.bool o.isSome) ∧ (∃ loc D, Tab w' B M loc (o.getD fs) D) ∧ Below B W w'

theorem Tab.base_le {W : World} {B M : Nat} {loc : ByteArray → Nat} {fs : List FileV} {D : DataW Unit} (h : Tab W B M loc fs D) : B ≤ W.heap.size := by have := h.base; have := h.map_lt; omega
theorem Tab.loc_ne {W : World} {B M : Nat} {loc : ByteArray → Nat} {fs : List FileV} {D : DataW Unit} (h : Tab W B M loc fs D) {f : FileV} (hf : f ∈ fs) : loc f.name ≠ M ∧ B ≤ loc f.name ∧ loc f.name < W.heap.size :=
  ⟨(h.apart f hf).1, (h.apart f hf).2, (h.box f hf).lt⟩

theorem Tab.len {W : World} {B M : Nat} {loc : ByteArray → Nat} {fs : List FileV} {D : DataW Unit} (h : Tab W B M loc fs D) (ty : TypeId) : (Builtin.len_ #[68] ty #[.map (some M)]).run Try.prog W = .ok (.int .i64 (fs.length : Int)) W := by
  have := h.own.len Try.underlying68 ty
  rw [h.size] at this
  exact this

theorem Tab.drewN {W : World} {B M : Nat} {loc : ByteArray → Nat} {fs : List FileV} {D : DataW Unit} (h : Tab W B M loc fs D) (q : Nat) : Tab (W.drewN q) B M loc fs D := h.up (below_drewN (Below.refl _ _) q)
theorem FBox.drewN {W : World} {b : Nat} {f : FileV} (h : FBox W b f) (q : Nat) : FBox (W.drewN q) b f := h.below (below_drewN (Below.refl _ _) q)

theorem setGrown (w : World) (b j : Nat) (u : Value) : w.grownBy (w.setCell ⟨b, j, none⟩ u) (some b) := grownSet w b j u

/-- a file that is there is put there again -/
theorem Tab.again {w : World} {B M : Nat} {loc : ByteArray → Nat} {gs : List FileV} {D : DataW Unit} (T : Tab w B M loc gs D) (hs : Sorted gs) {f : FileV} (hf : f ∈ gs) {nm : ByteArray} (hn : f.name = nm) :
    (∀ g ∈ gs, g.name ≠ f.name → loc g.name ≠ loc nm) ∧ (∀ g, g ∈ gs ↔ g = f ∨ (g ∈ gs ∧ g.name ≠ f.name)) ∧ gs.length + (if isIn gs f.name then 1 else 0) = gs.length + 1 := by
  subst hn
  refine ⟨fun g hg hne e => hne (T.inj g hg f hf e), fun g => ⟨fun hg => ?_, ?_⟩, by rw [isIn_iff.2 ⟨f, hf, rfl⟩]; simp⟩
  · by_cases e : g.name = f.name
    · exact .inl (hs.inj hg hf e)
    · exact .inr ⟨hg, e⟩
  · rintro (rfl | h)
    · exact hf
    · exact h.1

set_option maxRecDepth 100000 in
set_option maxHeartbeats 4000000 in
theorem tAdd_old (W : World) (B M : Nat) (loc : ByteArray → Nat) (fs : List FileV) (D : DataW Unit) (T : Tab W B M loc fs D) (hd : DiskR fs) (x : ActV) (hx : FitA x) (hs : Shape x) (hk : x.kind = 1) (f : FileV) (hf : fileOf fs x.name = some f) :
    Calls Try.prog 54 #[.map (some M), .string x.name, .string x.text] W (Done W B M fs (doAct fs x)) := by
  obtain ⟨hn, hok, hfm, hfn⟩ := name_of hd hf
  obtain ⟨l1, l2, l3⟩ := T.loc_ne hfm
  rw [hfn] at l1 l2 l3
  have hB := T.base_le
  have X : FBox W (loc x.name) f := hfn ▸ T.box f hfm
  obtain ⟨x0, x1, x2⟩ := X.cells
  have z1 := X.frozen 1
  have hnm : x.name.size ≤ maxLen := by unfold maxLen; have := hn.2; omega
  have htx := hok.2.1
  have hxt := hx.2.1
  have HT := hideIt T
  have HX := hideIt X
  have HD := hideIt hd
  have HM := hideIt hfm
  by_cases ht : f.text.size + x.text.size ≤ 20000
  · have ho := act_add hd hs hk hf ht
    have hw1 : IntKind.i64.wrap ((f.text.size : Int) + (x.text.size : Int)) = (f.text.size : Int) + (x.text.size : Int) := by rw [IntKind.wrap_i64]; omega
    have d1 : decide ((20000 : Int) < (f.text.size : Int) + (x.text.size : Int)) = false := by simp; omega
    have hcat := fun wx => run_string_add_sum (P := Try.prog) wx f.text x.text (by omega)
    have T1 : Tab (W.setCell ⟨loc x.name, 1, none⟩ (.string (f.text ++ x.text))) B M loc (put fs (fAdd f x.text)) D := by
      refine T.turn (f := f) (f' := fAdd f x.text) hfm rfl (by rw [hfn]; exact setGrown _ _ _ _) (by rw [hfn]; exact X.text _) (fun g => mem_put) ?_
      exact len_put_in hd _ (isIn_iff.2 ⟨f, hfm, rfl⟩)
    have X1 : FBox (W.setCell ⟨loc x.name, 1, none⟩ (.string (f.text ++ x.text))) (loc x.name) (fAdd f x.text) := X.text _
    have H1 := hideIt T1
    have H2 := hideIt X1
    have HL : Hid ((put fs (fAdd f x.text)).length ≤ 1048576) := by
      show (put fs (fAdd f x.text)).length ≤ 1048576
      rw [len_put_in hd (fAdd f x.text) (isIn_iff.2 ⟨f, hfm, rfl⟩)]; have := hd.1; omega
    obtain ⟨a1, a2, a3⟩ := T1.again (sorted_put ((disk_iff fs).1 hd).2.2 _) (f := fAdd f x.text) (mem_put.2 (.inl rfl)) hfn
    have A1 := hideIt a1
    have A2 := hideIt a2
    have A3 := hideIt a3
    clear a1 a2 a3
    unfold Done
    rw [ho]
    have K := hideIt ((Below.refl B W).setCell (p := ⟨loc x.name, 1, none⟩) l2 (.string (f.text ++ x.text)))
    clear T X hd hok hf ho T1 X1 htx hs hk hn
    go_enter Try.func54, Try.ntmps54
    go_wp2_with (first
      | (at_lookup; refine look_yes _ rfl _ _ rfl HT.out HM.out hfn hnm rfl rfl ?_)
      | (at_mapUpdate; refine put_at _ rfl _ _ _ rfl (gs := put fs (fAdd f x.text)) H1.out HL.out (f := fAdd f x.text) hfn hnm H2.out l1 l2 A1.out A2.out A3.out rfl rfl rfl ?_; intro w1 hT1 hg1))
    go_ret
    exact ⟨rfl, ⟨_, hT1⟩, K.out.grown hg1 (by simp; omega) (fun j hj => by cases hj; exact HT.out.base)⟩
  · have ho := act_add_no hk hf ht
    have hw1 : IntKind.i64.wrap ((f.text.size : Int) + (x.text.size : Int)) = (f.text.size : Int) + (x.text.size : Int) := by rw [IntKind.wrap_i64]; omega
    have d1 : decide ((20000 : Int) < (f.text.size : Int) + (x.text.size : Int)) = true := by simp; omega
    unfold Done
    rw [ho]
    clear T X hd hok hf ho htx hs hk hn
    go_enter Try.func54, Try.ntmps54
    go_wp2_with (first
      | (at_lookup; refine look_yes _ rfl _ _ rfl HT.out HM.out hfn hnm rfl rfl ?_))
    go_ret
    exact ⟨rfl, ⟨loc, D, HT.out⟩, Below.refl _ _⟩

set_option maxRecDepth 100000 in
set_option maxHeartbeats 4000000 in
theorem tAdd_new (W : World) (B M : Nat) (loc : ByteArray → Nat) (fs : List FileV) (D : DataW Unit) (T : Tab W B M loc fs D) (hd : DiskR fs) (x : ActV) (hx : FitA x) (hs : Shape x) (hk : x.kind = 1) (hf : fileOf fs x.name = none) :
    Calls Try.prog 54 #[.map (some M), .string x.name, .string x.text] W (Done W B M fs (doAct fs x)) := by
  have hB := T.base_le
  have hML := T.map_lt
  have hno := isIn_no (fileOf_not hf)
  obtain ⟨hx1, hxt, _⟩ := hx
  have hnm : x.name.size ≤ maxLen := by unfold maxLen; omega
  have HT := hideIt T
  have HI := hideIt hno
  by_cases hn : NameOk x.name
  · have HN := hideIt (fun W => nameOk_yes x.name hn.1 hn.2 W)
    by_cases h30 : fs.length = 30
    · have ho := act_new_no hd hk hf (.inl h30)
      have d0 : ((fs.length : Int) == 30) = true := by simp; omega
      have hlen := T.len
      unfold Done
      rw [ho]
      clear T hd hf ho hs hk hn hno
      go_enter Try.func54, Try.ntmps54
      go_wp2_with (first
        | (at_lookup; refine look_no _ rfl _ _ rfl HT.out HI.out hnm rfl rfl ?_)
        | (go_at_call 53; refine (HN.out _).mono ?_; rintro e w1 ⟨rfl, rfl⟩))
      go_ret
      exact ⟨rfl, ⟨loc, D, HT.out⟩, Below.refl _ _⟩
    · have d0 : ((fs.length : Int) == 30) = false := by simp; omega
      have hlen := T.len
      have hcat := fun wx => run_string_add_sum (P := Try.prog) wx ⟨#[]⟩ x.text (by show 0 + x.text.size ≤ _; omega)
      have hw1 : IntKind.i64.wrap ((x.text.size : Int)) = (x.text.size : Int) := by rw [IntKind.wrap_i64]; omega
      by_cases ht : x.text.size ≤ 20000
      · have ho := act_new hd hs hk hf hn h30 ht
        have d1 : decide ((20000 : Int) < (x.text.size : Int)) = false := by simp; omega
        have HT2 := hideIt (T.alloc (.cells #[.string x.name, .string (⟨#[]⟩ ++ x.text), .int .i64 0] 63))
        have HX2 := hideIt (FBox.new W (fNew x.name x.text))
        have A1 : Hid (∀ g ∈ fs, g.name ≠ (fNew x.name x.text).name → loc g.name ≠ W.heap.size) := fun g hg _ => by have := (T.box g hg).lt; omega
        have A3 : Hid ((put fs (fNew x.name x.text)).length + (if isIn fs (fNew x.name x.text).name then 1 else 0) = fs.length + 1) := len_put ((disk_iff fs).1 hd).2.2 _
        have HL : Hid (fs.length ≤ 1048576) := by show fs.length ≤ 1048576; have := hd.1; omega
        have K := hideIt ((Below.refl B W).alloc hB (.cells #[.string x.name, .string (⟨#[]⟩ ++ x.text), .int .i64 0] 63))
        have l1 : W.heap.size ≠ M := by omega
        unfold Done
        rw [ho]
        clear T hd hf ho hs hk hn hno
        go_enter Try.func54, Try.ntmps54
        go_wp2_with (first
          | (at_lookup; refine look_no _ rfl _ _ rfl HT.out HI.out hnm rfl rfl ?_)
          | (go_at_call 53; refine (HN.out _).mono ?_; rintro e w1 ⟨rfl, rfl⟩)
          | (at_mapUpdate; refine put_at _ rfl _ _ _ rfl (gs := put fs (fNew x.name x.text)) HT2.out HL.out (f := fNew x.name x.text) rfl hnm HX2.out l1 hB A1.out (fun _ => mem_put) A3.out rfl rfl rfl ?_; intro w1 hT1 hg1))
        go_ret
        exact ⟨rfl, ⟨_, hT1⟩, K.out.grown hg1 (by simp; omega) (fun j hj => by cases hj; exact HT.out.base)⟩
      · have ho := act_new_no hd hk hf (.inr ht)
        have d1 : decide ((20000 : Int) < (x.text.size : Int)) = true := by simp; omega
        have HT2 := hideIt (T.alloc (.cells #[.string x.name, .string .empty, .int .i64 0] 63))
        unfold Done
        rw [ho]
        clear T hd hf ho hs hk hn hno
        go_enter Try.func54, Try.ntmps54
        go_wp2_with (first
          | (at_lookup; refine look_no _ rfl _ _ rfl HT.out HI.out hnm rfl rfl ?_)
          | (go_at_call 53; refine (HN.out _).mono ?_; rintro e w1 ⟨rfl, rfl⟩))
        go_ret
        exact ⟨rfl, ⟨loc, D, HT2.out⟩, (Below.refl B _).alloc hB _⟩
  · have HN := hideIt (fun W => nameOk_no x.name hnm (by unfold NameOk at hn; omega) W)
    have ho := act_new_name (fs := fs) hn
    unfold Done
    rw [ho]
    clear T hd hf ho hs hk hn hno
    go_enter Try.func54, Try.ntmps54
    go_wp2_with (first
      | (at_lookup; refine look_no _ rfl _ _ rfl HT.out HI.out hnm rfl rfl ?_)
      | (go_at_call 53; refine (HN.out _).mono ?_; rintro e w1 ⟨rfl, rfl⟩))
    go_ret
    exact ⟨rfl, ⟨loc, D, HT.out⟩, Below.refl _ _⟩

theorem tAdd_any (W : World) (B M : Nat) (loc : ByteArray → Nat) (fs : List FileV) (D : DataW Unit) (T : Tab W B M loc fs D) (hd : DiskR fs) (x : ActV) (hx : FitA x) (hs : Shape x) (hk : x.kind = 1) :
    Calls Try.prog 54 #[.map (some M), .string x.name, .string x.text] W (Done W B M fs (doAct fs x)) := by
  cases hf : fileOf fs x.name with
  | none => exact tAdd_new W B M loc fs D T hd x hx hs hk hf
  | some f => exact tAdd_old W B M loc fs D T hd x hx hs hk f hf

theorem str_eqB {a b : ByteArray} (h : a = b) : (a.toList == b.toList) = true := by subst h; simp

set_option maxRecDepth 100000 in
set_option maxHeartbeats 4000000 in
theorem tMove_any (W : World) (B M : Nat) (loc : ByteArray → Nat) (fs : List FileV) (D : DataW Unit) (T : Tab W B M loc fs D) (hd : DiskR fs) (x : ActV) (hx : FitA x) (hs : Shape x) (hk : x.kind = 3) (f : FileV) (hf : fileOf fs x.name = some f) :
    Calls Try.prog 55 #[.map (some M), .pointer (some ⟨loc x.name, 0, none⟩), .string x.to] W (Done W B M fs (doAct fs x)) := by
  obtain ⟨hn, hok, hfm, hfn⟩ := name_of hd hf
  obtain ⟨l1, l2, l3⟩ := T.loc_ne hfm
  rw [hfn] at l1 l2 l3
  have hB := T.base_le
  have X : FBox W (loc x.name) f := hfn ▸ T.box f hfm
  obtain ⟨x0, x1, x2⟩ := X.cells
  rw [hfn] at x0
  have hnm : x.name.size ≤ maxLen := by unfold maxLen; have := hn.2; omega
  have hto : x.to.size ≤ maxLen := by unfold maxLen; have := hx.2.2; omega
  have htx := hok.2.1
  have HT := hideIt T
  by_cases h1 : f.kept < f.text.size
  · have ho := act_move_no hk hf (.inl h1)
    have d1 : decide (f.kept < (f.text.size : Int)) = true := by simp; omega
    unfold Done
    rw [ho]
    clear T X hd hok hf ho htx hs hk hn
    go_enter Try.func55, Try.ntmps55
    go_wp2
    go_quiet (fail)
    go_wp2
    go_ret
    exact ⟨rfl, ⟨loc, D, HT.out.drewN _⟩, below_drewN (Below.refl _ _) _⟩
  · have d1 : decide (f.kept < (f.text.size : Int)) = false := by simp; omega
    by_cases h2 : x.to = x.name
    · have ho := act_move_no hk hf (.inr (.inl h2))
      have d2 : (x.to.toList == x.name.toList) = true := str_eqB h2
      unfold Done
      rw [ho]
      clear T X hd hok hf ho htx hs hk hn h2
      go_enter Try.func55, Try.ntmps55
      go_wp2
      go_quiet (fail)
      go_wp2
      go_ret
      exact ⟨rfl, ⟨loc, D, HT.out.drewN _⟩, below_drewN (Below.refl _ _) _⟩
    · have d2 : (x.to.toList == x.name.toList) = false := str_ne h2
      by_cases h3 : NameOk x.to
      · have HN := hideIt (fun W => nameOk_yes x.to h3.1 h3.2 W)
        have ho := act_move hd hs hk hf (by rintro (h | h | h); exact h1 h; exact h2 h; exact h h3)
        have hsrt := ((disk_iff fs).1 hd).2.2
        have HX := hideIt X
        have A1 : Hid (∀ g ∈ without fs x.name, loc g.name ≠ loc x.name) := fun g hg e => by
          have hg' := mem_without.1 hg
          rw [← hfn] at e hg'
          exact hg'.2 (T.inj g hg'.1 f hfm e)
        have HW := hideIt (len_without hsrt x.name)
        have HP := hideIt (len_put (sorted_without hsrt x.name) (fMove f x.to))
        have HL : Hid ((without fs x.name).length ≤ 1048576) := by show (without fs x.name).length ≤ 1048576; have := without_le fs x.name; have := hd.1; omega
        unfold Done
        rw [ho]
        clear T X hd hok hf ho htx hs hk hn h2 hsrt
        go_enter Try.func55, Try.ntmps55
        go_wp2
        go_quiet ((go_at_call 53; exact Calls.quiet_of_same (HN.out _)))
        have HT1 := hideIt (HT.out.drewN nq)
        have HX1 := hideIt (HX.out.drewN nq)
        have K0 := hideIt (below_drewN (Below.refl B W) nq)
        go_wp2_with (first
          | (at_delete; refine del_at _ rfl _ _ rfl (gs := without fs x.name) HT1.out hnm (fun _ => mem_without) HW.out rfl rfl ?_; intro w1 hT1 hg1; refine Hid.out ?_))
        refine (show ∀ {p : Prop}, p → Hid p from fun h => h) ?_
        obtain ⟨D1, T1⟩ := hT1
        have X1 := HX1.out.grown hg1 (by simpa using l1)
        have y0 := X1.cells.1
        have yz := X1.frozen 0
        have g2 := setGrown w1 (loc x.name) 0 (.string x.to)
        have X2 := hideIt (X1.name x.to)
        have hML : loc x.name ≠ M := l1
        have T2 := hideIt (show Tab (w1.setCell ⟨loc x.name, 0, none⟩ (.string x.to)) B M loc (without fs x.name) D1 from
          { T1 with own := T1.own.kept g2 (by simpa using Ne.symm hML), box := fun g hg => (T1.box g hg).grown g2 (by simpa using A1.out g hg) })
        have K1 := hideIt ((K0.out.grown hg1 (by simpa using hB) (fun j hj => by cases hj; exact HT.out.base)).setCell (p := ⟨loc x.name, 0, none⟩) l2 (.string x.to))
        have hB1 : B ≤ w1.heap.size := T1.base_le
        clear hg1 T1 X1 g2 x0 x1 x2
        go_wp2_with (first
          | (at_mapUpdate; refine put_at _ rfl _ _ _ rfl (gs := put (without fs x.name) (fMove f x.to)) T2.out HL.out (f := fMove f x.to) rfl hto X2.out l1 l2 (fun g hg _ => A1.out g hg) (fun _ => mem_put) HP.out rfl rfl rfl ?_; intro w2 hT2 hg2))
        go_ret
        exact ⟨rfl, ⟨_, hT2⟩, K1.out.grown hg2 (by simpa using hB1) (fun j hj => by cases hj; exact HT.out.base)⟩
      · have HN := hideIt (fun W => nameOk_no x.to hto (by unfold NameOk at h3; omega) W)
        have ho := act_move_no hk hf (.inr (.inr h3))
        unfold Done
        rw [ho]
        clear T X hd hok hf ho htx hs hk hn h2
        go_enter Try.func55, Try.ntmps55
        go_wp2
        go_quiet ((go_at_call 53; exact Calls.quiet_of_same (HN.out _)))
        go_wp2
        go_ret
        exact ⟨rfl, ⟨loc, D, HT.out.drewN _⟩, below_drewN (Below.refl _ _) _⟩
end Go.Proofs.Ytibcdpnodikpiai
