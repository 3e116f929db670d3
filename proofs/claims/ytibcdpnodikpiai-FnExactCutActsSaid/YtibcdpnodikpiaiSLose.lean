/- What the specification's LoseDisk answers. -/
import Derived.Test.YtibcdpnodikpiaiLose
import Derived.Test.YtibcdpnodikpiaiIsR
import Derived.Test.YtibcdpnodikpiaiSAct3
import Derived.Deep.AppendLies
import Derived.Deep.RegionLaw
namespace Go.Proofs.Ytibcdpnodikpiai
open Go.RowKit

/-- the worlds of the argument and the answer laid -/
def w2L (w : World) (a : Option Addr) (n c : Nat) : World := (w.alloc (.cells #[.slice a n c] 31)).alloc (.cells #[.slice none 0 0] 31)
theorem w2L_below (w : World) (a : Option Addr) (n c : Nat) : Below w.heap.size w (w2L w a n c) := ((Below.refl _ _).alloc (Nat.le_refl _) _).alloc (by simp) _
theorem w2L_size (w : World) (a : Option Addr) (n c : Nat) : (w2L w a n c).heap.size = w.heap.size + 2 := by simp [w2L]
theorem w2L_box0 (w : World) (a : Option Addr) (n c : Nat) : Box (w2L w a n c) w.heap.size 31 (.slice a n c) := (Box.new w _ _ _ rfl).alloc _
theorem w2L_box1 (w : World) (a : Option Addr) (n c : Nat) : Box (w2L w a n c) (w.heap.size + 1) 31 (.slice none 0 0) := Box.new _ _ _ _ (by simp)

theorem sLoseDisk_bad (fs : List FileV) (ls : List Int) (hfit : FitsF fs) (n : Nat) (a : Option Addr) (c : Nat) (hn : n ≤ maxLen) (ln : Nat) (al : Option Addr) (cl : Nat) (w : World) (h : Fs w w.heap.size a n fs) (hd : ¬ DiskR fs) :
    Calls Try.prog 23 #[.agg #[.slice a n c], .slice al ln cl] w (ActAns w (loseO fs ls)) := by
  have H := sDiskOk_any fs hfit n a c hn (w2L w a n c) (h.up (w2L_below w a n c))
  rw [dB_false hd] at H
  have HD := hideIt H
  rw [loseO_no hd]
  unfold ActAns
  dsimp only
  clear H hd h
  go_enter Try.func23, Try.ntmps23
  go_wp2_with (go_at_call 33; refine (show Calls Try.prog 33 #[.agg #[.slice a n c]] (w2L w a n c) _ from HD.out).mono ?_; rintro e w1 ⟨rfl, hb1⟩; refine Hid.out ?_)
  refine (show ∀ {p : Prop}, p → Hid p from fun h => h) ?_
  have b1 := (w2L_box1 w a n c).below hb1 (by rw [w2L_size]; omega)
  have c5 := b1.cell
  have f5 := b1.frozen
  have s1 := (b1.set (.slice none 0 0)).cell
  have q1 := ((w2L_below w a n c).trans (hb1.mono (by rw [w2L_size]; omega))).setCell (p := ⟨w.heap.size + 1, 0, none⟩) (by show w.heap.size ≤ w.heap.size + 1; omega) (.slice none 0 0)
  clear HD hb1 b1
  go_wp2
  exact bodyPost_ret (v := .tuple #[.agg #[.slice none 0 0], .bool false]) (by simp [results, Try.results23, go_sem, s1]) rfl ⟨rfl, q1⟩

set_option maxRecDepth 100000 in
set_option maxHeartbeats 8000000 in
theorem sLoseDisk_ok (fs : List FileV) (ls : List Int) (n : Nat) (a : Option Addr) (c : Nat) (ln : Nat) (al : Option Addr) (cl : Nat) (w : World) (h : Fs w w.heap.size a n fs) (hl : Is w w.heap.size al ln ls) (hd : DiskR fs) :
    Calls Try.prog 23 #[.agg #[.slice a n c], .slice al ln cl] w (ActAns w (loseO fs ls)) := by
  have hn30 : n ≤ 30 := by rw [← h.1]; exact hd.1
  have H := sDiskOk_any fs (disk_fits hd) n a c (by unfold maxLen; omega) (w2L w a n c) (h.up (w2L_below w a n c))
  rw [dB_true hd] at H
  obtain ⟨i0, hi, hz0, hz1, hz2⟩ := info_parts infoIF
  have HD := hideIt H
  obtain ⟨hlen, hrow⟩ := h
  obtain ⟨hlenL, hrowL⟩ := hl
  have HR := hideIt hrow
  have HL := hideIt hrowL
  have HDR := hideIt hd
  rw [loseO_yes hd]
  unfold ActAns
  dsimp only
  clear H hd hrow hrowL
  go_enter Try.func23, Try.ntmps23
  go_wp2_with (go_at_call 33; refine (show Calls Try.prog 33 #[.agg #[.slice a n c]] (w2L w a n c) _ from HD.out).mono ?_; rintro e w1 ⟨rfl, hb1⟩; refine Hid.out ?_)
  refine (show ∀ {p : Prop}, p → Hid p from fun h => h) ?_
  have y0 := (w2L_box0 w a n c).below hb1 (by rw [w2L_size]; omega)
  have y1 := (w2L_box1 w a n c).below hb1 (by rw [w2L_size]; omega)
  have K1 := (w2L_below w a n c).trans (hb1.mono (by rw [w2L_size]; omega))
  have z1 : w.heap.size + 2 ≤ w1.heap.size := by have := hb1.size; rw [w2L_size] at this; exact this
  clear HD hb1
  go_wp2
  go_loopw [7] (fun i wr => ∃ (k : Nat) (a' : Option Addr) (c' : Nat), k ≤ n ∧ i = .int .i64 (k : Int) ∧ Box wr w.heap.size 31 (.slice a n c) ∧ Box wr (w.heap.size + 1) 31 (.slice none 0 0) ∧ Box wr w1.heap.size 31 (.slice a' k c') ∧
      Hid (wr.ownsRow (w1.heap.size + 1) 63 3 (.slice a' k c') k (fcells (lose (fs.take k) ls))) ∧ Below w.heap.size w wr) (fun i _ => n - (intOf i).toNat)
  case atStart => exact ⟨0, none, 0, by omega, rfl, y0.alloc _, y1.alloc _, Box.new _ _ _ _ rfl, World.ownsRow_nil _ _ _ _, K1.alloc (by omega) _⟩
  case round =>
    obtain ⟨k, a', c', hk, rfl, x0, x1, x2, hown, hb⟩ := hrel
    have e0 := x0.cell
    have e1 := x2.cell
    have f1 := x2.frozen
    have l2 := x2.lt
    by_cases hlt : k < n
    · rcases HR.out with hz | ⟨b, off, rfl, hbl, hc⟩
      · omega
      · obtain ⟨f, hf⟩ : ∃ f, fs[k]? = some f := ⟨fs[k]'(by omega), List.getElem?_eq_getElem (by omega)⟩
        obtain ⟨c0, c1, c2⟩ := hc k f hf
        have d0 : wr.cell? ⟨b, off + k * 3, none⟩ = some (.string f.name) := by rw [hb.cell hbl]; exact c0
        have d1 : wr.cell? ⟨b, off + k * 3 + 1, none⟩ = some (.string f.text) := by rw [hb.cell hbl]; exact c1
        have d2 : wr.cell? ⟨b, off + k * 3 + 2, none⟩ = some (.int .i64 f.kept) := by rw [hb.cell hbl]; exact c2
        have b1 : (0 : Int) ≤ (k : Int) := by omega
        have b2 : (k : Int) < (n : Int) := by omega
        have hok := disk_at HDR.out hf
        obtain ⟨_, ht1, hk0, hk1⟩ := hok
        have hok : True := trivial
        have hbw : b < wr.heap.size := by omega
        have HO := hideIt hown.out
        have HNW := hideIt (fun s t (v : Int) => World.news_of_block (cs := #[.string s, .string t, .int .i64 v]) (t := 63) (fr := (0, 0)) (B := wr.heap.size + 1) (w := ((wr.alloc (.cells #[.string f.name, .string f.text, .int .i64 f.kept] 63)).alloc (.cells #[.string s, .string t, .int .i64 v] 63)).drew) (by
          have := heap_alloc_new (wr.alloc (.cells #[.string f.name, .string f.text, .int .i64 f.kept] 63)) (.cells #[.string s, .string t, .int .i64 v] 63)
          rw [show (wr.alloc (.cells #[.string f.name, .string f.text, .int .i64 f.kept] 63)).heap.size = wr.heap.size + 1 by simp] at this
          exact this))
        have hrow : ∀ x, x < w1.heap.size + 1 → some x ≠ (Value.slice a' k c').ownBlock := fun x hx e => by
          have := (hown.out.lt x e.symm).1
          omega
        have HKK : Hid (∀ (o : Obj) (w2 : World), (((wr.alloc (.cells #[.string f.name, .string f.text, .int .i64 f.kept] 63)).alloc o)).grownBy w2 (Value.slice a' k c').ownBlock →
            (w2.cell? ⟨wr.heap.size, 0, none⟩ = some (.string f.name) ∧ w2.cell? ⟨wr.heap.size, 1, none⟩ = some (.string f.text)) ∧ Box w2 w.heap.size 31 (.slice (some ⟨b, off, none⟩) n c) ∧ Box w2 (w.heap.size + 1) 31 (.slice none 0 0) ∧ Box w2 w1.heap.size 31 (.slice a' k c') ∧ Below w.heap.size w w2) := fun o w2 hg => by
          have hlr : ∀ r, (Value.slice a' k c').ownBlock = some r → r < wr.heap.size := fun r hr => (hown.out.lt r hr).2
          have y0 := ((x0.alloc (.cells #[.string f.name, .string f.text, .int .i64 f.kept] 63)).alloc o).grown hg (hrow _ (by omega))
          have y1 := ((x1.alloc (.cells #[.string f.name, .string f.text, .int .i64 f.kept] 63)).alloc o).grown hg (hrow _ (by omega))
          have y2 := ((x2.alloc (.cells #[.string f.name, .string f.text, .int .i64 f.kept] 63)).alloc o).grown hg (hrow _ (by omega))
          have hb1 : Below w.heap.size w w2 := ((hb.alloc (by omega) _).alloc (by simp; omega) _).grown hg (by simp; omega) (fun j hj => by have := (hown.out.lt j hj).1; omega)
          have hF : w2.heap[wr.heap.size]? = some (.cells #[.string f.name, .string f.text, .int .i64 f.kept] 63 (0, 0)) := by
            rw [hg.block wr.heap.size (by simp; omega) (fun e => by have := hlr _ e.symm; omega), Below.heap_alloc _ _ _ (by simp)]
            exact heap_alloc_new wr _
          exact ⟨⟨by rw [cell_of_row w2 _ 0 _ _ _ hF]; rfl, by rw [cell_of_row w2 _ 1 _ _ _ hF]; rfl⟩, y0, y1, y2, hb1⟩
        clear hc c0 c1 c2 hrow
        by_cases hkl : k < ln
        · rcases HL.out with hz | ⟨bl, ol, rfl, hbll, hcl⟩
          · omega
          · obtain ⟨x, hx⟩ : ∃ x, ls[k]? = some x := ⟨ls[k]'(by omega), List.getElem?_eq_getElem (by omega)⟩
            have hlk := hx
            have e9 : wr.cell? ⟨bl, ol + k, none⟩ = some (.int .i64 x) := by rw [hb.cell hbll]; exact hcl k x hx
            have hblw : bl < wr.heap.size := by omega
            have b3 : (k : Int) < (ln : Int) := by omega
            have d3 : decide ((k : Int) < (ln : Int)) = true := by simp; omega
            by_cases hxs : (f.text.size : Int) < x
            · have d4 : decide ((f.text.size : Int) < x) = true := by simp; omega
              have d5 : decide ((f.text.size : Int) < f.kept) = false := by simp; omega
              have hv : cutI f ls[k]? = (f.text.size : Int) := by unfold cutI; rw [hlk]; simp only [Option.getD]; omega
              have HX : Hid (fcells (lose (fs.take (k + 1)) ls) = fcells (lose (fs.take k) ls) ++ [.string f.name, .string f.text, .int .i64 (f.text.size : Int)]) := by
                show _ = _
                rw [lose_take ls hf, fcells_snoc]
                unfold cutF
                rw [hv]
                simp
              have v0 : (0 : Int) ≤ (f.text.size : Int) := by omega
              have v1 : (f.text.size : Int) ≤ (f.text.size : Int) := by omega
              have HK : Hid (∀ w2 : World, (((wr.alloc (.cells #[.string f.name, .string f.text, .int .i64 f.kept] 63)).alloc (.cells #[.string f.name, .string f.text, .int .i64 (f.text.size : Int)] 63)).drew).grownBy w2 (Value.slice a' k c').ownBlock →
                  (w2.cell? ⟨wr.heap.size, 0, none⟩ = some (.string f.name) ∧ w2.cell? ⟨wr.heap.size, 1, none⟩ = some (.string f.text)) ∧ Box w2 w.heap.size 31 (.slice (some ⟨b, off, none⟩) n c) ∧ Box w2 (w.heap.size + 1) 31 (.slice none 0 0) ∧ Box w2 w1.heap.size 31 (.slice a' k c') ∧ Below w.heap.size w w2) := fun w2 hg => HKK.out _ w2 ⟨hg.os, hg.tape, hg.output, hg.size, hg.block⟩
              clear hf hown hcl hok hv
              go_wp2
              go_region_law (refine step_append_lies _ (by rfl) _ _ _ (by rfl) (w1.heap.size + 1) 63 i0 _ 3 40 Try.underlying29 hi hz0 hz1 hz2 rfl (by omega) _ k _ (by rfl) (((HO.out.alloc _).alloc _).drew) ⟨wr.heap.size + 1, 0, none⟩ 1 1 [.string f.name, .string f.text, .int .i64 (f.text.size : Int)] (by rfl) (by rfl) (HNW.out _ _ _) (by simp [Value.oneCell']) (by omega) (by unfold maxLen; omega) (by omega) (by simp; omega) (wr.heap.size + 1 + 1) (by simp) ?_; intro g1 cap1 w2 hown1 hg1 hat1 hlt1; obtain ⟨S1, y0, y1, y2, hb1⟩ := HK.out _ hg1; have z1' := y2.cell; have z2' := y2.frozen)
              all_goals
                have lg := (hown1.lt g1 rfl).1
                have HOn := hideIt (own_setOther hown1 w1.heap.size 0 (.slice (some ⟨g1, 0, none⟩) (k + 1) cap1) (by omega))
                have q0 := y0.setOther (j := 0) (.slice (some ⟨g1, 0, none⟩) (k + 1) cap1) (show w.heap.size ≠ w1.heap.size by omega)
                have q1 := y1.setOther (j := 0) (.slice (some ⟨g1, 0, none⟩) (k + 1) cap1) (show w.heap.size + 1 ≠ w1.heap.size by omega)
                have q2 := y2.set (.slice (some ⟨g1, 0, none⟩) (k + 1) cap1)
                have q3 := hb1.setCell (p := ⟨w1.heap.size, 0, none⟩) (by show _ ≤ w1.heap.size; omega) (.slice (some ⟨g1, 0, none⟩) (k + 1) cap1)
                clear hown1 hg1 S1 HK HKK
                go_wp2
                exact ⟨⟨k + 1, _, _, by omega, by go_num, q0, q1, q2, by show _; rw [HX.out]; exact HOn.out, q3⟩, by simp [intOf]; omega⟩
            · have d4 : decide ((f.text.size : Int) < x) = false := by simp; omega
              by_cases hxk : x < f.kept
              · have d5 : decide (x < f.kept) = true := by simp; omega
                have hv : cutI f ls[k]? = f.kept := by unfold cutI; rw [hlk]; simp only [Option.getD]; omega
                have HX : Hid (fcells (lose (fs.take (k + 1)) ls) = fcells (lose (fs.take k) ls) ++ [.string f.name, .string (f.text.extract 0 f.kept.toNat), .int .i64 f.kept]) := by
                  show _ = _
                  rw [lose_take ls hf, fcells_snoc]
                  unfold cutF
                  rw [hv]
                  try rfl
                have v0 : (0 : Int) ≤ f.kept := by omega
                have v1 : f.kept ≤ (f.text.size : Int) := by omega
                have HK : Hid (∀ w2 : World, (((wr.alloc (.cells #[.string f.name, .string f.text, .int .i64 f.kept] 63)).alloc (.cells #[.string f.name, .string (f.text.extract 0 f.kept.toNat), .int .i64 f.kept] 63)).drew).grownBy w2 (Value.slice a' k c').ownBlock →
                    (w2.cell? ⟨wr.heap.size, 0, none⟩ = some (.string f.name) ∧ w2.cell? ⟨wr.heap.size, 1, none⟩ = some (.string f.text)) ∧ Box w2 w.heap.size 31 (.slice (some ⟨b, off, none⟩) n c) ∧ Box w2 (w.heap.size + 1) 31 (.slice none 0 0) ∧ Box w2 w1.heap.size 31 (.slice a' k c') ∧ Below w.heap.size w w2) := fun w2 hg => HKK.out _ w2 ⟨hg.os, hg.tape, hg.output, hg.size, hg.block⟩
                clear hf hown hcl hok hv
                go_wp2
                go_region_law (refine step_append_lies _ (by rfl) _ _ _ (by rfl) (w1.heap.size + 1) 63 i0 _ 3 40 Try.underlying29 hi hz0 hz1 hz2 rfl (by omega) _ k _ (by rfl) (((HO.out.alloc _).alloc _).drew) ⟨wr.heap.size + 1, 0, none⟩ 1 1 [.string f.name, .string (f.text.extract 0 f.kept.toNat), .int .i64 f.kept] (by rfl) (by rfl) (HNW.out _ _ _) (by simp [Value.oneCell']) (by omega) (by unfold maxLen; omega) (by omega) (by simp; omega) (wr.heap.size + 1 + 1) (by simp) ?_; intro g1 cap1 w2 hown1 hg1 hat1 hlt1; obtain ⟨S1, y0, y1, y2, hb1⟩ := HK.out _ hg1; have z1' := y2.cell; have z2' := y2.frozen)
                all_goals
                  have lg := (hown1.lt g1 rfl).1
                  have HOn := hideIt (own_setOther hown1 w1.heap.size 0 (.slice (some ⟨g1, 0, none⟩) (k + 1) cap1) (by omega))
                  have q0 := y0.setOther (j := 0) (.slice (some ⟨g1, 0, none⟩) (k + 1) cap1) (show w.heap.size ≠ w1.heap.size by omega)
                  have q1 := y1.setOther (j := 0) (.slice (some ⟨g1, 0, none⟩) (k + 1) cap1) (show w.heap.size + 1 ≠ w1.heap.size by omega)
                  have q2 := y2.set (.slice (some ⟨g1, 0, none⟩) (k + 1) cap1)
                  have q3 := hb1.setCell (p := ⟨w1.heap.size, 0, none⟩) (by show _ ≤ w1.heap.size; omega) (.slice (some ⟨g1, 0, none⟩) (k + 1) cap1)
                  clear hown1 hg1 S1 HK HKK
                  go_wp2
                  exact ⟨⟨k + 1, _, _, by omega, by go_num, q0, q1, q2, by show _; rw [HX.out]; exact HOn.out, q3⟩, by simp [intOf]; omega⟩
              · have d5 : decide (x < f.kept) = false := by simp; omega
                have hv : cutI f ls[k]? = x := by unfold cutI; rw [hlk]; simp only [Option.getD]; omega
                have HX : Hid (fcells (lose (fs.take (k + 1)) ls) = fcells (lose (fs.take k) ls) ++ [.string f.name, .string (f.text.extract 0 x.toNat), .int .i64 x]) := by
                  show _ = _
                  rw [lose_take ls hf, fcells_snoc]
                  unfold cutF
                  rw [hv]
                  try rfl
                have v0 : (0 : Int) ≤ x := by omega
                have v1 : x ≤ (f.text.size : Int) := by omega
                have HK : Hid (∀ w2 : World, (((wr.alloc (.cells #[.string f.name, .string f.text, .int .i64 f.kept] 63)).alloc (.cells #[.string f.name, .string (f.text.extract 0 x.toNat), .int .i64 x] 63)).drew).grownBy w2 (Value.slice a' k c').ownBlock →
                    (w2.cell? ⟨wr.heap.size, 0, none⟩ = some (.string f.name) ∧ w2.cell? ⟨wr.heap.size, 1, none⟩ = some (.string f.text)) ∧ Box w2 w.heap.size 31 (.slice (some ⟨b, off, none⟩) n c) ∧ Box w2 (w.heap.size + 1) 31 (.slice none 0 0) ∧ Box w2 w1.heap.size 31 (.slice a' k c') ∧ Below w.heap.size w w2) := fun w2 hg => HKK.out _ w2 ⟨hg.os, hg.tape, hg.output, hg.size, hg.block⟩
                clear hf hown hcl hok hv
                go_wp2
                go_region_law (refine step_append_lies _ (by rfl) _ _ _ (by rfl) (w1.heap.size + 1) 63 i0 _ 3 40 Try.underlying29 hi hz0 hz1 hz2 rfl (by omega) _ k _ (by rfl) (((HO.out.alloc _).alloc _).drew) ⟨wr.heap.size + 1, 0, none⟩ 1 1 [.string f.name, .string (f.text.extract 0 x.toNat), .int .i64 x] (by rfl) (by rfl) (HNW.out _ _ _) (by simp [Value.oneCell']) (by omega) (by unfold maxLen; omega) (by omega) (by simp; omega) (wr.heap.size + 1 + 1) (by simp) ?_; intro g1 cap1 w2 hown1 hg1 hat1 hlt1; obtain ⟨S1, y0, y1, y2, hb1⟩ := HK.out _ hg1; have z1' := y2.cell; have z2' := y2.frozen)
                all_goals
                  have lg := (hown1.lt g1 rfl).1
                  have HOn := hideIt (own_setOther hown1 w1.heap.size 0 (.slice (some ⟨g1, 0, none⟩) (k + 1) cap1) (by omega))
                  have q0 := y0.setOther (j := 0) (.slice (some ⟨g1, 0, none⟩) (k + 1) cap1) (show w.heap.size ≠ w1.heap.size by omega)
                  have q1 := y1.setOther (j := 0) (.slice (some ⟨g1, 0, none⟩) (k + 1) cap1) (show w.heap.size + 1 ≠ w1.heap.size by omega)
                  have q2 := y2.set (.slice (some ⟨g1, 0, none⟩) (k + 1) cap1)
                  have q3 := hb1.setCell (p := ⟨w1.heap.size, 0, none⟩) (by show _ ≤ w1.heap.size; omega) (.slice (some ⟨g1, 0, none⟩) (k + 1) cap1)
                  clear hown1 hg1 S1 HK HKK
                  go_wp2
                  exact ⟨⟨k + 1, _, _, by omega, by go_num, q0, q1, q2, by show _; rw [HX.out]; exact HOn.out, q3⟩, by simp [intOf]; omega⟩
        · have hlk : ls[k]? = none := List.getElem?_eq_none (by omega)
          have hcl : True := trivial
          have d3 : decide ((k : Int) < (ln : Int)) = false := by simp; omega
          have d4 : decide ((f.text.size : Int) < 0) = false := by simp
          by_cases hxk : 0 < f.kept
          · have d5 : decide (0 < f.kept) = true := by simp; omega
            have hv : cutI f ls[k]? = f.kept := by unfold cutI; rw [hlk]; simp only [Option.getD]; omega
            have HX : Hid (fcells (lose (fs.take (k + 1)) ls) = fcells (lose (fs.take k) ls) ++ [.string f.name, .string (f.text.extract 0 f.kept.toNat), .int .i64 f.kept]) := by
              show _ = _
              rw [lose_take ls hf, fcells_snoc]
              unfold cutF
              rw [hv]
              try rfl
            have v0 : (0 : Int) ≤ f.kept := by omega
            have v1 : f.kept ≤ (f.text.size : Int) := by omega
            have HK : Hid (∀ w2 : World, (((wr.alloc (.cells #[.string f.name, .string f.text, .int .i64 f.kept] 63)).alloc (.cells #[.string f.name, .string (f.text.extract 0 f.kept.toNat), .int .i64 f.kept] 63)).drew).grownBy w2 (Value.slice a' k c').ownBlock →
                (w2.cell? ⟨wr.heap.size, 0, none⟩ = some (.string f.name) ∧ w2.cell? ⟨wr.heap.size, 1, none⟩ = some (.string f.text)) ∧ Box w2 w.heap.size 31 (.slice (some ⟨b, off, none⟩) n c) ∧ Box w2 (w.heap.size + 1) 31 (.slice none 0 0) ∧ Box w2 w1.heap.size 31 (.slice a' k c') ∧ Below w.heap.size w w2) := fun w2 hg => HKK.out _ w2 ⟨hg.os, hg.tape, hg.output, hg.size, hg.block⟩
            clear hf hown hcl hok hv
            go_wp2
            go_region_law (refine step_append_lies _ (by rfl) _ _ _ (by rfl) (w1.heap.size + 1) 63 i0 _ 3 40 Try.underlying29 hi hz0 hz1 hz2 rfl (by omega) _ k _ (by rfl) (((HO.out.alloc _).alloc _).drew) ⟨wr.heap.size + 1, 0, none⟩ 1 1 [.string f.name, .string (f.text.extract 0 f.kept.toNat), .int .i64 f.kept] (by rfl) (by rfl) (HNW.out _ _ _) (by simp [Value.oneCell']) (by omega) (by unfold maxLen; omega) (by omega) (by simp; omega) (wr.heap.size + 1 + 1) (by simp) ?_; intro g1 cap1 w2 hown1 hg1 hat1 hlt1; obtain ⟨S1, y0, y1, y2, hb1⟩ := HK.out _ hg1; have z1' := y2.cell; have z2' := y2.frozen)
            all_goals
              have lg := (hown1.lt g1 rfl).1
              have HOn := hideIt (own_setOther hown1 w1.heap.size 0 (.slice (some ⟨g1, 0, none⟩) (k + 1) cap1) (by omega))
              have q0 := y0.setOther (j := 0) (.slice (some ⟨g1, 0, none⟩) (k + 1) cap1) (show w.heap.size ≠ w1.heap.size by omega)
              have q1 := y1.setOther (j := 0) (.slice (some ⟨g1, 0, none⟩) (k + 1) cap1) (show w.heap.size + 1 ≠ w1.heap.size by omega)
              have q2 := y2.set (.slice (some ⟨g1, 0, none⟩) (k + 1) cap1)
              have q3 := hb1.setCell (p := ⟨w1.heap.size, 0, none⟩) (by show _ ≤ w1.heap.size; omega) (.slice (some ⟨g1, 0, none⟩) (k + 1) cap1)
              clear hown1 hg1 S1 HK HKK
              go_wp2
              exact ⟨⟨k + 1, _, _, by omega, by go_num, q0, q1, q2, by show _; rw [HX.out]; exact HOn.out, q3⟩, by simp [intOf]; omega⟩
          · have d5 : decide (0 < f.kept) = false := by simp; omega
            have hv : cutI f ls[k]? = 0 := by unfold cutI; rw [hlk]; simp only [Option.getD]; omega
            have HX : Hid (fcells (lose (fs.take (k + 1)) ls) = fcells (lose (fs.take k) ls) ++ [.string f.name, .string ByteArray.empty, .int .i64 0]) := by
              show _ = _
              rw [lose_take ls hf, fcells_snoc]
              unfold cutF
              rw [hv]
              simp
            have v0 : (0 : Int) ≤ 0 := by omega
            have v1 : 0 ≤ (f.text.size : Int) := by omega
            have HK : Hid (∀ w2 : World, (((wr.alloc (.cells #[.string f.name, .string f.text, .int .i64 f.kept] 63)).alloc (.cells #[.string f.name, .string ByteArray.empty, .int .i64 0] 63)).drew).grownBy w2 (Value.slice a' k c').ownBlock →
                (w2.cell? ⟨wr.heap.size, 0, none⟩ = some (.string f.name) ∧ w2.cell? ⟨wr.heap.size, 1, none⟩ = some (.string f.text)) ∧ Box w2 w.heap.size 31 (.slice (some ⟨b, off, none⟩) n c) ∧ Box w2 (w.heap.size + 1) 31 (.slice none 0 0) ∧ Box w2 w1.heap.size 31 (.slice a' k c') ∧ Below w.heap.size w w2) := fun w2 hg => HKK.out _ w2 ⟨hg.os, hg.tape, hg.output, hg.size, hg.block⟩
            clear hf hown hcl hok hv
            go_wp2
            go_region_law (refine step_append_lies _ (by rfl) _ _ _ (by rfl) (w1.heap.size + 1) 63 i0 _ 3 40 Try.underlying29 hi hz0 hz1 hz2 rfl (by omega) _ k _ (by rfl) (((HO.out.alloc _).alloc _).drew) ⟨wr.heap.size + 1, 0, none⟩ 1 1 [.string f.name, .string ByteArray.empty, .int .i64 0] (by rfl) (by rfl) (HNW.out _ _ _) (by simp [Value.oneCell']) (by omega) (by unfold maxLen; omega) (by omega) (by simp; omega) (wr.heap.size + 1 + 1) (by simp) ?_; intro g1 cap1 w2 hown1 hg1 hat1 hlt1; obtain ⟨S1, y0, y1, y2, hb1⟩ := HK.out _ hg1; have z1' := y2.cell; have z2' := y2.frozen)
            all_goals
              have lg := (hown1.lt g1 rfl).1
              have HOn := hideIt (own_setOther hown1 w1.heap.size 0 (.slice (some ⟨g1, 0, none⟩) (k + 1) cap1) (by omega))
              have q0 := y0.setOther (j := 0) (.slice (some ⟨g1, 0, none⟩) (k + 1) cap1) (show w.heap.size ≠ w1.heap.size by omega)
              have q1 := y1.setOther (j := 0) (.slice (some ⟨g1, 0, none⟩) (k + 1) cap1) (show w.heap.size + 1 ≠ w1.heap.size by omega)
              have q2 := y2.set (.slice (some ⟨g1, 0, none⟩) (k + 1) cap1)
              have q3 := hb1.setCell (p := ⟨w1.heap.size, 0, none⟩) (by show _ ≤ w1.heap.size; omega) (.slice (some ⟨g1, 0, none⟩) (k + 1) cap1)
              clear hown1 hg1 S1 HK HKK
              go_wp2
              exact ⟨⟨k + 1, _, _, by omega, by go_num, q0, q1, q2, by show _; rw [HX.out]; exact HOn.out, q3⟩, by simp [intOf]; omega⟩
    · obtain rfl : k = n := by omega
      have e : fs.take k = fs := List.take_of_length_le (by omega)
      have hown' := hown.out
      rw [e] at hown'
      have r0 := x1.cell
      have r1 := x1.frozen
      have s1 := (x1.set (.slice a' k c')).cell
      have HO2 := hideIt (own_setLow hown' (w.heap.size + 1) 0 (.slice a' k c') (by omega))
      have q3 := hb.setCell (p := ⟨w.heap.size + 1, 0, none⟩) (by show _ ≤ w.heap.size + 1; omega) (.slice a' k c')
      clear hown hown' e
      go_wp2
      exact bodyPost_ret (v := .tuple #[.agg #[.slice a' k c'], .bool true]) (by simp [results, Try.results23, go_sem, s1]) rfl ⟨a', k, c', rfl, own_mono HO2.out (by omega), q3⟩

theorem sLoseDisk_any (fs : List FileV) (ls : List Int) (hlet : fs.length + letters fs ≤ 1048576) (n : Nat) (a : Option Addr) (c : Nat) (ln : Nat) (al : Option Addr) (cl : Nat) (_ : ln ≤ 1048576) (w : World) (h : Fs w w.heap.size a n fs) (hl : Is w w.heap.size al ln ls) :
    Calls Try.prog 23 #[.agg #[.slice a n c], .slice al ln cl] w (ActAns w (loseO fs ls)) := by
  by_cases hd : DiskR fs
  · exact sLoseDisk_ok fs ls n a c ln al cl w h hl hd
  · exact sLoseDisk_bad fs ls (fits_of hlet) n a c (by unfold maxLen; have := h.1; omega) ln al cl w h hd
end Go.Proofs.Ytibcdpnodikpiai
