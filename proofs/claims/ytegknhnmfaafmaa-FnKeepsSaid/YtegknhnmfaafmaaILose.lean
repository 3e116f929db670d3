/- What the program's LoseDisk answers. -/
import Derived.Test.YtegknhnmfaafmaaLose
import Derived.Test.YtegknhnmfaafmaaIsR
import Derived.Test.YtegknhnmfaafmaaSAct3
import Derived.Test.YtegknhnmfaafmaaIDisk
import Derived.Test.YtegknhnmfaafmaaICopy
import Derived.Deep.AppendLies
namespace Go.Proofs.Ytegknhnmfaafmaa
open Go.RowKit

/-- the worlds of the argument and the answer laid -/
def w2I (w : World) (a : Option Addr) (n c : Nat) : World := (w.alloc (.cells #[.slice a n c] 26)).alloc (.cells #[.slice none 0 0] 26)
theorem w2I_below (w : World) (a : Option Addr) (n c : Nat) : Below w.heap.size w (w2I w a n c) := ((Below.refl _ _).alloc (Nat.le_refl _) _).alloc (by simp) _
theorem w2I_size (w : World) (a : Option Addr) (n c : Nat) : (w2I w a n c).heap.size = w.heap.size + 2 := by simp [w2I]
theorem w2I_box0 (w : World) (a : Option Addr) (n c : Nat) : Box (w2I w a n c) w.heap.size 26 (.slice a n c) := (Box.new w _ _ _ rfl).alloc _
theorem w2I_box1 (w : World) (a : Option Addr) (n c : Nat) : Box (w2I w a n c) (w.heap.size + 1) 26 (.slice none 0 0) := Box.new _ _ _ _ (by simp)

theorem iLoseDisk_bad (fs : List FileV) (ls : List Int) (hfit : FitsF fs) (n : Nat) (a : Option Addr) (c : Nat) (hn : n ≤ maxLen) (ln : Nat) (al : Option Addr) (cl : Nat) (w : World) (h : Fs w w.heap.size a n fs) (hd : ¬ DiskR fs) :
    Calls Try.prog 9 #[.agg #[.slice a n c], .slice al ln cl] w (ActAns w (loseO fs ls)) := by
  have H := iDiskOk_any fs hfit n a c hn (w2I w a n c) (h.up (w2I_below w a n c))
  rw [dB_false hd] at H
  have HD := hideIt H
  rw [loseO_no hd]
  unfold ActAns
  dsimp only
  clear H hd h
  go_enter Try.func9, Try.ntmps9
  go_wp2_with (go_at_call 12; refine (show Calls Try.prog 12 #[.agg #[.slice a n c]] (w2I w a n c) _ from HD.out).mono ?_; rintro e w1 ⟨rfl, hb1⟩; refine Hid.out ?_)
  refine (show ∀ {p : Prop}, p → Hid p from fun h => h) ?_
  have b1 := (w2I_box1 w a n c).below hb1 (by rw [w2I_size]; omega)
  have c5 := b1.cell
  have f5 := b1.frozen
  have s1 := (b1.set (.slice none 0 0)).cell
  have q1 := ((w2I_below w a n c).trans (hb1.mono (by rw [w2I_size]; omega))).setCell (p := ⟨w.heap.size + 1, 0, none⟩) (by show w.heap.size ≤ w.heap.size + 1; omega) (.slice none 0 0)
  clear HD hb1 b1
  go_wp2
  exact bodyPost_ret (v := .tuple #[.agg #[.slice none 0 0], .bool false]) (by simp [results, Try.results9, go_sem, s1]) rfl ⟨rfl, q1⟩

set_option maxRecDepth 100000 in
set_option maxHeartbeats 8000000 in
theorem iLoseDisk_ok (fs : List FileV) (ls : List Int) (n : Nat) (a : Option Addr) (c : Nat) (ln : Nat) (al : Option Addr) (cl : Nat) (w : World) (h : Fs w w.heap.size a n fs) (hl : Is w w.heap.size al ln ls) (hd : DiskR fs) :
    Calls Try.prog 9 #[.agg #[.slice a n c], .slice al ln cl] w (ActAns w (loseO fs ls)) := by
  have hn30 : n ≤ 30 := by rw [← h.1]; exact hd.1
  have H := iDiskOk_any fs (disk_fits hd) n a c (by unfold maxLen; omega) (w2I w a n c) (h.up (w2I_below w a n c))
  rw [dB_true hd] at H
  obtain ⟨i0, hi, hz0, hz1, hz2⟩ := info_parts infoIF
  have hmk : ∀ u : World, (Instr.makeSlice 24 (.int .i64 0) (.int .i64 (n : Int))).run Try.prog u =
      .ok (.slice (some ⟨u.heap.size, 0, none⟩) 0 n) (u.alloc (.cells (madeCells #[.string .empty, .string .empty, .int .i64 0] (n * 3)) 36)) := fun u => by
    have h := run_make (P := Try.prog) u 24 36 i0 _ Try.underlying24 hi hz0 .i64 .i64 0 (n : Int) (by omega) (by omega) (by rw [hz2]; omega) (by omega)
    rw [Int.toNat_natCast] at h
    simpa [hz1, Value.cells] using h
  have HD := hideIt H
  obtain ⟨hlen, hrow⟩ := h
  obtain ⟨hlenL, hrowL⟩ := hl
  have HR := hideIt hrow
  have HL := hideIt hrowL
  have HDR := hideIt hd
  rw [loseO_yes hd]
  unfold ActAns
  dsimp only
  clear H hd hrow hrowL
  go_enter Try.func9, Try.ntmps9
  go_wp2_with (go_at_call 12; refine (show Calls Try.prog 12 #[.agg #[.slice a n c]] (w2I w a n c) _ from HD.out).mono ?_; rintro e w1 ⟨rfl, hb1⟩; refine Hid.out ?_)
  refine (show ∀ {p : Prop}, p → Hid p from fun h => h) ?_
  have y0 := (w2I_box0 w a n c).below hb1 (by rw [w2I_size]; omega)
  have y1 := (w2I_box1 w a n c).below hb1 (by rw [w2I_size]; omega)
  have K1 := (w2I_below w a n c).trans (hb1.mono (by rw [w2I_size]; omega))
  have z1 : w.heap.size + 2 ≤ w1.heap.size := by have := hb1.size; rw [w2I_size] at this; exact this
  have e0 := y0.cell
  have z0 : w.heap.size < w1.heap.size := by omega
  clear HD hb1
  go_wp2
  go_loopw [6, 22] (fun s i wr => ∃ (k g cap : Nat), k ≤ n ∧ i = .int .i64 (k : Int) ∧ s = .slice (some ⟨g, 0, none⟩) k cap ∧ w1.heap.size ≤ g ∧ Box wr (w.heap.size + 1) 26 (.slice none 0 0) ∧
      Hid (wr.ownsRow w1.heap.size 36 3 (.slice (some ⟨g, 0, none⟩) k cap) k (fcells (lose (fs.take k) ls))) ∧ Below w.heap.size w wr ∧ w1.heap.size ≤ wr.heap.size) (fun _ i _ => n - (intOf i).toNat)
  case atStart =>
    refine ⟨0, _, _, by omega, rfl, rfl, Nat.le_refl _, y1.alloc _, ?_, K1.alloc (by omega) _, by simp⟩
    exact World.ownsRow_made (base := w1.heap.size) (e := 36) (size := 3) w1 (madeCells #[.string .empty, .string .empty, .int .i64 0] (n * 3)) n (Nat.le_refl _) (by unfold maxLen; omega) (by simp [madeCells])
  case round =>
    obtain ⟨k, g, cap, hk, rfl, rfl, hg, x1, hown, hb, hz⟩ := hrel
    by_cases hlt : k < n
    · rcases HR.out with hz' | ⟨b, off, rfl, hbl, hc⟩
      · omega
      · obtain ⟨f, hf⟩ : ∃ f, fs[k]? = some f := ⟨fs[k]'(by omega), List.getElem?_eq_getElem (by omega)⟩
        obtain ⟨c0, c1, c2⟩ := hc k f hf
        have d0 : wr.cell? ⟨b, off + k * 3, none⟩ = some (.string f.name) := by rw [hb.cell hbl]; exact c0
        have d1 : wr.cell? ⟨b, off + k * 3 + 1, none⟩ = some (.string f.text) := by rw [hb.cell hbl]; exact c1
        have d2 : wr.cell? ⟨b, off + k * 3 + 2, none⟩ = some (.int .i64 f.kept) := by rw [hb.cell hbl]; exact c2
        have b1 : (0 : Int) ≤ (k : Int) := by omega
        have b2 : (k : Int) < (n : Int) := by omega
        have hok := disk_at HDR.out hf
        obtain ⟨hnm, ht1, hk0, hk1⟩ := hok
        have hbw : b < wr.heap.size := by omega
        clear hc c0 c1 c2
        by_cases hkl : k < ln
        · rcases HL.out with hz' | ⟨bl, ol, rfl, hbll, hcl⟩
          · omega
          · obtain ⟨x, hx⟩ : ∃ x, ls[k]? = some x := ⟨ls[k]'(by omega), List.getElem?_eq_getElem (by omega)⟩
            have e9 : wr.cell? ⟨bl, ol + k, none⟩ = some (.int .i64 x) := by rw [hb.cell hbll]; exact hcl k x hx
            have hblw : bl < wr.heap.size := by omega
            have b3 : (k : Int) < (ln : Int) := by omega
            have d3 : decide ((k : Int) < (ln : Int)) = true := by simp; omega
            clear hcl
            have hv : cutI f ls[k]? = max f.kept (min x (f.text.size : Int)) := by unfold cutI; rw [hx]; rfl
            have v0 : (0 : Int) ≤ max f.kept (min x (f.text.size : Int)) := by omega
            have v1 : max f.kept (min x (f.text.size : Int)) ≤ (f.text.size : Int) := by omega
            have HX : Hid (fcells (lose (fs.take (k + 1)) ls) = fcells (lose (fs.take k) ls) ++ [.string f.name, .string (f.text.extract 0 (max f.kept (min x (f.text.size : Int))).toNat), .int .i64 (max f.kept (min x (f.text.size : Int)))]) := by
              show _ = _
              rw [lose_take ls hf, fcells_snoc]
              unfold cutF
              rw [hv]
            have HC := hideIt (fun u => copyOf_any ⟨f.name, f.text.extract 0 (max f.kept (min x (f.text.size : Int))).toNat, max f.kept (min x (f.text.size : Int))⟩ (by show f.name.size ≤ _; omega) (by show (f.text.extract 0 (max f.kept (min x (f.text.size : Int))).toNat).size ≤ _; rw [ByteArray.size_extract]; omega) u)
            have HO := hideIt hown.out
            clear hf hown hv
            go_wp2
            go_region
            go_wp2
            go_region
            all_goals
              go_wp2_with (go_at_call 27; refine (HC.out _).mono ?_; rintro e w4 ⟨rfl, hb4⟩; refine Hid.out ?_)
              refine (show ∀ {p : Prop}, p → Hid p from fun h => h) ?_
              have KB : Below wr.heap.size wr w4 := Below.trans (by first | exact ((((Below.refl _ _).alloc (Nat.le_refl _) _).alloc (by simp) _).drew).drew | exact (((Below.refl _ _).alloc (Nat.le_refl _) _).alloc (by simp) _).drew) (hb4.mono (by simp; omega))
              have hs4 := KB.size
              have own4 := World.ownsRow.kept HO.out (grown_of_below' KB none) (.inr (by simp [Value.ownBlock]))
              have x14 := x1.below KB x1.lt
              have K4 := hb.trans (KB.mono (by omega))
              have hs0 : w1.heap.size ≤ w4.heap.size := by omega
              clear hb4
              go_wp2_with (at_builtin; refine wpList_append_lies _ rfl _ _ 24 rfl w1.heap.size 36 i0 _ 3 40 Try.underlying24 hi hz0 hz1 hz2 rfl (by decide) _ _ _ rfl (own4.alloc _) ⟨w4.heap.size, 0, none⟩ 1 1 [.string f.name, .string (f.text.extract 0 (max f.kept (min x (f.text.size : Int))).toNat), .int .i64 (max f.kept (min x (f.text.size : Int)))] rfl rfl (World.news_of_block (cs := #[.string f.name, .string (f.text.extract 0 (max f.kept (min x (f.text.size : Int))).toNat), .int .i64 (max f.kept (min x (f.text.size : Int)))]) (t := 36) (fr := (0, 0)) (heap_alloc_new w4 _)) (by simp [Value.oneCell']) (by omega) (by unfold maxLen; omega) (by omega) (by simp; omega) (w4.heap.size + 1) (by simp) ?_; intro g1 cap1 w5 hown5 hg5 hat5 hlt5)
              have hg6 : (w4.alloc (.cells #[.string f.name, .string (f.text.extract 0 (max f.kept (min x (f.text.size : Int))).toNat), .int .i64 (max f.kept (min x (f.text.size : Int)))] 36)).grownBy w5 (some g) := hg5
              have lg := (hown5.lt g1 rfl).1
              have hz5 := hg6.size
              simp at hz5
              refine ⟨⟨k + 1, g1, cap1, by omega, by go_num, rfl, lg, (x14.alloc _).grown hg6 (by simp; omega), ?_, ((K4.alloc (by omega) _).grown hg6 (by simp; omega) (fun j hj => by cases hj; omega)), by omega⟩, by simp [intOf]; omega⟩
              show _
              rw [HX.out]
              exact hown5
        · have hlk : ls[k]? = none := List.getElem?_eq_none (by omega)
          have d3 : decide ((k : Int) < (ln : Int)) = false := by simp; omega
          have hv : cutI f ls[k]? = f.kept := by unfold cutI; rw [hlk]; simp only [Option.getD]; omega
          have v0 : (0 : Int) ≤ f.kept := by omega
          have v1 : f.kept ≤ (f.text.size : Int) := by omega
          have HX : Hid (fcells (lose (fs.take (k + 1)) ls) = fcells (lose (fs.take k) ls) ++ [.string f.name, .string (f.text.extract 0 (f.kept).toNat), .int .i64 (f.kept)]) := by
            show _ = _
            rw [lose_take ls hf, fcells_snoc]
            unfold cutF
            rw [hv]
          have HC := hideIt (fun u => copyOf_any ⟨f.name, f.text.extract 0 (f.kept).toNat, f.kept⟩ (by show f.name.size ≤ _; omega) (by show (f.text.extract 0 (f.kept).toNat).size ≤ _; rw [ByteArray.size_extract]; omega) u)
          have HO := hideIt hown.out
          clear hf hown hv
          go_wp2
          go_region
          all_goals
            go_wp2_with (go_at_call 27; refine (HC.out _).mono ?_; rintro e w4 ⟨rfl, hb4⟩; refine Hid.out ?_)
            refine (show ∀ {p : Prop}, p → Hid p from fun h => h) ?_
            have KB : Below wr.heap.size wr w4 := Below.trans (by first | exact ((((Below.refl _ _).alloc (Nat.le_refl _) _).alloc (by simp) _).drew).drew | exact (((Below.refl _ _).alloc (Nat.le_refl _) _).alloc (by simp) _).drew) (hb4.mono (by simp; omega))
            have hs4 := KB.size
            have own4 := World.ownsRow.kept HO.out (grown_of_below' KB none) (.inr (by simp [Value.ownBlock]))
            have x14 := x1.below KB x1.lt
            have K4 := hb.trans (KB.mono (by omega))
            have hs0 : w1.heap.size ≤ w4.heap.size := by omega
            clear hb4
            go_wp2_with (at_builtin; refine wpList_append_lies _ rfl _ _ 24 rfl w1.heap.size 36 i0 _ 3 40 Try.underlying24 hi hz0 hz1 hz2 rfl (by decide) _ _ _ rfl (own4.alloc _) ⟨w4.heap.size, 0, none⟩ 1 1 [.string f.name, .string (f.text.extract 0 (f.kept).toNat), .int .i64 (f.kept)] rfl rfl (World.news_of_block (cs := #[.string f.name, .string (f.text.extract 0 (f.kept).toNat), .int .i64 (f.kept)]) (t := 36) (fr := (0, 0)) (heap_alloc_new w4 _)) (by simp [Value.oneCell']) (by omega) (by unfold maxLen; omega) (by omega) (by simp; omega) (w4.heap.size + 1) (by simp) ?_; intro g1 cap1 w5 hown5 hg5 hat5 hlt5)
            have hg6 : (w4.alloc (.cells #[.string f.name, .string (f.text.extract 0 (f.kept).toNat), .int .i64 (f.kept)] 36)).grownBy w5 (some g) := hg5
            have lg := (hown5.lt g1 rfl).1
            have hz5 := hg6.size
            simp at hz5
            refine ⟨⟨k + 1, g1, cap1, by omega, by go_num, rfl, lg, (x14.alloc _).grown hg6 (by simp; omega), ?_, ((K4.alloc (by omega) _).grown hg6 (by simp; omega) (fun j hj => by cases hj; omega)), by omega⟩, by simp [intOf]; omega⟩
            show _
            rw [HX.out]
            exact hown5
    · obtain rfl : k = n := by omega
      have e : fs.take k = fs := List.take_of_length_le (by omega)
      have hown' := hown.out
      rw [e] at hown'
      have r0 := x1.cell
      have r1 := x1.frozen
      have s1 := (x1.set (.slice (some ⟨g, 0, none⟩) k cap)).cell
      have HO2 := hideIt (own_setLow hown' (w.heap.size + 1) 0 (.slice (some ⟨g, 0, none⟩) k cap) (by omega))
      have q3 := hb.setCell (p := ⟨w.heap.size + 1, 0, none⟩) (by show _ ≤ w.heap.size + 1; omega) (.slice (some ⟨g, 0, none⟩) k cap)
      clear hown hown' e
      go_wp2
      exact bodyPost_ret (v := .tuple #[.agg #[.slice (some ⟨g, 0, none⟩) k cap], .bool true]) (by simp [results, Try.results9, go_sem, s1]) rfl ⟨_, k, _, rfl, own_mono HO2.out (by omega), q3⟩

theorem iLoseDisk_any (fs : List FileV) (ls : List Int) (hlet : fs.length + letters fs ≤ 1048576) (n : Nat) (a : Option Addr) (c : Nat) (ln : Nat) (al : Option Addr) (cl : Nat) (_ : ln ≤ 1048576) (w : World) (h : Fs w w.heap.size a n fs) (hl : Is w w.heap.size al ln ls) :
    Calls Try.prog 9 #[.agg #[.slice a n c], .slice al ln cl] w (ActAns w (loseO fs ls)) := by
  by_cases hd : DiskR fs
  · exact iLoseDisk_ok fs ls n a c ln al cl w h hl hd
  · exact iLoseDisk_bad fs ls (fits_of hlet) n a c (by unfold maxLen; have := h.1; omega) ln al cl w h hd
end Go.Proofs.Ytegknhnmfaafmaa
