/- What the program's DoActs answers. -/
import Derived.Test.YtibcdpnodikpiaiIEach
import Derived.Test.YtibcdpnodikpiaiLawSt
namespace Go.Proofs.Ytibcdpnodikpiai
open Go.RowKit Go.WideMaps Go.Maps

/-- what DoActs answers -/
def ActsAns (w : World) (P : List FileV × Nat) (e : Ending) (w' : World) : Prop :=
  ∃ a m c, e = .returned (.tuple #[.agg #[.slice a m c], .int .i64 (P.2 : Int)]) ∧ w'.ownsRow w.heap.size 63 3 (.slice a m c) m (fcells P.1) ∧ Below w.heap.size w w'

/-- the worlds of the argument and the answer laid -/
def w2A (w : World) (a : Option Addr) (n c : Nat) : World := (w.alloc (.cells #[.slice a n c] 31)).alloc (.cells #[.slice none 0 0] 31)
theorem w2A_below (w : World) (a : Option Addr) (n c : Nat) : Below w.heap.size w (w2A w a n c) := ((Below.refl _ _).alloc (Nat.le_refl _) _).alloc (by simp) _
theorem w2A_size (w : World) (a : Option Addr) (n c : Nat) : (w2A w a n c).heap.size = w.heap.size + 2 := by simp [w2A]
theorem w2A_box0 (w : World) (a : Option Addr) (n c : Nat) : Box (w2A w a n c) w.heap.size 31 (.slice a n c) := (Box.new w _ _ _ rfl).alloc _
theorem w2A_box1 (w : World) (a : Option Addr) (n c : Nat) : Box (w2A w a n c) (w.heap.size + 1) 31 (.slice none 0 0) := Box.new _ _ _ _ (by simp)

set_option maxRecDepth 100000 in
set_option maxHeartbeats 8000000 in
theorem iDoActs_ok (fs : List FileV) (n : Nat) (a : Option Addr) (c : Nat) (xs : List ActV) (hx : FitsA xs) (na : Nat) (aa : Option Addr) (ca : Nat) (hna : na ≤ 1048576) (w : World) (h : Fs w w.heap.size a n fs) (ha : As w w.heap.size aa na xs) (hd : DiskR fs) :
    Calls Try.prog 20 #[.agg #[.slice a n c], .slice aa na ca] w (ActsAns w (runActs fs xs)) := by
  have hn30 : n ≤ 30 := by rw [← h.1]; exact hd.1
  have H := iDiskOk_any fs (disk_fits hd) n a c (by unfold maxLen; omega) (w2A w a n c) (h.up (w2A_below w a n c))
  rw [dB_true hd] at H
  have HD := hideIt H
  have HF := hideIt h
  have HA := hideIt ha
  have HX := hideIt hx
  have HDR := hideIt hd
  have HRD := hideIt (run_disk xs fs hd)
  clear H h ha hx hd
  unfold ActsAns
  generalize hP : runActs fs xs = P at *
  go_enter Try.func20, Try.ntmps20
  go_wp2_with (go_at_call 39; refine (show Calls Try.prog 39 #[.agg #[.slice a n c]] (w2A w a n c) _ from HD.out).mono ?_; rintro e w1 ⟨rfl, hb1⟩; refine Hid.out ?_)
  refine (show ∀ {p : Prop}, p → Hid p from fun h => h) ?_
  have y0 := (w2A_box0 w a n c).below hb1 (by rw [w2A_size]; omega)
  have y1 := (w2A_box1 w a n c).below hb1 (by rw [w2A_size]; omega)
  have K1 := (w2A_below w a n c).trans (hb1.mono (by rw [w2A_size]; omega))
  have z1 : w.heap.size + 2 ≤ w1.heap.size := by have := hb1.size; rw [w2A_size] at this; exact this
  have e0 := y0.cell
  have HTb := hideIt (tableOf_any fs n a c w1 HDR.out (HF.out.up K1))
  clear HD hb1
  go_wp2_with (go_at_call 40; refine HTb.out.mono ?_; rintro e w2 ⟨M, loc, D, rfl, hT2, hb2⟩; refine Hid.out ?_)
  refine (show ∀ {p : Prop}, p → Hid p from fun h => h) ?_
  have HE := hideIt (tDoEach_any w2 w1.heap.size M loc fs D hT2 HDR.out xs HX.out na aa ca hna ((HA.out.up K1).below hb2 (Nat.le_refl _)))
  rw [hP] at HE
  clear HTb e0
  go_wp2_with (go_at_call 47; refine HE.out.mono ?_; rintro e w3 ⟨rfl, hT3, hb3⟩; refine Hid.out ?_)
  refine (show ∀ {p : Prop}, p → Hid p from fun h => h) ?_
  have y13 := (y1.below hb2 (by omega)).below hb3 (by omega)
  have K3 := (K1.trans (hb2.mono (by omega))).trans (hb3.mono (by omega))
  have z3 : w1.heap.size ≤ w3.heap.size := by have := hb2.size; have := hb3.size; omega
  obtain ⟨loc3, D3, T3⟩ := hT3
  have HTd := hideIt (tDisk_any w3 w1.heap.size M loc3 P.1 D3 T3 HRD.out)
  clear HE hT2 T3 hb2 hb3 y0 y1 K1
  go_wp2_with (go_at_call 42; refine HTd.out.mono ?_; rintro e w4 ⟨g, c', rfl, hown, hb4⟩; refine Hid.out ?_)
  refine (show ∀ {p : Prop}, p → Hid p from fun h => h) ?_
  have y14 := y13.below hb4 (by omega)
  have K4 := K3.trans (hb4.mono (by omega))
  have r0 := y14.cell
  have r1 := y14.frozen
  have s1 := (y14.set (.slice (some ⟨g, 0, none⟩) P.1.length c')).cell
  have HO := hideIt (own_mono (own_setLow hown (w.heap.size + 1) 0 (.slice (some ⟨g, 0, none⟩) P.1.length c') (by omega)) (show w.heap.size ≤ _ by omega))
  have q1 := hideIt (K4.setCell (p := ⟨w.heap.size + 1, 0, none⟩) (by show w.heap.size ≤ w.heap.size + 1; omega) (.slice (some ⟨g, 0, none⟩) P.1.length c'))
  clear hown hb4 HTd y13 y14 K3 K4
  go_wp2
  exact bodyPost_ret (v := .tuple #[.agg #[.slice (some ⟨g, 0, none⟩) P.1.length c'], .int .i64 (P.2 : Int)]) (by simp [results, Try.results20, go_sem, s1]) rfl ⟨_, _, _, rfl, HO.out, q1.out⟩

set_option maxRecDepth 100000 in
set_option maxHeartbeats 8000000 in
theorem iDoActs_bad (fs : List FileV) (hlet : fs.length + letters fs ≤ 1048576) (n : Nat) (a : Option Addr) (c : Nat) (xs : List ActV) (na : Nat) (aa : Option Addr) (ca : Nat) (w : World) (h : Fs w w.heap.size a n fs) (hd : ¬ DiskR fs) :
    Calls Try.prog 20 #[.agg #[.slice a n c], .slice aa na ca] w (ActsAns w (runActs fs xs)) := by
  have hn1 : n ≤ 1048576 := by have := h.1; omega
  have H := iDiskOk_any fs (fits_of hlet) n a c (by unfold maxLen; omega) (w2A w a n c) (h.up (w2A_below w a n c))
  rw [dB_false hd] at H
  rw [run_bad hd]
  obtain ⟨i0, hi, hz0, hz1, hz2⟩ := info_parts infoIF
  have hmk : ∀ u : World, (Instr.makeSlice 29 (.int .i64 0) (.int .i64 (n : Int))).run Try.prog u =
      .ok (.slice (some ⟨u.heap.size, 0, none⟩) 0 n) (u.alloc (.cells (madeCells #[.string .empty, .string .empty, .int .i64 0] (n * 3)) 63)) := fun u => by
    have h := run_make (P := Try.prog) u 29 63 i0 _ Try.underlying29 hi hz0 .i64 .i64 0 (n : Int) (by omega) (by omega) (by rw [hz2]; omega) (by omega)
    rw [Int.toNat_natCast] at h
    simpa [hz1, Value.cells] using h
  have HD := hideIt H
  obtain ⟨hlen, hrow⟩ := h
  have HR := hideIt hrow
  have HLt := hideIt hlet
  unfold ActsAns
  clear H hd hrow hlet
  go_enter Try.func20, Try.ntmps20
  go_wp2_with (go_at_call 39; refine (show Calls Try.prog 39 #[.agg #[.slice a n c]] (w2A w a n c) _ from HD.out).mono ?_; rintro e w1 ⟨rfl, hb1⟩; refine Hid.out ?_)
  refine (show ∀ {p : Prop}, p → Hid p from fun h => h) ?_
  have y0 := (w2A_box0 w a n c).below hb1 (by rw [w2A_size]; omega)
  have y1 := (w2A_box1 w a n c).below hb1 (by rw [w2A_size]; omega)
  have K1 := (w2A_below w a n c).trans (hb1.mono (by rw [w2A_size]; omega))
  have z1 : w.heap.size + 2 ≤ w1.heap.size := by have := hb1.size; rw [w2A_size] at this; exact this
  have z0 : w.heap.size < w1.heap.size := by omega
  have e0 := y0.cell
  clear HD hb1
  go_wp2
  go_loopw [6, 21] (fun s i wr => ∃ (k g cap : Nat), k ≤ n ∧ i = .int .i64 (k : Int) ∧ s = .slice (some ⟨g, 0, none⟩) k cap ∧ w1.heap.size ≤ g ∧ Box wr (w.heap.size + 1) 31 (.slice none 0 0) ∧
      Hid (wr.ownsRow w1.heap.size 63 3 (.slice (some ⟨g, 0, none⟩) k cap) k (fcells (fs.take k))) ∧ Below w.heap.size w wr ∧ w1.heap.size ≤ wr.heap.size) (fun _ i _ => n - (intOf i).toNat)
  case atStart =>
    refine ⟨0, _, _, by omega, rfl, rfl, Nat.le_refl _, y1.alloc _, ?_, K1.alloc (by omega) _, by simp⟩
    exact World.ownsRow_made (base := w1.heap.size) (e := 63) (size := 3) w1 (madeCells #[.string .empty, .string .empty, .int .i64 0] (n * 3)) n (Nat.le_refl _) (by unfold maxLen; omega) (by simp [madeCells])
  case round =>
    obtain ⟨k, g, cap, hk, rfl, rfl, hg, x1, hown, hb, hz⟩ := hrel
    by_cases hlt : k < n
    · rcases HR.out with hz' | ⟨b, off, rfl, hbl, hc⟩
      · omega
      · obtain ⟨f, hf⟩ : ∃ f, fs[k]? = some f := ⟨fs[k]'(by omega), List.getElem?_eq_getElem (by omega)⟩
        obtain ⟨c0, c1, c2⟩ := hc k f hf
        have d0 : wr.cell? ⟨b, off + k * 3, none⟩ = some (.string f.name) := by rw [hb.cell hbl]; exact c0
        have d1 : wr.cell? ⟨b, off + k * 3 + 1, none⟩ = some (.string f.text) := by rw [hb.cell hbl]; exact c1
        have d2 : wr.cell? ⟨b, off + k * 3 + 2, none⟩ = some (.int .i64 f.kept) := by rw [hb.cell hbl]; exact c2
        have b1 : (0 : Int) ≤ (k : Int) := by omega
        have b2 : (k : Int) < (n : Int) := by omega
        have hbw : b < wr.heap.size := by omega
        have hlm := letters_mem (List.mem_of_getElem? hf)
        have hlt2 := HLt.out
        have HC := hideIt (fun u => copyOf_any f (by omega) (by omega) u)
        have HTk := hideIt (take_snocF fs k f hf)
        have HO := hideIt hown.out
        clear hc c0 c1 c2 hf hown
        go_wp2_with (go_at_call 46; refine (HC.out _).mono ?_; rintro e w4 ⟨rfl, hb4⟩; refine Hid.out ?_)
        refine (show ∀ {p : Prop}, p → Hid p from fun h => h) ?_
        have KB : Below wr.heap.size wr w4 := Below.trans ((Below.refl _ _).alloc (Nat.le_refl _) _) (hb4.mono (by simp))
        have hs4 := KB.size
        have own4 := World.ownsRow.kept HO.out (grown_of_below' KB none) (.inr (by simp [Value.ownBlock]))
        have x14 := x1.below KB x1.lt
        have K4 := hb.trans (KB.mono (by omega))
        have hs0 : w1.heap.size ≤ w4.heap.size := by omega
        clear hb4
        go_wp2_with (at_builtin; refine wpList_append_lies _ rfl _ _ 29 rfl w1.heap.size 63 i0 _ 3 40 Try.underlying29 hi hz0 hz1 hz2 rfl (by decide) _ _ _ rfl (own4.alloc _) ⟨w4.heap.size, 0, none⟩ 1 1 [.string f.name, .string f.text, .int .i64 f.kept] rfl rfl (World.news_of_block (cs := #[.string f.name, .string f.text, .int .i64 f.kept]) (t := 63) (fr := (0, 0)) (heap_alloc_new w4 _)) (by simp [Value.oneCell']) (by omega) (by unfold maxLen; omega) (by omega) (by simp; omega) (w4.heap.size + 1) (by simp) ?_; intro g1 cap1 w5 hown5 hg5 hat5 hlt5)
        have hg6 : (w4.alloc (.cells #[.string f.name, .string f.text, .int .i64 f.kept] 63)).grownBy w5 (some g) := hg5
        have lg := (hown5.lt g1 rfl).1
        have hz5 := hg6.size
        simp at hz5
        refine ⟨⟨k + 1, g1, cap1, by omega, by go_num, rfl, lg, (x14.alloc _).grown hg6 (by simp; omega), ?_, ((K4.alloc (by omega) _).grown hg6 (by simp; omega) (fun j hj => by cases hj; omega)), by omega⟩, by simp [intOf]; omega⟩
        show _
        rw [HTk.out, fcells_snoc]
        exact hown5
    · obtain rfl : k = n := by omega
      have e : fs.take k = fs := List.take_of_length_le (by omega)
      have hown' := hown.out
      rw [e] at hown'
      have r0 := x1.cell
      have r1 := x1.frozen
      have s1 := (x1.set (.slice (some ⟨g, 0, none⟩) k cap)).cell
      have HO2 := hideIt (own_setLow hown' (w.heap.size + 1) 0 (.slice (some ⟨g, 0, none⟩) k cap) (by omega))
      have q3 := hb.setCell (p := ⟨w.heap.size + 1, 0, none⟩) (by show _ ≤ w.heap.size + 1; omega) (.slice (some ⟨g, 0, none⟩) k cap)
      clear hown hown' e
      go_wp2
      exact bodyPost_ret (v := .tuple #[.agg #[.slice (some ⟨g, 0, none⟩) k cap], .int .i64 0]) (by simp [results, Try.results20, go_sem, s1]) rfl ⟨_, k, _, rfl, own_mono HO2.out (by omega), q3⟩

theorem iDoActs_any (fs : List FileV) (hlet : fs.length + letters fs ≤ 1048576) (n : Nat) (a : Option Addr) (c : Nat) (xs : List ActV) (hx : FitsA xs) (na : Nat) (aa : Option Addr) (ca : Nat) (hna : na ≤ 1048576) (w : World) (h : Fs w w.heap.size a n fs) (ha : As w w.heap.size aa na xs) :
    Calls Try.prog 20 #[.agg #[.slice a n c], .slice aa na ca] w (ActsAns w (runActs fs xs)) := by
  by_cases hd : DiskR fs
  · exact iDoActs_ok fs n a c xs hx na aa ca hna w h ha hd
  · exact iDoActs_bad fs hlet n a c xs na aa ca w h hd
end Go.Proofs.Ytibcdpnodikpiai
