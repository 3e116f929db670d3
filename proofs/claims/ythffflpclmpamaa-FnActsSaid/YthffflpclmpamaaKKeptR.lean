/- What the program's doEach and DoActs make. What the program's DoActs answers. What the program's LoseDisk answers. What the program's CutActs answers. What the program's DoAct answers at every list of files and every act. When all of each file is kept. -/
import Derived.Test.YthffflpclmpamaaKITDisk
import Derived.Test.YthffflpclmpamaaKPq16
import Derived.Test.YthffflpclmpamaaKSLose
import Derived.Test.YthffflpclmpamaaKFigs
import Derived.Test.YthffflpclmpamaaKOrder
import Derived.Deep.AppendLies
import Derived.Test.YthffflpclmpamaaKINames
import Derived.Test.YthffflpclmpamaaKSFiles
namespace Go.Proofs.Ythffflpclmpamaa
open Go.RowKit Go.WideMaps Go.Maps

set_option maxRecDepth 100000 in
set_option maxHeartbeats 4000000 in
theorem tDoEach_any (W : World) (B M : Nat) (loc : ByteArray → Nat) (fs : List FileV) (D : DataW Unit) (T : Tab W B M loc fs D) (hd : DiskR fs) (xs : List ActV) (hx : FitsA xs) (n : Nat) (a : Option Addr) (c : Nat) (hn : n ≤ 1048576) (h : As W B a n xs) :
    Calls Try.prog 21 #[.map (some M), .slice a n c] W fun e w' => e = .returned (.int .i64 ((runActs fs xs).2 : Int)) ∧ (∃ loc' D', Tab w' B M loc' (runActs fs xs).1 D') ∧ Below B W w' := by
  obtain ⟨hlen, hrow⟩ := h
  have HR := hideIt hrow
  have HX := hideIt hx
  have HT := hideIt T
  have HDR := hideIt hd
  have hB := T.base_le
  clear T hd hrow hx
  generalize hP : runActs fs xs = P
  have HP := hideIt hP
  clear hP
  go_enter Try.func21, Try.ntmps21
  go_wp2
  go_loopw [9] (fun i wr => ∃ (k : Nat) (gs : List FileV), k ≤ n ∧ i = .int .i64 (k : Int) ∧ Hid (Ran fs xs k gs ∧ DiskR gs ∧ ∃ loc D, Tab wr B M loc gs D) ∧ Below B W wr) (fun i _ => n - (intOf i).toNat)
  case atStart => exact ⟨0, fs, by omega, rfl, ⟨Ran.start _ _, HDR.out, loc, D, HT.out⟩, Below.refl _ _⟩
  case round =>
    obtain ⟨k, gs, hk, rfl, hI, hb⟩ := hrel
    have hsz := hb.size
    by_cases hlt : k < n
    · rcases HR.out with hz | ⟨b, off, rfl, hbl, hc⟩
      · omega
      · obtain ⟨x, hf⟩ : ∃ f, xs[k]? = some f := ⟨xs[k]'(by omega), List.getElem?_eq_getElem (by omega)⟩
        obtain ⟨c0, c1, c2, c3⟩ := hc k x hf
        have e0 : wr.cell? ⟨b, off + k * 4, none⟩ = some (.int .i64 x.kind) := by rw [hb.cell hbl]; exact c0
        have e1 : wr.cell? ⟨b, off + k * 4 + 1, none⟩ = some (.string x.name) := by rw [hb.cell hbl]; exact c1
        have e2 : wr.cell? ⟨b, off + k * 4 + 2, none⟩ = some (.string x.text) := by rw [hb.cell hbl]; exact c2
        have e3 : wr.cell? ⟨b, off + k * 4 + 3, none⟩ = some (.string x.to) := by rw [hb.cell hbl]; exact c3
        have b1 : (0 : Int) ≤ (k : Int) := by omega
        have b2 : (k : Int) < (n : Int) := by omega
        have hbw : b < wr.heap.size := by omega
        obtain ⟨hran, hdg, loc1, D1, T1⟩ := hI.out
        have H := hideIt (tDo_any _ B M loc1 gs D1 (T1.alloc (.cells #[.int .i64 x.kind, .string x.name, .string x.text, .string x.to] 37)) hdg x (HX.out x (List.mem_of_getElem? hf)))
        have K := hideIt (hb.alloc (by omega) (.cells #[.int .i64 x.kind, .string x.name, .string x.text, .string x.to] 37))
        cases ho : doAct gs x with
        | none =>
          have HE : Hid (P = (gs, k)) := by show P = (gs, k); rw [← HP.out]; exact hran.stop hf ho
          rw [ho] at H
          unfold Done at H
          clear hc c0 c1 c2 c3 hf hI hran hdg T1 ho
          go_wp2_with (go_at_call 24; refine H.out.mono ?_; rintro e w1 ⟨rfl, hT1, hb1⟩)
          go_ret
          rw [HE.out]
          exact ⟨rfl, hT1, K.out.trans hb1⟩
        | some hs =>
          have HE : Hid (Ran fs xs (k + 1) hs ∧ DiskR hs) := ⟨hran.step hf ho, doAct_disk ho⟩
          rw [ho] at H
          unfold Done at H
          clear hc c0 c1 c2 c3 hf hI hran hdg T1 ho
          go_wp2_with (go_at_call 24; refine H.out.mono ?_; rintro e w1 ⟨rfl, hT1, hb1⟩)
          go_roundw
          case rel => exact ⟨k + 1, hs, by omega, by go_num, ⟨HE.out.1, HE.out.2, hT1⟩, K.out.trans hb1⟩
          case measure => simp [intOf]; omega
    · obtain rfl : k = n := by omega
      have HE : Hid (P = (gs, k)) := by
        show P = (gs, k)
        have := hI.out.1
        subst hlen
        rw [← HP.out]
        exact this.done
      have HT2 := hideIt hI.out.2.2
      clear hI
      go_wp2
      go_ret
      rw [HE.out]
      exact ⟨rfl, HT2.out, hb⟩
end Go.Proofs.Ythffflpclmpamaa
namespace Go.Proofs.Ythffflpclmpamaa
open Go.RowKit Go.WideMaps Go.Maps

/-- what DoActs answers -/
def ActsAns (w : World) (P : List FileV × Nat) (e : Ending) (w' : World) : Prop :=
  ∃ a m c, e = .returned (.tuple #[.agg #[.slice a m c], .int .i64 (P.2 : Int)]) ∧ w'.ownsRow w.heap.size 49 3 (.slice a m c) m (fcells P.1) ∧ Below w.heap.size w w'

/-- the worlds of the argument and the answer laid -/
def w2A (w : World) (a : Option Addr) (n c : Nat) : World := (w.alloc (.cells #[.slice a n c] 26)).alloc (.cells #[.slice none 0 0] 26)
theorem w2A_below (w : World) (a : Option Addr) (n c : Nat) : Below w.heap.size w (w2A w a n c) := ((Below.refl _ _).alloc (Nat.le_refl _) _).alloc (by simp) _
theorem w2A_size (w : World) (a : Option Addr) (n c : Nat) : (w2A w a n c).heap.size = w.heap.size + 2 := by simp [w2A]
theorem w2A_box0 (w : World) (a : Option Addr) (n c : Nat) : Box (w2A w a n c) w.heap.size 26 (.slice a n c) := (Box.new w _ _ _ rfl).alloc _
theorem w2A_box1 (w : World) (a : Option Addr) (n c : Nat) : Box (w2A w a n c) (w.heap.size + 1) 26 (.slice none 0 0) := Box.new _ _ _ _ (by simp)

set_option maxRecDepth 100000 in
set_option maxHeartbeats 8000000 in
theorem iDoActs_ok (fs : List FileV) (n : Nat) (a : Option Addr) (c : Nat) (xs : List ActV) (hx : FitsA xs) (na : Nat) (aa : Option Addr) (ca : Nat) (hna : na ≤ 1048576) (w : World) (h : Fs w w.heap.size a n fs) (ha : As w w.heap.size aa na xs) (hd : DiskR fs) :
    Calls Try.prog 6 #[.agg #[.slice a n c], .slice aa na ca] w (ActsAns w (runActs fs xs)) := by
  have hn30 : n ≤ 30 := by rw [← h.1]; exact hd.1
  have H := iDiskOk_any fs (disk_fits hd) n a c (by unfold maxLen; omega) (w2A w a n c) (h.up (w2A_below w a n c))
  rw [dB_true hd] at H
  have HD := hideIt H
  have HF := hideIt h
  have HA := hideIt ha
  have HX := hideIt hx
  have HDR := hideIt hd
  have HRD := hideIt (run_disk xs fs hd)
  clear H h ha hx hd
  unfold ActsAns
  generalize hP : runActs fs xs = P at *
  go_enter Try.func6, Try.ntmps6
  go_wp2_with (go_at_call 18; refine (show Calls Try.prog 18 #[.agg #[.slice a n c]] (w2A w a n c) _ from HD.out).mono ?_; rintro e w1 ⟨rfl, hb1⟩; refine Hid.out ?_)
  refine (show ∀ {p : Prop}, p → Hid p from fun h => h) ?_
  have y0 := (w2A_box0 w a n c).below hb1 (by rw [w2A_size]; omega)
  have y1 := (w2A_box1 w a n c).below hb1 (by rw [w2A_size]; omega)
  have K1 := (w2A_below w a n c).trans (hb1.mono (by rw [w2A_size]; omega))
  have z1 : w.heap.size + 2 ≤ w1.heap.size := by have := hb1.size; rw [w2A_size] at this; exact this
  have e0 := y0.cell
  have HTb := hideIt (tableOf_any fs n a c w1 HDR.out (HF.out.up K1))
  clear HD hb1
  go_wp2_with (go_at_call 20; refine HTb.out.mono ?_; rintro e w2 ⟨M, loc, D, rfl, hT2, hb2⟩; refine Hid.out ?_)
  refine (show ∀ {p : Prop}, p → Hid p from fun h => h) ?_
  have HE := hideIt (tDoEach_any w2 w1.heap.size M loc fs D hT2 HDR.out xs HX.out na aa ca hna ((HA.out.up K1).below hb2 (Nat.le_refl _)))
  rw [hP] at HE
  clear HTb e0
  go_wp2_with (go_at_call 21; refine HE.out.mono ?_; rintro e w3 ⟨rfl, hT3, hb3⟩; refine Hid.out ?_)
  refine (show ∀ {p : Prop}, p → Hid p from fun h => h) ?_
  have y13 := (y1.below hb2 (by omega)).below hb3 (by omega)
  have K3 := (K1.trans (hb2.mono (by omega))).trans (hb3.mono (by omega))
  have z3 : w1.heap.size ≤ w3.heap.size := by have := hb2.size; have := hb3.size; omega
  obtain ⟨loc3, D3, T3⟩ := hT3
  have HTd := hideIt (tDisk_any w3 w1.heap.size M loc3 P.1 D3 T3 HRD.out)
  clear HE hT2 T3 hb2 hb3 y0 y1 K1
  go_wp2_with (go_at_call 22; refine HTd.out.mono ?_; rintro e w4 ⟨g, c', rfl, hown, hb4⟩; refine Hid.out ?_)
  refine (show ∀ {p : Prop}, p → Hid p from fun h => h) ?_
  have y14 := y13.below hb4 (by omega)
  have K4 := K3.trans (hb4.mono (by omega))
  have r0 := y14.cell
  have r1 := y14.frozen
  have s1 := (y14.set (.slice (some ⟨g, 0, none⟩) P.1.length c')).cell
  have HO := hideIt (own_mono (own_setLow hown (w.heap.size + 1) 0 (.slice (some ⟨g, 0, none⟩) P.1.length c') (by omega)) (show w.heap.size ≤ _ by omega))
  have q1 := hideIt (K4.setCell (p := ⟨w.heap.size + 1, 0, none⟩) (by show w.heap.size ≤ w.heap.size + 1; omega) (.slice (some ⟨g, 0, none⟩) P.1.length c'))
  clear hown hb4 HTd y13 y14 K3 K4
  go_wp2
  exact bodyPost_ret (v := .tuple #[.agg #[.slice (some ⟨g, 0, none⟩) P.1.length c'], .int .i64 (P.2 : Int)]) (by simp [results, Try.results6, go_sem, s1]) rfl ⟨_, _, _, rfl, HO.out, q1.out⟩

set_option maxRecDepth 100000 in
set_option maxHeartbeats 8000000 in
theorem iDoActs_bad (fs : List FileV) (hlet : fs.length + letters fs ≤ 1048576) (n : Nat) (a : Option Addr) (c : Nat) (xs : List ActV) (na : Nat) (aa : Option Addr) (ca : Nat) (w : World) (h : Fs w w.heap.size a n fs) (hd : ¬ DiskR fs) :
    Calls Try.prog 6 #[.agg #[.slice a n c], .slice aa na ca] w (ActsAns w (runActs fs xs)) := by
  have hn1 : n ≤ 1048576 := by have := h.1; omega
  have H := iDiskOk_any fs (fits_of hlet) n a c (by unfold maxLen; omega) (w2A w a n c) (h.up (w2A_below w a n c))
  rw [dB_false hd] at H
  rw [run_bad hd]
  obtain ⟨i0, hi, hz0, hz1, hz2⟩ := info_parts infoIF
  have hmk : ∀ u : World, (Instr.makeSlice 24 (.int .i64 0) (.int .i64 (n : Int))).run Try.prog u =
      .ok (.slice (some ⟨u.heap.size, 0, none⟩) 0 n) (u.alloc (.cells (madeCells #[.string .empty, .string .empty, .int .i64 0] (n * 3)) 49)) := fun u => by
    have h := run_make (P := Try.prog) u 24 49 i0 _ Try.underlying24 hi hz0 .i64 .i64 0 (n : Int) (by omega) (by omega) (by rw [hz2]; omega) (by omega)
    rw [Int.toNat_natCast] at h
    simpa [hz1, Value.cells] using h
  have HD := hideIt H
  obtain ⟨hlen, hrow⟩ := h
  have HR := hideIt hrow
  have HLt := hideIt hlet
  unfold ActsAns
  clear H hd hrow hlet
  go_enter Try.func6, Try.ntmps6
  go_wp2_with (go_at_call 18; refine (show Calls Try.prog 18 #[.agg #[.slice a n c]] (w2A w a n c) _ from HD.out).mono ?_; rintro e w1 ⟨rfl, hb1⟩; refine Hid.out ?_)
  refine (show ∀ {p : Prop}, p → Hid p from fun h => h) ?_
  have y0 := (w2A_box0 w a n c).below hb1 (by rw [w2A_size]; omega)
  have y1 := (w2A_box1 w a n c).below hb1 (by rw [w2A_size]; omega)
  have K1 := (w2A_below w a n c).trans (hb1.mono (by rw [w2A_size]; omega))
  have z1 : w.heap.size + 2 ≤ w1.heap.size := by have := hb1.size; rw [w2A_size] at this; exact this
  have z0 : w.heap.size < w1.heap.size := by omega
  have e0 := y0.cell
  clear HD hb1
  go_wp2
  go_loopw [6, 21] (fun s i wr => ∃ (k g cap : Nat), k ≤ n ∧ i = .int .i64 (k : Int) ∧ s = .slice (some ⟨g, 0, none⟩) k cap ∧ w1.heap.size ≤ g ∧ Box wr (w.heap.size + 1) 26 (.slice none 0 0) ∧
      Hid (wr.ownsRow w1.heap.size 49 3 (.slice (some ⟨g, 0, none⟩) k cap) k (fcells (fs.take k))) ∧ Below w.heap.size w wr ∧ w1.heap.size ≤ wr.heap.size) (fun _ i _ => n - (intOf i).toNat)
  case atStart =>
    refine ⟨0, _, _, by omega, rfl, rfl, Nat.le_refl _, y1.alloc _, ?_, K1.alloc (by omega) _, by simp⟩
    exact World.ownsRow_made (base := w1.heap.size) (e := 49) (size := 3) w1 (madeCells #[.string .empty, .string .empty, .int .i64 0] (n * 3)) n (Nat.le_refl _) (by unfold maxLen; omega) (by simp [madeCells])
  case round =>
    obtain ⟨k, g, cap, hk, rfl, rfl, hg, x1, hown, hb, hz⟩ := hrel
    by_cases hlt : k < n
    · rcases HR.out with hz' | ⟨b, off, rfl, hbl, hc⟩
      · omega
      · obtain ⟨f, hf⟩ : ∃ f, fs[k]? = some f := ⟨fs[k]'(by omega), List.getElem?_eq_getElem (by omega)⟩
        obtain ⟨c0, c1, c2⟩ := hc k f hf
        have d0 : wr.cell? ⟨b, off + k * 3, none⟩ = some (.string f.name) := by rw [hb.cell hbl]; exact c0
        have d1 : wr.cell? ⟨b, off + k * 3 + 1, none⟩ = some (.string f.text) := by rw [hb.cell hbl]; exact c1
        have d2 : wr.cell? ⟨b, off + k * 3 + 2, none⟩ = some (.int .i64 f.kept) := by rw [hb.cell hbl]; exact c2
        have b1 : (0 : Int) ≤ (k : Int) := by omega
        have b2 : (k : Int) < (n : Int) := by omega
        have hbw : b < wr.heap.size := by omega
        have hlm := letters_mem (List.mem_of_getElem? hf)
        have hlt2 := HLt.out
        have HC := hideIt (fun u => copyOf_any f (by omega) (by omega) u)
        have HTk := hideIt (take_snocF fs k f hf)
        have HO := hideIt hown.out
        clear hc c0 c1 c2 hf hown
        go_wp2_with (go_at_call 19; refine (HC.out _).mono ?_; rintro e w4 ⟨rfl, hb4⟩; refine Hid.out ?_)
        refine (show ∀ {p : Prop}, p → Hid p from fun h => h) ?_
        have KB : Below wr.heap.size wr w4 := Below.trans ((Below.refl _ _).alloc (Nat.le_refl _) _) (hb4.mono (by simp))
        have hs4 := KB.size
        have own4 := World.ownsRow.kept HO.out (grown_of_below' KB none) (.inr (by simp [Value.ownBlock]))
        have x14 := x1.below KB x1.lt
        have K4 := hb.trans (KB.mono (by omega))
        have hs0 : w1.heap.size ≤ w4.heap.size := by omega
        clear hb4
        go_wp2_with (at_builtin; refine wpList_append_lies _ rfl _ _ 24 rfl w1.heap.size 49 i0 _ 3 40 Try.underlying24 hi hz0 hz1 hz2 rfl (by decide) _ _ _ rfl (own4.alloc _) ⟨w4.heap.size, 0, none⟩ 1 1 [.string f.name, .string f.text, .int .i64 f.kept] rfl rfl (World.news_of_block (cs := #[.string f.name, .string f.text, .int .i64 f.kept]) (t := 49) (fr := (0, 0)) (heap_alloc_new w4 _)) (by simp [Value.oneCell']) (by omega) (by unfold maxLen; omega) (by omega) (by simp; omega) (w4.heap.size + 1) (by simp) ?_; intro g1 cap1 w5 hown5 hg5 hat5 hlt5)
        have hg6 : (w4.alloc (.cells #[.string f.name, .string f.text, .int .i64 f.kept] 49)).grownBy w5 (some g) := hg5
        have lg := (hown5.lt g1 rfl).1
        have hz5 := hg6.size
        simp at hz5
        refine ⟨⟨k + 1, g1, cap1, by omega, by go_num, rfl, lg, (x14.alloc _).grown hg6 (by simp; omega), ?_, ((K4.alloc (by omega) _).grown hg6 (by simp; omega) (fun j hj => by cases hj; omega)), by omega⟩, by simp [intOf]; omega⟩
        show _
        rw [HTk.out, fcells_snoc]
        exact hown5
    · obtain rfl : k = n := by omega
      have e : fs.take k = fs := List.take_of_length_le (by omega)
      have hown' := hown.out
      rw [e] at hown'
      have r0 := x1.cell
      have r1 := x1.frozen
      have s1 := (x1.set (.slice (some ⟨g, 0, none⟩) k cap)).cell
      have HO2 := hideIt (own_setLow hown' (w.heap.size + 1) 0 (.slice (some ⟨g, 0, none⟩) k cap) (by omega))
      have q3 := hb.setCell (p := ⟨w.heap.size + 1, 0, none⟩) (by show _ ≤ w.heap.size + 1; omega) (.slice (some ⟨g, 0, none⟩) k cap)
      clear hown hown' e
      go_wp2
      exact bodyPost_ret (v := .tuple #[.agg #[.slice (some ⟨g, 0, none⟩) k cap], .int .i64 0]) (by simp [results, Try.results6, go_sem, s1]) rfl ⟨_, k, _, rfl, own_mono HO2.out (by omega), q3⟩

theorem iDoActs_any (fs : List FileV) (hlet : fs.length + letters fs ≤ 1048576) (n : Nat) (a : Option Addr) (c : Nat) (xs : List ActV) (hx : FitsA xs) (na : Nat) (aa : Option Addr) (ca : Nat) (hna : na ≤ 1048576) (w : World) (h : Fs w w.heap.size a n fs) (ha : As w w.heap.size aa na xs) :
    Calls Try.prog 6 #[.agg #[.slice a n c], .slice aa na ca] w (ActsAns w (runActs fs xs)) := by
  by_cases hd : DiskR fs
  · exact iDoActs_ok fs n a c xs hx na aa ca hna w h ha hd
  · exact iDoActs_bad fs hlet n a c xs na aa ca w h hd
end Go.Proofs.Ythffflpclmpamaa
namespace Go.Proofs.Ythffflpclmpamaa
open Go.RowKit

/-- the worlds of the argument and the answer laid -/
def w2I (w : World) (a : Option Addr) (n c : Nat) : World := (w.alloc (.cells #[.slice a n c] 26)).alloc (.cells #[.slice none 0 0] 26)
theorem w2I_below (w : World) (a : Option Addr) (n c : Nat) : Below w.heap.size w (w2I w a n c) := ((Below.refl _ _).alloc (Nat.le_refl _) _).alloc (by simp) _
theorem w2I_size (w : World) (a : Option Addr) (n c : Nat) : (w2I w a n c).heap.size = w.heap.size + 2 := by simp [w2I]
theorem w2I_box0 (w : World) (a : Option Addr) (n c : Nat) : Box (w2I w a n c) w.heap.size 26 (.slice a n c) := (Box.new w _ _ _ rfl).alloc _
theorem w2I_box1 (w : World) (a : Option Addr) (n c : Nat) : Box (w2I w a n c) (w.heap.size + 1) 26 (.slice none 0 0) := Box.new _ _ _ _ (by simp)

theorem iLoseDisk_bad (fs : List FileV) (ls : List Int) (hfit : FitsF fs) (n : Nat) (a : Option Addr) (c : Nat) (hn : n ≤ maxLen) (ln : Nat) (al : Option Addr) (cl : Nat) (w : World) (h : Fs w w.heap.size a n fs) (hd : ¬ DiskR fs) :
    Calls Try.prog 26 #[.agg #[.slice a n c], .slice al ln cl] w (ActAns w (loseO fs ls)) := by
  have H := iDiskOk_any fs hfit n a c hn (w2I w a n c) (h.up (w2I_below w a n c))
  rw [dB_false hd] at H
  have HD := hideIt H
  rw [loseO_no hd]
  unfold ActAns
  dsimp only
  clear H hd h
  go_enter Try.func26, Try.ntmps26
  go_wp2_with (go_at_call 18; refine (show Calls Try.prog 18 #[.agg #[.slice a n c]] (w2I w a n c) _ from HD.out).mono ?_; rintro e w1 ⟨rfl, hb1⟩; refine Hid.out ?_)
  refine (show ∀ {p : Prop}, p → Hid p from fun h => h) ?_
  have b1 := (w2I_box1 w a n c).below hb1 (by rw [w2I_size]; omega)
  have c5 := b1.cell
  have f5 := b1.frozen
  have s1 := (b1.set (.slice none 0 0)).cell
  have q1 := ((w2I_below w a n c).trans (hb1.mono (by rw [w2I_size]; omega))).setCell (p := ⟨w.heap.size + 1, 0, none⟩) (by show w.heap.size ≤ w.heap.size + 1; omega) (.slice none 0 0)
  clear HD hb1 b1
  go_wp2
  exact bodyPost_ret (v := .tuple #[.agg #[.slice none 0 0], .bool false]) (by simp [results, Try.results26, go_sem, s1]) rfl ⟨rfl, q1⟩

set_option maxRecDepth 100000 in
set_option maxHeartbeats 8000000 in
theorem iLoseDisk_ok (fs : List FileV) (ls : List Int) (n : Nat) (a : Option Addr) (c : Nat) (ln : Nat) (al : Option Addr) (cl : Nat) (w : World) (h : Fs w w.heap.size a n fs) (hl : Is w w.heap.size al ln ls) (hd : DiskR fs) :
    Calls Try.prog 26 #[.agg #[.slice a n c], .slice al ln cl] w (ActAns w (loseO fs ls)) := by
  have hn30 : n ≤ 30 := by rw [← h.1]; exact hd.1
  have H := iDiskOk_any fs (disk_fits hd) n a c (by unfold maxLen; omega) (w2I w a n c) (h.up (w2I_below w a n c))
  rw [dB_true hd] at H
  obtain ⟨i0, hi, hz0, hz1, hz2⟩ := info_parts infoIF
  have hmk : ∀ u : World, (Instr.makeSlice 24 (.int .i64 0) (.int .i64 (n : Int))).run Try.prog u =
      .ok (.slice (some ⟨u.heap.size, 0, none⟩) 0 n) (u.alloc (.cells (madeCells #[.string .empty, .string .empty, .int .i64 0] (n * 3)) 49)) := fun u => by
    have h := run_make (P := Try.prog) u 24 49 i0 _ Try.underlying24 hi hz0 .i64 .i64 0 (n : Int) (by omega) (by omega) (by rw [hz2]; omega) (by omega)
    rw [Int.toNat_natCast] at h
    simpa [hz1, Value.cells] using h
  have HD := hideIt H
  obtain ⟨hlen, hrow⟩ := h
  obtain ⟨hlenL, hrowL⟩ := hl
  have HR := hideIt hrow
  have HL := hideIt hrowL
  have HDR := hideIt hd
  rw [loseO_yes hd]
  unfold ActAns
  dsimp only
  clear H hd hrow hrowL
  go_enter Try.func26, Try.ntmps26
  go_wp2_with (go_at_call 18; refine (show Calls Try.prog 18 #[.agg #[.slice a n c]] (w2I w a n c) _ from HD.out).mono ?_; rintro e w1 ⟨rfl, hb1⟩; refine Hid.out ?_)
  refine (show ∀ {p : Prop}, p → Hid p from fun h => h) ?_
  have y0 := (w2I_box0 w a n c).below hb1 (by rw [w2I_size]; omega)
  have y1 := (w2I_box1 w a n c).below hb1 (by rw [w2I_size]; omega)
  have K1 := (w2I_below w a n c).trans (hb1.mono (by rw [w2I_size]; omega))
  have z1 : w.heap.size + 2 ≤ w1.heap.size := by have := hb1.size; rw [w2I_size] at this; exact this
  have e0 := y0.cell
  have z0 : w.heap.size < w1.heap.size := by omega
  clear HD hb1
  go_wp2
  go_loopw [6, 22] (fun s i wr => ∃ (k g cap : Nat), k ≤ n ∧ i = .int .i64 (k : Int) ∧ s = .slice (some ⟨g, 0, none⟩) k cap ∧ w1.heap.size ≤ g ∧ Box wr (w.heap.size + 1) 26 (.slice none 0 0) ∧
      Hid (wr.ownsRow w1.heap.size 49 3 (.slice (some ⟨g, 0, none⟩) k cap) k (fcells (lose (fs.take k) ls))) ∧ Below w.heap.size w wr ∧ w1.heap.size ≤ wr.heap.size) (fun _ i _ => n - (intOf i).toNat)
  case atStart =>
    refine ⟨0, _, _, by omega, rfl, rfl, Nat.le_refl _, y1.alloc _, ?_, K1.alloc (by omega) _, by simp⟩
    exact World.ownsRow_made (base := w1.heap.size) (e := 49) (size := 3) w1 (madeCells #[.string .empty, .string .empty, .int .i64 0] (n * 3)) n (Nat.le_refl _) (by unfold maxLen; omega) (by simp [madeCells])
  case round =>
    obtain ⟨k, g, cap, hk, rfl, rfl, hg, x1, hown, hb, hz⟩ := hrel
    by_cases hlt : k < n
    · rcases HR.out with hz' | ⟨b, off, rfl, hbl, hc⟩
      · omega
      · obtain ⟨f, hf⟩ : ∃ f, fs[k]? = some f := ⟨fs[k]'(by omega), List.getElem?_eq_getElem (by omega)⟩
        obtain ⟨c0, c1, c2⟩ := hc k f hf
        have d0 : wr.cell? ⟨b, off + k * 3, none⟩ = some (.string f.name) := by rw [hb.cell hbl]; exact c0
        have d1 : wr.cell? ⟨b, off + k * 3 + 1, none⟩ = some (.string f.text) := by rw [hb.cell hbl]; exact c1
        have d2 : wr.cell? ⟨b, off + k * 3 + 2, none⟩ = some (.int .i64 f.kept) := by rw [hb.cell hbl]; exact c2
        have b1 : (0 : Int) ≤ (k : Int) := by omega
        have b2 : (k : Int) < (n : Int) := by omega
        have hok := disk_at HDR.out hf
        obtain ⟨hnm, ht1, hk0, hk1⟩ := hok
        have hbw : b < wr.heap.size := by omega
        clear hc c0 c1 c2
        by_cases hkl : k < ln
        · rcases HL.out with hz' | ⟨bl, ol, rfl, hbll, hcl⟩
          · omega
          · obtain ⟨x, hx⟩ : ∃ x, ls[k]? = some x := ⟨ls[k]'(by omega), List.getElem?_eq_getElem (by omega)⟩
            have e9 : wr.cell? ⟨bl, ol + k, none⟩ = some (.int .i64 x) := by rw [hb.cell hbll]; exact hcl k x hx
            have hblw : bl < wr.heap.size := by omega
            have b3 : (k : Int) < (ln : Int) := by omega
            have d3 : decide ((k : Int) < (ln : Int)) = true := by simp; omega
            clear hcl
            have hv : cutI f ls[k]? = max f.kept (min x (f.text.size : Int)) := by unfold cutI; rw [hx]; rfl
            have v0 : (0 : Int) ≤ max f.kept (min x (f.text.size : Int)) := by omega
            have v1 : max f.kept (min x (f.text.size : Int)) ≤ (f.text.size : Int) := by omega
            have HX : Hid (fcells (lose (fs.take (k + 1)) ls) = fcells (lose (fs.take k) ls) ++ [.string f.name, .string (f.text.extract 0 (max f.kept (min x (f.text.size : Int))).toNat), .int .i64 (max f.kept (min x (f.text.size : Int)))]) := by
              show _ = _
              rw [lose_take ls hf, fcells_snoc]
              unfold cutF
              rw [hv]
            have HC := hideIt (fun u => copyOf_any ⟨f.name, f.text.extract 0 (max f.kept (min x (f.text.size : Int))).toNat, max f.kept (min x (f.text.size : Int))⟩ (by show f.name.size ≤ _; omega) (by show (f.text.extract 0 (max f.kept (min x (f.text.size : Int))).toNat).size ≤ _; rw [ByteArray.size_extract]; omega) u)
            have HO := hideIt hown.out
            clear hf hown hv
            go_wp2
            go_region
            go_wp2
            go_region
            all_goals
              go_wp2_with (go_at_call 19; refine (HC.out _).mono ?_; rintro e w4 ⟨rfl, hb4⟩; refine Hid.out ?_)
              refine (show ∀ {p : Prop}, p → Hid p from fun h => h) ?_
              have KB : Below wr.heap.size wr w4 := Below.trans (by first | exact ((((Below.refl _ _).alloc (Nat.le_refl _) _).alloc (by simp) _).drew).drew | exact (((Below.refl _ _).alloc (Nat.le_refl _) _).alloc (by simp) _).drew) (hb4.mono (by simp; omega))
              have hs4 := KB.size
              have own4 := World.ownsRow.kept HO.out (grown_of_below' KB none) (.inr (by simp [Value.ownBlock]))
              have x14 := x1.below KB x1.lt
              have K4 := hb.trans (KB.mono (by omega))
              have hs0 : w1.heap.size ≤ w4.heap.size := by omega
              clear hb4
              go_wp2_with (at_builtin; refine wpList_append_lies _ rfl _ _ 24 rfl w1.heap.size 49 i0 _ 3 40 Try.underlying24 hi hz0 hz1 hz2 rfl (by decide) _ _ _ rfl (own4.alloc _) ⟨w4.heap.size, 0, none⟩ 1 1 [.string f.name, .string (f.text.extract 0 (max f.kept (min x (f.text.size : Int))).toNat), .int .i64 (max f.kept (min x (f.text.size : Int)))] rfl rfl (World.news_of_block (cs := #[.string f.name, .string (f.text.extract 0 (max f.kept (min x (f.text.size : Int))).toNat), .int .i64 (max f.kept (min x (f.text.size : Int)))]) (t := 49) (fr := (0, 0)) (heap_alloc_new w4 _)) (by simp [Value.oneCell']) (by omega) (by unfold maxLen; omega) (by omega) (by simp; omega) (w4.heap.size + 1) (by simp) ?_; intro g1 cap1 w5 hown5 hg5 hat5 hlt5)
              have hg6 : (w4.alloc (.cells #[.string f.name, .string (f.text.extract 0 (max f.kept (min x (f.text.size : Int))).toNat), .int .i64 (max f.kept (min x (f.text.size : Int)))] 49)).grownBy w5 (some g) := hg5
              have lg := (hown5.lt g1 rfl).1
              have hz5 := hg6.size
              simp at hz5
              refine ⟨⟨k + 1, g1, cap1, by omega, by go_num, rfl, lg, (x14.alloc _).grown hg6 (by simp; omega), ?_, ((K4.alloc (by omega) _).grown hg6 (by simp; omega) (fun j hj => by cases hj; omega)), by omega⟩, by simp [intOf]; omega⟩
              show _
              rw [HX.out]
              exact hown5
        · have hlk : ls[k]? = none := List.getElem?_eq_none (by omega)
          have d3 : decide ((k : Int) < (ln : Int)) = false := by simp; omega
          have hv : cutI f ls[k]? = f.kept := by unfold cutI; rw [hlk]; simp only [Option.getD]; omega
          have v0 : (0 : Int) ≤ f.kept := by omega
          have v1 : f.kept ≤ (f.text.size : Int) := by omega
          have HX : Hid (fcells (lose (fs.take (k + 1)) ls) = fcells (lose (fs.take k) ls) ++ [.string f.name, .string (f.text.extract 0 (f.kept).toNat), .int .i64 (f.kept)]) := by
            show _ = _
            rw [lose_take ls hf, fcells_snoc]
            unfold cutF
            rw [hv]
          have HC := hideIt (fun u => copyOf_any ⟨f.name, f.text.extract 0 (f.kept).toNat, f.kept⟩ (by show f.name.size ≤ _; omega) (by show (f.text.extract 0 (f.kept).toNat).size ≤ _; rw [ByteArray.size_extract]; omega) u)
          have HO := hideIt hown.out
          clear hf hown hv
          go_wp2
          go_region
          all_goals
            go_wp2_with (go_at_call 19; refine (HC.out _).mono ?_; rintro e w4 ⟨rfl, hb4⟩; refine Hid.out ?_)
            refine (show ∀ {p : Prop}, p → Hid p from fun h => h) ?_
            have KB : Below wr.heap.size wr w4 := Below.trans (by first | exact ((((Below.refl _ _).alloc (Nat.le_refl _) _).alloc (by simp) _).drew).drew | exact (((Below.refl _ _).alloc (Nat.le_refl _) _).alloc (by simp) _).drew) (hb4.mono (by simp; omega))
            have hs4 := KB.size
            have own4 := World.ownsRow.kept HO.out (grown_of_below' KB none) (.inr (by simp [Value.ownBlock]))
            have x14 := x1.below KB x1.lt
            have K4 := hb.trans (KB.mono (by omega))
            have hs0 : w1.heap.size ≤ w4.heap.size := by omega
            clear hb4
            go_wp2_with (at_builtin; refine wpList_append_lies _ rfl _ _ 24 rfl w1.heap.size 49 i0 _ 3 40 Try.underlying24 hi hz0 hz1 hz2 rfl (by decide) _ _ _ rfl (own4.alloc _) ⟨w4.heap.size, 0, none⟩ 1 1 [.string f.name, .string (f.text.extract 0 (f.kept).toNat), .int .i64 (f.kept)] rfl rfl (World.news_of_block (cs := #[.string f.name, .string (f.text.extract 0 (f.kept).toNat), .int .i64 (f.kept)]) (t := 49) (fr := (0, 0)) (heap_alloc_new w4 _)) (by simp [Value.oneCell']) (by omega) (by unfold maxLen; omega) (by omega) (by simp; omega) (w4.heap.size + 1) (by simp) ?_; intro g1 cap1 w5 hown5 hg5 hat5 hlt5)
            have hg6 : (w4.alloc (.cells #[.string f.name, .string (f.text.extract 0 (f.kept).toNat), .int .i64 (f.kept)] 49)).grownBy w5 (some g) := hg5
            have lg := (hown5.lt g1 rfl).1
            have hz5 := hg6.size
            simp at hz5
            refine ⟨⟨k + 1, g1, cap1, by omega, by go_num, rfl, lg, (x14.alloc _).grown hg6 (by simp; omega), ?_, ((K4.alloc (by omega) _).grown hg6 (by simp; omega) (fun j hj => by cases hj; omega)), by omega⟩, by simp [intOf]; omega⟩
            show _
            rw [HX.out]
            exact hown5
    · obtain rfl : k = n := by omega
      have e : fs.take k = fs := List.take_of_length_le (by omega)
      have hown' := hown.out
      rw [e] at hown'
      have r0 := x1.cell
      have r1 := x1.frozen
      have s1 := (x1.set (.slice (some ⟨g, 0, none⟩) k cap)).cell
      have HO2 := hideIt (own_setLow hown' (w.heap.size + 1) 0 (.slice (some ⟨g, 0, none⟩) k cap) (by omega))
      have q3 := hb.setCell (p := ⟨w.heap.size + 1, 0, none⟩) (by show _ ≤ w.heap.size + 1; omega) (.slice (some ⟨g, 0, none⟩) k cap)
      clear hown hown' e
      go_wp2
      exact bodyPost_ret (v := .tuple #[.agg #[.slice (some ⟨g, 0, none⟩) k cap], .bool true]) (by simp [results, Try.results26, go_sem, s1]) rfl ⟨_, k, _, rfl, own_mono HO2.out (by omega), q3⟩

theorem iLoseDisk_any (fs : List FileV) (ls : List Int) (hlet : fs.length + letters fs ≤ 1048576) (n : Nat) (a : Option Addr) (c : Nat) (ln : Nat) (al : Option Addr) (cl : Nat) (_ : ln ≤ 1048576) (w : World) (h : Fs w w.heap.size a n fs) (hl : Is w w.heap.size al ln ls) :
    Calls Try.prog 26 #[.agg #[.slice a n c], .slice al ln cl] w (ActAns w (loseO fs ls)) := by
  by_cases hd : DiskR fs
  · exact iLoseDisk_ok fs ls n a c ln al cl w h hl hd
  · exact iLoseDisk_bad fs ls (fits_of hlet) n a c (by unfold maxLen; have := h.1; omega) ln al cl w h hd
end Go.Proofs.Ythffflpclmpamaa
namespace Go.Proofs.Ythffflpclmpamaa
open Go.RowKit Go.WideMaps Go.Maps

/-- where CutActs stands: her answer, all else as it was -/
structure CutAt (w u : World) : Prop where
  x1 : Box u (w.heap.size + 1) 26 (.slice none 0 0)
  size : w.heap.size + 2 ≤ u.heap.size
  below : Below w.heap.size w u
theorem CutAt.upB {w u v : World} {C : Nat} (h : CutAt w u) (hb : Below C u v) (hC : w.heap.size + 2 ≤ C) : CutAt w v :=
  ⟨h.x1.below hb (by omega), Nat.le_trans h.size hb.size, h.below.trans (hb.mono (by omega))⟩
theorem CutAt.up {w u v : World} (h : CutAt w u) (hb : Below u.heap.size u v) : CutAt w v := h.upB hb h.size
theorem CutAt.start (w : World) (a : Option Addr) (n c : Nat) : CutAt w (w2A w a n c) := ⟨w2A_box1 w a n c, by rw [w2A_size]; omega, w2A_below w a n c⟩
theorem CutAt.set {w u : World} (h : CutAt w u) (v : Value) : (u.setCell ⟨w.heap.size + 1, 0, none⟩ v).cell? ⟨w.heap.size + 1, 0, none⟩ = some v ∧ Below w.heap.size w (u.setCell ⟨w.heap.size + 1, 0, none⟩ v) :=
  ⟨(h.x1.set v).cell, h.below.setCell (p := ⟨w.heap.size + 1, 0, none⟩) (by show w.heap.size ≤ w.heap.size + 1; omega) v⟩

set_option maxRecDepth 100000 in
set_option maxHeartbeats 8000000 in
theorem iCutActs_any (fs : List FileV) (hlet : fs.length + letters fs ≤ 1048576) (n : Nat) (a : Option Addr) (c : Nat) (xs : List ActV) (hx : FitsA xs) (na : Nat) (ga oa : Nat) (ca : Nat) (hna : na ≤ 1048576) (hca : na ≤ ca) (z : Int) (ls : List Int) (ln : Nat) (al : Option Addr) (cl : Nat) (hln : ln ≤ 1048576)
    (w : World) (h : Fs w w.heap.size a n fs) (ha : As w w.heap.size (some ⟨ga, oa, none⟩) na xs) (hl : Is w w.heap.size al ln ls) :
    Calls Try.prog 11 #[.agg #[.slice a n c], .slice (some ⟨ga, oa, none⟩) na ca, .int .i64 z, .slice al ln cl] w (ActAns w (cutO fs xs z ls)) := by
  have hn : n ≤ maxLen := by unfold maxLen; have := h.1; omega
  have H := iDiskOk_any fs (fits_of hlet) n a c hn (w2A w a n c) (h.up (w2A_below w a n c))
  have hlenA := ha.1
  by_cases hd : DiskR fs
  · rw [dB_true hd] at H
    have HD := hideIt H
    have HF := hideIt h
    have HA := hideIt ha
    have HL := hideIt hl
    have HX := hideIt hx
    have HDR := hideIt hd
    clear H h ha hl hx hd hlet hn
    by_cases hz : 0 ≤ z ∧ z ≤ na
    · obtain ⟨k, rfl⟩ : ∃ k : Nat, z = (k : Int) := ⟨z.toNat, by omega⟩
      have hk : k ≤ na := by omega
      have d1 : decide ((k : Int) < 0) = false := by simp
      have d2 : decide ((na : Int) < (k : Int)) = false := by simp; omega
      have b1 : (0 : Int) ≤ (k : Int) := by omega
      have b2 : (k : Int) ≤ (ca : Int) := by omega
      have HRD := hideIt (run_disk (xs.take k) fs HDR.out)
      go_enter Try.func11, Try.ntmps11
      go_wp2_with (go_at_call 18; refine (show Calls Try.prog 18 #[.agg #[.slice a n c]] (w2A w a n c) _ from HD.out).mono ?_; rintro e w1 ⟨rfl, hb1⟩; refine Hid.out ?_)
      refine (show ∀ {p : Prop}, p → Hid p from fun h => h) ?_
      have C1 := (CutAt.start w a n c).up hb1
      have e0 := ((w2A_box0 w a n c).below hb1 (by rw [w2A_size]; omega)).cell
      have HTb := hideIt (tableOf_any fs n a c w1 HDR.out (HF.out.up C1.below))
      clear HD hb1
      go_wp2_with (go_at_call 20; refine HTb.out.mono ?_; rintro e w2 ⟨M, loc, D, rfl, hT2, hb2⟩; refine Hid.out ?_)
      refine (show ∀ {p : Prop}, p → Hid p from fun h => h) ?_
      have z1 := C1.size
      have C2 := C1.up hb2
      have HE := hideIt (tDoEach_any w2 w1.heap.size M loc fs D hT2 HDR.out (xs.take k) (fits_take HX.out k) k (some ⟨ga, oa, none⟩) ca (by omega) (((HA.out.up C1.below).below hb2 (Nat.le_refl _)).take hk))
      have hz2 : w1.heap.size ≤ w2.heap.size := hb2.size
      clear HTb e0 hb2 C1 hT2
      go_wp2_with (go_at_call 21; refine HE.out.mono ?_; rintro e w3 ⟨rfl, hT3, hb3⟩; refine Hid.out ?_)
      refine (show ∀ {p : Prop}, p → Hid p from fun h => h) ?_
      have C3 := C2.upB hb3 (by omega)
      have hz3 : w1.heap.size ≤ w3.heap.size := by have := hb3.size; omega
      clear HE hb3 C2
      by_cases hq : (((runActs fs (xs.take k)).2 : Nat) : Int) < (k : Int)
      · have ho := cutO_less (fs := fs) (xs := xs) (z := (k : Int)) ls (by simpa using hq)
        have d3 : decide (((runActs fs (xs.take k)).2 : Int) < (k : Int)) = true := by simp; omega
        have r0 := C3.x1.cell
        have r1 := C3.x1.frozen
        obtain ⟨s1, q1⟩ := C3.set (.slice none 0 0)
        clear hT3
        go_wp2
        exact bodyPost_ret (v := .tuple #[.agg #[.slice none 0 0], .bool false]) (by simp [results, Try.results11, go_sem, s1]) rfl (by rw [ho]; exact ⟨rfl, q1⟩)
      · have ho := cutO_yes (fs := fs) (xs := xs) (z := (k : Int)) ls (by omega) (by omega) (by simpa using hq)
        have d3 : decide (((runActs fs (xs.take k)).2 : Int) < (k : Int)) = false := by simp; omega
        rw [Int.toNat_natCast] at ho
        generalize hgP : (runActs fs (xs.take k)).1 = gs at *
        obtain ⟨loc3, D3, T3⟩ := hT3
        have HTd := hideIt (tDisk_any w3 w1.heap.size M loc3 gs D3 T3 HRD.out)
        clear T3
        go_wp2_with (go_at_call 22; refine HTd.out.mono ?_; rintro e w4 ⟨g, c', rfl, hown, hb4⟩; refine Hid.out ?_)
        refine (show ∀ {p : Prop}, p → Hid p from fun h => h) ?_
        have C4 := C3.up hb4
        have HLo := hideIt (iLoseDisk_any gs ls (disk_letters HRD.out) gs.length (some ⟨g, 0, none⟩) c' ln al cl hln w4 (Fs_of_own hown) (HL.out.up C4.below))
        have z4 := C4.size
        clear HTd hown hb4 C3
        go_wp2_with (go_at_call 26; refine (HLo.out.mono fun _ _ hA => act_ans hA).mono ?_; rintro e w5 ⟨a5, m5, c5, rfl, hown5, hb5⟩; refine Hid.out ?_)
        refine (show ∀ {p : Prop}, p → Hid p from fun h => h) ?_
        have C5 := C4.up hb5
        have r0 := C5.x1.cell
        have r1 := C5.x1.frozen
        obtain ⟨s1, q1⟩ := C5.set (.slice a5 m5 c5)
        have HO := hideIt (own_mono (own_setLow hown5 (w.heap.size + 1) 0 (.slice a5 m5 c5) (by omega)) (show w.heap.size ≤ _ by omega))
        clear hown5 hb5 C4 C5
        go_wp2
        refine bodyPost_ret (v := .tuple #[.agg #[.slice a5 m5 c5], .bool (loseO gs ls).isSome]) (by simp [results, Try.results11, go_sem, s1]) rfl ?_
        have hlo := loseO_yes HRD.out ls
        rw [hlo] at HO
        rw [ho, hlo]
        exact ⟨a5, m5, c5, rfl, HO.out, q1⟩
    · have ho := cutO_range (fs := fs) (xs := xs) (z := z) ls (by omega)
      rw [ho]
      unfold ActAns
      dsimp only
      by_cases hz0 : z < 0
      · have d1 : decide (z < 0) = true := by simp; omega
        clear ho hz
        go_enter Try.func11, Try.ntmps11
        go_wp2_with (go_at_call 18; refine (show Calls Try.prog 18 #[.agg #[.slice a n c]] (w2A w a n c) _ from HD.out).mono ?_; rintro e w1 ⟨rfl, hb1⟩; refine Hid.out ?_)
        refine (show ∀ {p : Prop}, p → Hid p from fun h => h) ?_
        have C1 := (CutAt.start w a n c).up hb1
        have r0 := C1.x1.cell
        have r1 := C1.x1.frozen
        obtain ⟨s1, q1⟩ := C1.set (.slice none 0 0)
        clear hb1 HD
        go_wp2
        exact bodyPost_ret (v := .tuple #[.agg #[.slice none 0 0], .bool false]) (by simp [results, Try.results11, go_sem, s1]) rfl ⟨rfl, q1⟩
      · have d1 : decide (z < 0) = false := by simp; omega
        have d2 : decide ((na : Int) < z) = true := by simp; omega
        clear ho hz
        go_enter Try.func11, Try.ntmps11
        go_wp2_with (go_at_call 18; refine (show Calls Try.prog 18 #[.agg #[.slice a n c]] (w2A w a n c) _ from HD.out).mono ?_; rintro e w1 ⟨rfl, hb1⟩; refine Hid.out ?_)
        refine (show ∀ {p : Prop}, p → Hid p from fun h => h) ?_
        have C1 := (CutAt.start w a n c).up hb1
        have r0 := C1.x1.cell
        have r1 := C1.x1.frozen
        obtain ⟨s1, q1⟩ := C1.set (.slice none 0 0)
        clear hb1 HD
        go_wp2
        exact bodyPost_ret (v := .tuple #[.agg #[.slice none 0 0], .bool false]) (by simp [results, Try.results11, go_sem, s1]) rfl ⟨rfl, q1⟩
  · rw [dB_false hd] at H
    have HD := hideIt H
    rw [cutO_bad ls hd]
    unfold ActAns
    dsimp only
    clear H hd h ha hl hx hlet
    go_enter Try.func11, Try.ntmps11
    go_wp2_with (go_at_call 18; refine (show Calls Try.prog 18 #[.agg #[.slice a n c]] (w2A w a n c) _ from HD.out).mono ?_; rintro e w1 ⟨rfl, hb1⟩; refine Hid.out ?_)
    refine (show ∀ {p : Prop}, p → Hid p from fun h => h) ?_
    have C1 := (CutAt.start w a n c).up hb1
    have r0 := C1.x1.cell
    have r1 := C1.x1.frozen
    obtain ⟨s1, q1⟩ := C1.set (.slice none 0 0)
    clear hb1 HD
    go_wp2
    exact bodyPost_ret (v := .tuple #[.agg #[.slice none 0 0], .bool false]) (by simp [results, Try.results11, go_sem, s1]) rfl ⟨rfl, q1⟩
end Go.Proofs.Ythffflpclmpamaa
namespace Go.Proofs.Ythffflpclmpamaa
open Go.RowKit

theorem ActAt.upB {w : World} {a : Option Addr} {n c : Nat} {x : ActV} {u u' : World} {C : Nat} (h : ActAt w a n c x u) (hb : Below C u u') (hC : w.heap.size + 3 ≤ C) : ActAt w a n c x u' :=
  ⟨h.x0.below hb (by omega), by rw [hb.block _ (by omega)]; exact h.x1, h.x2.below hb (by omega), Nat.le_trans h.size hb.size, h.below.trans (hb.mono (by omega))⟩

set_option maxRecDepth 100000 in
set_option maxHeartbeats 8000000 in
theorem iDoAct_any (fs : List FileV) (hlet : fs.length + letters fs ≤ 1048576) (n : Nat) (a : Option Addr) (c : Nat) (x : ActV) (hx : FitA x) (w : World) (h : Fs w w.heap.size a n fs) :
    Calls Try.prog 9 #[.agg #[.slice a n c], .agg #[.int .i64 x.kind, .string x.name, .string x.text, .string x.to]] w (ActAns w (doAct fs x)) := by
  have hfit := fits_of hlet
  have hn : n ≤ maxLen := by unfold maxLen; have := h.1; omega
  have H := iDiskOk_any fs hfit n a c hn (w3 w a n c x) (w3_fs h)
  by_cases hd : DiskR fs
  · rw [dB_true hd] at H
    have HD := hideIt H
    have HF := hideIt (w3_fs (a := a) (n := n) (c := c) (x := x) h)
    have HDR := hideIt hd
    have HX := hideIt hx
    clear H h hfit hlet hd hx
    go_enter Try.func9, Try.ntmps9
    go_wp2_with (go_at_call 18; refine (show Calls Try.prog 18 #[.agg #[.slice a n c]] (w3 w a n c x) _ from HD.out).mono ?_; rintro e w1 ⟨rfl, hb1⟩; refine Hid.out ?_)
    refine (show ∀ {p : Prop}, p → Hid p from fun h => h) ?_
    have hA := (ActAt.start w a n c x).up hb1
    obtain ⟨c0, c1, c2, c3, c4, c5, f5⟩ := hA.cells
    have F1 := HF.out.up hb1
    have HTb := hideIt (tableOf_any fs n a c w1 HDR.out F1)
    have HA := hideIt hA
    have z1 := hA.size
    clear HD hb1 hA F1 HF
    go_wp2_with (go_at_call 20; refine HTb.out.mono ?_; rintro e w2 ⟨M, loc, D, rfl, hT2, hb2⟩; refine Hid.out ?_)
    refine (show ∀ {p : Prop}, p → Hid p from fun h => h) ?_
    have hA2 := HA.out.up hb2
    have HDo := hideIt (tDo_any w2 w1.heap.size M loc fs D hT2 HDR.out x HX.out)
    clear c0 c1 c2 c3 c4 c5 f5 HTb HA
    obtain ⟨c0, c1, c2, c3, c4, c5, f5⟩ := hA2.cells
    have HA2 := hideIt hA2
    clear hA2 hT2
    cases ho : doAct fs x with
    | none =>
      rw [ho] at HDo
      unfold Done at HDo
      go_wp2_with (go_at_call 24; refine HDo.out.mono ?_; rintro e w3' ⟨rfl, _, hb3⟩; refine Hid.out ?_)
      refine (show ∀ {p : Prop}, p → Hid p from fun h => h) ?_
      have hA3 := HA2.out.upB hb3 z1
      clear c0 c1 c2 c3 c4 c5 f5
      obtain ⟨c0, c1, c2, c3, c4, c5, f5⟩ := hA3.cells
      obtain ⟨s1, q1⟩ := hA3.refused
      clear hb3 hA3 HDo
      go_wp2
      exact bodyPost_ret (v := .tuple #[.agg #[.slice none 0 0], .bool false]) (by simp [results, Try.results9, go_sem, s1]) rfl (by rw [ho]; exact ⟨rfl, q1⟩)
    | some gs =>
      rw [ho] at HDo
      unfold Done at HDo
      have hgs := doAct_disk ho
      go_wp2_with (go_at_call 24; refine HDo.out.mono ?_; rintro e w3' ⟨rfl, hT3, hb3⟩; refine Hid.out ?_)
      refine (show ∀ {p : Prop}, p → Hid p from fun h => h) ?_
      have hA3 := HA2.out.upB hb3 z1
      clear c0 c1 c2 c3 c4 c5 f5
      obtain ⟨c0, c1, c2, c3, c4, c5, f5⟩ := hA3.cells
      have HT3 := hideIt hT3
      have HA3 := hideIt hA3
      have HG := hideIt hgs
      clear hb3 hA3 HDo hT3 hgs
      obtain ⟨loc3, D3, T3⟩ := HT3.out
      have T3' : Tab w3' w1.heap.size M loc3 gs D3 := T3
      have HTd := hideIt (tDisk_any w3' w1.heap.size M loc3 gs D3 T3' HG.out)
      clear T3 T3' HT3
      go_wp2_with (go_at_call 22; refine HTd.out.mono ?_; rintro e w4 ⟨g, c', rfl, hown, hb4⟩; refine Hid.out ?_)
      refine (show ∀ {p : Prop}, p → Hid p from fun h => h) ?_
      have hA4 := HA3.out.up hb4
      clear c0 c1 c2 c3 c4 c5 f5
      obtain ⟨c0, c1, c2, c3, c4, c5, f5⟩ := hA4.cells
      have s1 := (hA4.x2.set (.slice (some ⟨g, 0, none⟩) gs.length c')).cell
      have q1 := hideIt (hA4.below.setCell (p := ⟨w.heap.size + 1 + 1, 0, none⟩) (by show w.heap.size ≤ w.heap.size + 1 + 1; omega) (.slice (some ⟨g, 0, none⟩) gs.length c'))
      have z3 := HA3.out.size
      have HO := hideIt (own_mono (own_setLow hown (w.heap.size + 1 + 1) 0 (.slice (some ⟨g, 0, none⟩) gs.length c') (by omega)) (show w.heap.size ≤ _ by omega))
      clear hown hA4 hb4 HTd
      go_wp2
      exact bodyPost_ret (v := .tuple #[.agg #[.slice (some ⟨g, 0, none⟩) gs.length c'], .bool true]) (by simp [results, Try.results9, go_sem, s1]) rfl (by rw [ho]; exact ⟨_, _, _, rfl, HO.out, q1.out⟩)
  · rw [dB_false hd] at H
    have HD := hideIt H
    have ho : doAct fs x = none := by unfold doAct; rw [if_neg (fun hh => hd hh.1)]
    rw [ho]
    unfold ActAns
    dsimp only
    clear H hd h hfit hlet ho hx
    go_enter Try.func9, Try.ntmps9
    go_wp2_with (go_at_call 18; refine (show Calls Try.prog 18 #[.agg #[.slice a n c]] (w3 w a n c x) _ from HD.out).mono ?_; rintro e w1 ⟨rfl, hb1⟩; refine Hid.out ?_)
    refine (show ∀ {p : Prop}, p → Hid p from fun h => h) ?_
    have hA := (ActAt.start w a n c x).up hb1
    obtain ⟨c0, c1, c2, c3, c4, c5, f5⟩ := hA.cells
    obtain ⟨s1, q1⟩ := hA.refused
    clear HD hb1 hA
    go_wp2
    exact bodyPost_ret (v := .tuple #[.agg #[.slice none 0 0], .bool false]) (by simp [results, Try.results9, go_sem, s1]) rfl ⟨rfl, q1⟩
end Go.Proofs.Ythffflpclmpamaa
namespace Go.Proofs.Ythffflpclmpamaa
open Go.RowKit

/-- all of each file is kept -/
def AllR (fs : List FileV) : Prop := DiskR fs ∧ ∀ f ∈ fs, ¬ f.kept < f.text.size
noncomputable def akB (fs : List FileV) : Bool := @decide (AllR fs) (Classical.propDecidable _)
theorem akB_true {fs : List FileV} (h : AllR fs) : akB fs = true := by unfold akB; simp [h]
theorem akB_false {fs : List FileV} (h : ¬ AllR fs) : akB fs = false := by unfold akB; simp [h]

end Go.Proofs.Ythffflpclmpamaa
