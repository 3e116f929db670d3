/- What the specification's DoAct answers where it keeps and drops. -/
import Derived.Test.YtegknhnmfaafmaaSAct3
namespace Go.Proofs.Ytegknhnmfaafmaa
open Go.RowKit

set_option maxRecDepth 100000 in
set_option maxHeartbeats 8000000 in
theorem sDoAct_keep (fs : List FileV) (hfit : FitsF fs) (n : Nat) (a : Option Addr) (c : Nat) (x : ActV) (w : World) (h : Fs w w.heap.size a n fs) (hf : ActFine fs x) (hk : x.kind = 2) (k : Nat) (f : FileV) (hat : atN fs x.name = some k) (hfk : fs[k]? = some f) (gs : List FileV) (hgs : gs = put fs ⟨f.name, f.text, f.text.size⟩) (hd : DiskR gs) :
    Calls Try.prog 36 #[.agg #[.slice a n c], .agg #[.int .i64 x.kind, .string x.name, .string x.text, .string x.to]] w (ActAns w (some gs)) := by
  have hn30 := disk_n hf.disk h
  have hnm : n ≤ maxLen := by unfold maxLen; omega
  have H := sDiskOk_any fs hfit n a c hnm (w3 w a n c x) (w3_fs h)
  rw [dB_true hf.disk] at H
  have HD := hideIt H
  have HN := hideIt (fun W => l03Name_yes x.name hf.name.1 hf.name.2 W)
  have HF := hideIt h
  obtain ⟨l1, l2, l3, l4⟩ := looks0 hf (by omega) (by omega)
  have dk : (x.kind == 1) = false := by simp [hk]
  have dk2 : (x.kind == 2) = true := by simp [hk]
  have HA := hideIt hat
  have hkl : k < n := by rw [← h.1]; exact atN_lt hat
  have hff := hfit f (List.mem_of_getElem? hfk)
  unfold maxLen at hff
  have HK := hideIt hfk
  have HG := hideIt hgs
  have HDg := hideIt hd
  clear H h hf hat hk hfk hgs hd
  unfold ActAns
  go_enter Try.func36, Try.ntmps36
  go_wp2_with (go_at_call 49; refine (show Calls Try.prog 49 #[.agg #[.slice a n c]] (w3 w a n c x) _ from HD.out).mono ?_; rintro e w1 ⟨rfl, hb1⟩; refine Hid.out ?_)
  refine (show ∀ {p : Prop}, p → Hid p from fun h => h) ?_
  have hA := (ActAt.start w a n c x).up hb1
  obtain ⟨c0, c1, c2, c3, c4, c5, f5⟩ := hA.cells
  have HAt := hideIt hA
  have F1 := hideIt ((w3_fs (c := c) (x := x) HF.out).up hb1)
  have HL := l03At_any fs x.name n a c hnm w1 F1.out
  rw [HA.out] at HL
  have HLh := hideIt HL
  unfold atI at HLh
  clear HD hb1 hA HL HF
  go_wp2_with (first | (go_at_call 50; refine (HN.out _).mono ?_; rintro e w2 ⟨rfl, rfl⟩) | (go_at_call 51; refine HLh.out.mono ?_; rintro e w2 ⟨rfl, hb2⟩; refine Hid.out ?_))
  refine (show ∀ {p : Prop}, p → Hid p from fun h => h) ?_
  have hA0 := HAt.out.up hb2
  have F2 := hideIt (F1.out.up hb2)
  have m0 : w.heap.size < w2.heap.size := by have := hA0.size; omega
  have m1 : w.heap.size + 1 < w2.heap.size := by have := hA0.size; omega
  have m2 : w.heap.size + 1 + 1 < w2.heap.size := by have := hA0.size; omega
  clear c0 c1 c2 c3 c4 c5 f5
  obtain ⟨c0, c1, c2, c3, c4, c5, f5⟩ := hA0.cells
  have HA2 := hideIt hA0
  rcases F2.out.2 with hz | ⟨b, off, rfl, hbl, hcc⟩
  · omega
  obtain ⟨v0, v1, v2⟩ := hcc k f HK.out
  have b1 : (0 : Int) ≤ (k : Int) := by omega
  have b2 : (k : Int) < (n : Int) := by omega
  have dk0 : decide ((0 : Int) ≤ (k : Int)) = true := by simp
  have dk1 : decide ((k : Int) < 0) = false := by simp
  clear hcc
  clear HLh hb2 HAt hA0 F1
  have F3 := hideIt ((F2.out.up ((Below.refl _ _).alloc (Nat.le_refl _) (.cells #[.string f.name, .string f.text, .int .i64 (f.text.size : Int)] 36))).up ((Below.refl _ _).alloc (Nat.le_refl _) (.cells #[.slice none 0 0] 26)))
  have HP := hideIt (l03Put_any fs ⟨f.name, f.text, f.text.size⟩ n _ c (by omega) _ F3.out)
  rw [← HG.out] at HP
  go_wp2_with (go_at_call 24; refine HP.out.mono ?_; rintro e w4 ⟨a', m, c', rfl, hown, hb4⟩; refine Hid.out ?_)
  refine (show ∀ {p : Prop}, p → Hid p from fun h => h) ?_
  have hA4 := ((HA2.out.alloc (.cells #[.string f.name, .string f.text, .int .i64 (f.text.size : Int)] 36)).alloc (.cells #[.slice none 0 0] 26)).up hb4
  have x4 := (Box.new (w2.alloc (.cells #[.string f.name, .string f.text, .int .i64 (f.text.size : Int)] 36)) 26 (.slice none 0 0) (w2.heap.size + 1) (by simp)).below hb4 (by simp)
  have T := sDoAct_tail w _ n c x gs (w2.heap.size + 1) (by have := HA2.out.size; omega) a' m c' w4 hA4 x4 (own_mono hown (by simp)) (HDg.out)
  obtain ⟨o1, o2, HTd⟩ := T
  clear c0 c1 c2 c3 c4 c5 f5 hown hb4 HP F3 HA2
  obtain ⟨c0, c1, c2, c3, c4, c5, f5⟩ := hA4.cells
  clear hA4 x4
  go_wp2_with (go_at_call 49; refine (HTd.out).mono ?_; rintro e w6 ⟨rfl, hA6, x6, hown6⟩; refine Hid.out ?_)
  refine (show ∀ {p : Prop}, p → Hid p from fun h => h) ?_
  have s1 := (hA6.x2.set (.slice a' m c')).cell
  have q1 := hideIt (hA6.below.setCell (p := ⟨w.heap.size + 1 + 1, 0, none⟩) (by show w.heap.size ≤ w.heap.size + 1 + 1; omega) (.slice a' m c'))
  have HO := hideIt (own_mono (own_setLow hown6 (w.heap.size + 1 + 1) 0 (.slice a' m c') (by omega)) (show w.heap.size ≤ _ by omega))
  have o3 := x6.cell
  clear c0 c1 c2 c3 c4 c5 f5 o1 o2 HTd hown6
  obtain ⟨c0, c1, c2, c3, c4, c5, f5⟩ := hA6.cells
  clear hA6 x6
  go_wp2
  exact bodyPost_ret (v := .tuple #[.agg #[.slice a' m c'], .bool true]) (by simp [results, Try.results36, go_sem, s1]) rfl ⟨a', m, c', rfl, HO.out, q1.out⟩
set_option maxRecDepth 100000 in
set_option maxHeartbeats 8000000 in
theorem sDoAct_keepno (fs : List FileV) (hfit : FitsF fs) (n : Nat) (a : Option Addr) (c : Nat) (x : ActV) (w : World) (h : Fs w w.heap.size a n fs) (hf : ActFine fs x) (hk : x.kind = 2) (k : Nat) (f : FileV) (hat : atN fs x.name = some k) (hfk : fs[k]? = some f) (gs : List FileV) (hgs : gs = put fs ⟨f.name, f.text, f.text.size⟩) (hgf : FitsF gs) (hgl : gs.length ≤ 1048576) (hd : ¬ DiskR gs) :
    Calls Try.prog 36 #[.agg #[.slice a n c], .agg #[.int .i64 x.kind, .string x.name, .string x.text, .string x.to]] w (ActAns w none) := by
  have hn30 := disk_n hf.disk h
  have hnm : n ≤ maxLen := by unfold maxLen; omega
  have H := sDiskOk_any fs hfit n a c hnm (w3 w a n c x) (w3_fs h)
  rw [dB_true hf.disk] at H
  have HD := hideIt H
  have HN := hideIt (fun W => l03Name_yes x.name hf.name.1 hf.name.2 W)
  have HF := hideIt h
  obtain ⟨l1, l2, l3, l4⟩ := looks0 hf (by omega) (by omega)
  have dk : (x.kind == 1) = false := by simp [hk]
  have dk2 : (x.kind == 2) = true := by simp [hk]
  have HA := hideIt hat
  have hkl : k < n := by rw [← h.1]; exact atN_lt hat
  have hff := hfit f (List.mem_of_getElem? hfk)
  unfold maxLen at hff
  have HK := hideIt hfk
  have HG := hideIt hgs
  have HDg := hideIt hd
  have HGf := hideIt hgf
  have HGl := hideIt hgl
  clear H h hf hat hk hfk hgs hd hgf hgl
  unfold ActAns
  go_enter Try.func36, Try.ntmps36
  go_wp2_with (go_at_call 49; refine (show Calls Try.prog 49 #[.agg #[.slice a n c]] (w3 w a n c x) _ from HD.out).mono ?_; rintro e w1 ⟨rfl, hb1⟩; refine Hid.out ?_)
  refine (show ∀ {p : Prop}, p → Hid p from fun h => h) ?_
  have hA := (ActAt.start w a n c x).up hb1
  obtain ⟨c0, c1, c2, c3, c4, c5, f5⟩ := hA.cells
  have HAt := hideIt hA
  have F1 := hideIt ((w3_fs (c := c) (x := x) HF.out).up hb1)
  have HL := l03At_any fs x.name n a c hnm w1 F1.out
  rw [HA.out] at HL
  have HLh := hideIt HL
  unfold atI at HLh
  clear HD hb1 hA HL HF
  go_wp2_with (first | (go_at_call 50; refine (HN.out _).mono ?_; rintro e w2 ⟨rfl, rfl⟩) | (go_at_call 51; refine HLh.out.mono ?_; rintro e w2 ⟨rfl, hb2⟩; refine Hid.out ?_))
  refine (show ∀ {p : Prop}, p → Hid p from fun h => h) ?_
  have hA0 := HAt.out.up hb2
  have F2 := hideIt (F1.out.up hb2)
  have m0 : w.heap.size < w2.heap.size := by have := hA0.size; omega
  have m1 : w.heap.size + 1 < w2.heap.size := by have := hA0.size; omega
  have m2 : w.heap.size + 1 + 1 < w2.heap.size := by have := hA0.size; omega
  clear c0 c1 c2 c3 c4 c5 f5
  obtain ⟨c0, c1, c2, c3, c4, c5, f5⟩ := hA0.cells
  have HA2 := hideIt hA0
  rcases F2.out.2 with hz | ⟨b, off, rfl, hbl, hcc⟩
  · omega
  obtain ⟨v0, v1, v2⟩ := hcc k f HK.out
  have b1 : (0 : Int) ≤ (k : Int) := by omega
  have b2 : (k : Int) < (n : Int) := by omega
  have dk0 : decide ((0 : Int) ≤ (k : Int)) = true := by simp
  have dk1 : decide ((k : Int) < 0) = false := by simp
  clear hcc
  clear HLh hb2 HAt hA0 F1
  have F3 := hideIt ((F2.out.up ((Below.refl _ _).alloc (Nat.le_refl _) (.cells #[.string f.name, .string f.text, .int .i64 (f.text.size : Int)] 36))).up ((Below.refl _ _).alloc (Nat.le_refl _) (.cells #[.slice none 0 0] 26)))
  have HP := hideIt (l03Put_any fs ⟨f.name, f.text, f.text.size⟩ n _ c (by omega) _ F3.out)
  rw [← HG.out] at HP
  go_wp2_with (go_at_call 24; refine HP.out.mono ?_; rintro e w4 ⟨a', m, c', rfl, hown, hb4⟩; refine Hid.out ?_)
  refine (show ∀ {p : Prop}, p → Hid p from fun h => h) ?_
  have hA4 := ((HA2.out.alloc (.cells #[.string f.name, .string f.text, .int .i64 (f.text.size : Int)] 36)).alloc (.cells #[.slice none 0 0] 26)).up hb4
  have x4 := (Box.new (w2.alloc (.cells #[.string f.name, .string f.text, .int .i64 (f.text.size : Int)] 36)) 26 (.slice none 0 0) (w2.heap.size + 1) (by simp)).below hb4 (by simp)
  have T := sDoAct_tailno w _ n c x gs (w2.heap.size + 1) (by have := HA2.out.size; omega) a' m c' w4 hA4 x4 (own_mono hown (by simp)) HGf.out HGl.out HDg.out
  obtain ⟨o1, o2, HTd⟩ := T
  clear c0 c1 c2 c3 c4 c5 f5 hown hb4 HP F3 HA2
  obtain ⟨c0, c1, c2, c3, c4, c5, f5⟩ := hA4.cells
  clear hA4 x4
  go_wp2_with (go_at_call 49; refine (HTd.out).mono ?_; rintro e w6 ⟨rfl, hA6⟩; refine Hid.out ?_)
  refine (show ∀ {p : Prop}, p → Hid p from fun h => h) ?_
  obtain ⟨s1, q1⟩ := hA6.refused
  clear c0 c1 c2 c3 c4 c5 f5 o1 o2 HTd
  obtain ⟨c0, c1, c2, c3, c4, c5, f5⟩ := hA6.cells
  clear hA6
  go_wp2
  exact bodyPost_ret (v := .tuple #[.agg #[.slice none 0 0], .bool false]) (by simp [results, Try.results36, go_sem, s1]) rfl ⟨rfl, q1⟩

set_option maxRecDepth 100000 in
set_option maxHeartbeats 8000000 in
theorem sDoAct_drop (fs : List FileV) (hfit : FitsF fs) (n : Nat) (a : Option Addr) (c : Nat) (x : ActV) (w : World) (h : Fs w w.heap.size a n fs) (hf : ActFine fs x) (hk : x.kind = 4) (k : Nat) (f : FileV) (hat : atN fs x.name = some k) (hfk : fs[k]? = some f) (gs : List FileV) (hgs : gs = without fs x.name) (hd : DiskR gs) :
    Calls Try.prog 36 #[.agg #[.slice a n c], .agg #[.int .i64 x.kind, .string x.name, .string x.text, .string x.to]] w (ActAns w (some gs)) := by
  have hn30 := disk_n hf.disk h
  have hnm : n ≤ maxLen := by unfold maxLen; omega
  have H := sDiskOk_any fs hfit n a c hnm (w3 w a n c x) (w3_fs h)
  rw [dB_true hf.disk] at H
  have HD := hideIt H
  have HN := hideIt (fun W => l03Name_yes x.name hf.name.1 hf.name.2 W)
  have HF := hideIt h
  obtain ⟨l1, l2, l3, l4⟩ := looks0 hf (by omega) (by omega)
  have dk : (x.kind == 1) = false := by simp [hk]
  have dk2 : (x.kind == 2) = false := by simp [hk]
  have dk3 : (x.kind == 3) = false := by simp [hk]
  have dk4 : (x.kind == 4) = true := by simp [hk]
  have HA := hideIt hat
  have hkl : k < n := by rw [← h.1]; exact atN_lt hat
  have hff := hfit f (List.mem_of_getElem? hfk)
  unfold maxLen at hff
  have HK := hideIt hfk
  have HG := hideIt hgs
  have HDg := hideIt hd
  clear H h hf hat hk hfk hgs hd
  unfold ActAns
  go_enter Try.func36, Try.ntmps36
  go_wp2_with (go_at_call 49; refine (show Calls Try.prog 49 #[.agg #[.slice a n c]] (w3 w a n c x) _ from HD.out).mono ?_; rintro e w1 ⟨rfl, hb1⟩; refine Hid.out ?_)
  refine (show ∀ {p : Prop}, p → Hid p from fun h => h) ?_
  have hA := (ActAt.start w a n c x).up hb1
  obtain ⟨c0, c1, c2, c3, c4, c5, f5⟩ := hA.cells
  have HAt := hideIt hA
  have F1 := hideIt ((w3_fs (c := c) (x := x) HF.out).up hb1)
  have HL := l03At_any fs x.name n a c hnm w1 F1.out
  rw [HA.out] at HL
  have HLh := hideIt HL
  unfold atI at HLh
  clear HD hb1 hA HL HF
  go_wp2_with (first | (go_at_call 50; refine (HN.out _).mono ?_; rintro e w2 ⟨rfl, rfl⟩) | (go_at_call 51; refine HLh.out.mono ?_; rintro e w2 ⟨rfl, hb2⟩; refine Hid.out ?_))
  refine (show ∀ {p : Prop}, p → Hid p from fun h => h) ?_
  have hA0 := HAt.out.up hb2
  have F2 := hideIt (F1.out.up hb2)
  have m0 : w.heap.size < w2.heap.size := by have := hA0.size; omega
  have m1 : w.heap.size + 1 < w2.heap.size := by have := hA0.size; omega
  have m2 : w.heap.size + 1 + 1 < w2.heap.size := by have := hA0.size; omega
  clear c0 c1 c2 c3 c4 c5 f5
  obtain ⟨c0, c1, c2, c3, c4, c5, f5⟩ := hA0.cells
  have HA2 := hideIt hA0
  rcases F2.out.2 with hz | ⟨b, off, rfl, hbl, hcc⟩
  · omega
  obtain ⟨v0, v1, v2⟩ := hcc k f HK.out
  have b1 : (0 : Int) ≤ (k : Int) := by omega
  have b2 : (k : Int) < (n : Int) := by omega
  have dk0 : decide ((0 : Int) ≤ (k : Int)) = true := by simp
  have dk1 : decide ((k : Int) < 0) = false := by simp
  clear hcc
  clear HLh hb2 HAt hA0 F1
  have F3 := hideIt ((F2.out.up ((Below.refl _ _).alloc (Nat.le_refl _) (.cells #[.string f.name, .string f.text, .int .i64 f.kept] 36))).up ((Below.refl _ _).alloc (Nat.le_refl _) (.cells #[.slice none 0 0] 26)))
  have HP := hideIt (l03Without_any fs x.name n _ c (by omega) _ F3.out)
  rw [← HG.out] at HP
  go_wp2_with (go_at_call 52; refine HP.out.mono ?_; rintro e w4 ⟨a', m, c', rfl, hown, hb4⟩; refine Hid.out ?_)
  refine (show ∀ {p : Prop}, p → Hid p from fun h => h) ?_
  have hA4 := ((HA2.out.alloc (.cells #[.string f.name, .string f.text, .int .i64 f.kept] 36)).alloc (.cells #[.slice none 0 0] 26)).up hb4
  have x4 := (Box.new (w2.alloc (.cells #[.string f.name, .string f.text, .int .i64 f.kept] 36)) 26 (.slice none 0 0) (w2.heap.size + 1) (by simp)).below hb4 (by simp)
  have T := sDoAct_tail w _ n c x gs (w2.heap.size + 1) (by have := HA2.out.size; omega) a' m c' w4 hA4 x4 (own_mono hown (by simp)) (HDg.out)
  obtain ⟨o1, o2, HTd⟩ := T
  clear c0 c1 c2 c3 c4 c5 f5 hown hb4 HP F3 HA2
  obtain ⟨c0, c1, c2, c3, c4, c5, f5⟩ := hA4.cells
  clear hA4 x4
  go_wp2_with (go_at_call 49; refine (HTd.out).mono ?_; rintro e w6 ⟨rfl, hA6, x6, hown6⟩; refine Hid.out ?_)
  refine (show ∀ {p : Prop}, p → Hid p from fun h => h) ?_
  have s1 := (hA6.x2.set (.slice a' m c')).cell
  have q1 := hideIt (hA6.below.setCell (p := ⟨w.heap.size + 1 + 1, 0, none⟩) (by show w.heap.size ≤ w.heap.size + 1 + 1; omega) (.slice a' m c'))
  have HO := hideIt (own_mono (own_setLow hown6 (w.heap.size + 1 + 1) 0 (.slice a' m c') (by omega)) (show w.heap.size ≤ _ by omega))
  have o3 := x6.cell
  clear c0 c1 c2 c3 c4 c5 f5 o1 o2 HTd hown6
  obtain ⟨c0, c1, c2, c3, c4, c5, f5⟩ := hA6.cells
  clear hA6 x6
  go_wp2
  exact bodyPost_ret (v := .tuple #[.agg #[.slice a' m c'], .bool true]) (by simp [results, Try.results36, go_sem, s1]) rfl ⟨a', m, c', rfl, HO.out, q1.out⟩
set_option maxRecDepth 100000 in
set_option maxHeartbeats 8000000 in
theorem sDoAct_dropno (fs : List FileV) (hfit : FitsF fs) (n : Nat) (a : Option Addr) (c : Nat) (x : ActV) (w : World) (h : Fs w w.heap.size a n fs) (hf : ActFine fs x) (hk : x.kind = 4) (k : Nat) (f : FileV) (hat : atN fs x.name = some k) (hfk : fs[k]? = some f) (gs : List FileV) (hgs : gs = without fs x.name) (hgf : FitsF gs) (hgl : gs.length ≤ 1048576) (hd : ¬ DiskR gs) :
    Calls Try.prog 36 #[.agg #[.slice a n c], .agg #[.int .i64 x.kind, .string x.name, .string x.text, .string x.to]] w (ActAns w none) := by
  have hn30 := disk_n hf.disk h
  have hnm : n ≤ maxLen := by unfold maxLen; omega
  have H := sDiskOk_any fs hfit n a c hnm (w3 w a n c x) (w3_fs h)
  rw [dB_true hf.disk] at H
  have HD := hideIt H
  have HN := hideIt (fun W => l03Name_yes x.name hf.name.1 hf.name.2 W)
  have HF := hideIt h
  obtain ⟨l1, l2, l3, l4⟩ := looks0 hf (by omega) (by omega)
  have dk : (x.kind == 1) = false := by simp [hk]
  have dk2 : (x.kind == 2) = false := by simp [hk]
  have dk3 : (x.kind == 3) = false := by simp [hk]
  have dk4 : (x.kind == 4) = true := by simp [hk]
  have HA := hideIt hat
  have hkl : k < n := by rw [← h.1]; exact atN_lt hat
  have hff := hfit f (List.mem_of_getElem? hfk)
  unfold maxLen at hff
  have HK := hideIt hfk
  have HG := hideIt hgs
  have HDg := hideIt hd
  have HGf := hideIt hgf
  have HGl := hideIt hgl
  clear H h hf hat hk hfk hgs hd hgf hgl
  unfold ActAns
  go_enter Try.func36, Try.ntmps36
  go_wp2_with (go_at_call 49; refine (show Calls Try.prog 49 #[.agg #[.slice a n c]] (w3 w a n c x) _ from HD.out).mono ?_; rintro e w1 ⟨rfl, hb1⟩; refine Hid.out ?_)
  refine (show ∀ {p : Prop}, p → Hid p from fun h => h) ?_
  have hA := (ActAt.start w a n c x).up hb1
  obtain ⟨c0, c1, c2, c3, c4, c5, f5⟩ := hA.cells
  have HAt := hideIt hA
  have F1 := hideIt ((w3_fs (c := c) (x := x) HF.out).up hb1)
  have HL := l03At_any fs x.name n a c hnm w1 F1.out
  rw [HA.out] at HL
  have HLh := hideIt HL
  unfold atI at HLh
  clear HD hb1 hA HL HF
  go_wp2_with (first | (go_at_call 50; refine (HN.out _).mono ?_; rintro e w2 ⟨rfl, rfl⟩) | (go_at_call 51; refine HLh.out.mono ?_; rintro e w2 ⟨rfl, hb2⟩; refine Hid.out ?_))
  refine (show ∀ {p : Prop}, p → Hid p from fun h => h) ?_
  have hA0 := HAt.out.up hb2
  have F2 := hideIt (F1.out.up hb2)
  have m0 : w.heap.size < w2.heap.size := by have := hA0.size; omega
  have m1 : w.heap.size + 1 < w2.heap.size := by have := hA0.size; omega
  have m2 : w.heap.size + 1 + 1 < w2.heap.size := by have := hA0.size; omega
  clear c0 c1 c2 c3 c4 c5 f5
  obtain ⟨c0, c1, c2, c3, c4, c5, f5⟩ := hA0.cells
  have HA2 := hideIt hA0
  rcases F2.out.2 with hz | ⟨b, off, rfl, hbl, hcc⟩
  · omega
  obtain ⟨v0, v1, v2⟩ := hcc k f HK.out
  have b1 : (0 : Int) ≤ (k : Int) := by omega
  have b2 : (k : Int) < (n : Int) := by omega
  have dk0 : decide ((0 : Int) ≤ (k : Int)) = true := by simp
  have dk1 : decide ((k : Int) < 0) = false := by simp
  clear hcc
  clear HLh hb2 HAt hA0 F1
  have F3 := hideIt ((F2.out.up ((Below.refl _ _).alloc (Nat.le_refl _) (.cells #[.string f.name, .string f.text, .int .i64 f.kept] 36))).up ((Below.refl _ _).alloc (Nat.le_refl _) (.cells #[.slice none 0 0] 26)))
  have HP := hideIt (l03Without_any fs x.name n _ c (by omega) _ F3.out)
  rw [← HG.out] at HP
  go_wp2_with (go_at_call 52; refine HP.out.mono ?_; rintro e w4 ⟨a', m, c', rfl, hown, hb4⟩; refine Hid.out ?_)
  refine (show ∀ {p : Prop}, p → Hid p from fun h => h) ?_
  have hA4 := ((HA2.out.alloc (.cells #[.string f.name, .string f.text, .int .i64 f.kept] 36)).alloc (.cells #[.slice none 0 0] 26)).up hb4
  have x4 := (Box.new (w2.alloc (.cells #[.string f.name, .string f.text, .int .i64 f.kept] 36)) 26 (.slice none 0 0) (w2.heap.size + 1) (by simp)).below hb4 (by simp)
  have T := sDoAct_tailno w _ n c x gs (w2.heap.size + 1) (by have := HA2.out.size; omega) a' m c' w4 hA4 x4 (own_mono hown (by simp)) HGf.out HGl.out HDg.out
  obtain ⟨o1, o2, HTd⟩ := T
  clear c0 c1 c2 c3 c4 c5 f5 hown hb4 HP F3 HA2
  obtain ⟨c0, c1, c2, c3, c4, c5, f5⟩ := hA4.cells
  clear hA4 x4
  go_wp2_with (go_at_call 49; refine (HTd.out).mono ?_; rintro e w6 ⟨rfl, hA6⟩; refine Hid.out ?_)
  refine (show ∀ {p : Prop}, p → Hid p from fun h => h) ?_
  obtain ⟨s1, q1⟩ := hA6.refused
  clear c0 c1 c2 c3 c4 c5 f5 o1 o2 HTd
  obtain ⟨c0, c1, c2, c3, c4, c5, f5⟩ := hA6.cells
  clear hA6
  go_wp2
  exact bodyPost_ret (v := .tuple #[.agg #[.slice none 0 0], .bool false]) (by simp [results, Try.results36, go_sem, s1]) rfl ⟨rfl, q1⟩

end Go.Proofs.Ytegknhnmfaafmaa
