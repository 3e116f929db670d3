/- What the specification's DoAct answers where it adds, keeps, moves, drops. What the specification's DoAct answers where it keeps and drops. What the specification's DoAct answers where the kind is none, and where it does not move. What the specification's DoAct answers where it moves. What the specification's DoAct answers at every list of files and every act. Files in the order of their names; what an act makes of them: pure. -/
import Derived.Test.YthffflpclmpamaaKSAct2
import Derived.Sort.Walk0
namespace Go.Proofs.Ythffflpclmpamaa
open Go.RowKit

theorem Fs_of_ownv {w : World} {B m c' : Nat} {a' : Option Addr} {gs : List FileV} (h : w.ownsRow B 49 3 (.slice a' m c') m (fcells gs)) : Fs w w.heap.size a' m gs := by
  have hl := h.1
  rw [fcells_length] at hl
  rcases h.2 with ⟨hv, hm⟩ | ⟨g, cap, cur, hv, _⟩
  · exact ⟨by omega, .inl hm⟩
  · simp at hv
    obtain ⟨rfl, rfl⟩ := hv
    exact Fs_of_own h

/-- what DoAct answers: a disk of its own, or none -/
def ActAns (w : World) (o : Option (List FileV)) (e : Ending) (w' : World) : Prop :=
  match o with
  | none => e = .returned (.tuple #[.agg #[.slice none 0 0], .bool false]) ∧ Below w.heap.size w w'
  | some gs => ∃ a' m c', e = .returned (.tuple #[.agg #[.slice a' m c'], .bool true]) ∧ w'.ownsRow w.heap.size 49 3 (.slice a' m c') m (fcells gs) ∧ Below w.heap.size w w'

theorem grown_of_below' {w w' : World} (h : Below w.heap.size w w') (row : Option Nat) : w.grownBy w' row :=
  ⟨h.os, h.tape, h.output, h.size, fun k hk _ => h.block k hk⟩

theorem disk_fits {gs : List FileV} (h : DiskR gs) : FitsF gs := fun f hf => by
  obtain ⟨j, hj⟩ := List.getElem?_of_mem hf
  have := (h.2 j (List.getElem?_eq_some_iff.1 hj).1 f hj).1
  obtain ⟨⟨_, h1⟩, h2, _⟩ := this
  unfold maxLen
  omega

/-- the look at what comes, where it is right -/
theorem sDoAct_tail (w : World) (a : Option Addr) (n c : Nat) (x : ActV) (gs : List FileV) (G : Nat) (hG : w.heap.size + 3 ≤ G) (a' : Option Addr) (m c' : Nat) (u : World) (hA : ActAt w a n c x u) (hx : Box u G 26 (.slice none 0 0))
    (hown : u.ownsRow (G + 1) 49 3 (.slice a' m c') m (fcells gs)) (hd : DiskR gs) :
    u.cell? ⟨G, 0, none⟩ = some (.slice none 0 0) ∧ u.frozen? ⟨G, 0, none⟩ = false ∧
    Hid (Calls Try.prog 42 #[.agg #[.slice a' m c']] (u.setCell ⟨G, 0, none⟩ (.slice a' m c')) fun e w' => e = .returned (.bool true) ∧ ActAt w a n c x w' ∧ Box w' G 26 (.slice a' m c') ∧ w'.ownsRow (G + 1) 49 3 (.slice a' m c') m (fcells gs)) := by
  refine ⟨hx.cell, hx.frozen, ?_⟩
  have ho := own_setLow hown G 0 (.slice a' m c') (by omega)
  have hfs := Fs_of_ownv ho
  have hm : m ≤ 30 := by rw [← hfs.1]; exact hd.1
  have H := sDiskOk_any gs (disk_fits hd) m a' c' (by unfold maxLen; omega) _ hfs
  rw [dB_true hd] at H
  refine H.mono fun e w' ⟨he, hb⟩ => ⟨he, ?_, ?_, ?_⟩
  · exact (hA.set G 0 _ hG).up hb
  · exact (hx.set _).below hb (hx.set (.slice a' m c')).lt
  · exact World.ownsRow.kept ho (grown_of_below' hb none) (by cases hv : (Value.slice a' m c').ownBlock <;> simp)

/-- the look at what comes, where it is not right -/
theorem sDoAct_tailno (w : World) (a : Option Addr) (n c : Nat) (x : ActV) (gs : List FileV) (G : Nat) (hG : w.heap.size + 3 ≤ G) (a' : Option Addr) (m c' : Nat) (u : World) (hA : ActAt w a n c x u) (hx : Box u G 26 (.slice none 0 0))
    (hown : u.ownsRow (G + 1) 49 3 (.slice a' m c') m (fcells gs)) (hfit : FitsF gs) (hgl : gs.length ≤ 1048576) (hd : ¬ DiskR gs) :
    u.cell? ⟨G, 0, none⟩ = some (.slice none 0 0) ∧ u.frozen? ⟨G, 0, none⟩ = false ∧
    Hid (Calls Try.prog 42 #[.agg #[.slice a' m c']] (u.setCell ⟨G, 0, none⟩ (.slice a' m c')) fun e w' => e = .returned (.bool false) ∧ ActAt w a n c x w') := by
  refine ⟨hx.cell, hx.frozen, ?_⟩
  have ho := own_setLow hown G 0 (.slice a' m c') (by omega)
  have hfs := Fs_of_ownv ho
  have hm : m ≤ 1048576 := by rw [← hfs.1]; exact hgl
  have H := sDiskOk_any gs hfit m a' c' (by unfold maxLen; omega) _ hfs
  rw [dB_false hd] at H
  exact H.mono fun e w' ⟨he, hb⟩ => ⟨he, (hA.set G 0 _ hG).up hb⟩

set_option maxRecDepth 100000 in
set_option maxHeartbeats 8000000 in
theorem sDoAct_addnew (fs : List FileV) (hfit : FitsF fs) (n : Nat) (a : Option Addr) (c : Nat) (x : ActV) (hxt : x.text.size ≤ 1048576) (w : World) (h : Fs w w.heap.size a n fs) (hf : ActFine fs x) (hk : x.kind = 1) (hat : atN fs x.name = none) (gs : List FileV) (hgs : gs = put fs ⟨x.name, ⟨#[]⟩ ++ x.text, 0⟩) (hd : DiskR gs) :
    Calls Try.prog 23 #[.agg #[.slice a n c], .agg #[.int .i64 x.kind, .string x.name, .string x.text, .string x.to]] w (ActAns w (some gs)) := by
  have hn30 := disk_n hf.disk h
  have hnm : n ≤ maxLen := by unfold maxLen; omega
  have H := sDiskOk_any fs hfit n a c hnm (w3 w a n c x) (w3_fs h)
  rw [dB_true hf.disk] at H
  have HD := hideIt H
  have HN := hideIt (fun W => l03Name_yes x.name hf.name.1 hf.name.2 W)
  have HF := hideIt h
  obtain ⟨t, l1, l2, l3, l4⟩ := looks1 hf hk
  have dk : (x.kind == 1) = true := by simp [hk]
  have HA := hideIt hat
  have HG := hideIt hgs
  have HDg := hideIt hd
  clear H h hf hat hk hgs hd
  unfold ActAns
  go_enter Try.func23, Try.ntmps23
  go_wp2_with (go_at_call 42; refine (show Calls Try.prog 42 #[.agg #[.slice a n c]] (w3 w a n c x) _ from HD.out).mono ?_; rintro e w1 ⟨rfl, hb1⟩; refine Hid.out ?_)
  refine (show ∀ {p : Prop}, p → Hid p from fun h => h) ?_
  have hA := (ActAt.start w a n c x).up hb1
  obtain ⟨c0, c1, c2, c3, c4, c5, f5⟩ := hA.cells
  have HAt := hideIt hA
  have F1 := hideIt ((w3_fs (c := c) (x := x) HF.out).up hb1)
  have HL := l03At_any fs x.name n a c hnm w1 F1.out
  rw [HA.out] at HL
  have HLh := hideIt HL
  unfold atI at HLh
  clear HD hb1 hA HL HF
  go_wp2_with (first | (go_at_call 43; refine (HN.out _).mono ?_; rintro e w2 ⟨rfl, rfl⟩) | (go_at_call 44; refine HLh.out.mono ?_; rintro e w2 ⟨rfl, hb2⟩; refine Hid.out ?_))
  refine (show ∀ {p : Prop}, p → Hid p from fun h => h) ?_
  have hA0 := HAt.out.up hb2
  have F2 := hideIt (F1.out.up hb2)
  have m0 : w.heap.size < w2.heap.size := by have := hA0.size; omega
  have m1 : w.heap.size + 1 < w2.heap.size := by have := hA0.size; omega
  have m2 : w.heap.size + 1 + 1 < w2.heap.size := by have := hA0.size; omega
  clear c0 c1 c2 c3 c4 c5 f5
  obtain ⟨c0, c1, c2, c3, c4, c5, f5⟩ := hA0.cells
  have HA2 := hideIt hA0
  have hcat := fun wx => run_string_add_sum (P := Try.prog) wx ⟨#[]⟩ x.text (by show 0 + x.text.size ≤ _; omega)
  clear HLh hb2 HAt hA0 F1
  have F3 := hideIt ((F2.out.up ((Below.refl _ _).alloc (Nat.le_refl _) (.cells #[.string x.name, .string (⟨#[]⟩ ++ x.text), .int .i64 0] 49))).up ((Below.refl _ _).alloc (Nat.le_refl _) (.cells #[.slice none 0 0] 26)))
  have HP := hideIt (l03Put_any fs ⟨x.name, ⟨#[]⟩ ++ x.text, 0⟩ n a c (by omega) _ F3.out)
  rw [← HG.out] at HP
  go_wp2_with (go_at_call 31; refine HP.out.mono ?_; rintro e w4 ⟨a', m, c', rfl, hown, hb4⟩; refine Hid.out ?_)
  refine (show ∀ {p : Prop}, p → Hid p from fun h => h) ?_
  have hA4 := ((HA2.out.alloc (.cells #[.string x.name, .string (⟨#[]⟩ ++ x.text), .int .i64 0] 49)).alloc (.cells #[.slice none 0 0] 26)).up hb4
  have x4 := (Box.new (w2.alloc (.cells #[.string x.name, .string (⟨#[]⟩ ++ x.text), .int .i64 0] 49)) 26 (.slice none 0 0) (w2.heap.size + 1) (by simp)).below hb4 (by simp)
  have T := sDoAct_tail w a n c x gs (w2.heap.size + 1) (by have := HA2.out.size; omega) a' m c' w4 hA4 x4 (own_mono hown (by simp)) (HDg.out)
  obtain ⟨o1, o2, HTd⟩ := T
  clear c0 c1 c2 c3 c4 c5 f5 hown hb4 HP F3 HA2
  obtain ⟨c0, c1, c2, c3, c4, c5, f5⟩ := hA4.cells
  clear hA4 x4
  go_wp2_with (go_at_call 42; refine (HTd.out).mono ?_; rintro e w6 ⟨rfl, hA6, x6, hown6⟩; refine Hid.out ?_)
  refine (show ∀ {p : Prop}, p → Hid p from fun h => h) ?_
  have s1 := (hA6.x2.set (.slice a' m c')).cell
  have q1 := hideIt (hA6.below.setCell (p := ⟨w.heap.size + 1 + 1, 0, none⟩) (by show w.heap.size ≤ w.heap.size + 1 + 1; omega) (.slice a' m c'))
  have HO := hideIt (own_mono (own_setLow hown6 (w.heap.size + 1 + 1) 0 (.slice a' m c') (by omega)) (show w.heap.size ≤ _ by omega))
  have o3 := x6.cell
  clear c0 c1 c2 c3 c4 c5 f5 o1 o2 HTd hown6
  obtain ⟨c0, c1, c2, c3, c4, c5, f5⟩ := hA6.cells
  clear hA6 x6
  go_wp2
  exact bodyPost_ret (v := .tuple #[.agg #[.slice a' m c'], .bool true]) (by simp [results, Try.results23, go_sem, s1]) rfl ⟨a', m, c', rfl, HO.out, q1.out⟩
set_option maxRecDepth 100000 in
set_option maxHeartbeats 8000000 in
theorem sDoAct_addnewno (fs : List FileV) (hfit : FitsF fs) (n : Nat) (a : Option Addr) (c : Nat) (x : ActV) (hxt : x.text.size ≤ 1048576) (w : World) (h : Fs w w.heap.size a n fs) (hf : ActFine fs x) (hk : x.kind = 1) (hat : atN fs x.name = none) (gs : List FileV) (hgs : gs = put fs ⟨x.name, ⟨#[]⟩ ++ x.text, 0⟩) (hgf : FitsF gs) (hgl : gs.length ≤ 1048576) (hd : ¬ DiskR gs) :
    Calls Try.prog 23 #[.agg #[.slice a n c], .agg #[.int .i64 x.kind, .string x.name, .string x.text, .string x.to]] w (ActAns w none) := by
  have hn30 := disk_n hf.disk h
  have hnm : n ≤ maxLen := by unfold maxLen; omega
  have H := sDiskOk_any fs hfit n a c hnm (w3 w a n c x) (w3_fs h)
  rw [dB_true hf.disk] at H
  have HD := hideIt H
  have HN := hideIt (fun W => l03Name_yes x.name hf.name.1 hf.name.2 W)
  have HF := hideIt h
  obtain ⟨t, l1, l2, l3, l4⟩ := looks1 hf hk
  have dk : (x.kind == 1) = true := by simp [hk]
  have HA := hideIt hat
  have HG := hideIt hgs
  have HDg := hideIt hd
  have HGf := hideIt hgf
  have HGl := hideIt hgl
  clear H h hf hat hk hgs hd hgf hgl
  unfold ActAns
  go_enter Try.func23, Try.ntmps23
  go_wp2_with (go_at_call 42; refine (show Calls Try.prog 42 #[.agg #[.slice a n c]] (w3 w a n c x) _ from HD.out).mono ?_; rintro e w1 ⟨rfl, hb1⟩; refine Hid.out ?_)
  refine (show ∀ {p : Prop}, p → Hid p from fun h => h) ?_
  have hA := (ActAt.start w a n c x).up hb1
  obtain ⟨c0, c1, c2, c3, c4, c5, f5⟩ := hA.cells
  have HAt := hideIt hA
  have F1 := hideIt ((w3_fs (c := c) (x := x) HF.out).up hb1)
  have HL := l03At_any fs x.name n a c hnm w1 F1.out
  rw [HA.out] at HL
  have HLh := hideIt HL
  unfold atI at HLh
  clear HD hb1 hA HL HF
  go_wp2_with (first | (go_at_call 43; refine (HN.out _).mono ?_; rintro e w2 ⟨rfl, rfl⟩) | (go_at_call 44; refine HLh.out.mono ?_; rintro e w2 ⟨rfl, hb2⟩; refine Hid.out ?_))
  refine (show ∀ {p : Prop}, p → Hid p from fun h => h) ?_
  have hA0 := HAt.out.up hb2
  have F2 := hideIt (F1.out.up hb2)
  have m0 : w.heap.size < w2.heap.size := by have := hA0.size; omega
  have m1 : w.heap.size + 1 < w2.heap.size := by have := hA0.size; omega
  have m2 : w.heap.size + 1 + 1 < w2.heap.size := by have := hA0.size; omega
  clear c0 c1 c2 c3 c4 c5 f5
  obtain ⟨c0, c1, c2, c3, c4, c5, f5⟩ := hA0.cells
  have HA2 := hideIt hA0
  have hcat := fun wx => run_string_add_sum (P := Try.prog) wx ⟨#[]⟩ x.text (by show 0 + x.text.size ≤ _; omega)
  clear HLh hb2 HAt hA0 F1
  have F3 := hideIt ((F2.out.up ((Below.refl _ _).alloc (Nat.le_refl _) (.cells #[.string x.name, .string (⟨#[]⟩ ++ x.text), .int .i64 0] 49))).up ((Below.refl _ _).alloc (Nat.le_refl _) (.cells #[.slice none 0 0] 26)))
  have HP := hideIt (l03Put_any fs ⟨x.name, ⟨#[]⟩ ++ x.text, 0⟩ n a c (by omega) _ F3.out)
  rw [← HG.out] at HP
  go_wp2_with (go_at_call 31; refine HP.out.mono ?_; rintro e w4 ⟨a', m, c', rfl, hown, hb4⟩; refine Hid.out ?_)
  refine (show ∀ {p : Prop}, p → Hid p from fun h => h) ?_
  have hA4 := ((HA2.out.alloc (.cells #[.string x.name, .string (⟨#[]⟩ ++ x.text), .int .i64 0] 49)).alloc (.cells #[.slice none 0 0] 26)).up hb4
  have x4 := (Box.new (w2.alloc (.cells #[.string x.name, .string (⟨#[]⟩ ++ x.text), .int .i64 0] 49)) 26 (.slice none 0 0) (w2.heap.size + 1) (by simp)).below hb4 (by simp)
  have T := sDoAct_tailno w a n c x gs (w2.heap.size + 1) (by have := HA2.out.size; omega) a' m c' w4 hA4 x4 (own_mono hown (by simp)) HGf.out HGl.out HDg.out
  obtain ⟨o1, o2, HTd⟩ := T
  clear c0 c1 c2 c3 c4 c5 f5 hown hb4 HP F3 HA2
  obtain ⟨c0, c1, c2, c3, c4, c5, f5⟩ := hA4.cells
  clear hA4 x4
  go_wp2_with (go_at_call 42; refine (HTd.out).mono ?_; rintro e w6 ⟨rfl, hA6⟩; refine Hid.out ?_)
  refine (show ∀ {p : Prop}, p → Hid p from fun h => h) ?_
  obtain ⟨s1, q1⟩ := hA6.refused
  clear c0 c1 c2 c3 c4 c5 f5 o1 o2 HTd
  obtain ⟨c0, c1, c2, c3, c4, c5, f5⟩ := hA6.cells
  clear hA6
  go_wp2
  exact bodyPost_ret (v := .tuple #[.agg #[.slice none 0 0], .bool false]) (by simp [results, Try.results23, go_sem, s1]) rfl ⟨rfl, q1⟩

set_option maxRecDepth 100000 in
set_option maxHeartbeats 8000000 in
theorem sDoAct_addfound (fs : List FileV) (hfit : FitsF fs) (n : Nat) (a : Option Addr) (c : Nat) (x : ActV) (hxt : x.text.size ≤ 1048576)  (w : World) (h : Fs w w.heap.size a n fs) (hf : ActFine fs x) (hk : x.kind = 1) (k : Nat) (f : FileV) (hft : f.text.size ≤ 1048576) (hat : atN fs x.name = some k) (hfk : fs[k]? = some f) (gs : List FileV) (hgs : gs = put fs ⟨f.name, f.text ++ x.text, f.kept⟩) (hd : DiskR gs) :
    Calls Try.prog 23 #[.agg #[.slice a n c], .agg #[.int .i64 x.kind, .string x.name, .string x.text, .string x.to]] w (ActAns w (some gs)) := by
  have hn30 := disk_n hf.disk h
  have hnm : n ≤ maxLen := by unfold maxLen; omega
  have H := sDiskOk_any fs hfit n a c hnm (w3 w a n c x) (w3_fs h)
  rw [dB_true hf.disk] at H
  have HD := hideIt H
  have HN := hideIt (fun W => l03Name_yes x.name hf.name.1 hf.name.2 W)
  have HF := hideIt h
  obtain ⟨t, l1, l2, l3, l4⟩ := looks1 hf hk
  have dk : (x.kind == 1) = true := by simp [hk]
  have HA := hideIt hat
  have hkl : k < n := by rw [← h.1]; exact atN_lt hat
  have hff := hfit f (List.mem_of_getElem? hfk)
  unfold maxLen at hff
  have HK := hideIt hfk
  have HG := hideIt hgs
  have HDg := hideIt hd
  clear H h hf hat hk hfk hgs hd
  unfold ActAns
  go_enter Try.func23, Try.ntmps23
  go_wp2_with (go_at_call 42; refine (show Calls Try.prog 42 #[.agg #[.slice a n c]] (w3 w a n c x) _ from HD.out).mono ?_; rintro e w1 ⟨rfl, hb1⟩; refine Hid.out ?_)
  refine (show ∀ {p : Prop}, p → Hid p from fun h => h) ?_
  have hA := (ActAt.start w a n c x).up hb1
  obtain ⟨c0, c1, c2, c3, c4, c5, f5⟩ := hA.cells
  have HAt := hideIt hA
  have F1 := hideIt ((w3_fs (c := c) (x := x) HF.out).up hb1)
  have HL := l03At_any fs x.name n a c hnm w1 F1.out
  rw [HA.out] at HL
  have HLh := hideIt HL
  unfold atI at HLh
  clear HD hb1 hA HL HF
  go_wp2_with (first | (go_at_call 43; refine (HN.out _).mono ?_; rintro e w2 ⟨rfl, rfl⟩) | (go_at_call 44; refine HLh.out.mono ?_; rintro e w2 ⟨rfl, hb2⟩; refine Hid.out ?_))
  refine (show ∀ {p : Prop}, p → Hid p from fun h => h) ?_
  have hA0 := HAt.out.up hb2
  have F2 := hideIt (F1.out.up hb2)
  have m0 : w.heap.size < w2.heap.size := by have := hA0.size; omega
  have m1 : w.heap.size + 1 < w2.heap.size := by have := hA0.size; omega
  have m2 : w.heap.size + 1 + 1 < w2.heap.size := by have := hA0.size; omega
  clear c0 c1 c2 c3 c4 c5 f5
  obtain ⟨c0, c1, c2, c3, c4, c5, f5⟩ := hA0.cells
  have HA2 := hideIt hA0
  rcases F2.out.2 with hz | ⟨b, off, rfl, hbl, hcc⟩
  · omega
  obtain ⟨v0, v1, v2⟩ := hcc k f HK.out
  have b1 : (0 : Int) ≤ (k : Int) := by omega
  have b2 : (k : Int) < (n : Int) := by omega
  have dk0 : decide ((0 : Int) ≤ (k : Int)) = true := by simp
  have dk1 : decide ((k : Int) < 0) = false := by simp
  clear hcc
  have hcat := fun wx => run_string_add_sum (P := Try.prog) wx f.text x.text (by omega)
  clear HLh hb2 HAt hA0 F1
  have F3 := hideIt ((F2.out.up ((Below.refl _ _).alloc (Nat.le_refl _) (.cells #[.string f.name, .string (f.text ++ x.text), .int .i64 f.kept] 49))).up ((Below.refl _ _).alloc (Nat.le_refl _) (.cells #[.slice none 0 0] 26)))
  have HP := hideIt (l03Put_any fs ⟨f.name, f.text ++ x.text, f.kept⟩ n _ c (by omega) _ F3.out)
  rw [← HG.out] at HP
  go_wp2_with (go_at_call 31; refine HP.out.mono ?_; rintro e w4 ⟨a', m, c', rfl, hown, hb4⟩; refine Hid.out ?_)
  refine (show ∀ {p : Prop}, p → Hid p from fun h => h) ?_
  have hA4 := ((HA2.out.alloc (.cells #[.string f.name, .string (f.text ++ x.text), .int .i64 f.kept] 49)).alloc (.cells #[.slice none 0 0] 26)).up hb4
  have x4 := (Box.new (w2.alloc (.cells #[.string f.name, .string (f.text ++ x.text), .int .i64 f.kept] 49)) 26 (.slice none 0 0) (w2.heap.size + 1) (by simp)).below hb4 (by simp)
  have T := sDoAct_tail w _ n c x gs (w2.heap.size + 1) (by have := HA2.out.size; omega) a' m c' w4 hA4 x4 (own_mono hown (by simp)) (HDg.out)
  obtain ⟨o1, o2, HTd⟩ := T
  clear c0 c1 c2 c3 c4 c5 f5 hown hb4 HP F3 HA2
  obtain ⟨c0, c1, c2, c3, c4, c5, f5⟩ := hA4.cells
  clear hA4 x4
  go_wp2_with (go_at_call 42; refine (HTd.out).mono ?_; rintro e w6 ⟨rfl, hA6, x6, hown6⟩; refine Hid.out ?_)
  refine (show ∀ {p : Prop}, p → Hid p from fun h => h) ?_
  have s1 := (hA6.x2.set (.slice a' m c')).cell
  have q1 := hideIt (hA6.below.setCell (p := ⟨w.heap.size + 1 + 1, 0, none⟩) (by show w.heap.size ≤ w.heap.size + 1 + 1; omega) (.slice a' m c'))
  have HO := hideIt (own_mono (own_setLow hown6 (w.heap.size + 1 + 1) 0 (.slice a' m c') (by omega)) (show w.heap.size ≤ _ by omega))
  have o3 := x6.cell
  clear c0 c1 c2 c3 c4 c5 f5 o1 o2 HTd hown6
  obtain ⟨c0, c1, c2, c3, c4, c5, f5⟩ := hA6.cells
  clear hA6 x6
  go_wp2
  exact bodyPost_ret (v := .tuple #[.agg #[.slice a' m c'], .bool true]) (by simp [results, Try.results23, go_sem, s1]) rfl ⟨a', m, c', rfl, HO.out, q1.out⟩
set_option maxRecDepth 100000 in
set_option maxHeartbeats 8000000 in
theorem sDoAct_addfoundno (fs : List FileV) (hfit : FitsF fs) (n : Nat) (a : Option Addr) (c : Nat) (x : ActV) (hxt : x.text.size ≤ 1048576)  (w : World) (h : Fs w w.heap.size a n fs) (hf : ActFine fs x) (hk : x.kind = 1) (k : Nat) (f : FileV) (hft : f.text.size ≤ 1048576) (hat : atN fs x.name = some k) (hfk : fs[k]? = some f) (gs : List FileV) (hgs : gs = put fs ⟨f.name, f.text ++ x.text, f.kept⟩) (hgf : FitsF gs) (hgl : gs.length ≤ 1048576) (hd : ¬ DiskR gs) :
    Calls Try.prog 23 #[.agg #[.slice a n c], .agg #[.int .i64 x.kind, .string x.name, .string x.text, .string x.to]] w (ActAns w none) := by
  have hn30 := disk_n hf.disk h
  have hnm : n ≤ maxLen := by unfold maxLen; omega
  have H := sDiskOk_any fs hfit n a c hnm (w3 w a n c x) (w3_fs h)
  rw [dB_true hf.disk] at H
  have HD := hideIt H
  have HN := hideIt (fun W => l03Name_yes x.name hf.name.1 hf.name.2 W)
  have HF := hideIt h
  obtain ⟨t, l1, l2, l3, l4⟩ := looks1 hf hk
  have dk : (x.kind == 1) = true := by simp [hk]
  have HA := hideIt hat
  have hkl : k < n := by rw [← h.1]; exact atN_lt hat
  have hff := hfit f (List.mem_of_getElem? hfk)
  unfold maxLen at hff
  have HK := hideIt hfk
  have HG := hideIt hgs
  have HDg := hideIt hd
  have HGf := hideIt hgf
  have HGl := hideIt hgl
  clear H h hf hat hk hfk hgs hd hgf hgl
  unfold ActAns
  go_enter Try.func23, Try.ntmps23
  go_wp2_with (go_at_call 42; refine (show Calls Try.prog 42 #[.agg #[.slice a n c]] (w3 w a n c x) _ from HD.out).mono ?_; rintro e w1 ⟨rfl, hb1⟩; refine Hid.out ?_)
  refine (show ∀ {p : Prop}, p → Hid p from fun h => h) ?_
  have hA := (ActAt.start w a n c x).up hb1
  obtain ⟨c0, c1, c2, c3, c4, c5, f5⟩ := hA.cells
  have HAt := hideIt hA
  have F1 := hideIt ((w3_fs (c := c) (x := x) HF.out).up hb1)
  have HL := l03At_any fs x.name n a c hnm w1 F1.out
  rw [HA.out] at HL
  have HLh := hideIt HL
  unfold atI at HLh
  clear HD hb1 hA HL HF
  go_wp2_with (first | (go_at_call 43; refine (HN.out _).mono ?_; rintro e w2 ⟨rfl, rfl⟩) | (go_at_call 44; refine HLh.out.mono ?_; rintro e w2 ⟨rfl, hb2⟩; refine Hid.out ?_))
  refine (show ∀ {p : Prop}, p → Hid p from fun h => h) ?_
  have hA0 := HAt.out.up hb2
  have F2 := hideIt (F1.out.up hb2)
  have m0 : w.heap.size < w2.heap.size := by have := hA0.size; omega
  have m1 : w.heap.size + 1 < w2.heap.size := by have := hA0.size; omega
  have m2 : w.heap.size + 1 + 1 < w2.heap.size := by have := hA0.size; omega
  clear c0 c1 c2 c3 c4 c5 f5
  obtain ⟨c0, c1, c2, c3, c4, c5, f5⟩ := hA0.cells
  have HA2 := hideIt hA0
  rcases F2.out.2 with hz | ⟨b, off, rfl, hbl, hcc⟩
  · omega
  obtain ⟨v0, v1, v2⟩ := hcc k f HK.out
  have b1 : (0 : Int) ≤ (k : Int) := by omega
  have b2 : (k : Int) < (n : Int) := by omega
  have dk0 : decide ((0 : Int) ≤ (k : Int)) = true := by simp
  have dk1 : decide ((k : Int) < 0) = false := by simp
  clear hcc
  have hcat := fun wx => run_string_add_sum (P := Try.prog) wx f.text x.text (by omega)
  clear HLh hb2 HAt hA0 F1
  have F3 := hideIt ((F2.out.up ((Below.refl _ _).alloc (Nat.le_refl _) (.cells #[.string f.name, .string (f.text ++ x.text), .int .i64 f.kept] 49))).up ((Below.refl _ _).alloc (Nat.le_refl _) (.cells #[.slice none 0 0] 26)))
  have HP := hideIt (l03Put_any fs ⟨f.name, f.text ++ x.text, f.kept⟩ n _ c (by omega) _ F3.out)
  rw [← HG.out] at HP
  go_wp2_with (go_at_call 31; refine HP.out.mono ?_; rintro e w4 ⟨a', m, c', rfl, hown, hb4⟩; refine Hid.out ?_)
  refine (show ∀ {p : Prop}, p → Hid p from fun h => h) ?_
  have hA4 := ((HA2.out.alloc (.cells #[.string f.name, .string (f.text ++ x.text), .int .i64 f.kept] 49)).alloc (.cells #[.slice none 0 0] 26)).up hb4
  have x4 := (Box.new (w2.alloc (.cells #[.string f.name, .string (f.text ++ x.text), .int .i64 f.kept] 49)) 26 (.slice none 0 0) (w2.heap.size + 1) (by simp)).below hb4 (by simp)
  have T := sDoAct_tailno w _ n c x gs (w2.heap.size + 1) (by have := HA2.out.size; omega) a' m c' w4 hA4 x4 (own_mono hown (by simp)) HGf.out HGl.out HDg.out
  obtain ⟨o1, o2, HTd⟩ := T
  clear c0 c1 c2 c3 c4 c5 f5 hown hb4 HP F3 HA2
  obtain ⟨c0, c1, c2, c3, c4, c5, f5⟩ := hA4.cells
  clear hA4 x4
  go_wp2_with (go_at_call 42; refine (HTd.out).mono ?_; rintro e w6 ⟨rfl, hA6⟩; refine Hid.out ?_)
  refine (show ∀ {p : Prop}, p → Hid p from fun h => h) ?_
  obtain ⟨s1, q1⟩ := hA6.refused
  clear c0 c1 c2 c3 c4 c5 f5 o1 o2 HTd
  obtain ⟨c0, c1, c2, c3, c4, c5, f5⟩ := hA6.cells
  clear hA6
  go_wp2
  exact bodyPost_ret (v := .tuple #[.agg #[.slice none 0 0], .bool false]) (by simp [results, Try.results23, go_sem, s1]) rfl ⟨rfl, q1⟩

end Go.Proofs.Ythffflpclmpamaa
namespace Go.Proofs.Ythffflpclmpamaa
open Go.RowKit

set_option maxRecDepth 100000 in
set_option maxHeartbeats 8000000 in
theorem sDoAct_keep (fs : List FileV) (hfit : FitsF fs) (n : Nat) (a : Option Addr) (c : Nat) (x : ActV) (w : World) (h : Fs w w.heap.size a n fs) (hf : ActFine fs x) (hk : x.kind = 2) (k : Nat) (f : FileV) (hat : atN fs x.name = some k) (hfk : fs[k]? = some f) (gs : List FileV) (hgs : gs = put fs ⟨f.name, f.text, f.text.size⟩) (hd : DiskR gs) :
    Calls Try.prog 23 #[.agg #[.slice a n c], .agg #[.int .i64 x.kind, .string x.name, .string x.text, .string x.to]] w (ActAns w (some gs)) := by
  have hn30 := disk_n hf.disk h
  have hnm : n ≤ maxLen := by unfold maxLen; omega
  have H := sDiskOk_any fs hfit n a c hnm (w3 w a n c x) (w3_fs h)
  rw [dB_true hf.disk] at H
  have HD := hideIt H
  have HN := hideIt (fun W => l03Name_yes x.name hf.name.1 hf.name.2 W)
  have HF := hideIt h
  obtain ⟨l1, l2, l3, l4⟩ := looks0 hf (by omega) (by omega)
  have dk : (x.kind == 1) = false := by simp [hk]
  have dk2 : (x.kind == 2) = true := by simp [hk]
  have HA := hideIt hat
  have hkl : k < n := by rw [← h.1]; exact atN_lt hat
  have hff := hfit f (List.mem_of_getElem? hfk)
  unfold maxLen at hff
  have HK := hideIt hfk
  have HG := hideIt hgs
  have HDg := hideIt hd
  clear H h hf hat hk hfk hgs hd
  unfold ActAns
  go_enter Try.func23, Try.ntmps23
  go_wp2_with (go_at_call 42; refine (show Calls Try.prog 42 #[.agg #[.slice a n c]] (w3 w a n c x) _ from HD.out).mono ?_; rintro e w1 ⟨rfl, hb1⟩; refine Hid.out ?_)
  refine (show ∀ {p : Prop}, p → Hid p from fun h => h) ?_
  have hA := (ActAt.start w a n c x).up hb1
  obtain ⟨c0, c1, c2, c3, c4, c5, f5⟩ := hA.cells
  have HAt := hideIt hA
  have F1 := hideIt ((w3_fs (c := c) (x := x) HF.out).up hb1)
  have HL := l03At_any fs x.name n a c hnm w1 F1.out
  rw [HA.out] at HL
  have HLh := hideIt HL
  unfold atI at HLh
  clear HD hb1 hA HL HF
  go_wp2_with (first | (go_at_call 43; refine (HN.out _).mono ?_; rintro e w2 ⟨rfl, rfl⟩) | (go_at_call 44; refine HLh.out.mono ?_; rintro e w2 ⟨rfl, hb2⟩; refine Hid.out ?_))
  refine (show ∀ {p : Prop}, p → Hid p from fun h => h) ?_
  have hA0 := HAt.out.up hb2
  have F2 := hideIt (F1.out.up hb2)
  have m0 : w.heap.size < w2.heap.size := by have := hA0.size; omega
  have m1 : w.heap.size + 1 < w2.heap.size := by have := hA0.size; omega
  have m2 : w.heap.size + 1 + 1 < w2.heap.size := by have := hA0.size; omega
  clear c0 c1 c2 c3 c4 c5 f5
  obtain ⟨c0, c1, c2, c3, c4, c5, f5⟩ := hA0.cells
  have HA2 := hideIt hA0
  rcases F2.out.2 with hz | ⟨b, off, rfl, hbl, hcc⟩
  · omega
  obtain ⟨v0, v1, v2⟩ := hcc k f HK.out
  have b1 : (0 : Int) ≤ (k : Int) := by omega
  have b2 : (k : Int) < (n : Int) := by omega
  have dk0 : decide ((0 : Int) ≤ (k : Int)) = true := by simp
  have dk1 : decide ((k : Int) < 0) = false := by simp
  clear hcc
  clear HLh hb2 HAt hA0 F1
  have F3 := hideIt ((F2.out.up ((Below.refl _ _).alloc (Nat.le_refl _) (.cells #[.string f.name, .string f.text, .int .i64 (f.text.size : Int)] 49))).up ((Below.refl _ _).alloc (Nat.le_refl _) (.cells #[.slice none 0 0] 26)))
  have HP := hideIt (l03Put_any fs ⟨f.name, f.text, f.text.size⟩ n _ c (by omega) _ F3.out)
  rw [← HG.out] at HP
  go_wp2_with (go_at_call 31; refine HP.out.mono ?_; rintro e w4 ⟨a', m, c', rfl, hown, hb4⟩; refine Hid.out ?_)
  refine (show ∀ {p : Prop}, p → Hid p from fun h => h) ?_
  have hA4 := ((HA2.out.alloc (.cells #[.string f.name, .string f.text, .int .i64 (f.text.size : Int)] 49)).alloc (.cells #[.slice none 0 0] 26)).up hb4
  have x4 := (Box.new (w2.alloc (.cells #[.string f.name, .string f.text, .int .i64 (f.text.size : Int)] 49)) 26 (.slice none 0 0) (w2.heap.size + 1) (by simp)).below hb4 (by simp)
  have T := sDoAct_tail w _ n c x gs (w2.heap.size + 1) (by have := HA2.out.size; omega) a' m c' w4 hA4 x4 (own_mono hown (by simp)) (HDg.out)
  obtain ⟨o1, o2, HTd⟩ := T
  clear c0 c1 c2 c3 c4 c5 f5 hown hb4 HP F3 HA2
  obtain ⟨c0, c1, c2, c3, c4, c5, f5⟩ := hA4.cells
  clear hA4 x4
  go_wp2_with (go_at_call 42; refine (HTd.out).mono ?_; rintro e w6 ⟨rfl, hA6, x6, hown6⟩; refine Hid.out ?_)
  refine (show ∀ {p : Prop}, p → Hid p from fun h => h) ?_
  have s1 := (hA6.x2.set (.slice a' m c')).cell
  have q1 := hideIt (hA6.below.setCell (p := ⟨w.heap.size + 1 + 1, 0, none⟩) (by show w.heap.size ≤ w.heap.size + 1 + 1; omega) (.slice a' m c'))
  have HO := hideIt (own_mono (own_setLow hown6 (w.heap.size + 1 + 1) 0 (.slice a' m c') (by omega)) (show w.heap.size ≤ _ by omega))
  have o3 := x6.cell
  clear c0 c1 c2 c3 c4 c5 f5 o1 o2 HTd hown6
  obtain ⟨c0, c1, c2, c3, c4, c5, f5⟩ := hA6.cells
  clear hA6 x6
  go_wp2
  exact bodyPost_ret (v := .tuple #[.agg #[.slice a' m c'], .bool true]) (by simp [results, Try.results23, go_sem, s1]) rfl ⟨a', m, c', rfl, HO.out, q1.out⟩
set_option maxRecDepth 100000 in
set_option maxHeartbeats 8000000 in
theorem sDoAct_keepno (fs : List FileV) (hfit : FitsF fs) (n : Nat) (a : Option Addr) (c : Nat) (x : ActV) (w : World) (h : Fs w w.heap.size a n fs) (hf : ActFine fs x) (hk : x.kind = 2) (k : Nat) (f : FileV) (hat : atN fs x.name = some k) (hfk : fs[k]? = some f) (gs : List FileV) (hgs : gs = put fs ⟨f.name, f.text, f.text.size⟩) (hgf : FitsF gs) (hgl : gs.length ≤ 1048576) (hd : ¬ DiskR gs) :
    Calls Try.prog 23 #[.agg #[.slice a n c], .agg #[.int .i64 x.kind, .string x.name, .string x.text, .string x.to]] w (ActAns w none) := by
  have hn30 := disk_n hf.disk h
  have hnm : n ≤ maxLen := by unfold maxLen; omega
  have H := sDiskOk_any fs hfit n a c hnm (w3 w a n c x) (w3_fs h)
  rw [dB_true hf.disk] at H
  have HD := hideIt H
  have HN := hideIt (fun W => l03Name_yes x.name hf.name.1 hf.name.2 W)
  have HF := hideIt h
  obtain ⟨l1, l2, l3, l4⟩ := looks0 hf (by omega) (by omega)
  have dk : (x.kind == 1) = false := by simp [hk]
  have dk2 : (x.kind == 2) = true := by simp [hk]
  have HA := hideIt hat
  have hkl : k < n := by rw [← h.1]; exact atN_lt hat
  have hff := hfit f (List.mem_of_getElem? hfk)
  unfold maxLen at hff
  have HK := hideIt hfk
  have HG := hideIt hgs
  have HDg := hideIt hd
  have HGf := hideIt hgf
  have HGl := hideIt hgl
  clear H h hf hat hk hfk hgs hd hgf hgl
  unfold ActAns
  go_enter Try.func23, Try.ntmps23
  go_wp2_with (go_at_call 42; refine (show Calls Try.prog 42 #[.agg #[.slice a n c]] (w3 w a n c x) _ from HD.out).mono ?_; rintro e w1 ⟨rfl, hb1⟩; refine Hid.out ?_)
  refine (show ∀ {p : Prop}, p → Hid p from fun h => h) ?_
  have hA := (ActAt.start w a n c x).up hb1
  obtain ⟨c0, c1, c2, c3, c4, c5, f5⟩ := hA.cells
  have HAt := hideIt hA
  have F1 := hideIt ((w3_fs (c := c) (x := x) HF.out).up hb1)
  have HL := l03At_any fs x.name n a c hnm w1 F1.out
  rw [HA.out] at HL
  have HLh := hideIt HL
  unfold atI at HLh
  clear HD hb1 hA HL HF
  go_wp2_with (first | (go_at_call 43; refine (HN.out _).mono ?_; rintro e w2 ⟨rfl, rfl⟩) | (go_at_call 44; refine HLh.out.mono ?_; rintro e w2 ⟨rfl, hb2⟩; refine Hid.out ?_))
  refine (show ∀ {p : Prop}, p → Hid p from fun h => h) ?_
  have hA0 := HAt.out.up hb2
  have F2 := hideIt (F1.out.up hb2)
  have m0 : w.heap.size < w2.heap.size := by have := hA0.size; omega
  have m1 : w.heap.size + 1 < w2.heap.size := by have := hA0.size; omega
  have m2 : w.heap.size + 1 + 1 < w2.heap.size := by have := hA0.size; omega
  clear c0 c1 c2 c3 c4 c5 f5
  obtain ⟨c0, c1, c2, c3, c4, c5, f5⟩ := hA0.cells
  have HA2 := hideIt hA0
  rcases F2.out.2 with hz | ⟨b, off, rfl, hbl, hcc⟩
  · omega
  obtain ⟨v0, v1, v2⟩ := hcc k f HK.out
  have b1 : (0 : Int) ≤ (k : Int) := by omega
  have b2 : (k : Int) < (n : Int) := by omega
  have dk0 : decide ((0 : Int) ≤ (k : Int)) = true := by simp
  have dk1 : decide ((k : Int) < 0) = false := by simp
  clear hcc
  clear HLh hb2 HAt hA0 F1
  have F3 := hideIt ((F2.out.up ((Below.refl _ _).alloc (Nat.le_refl _) (.cells #[.string f.name, .string f.text, .int .i64 (f.text.size : Int)] 49))).up ((Below.refl _ _).alloc (Nat.le_refl _) (.cells #[.slice none 0 0] 26)))
  have HP := hideIt (l03Put_any fs ⟨f.name, f.text, f.text.size⟩ n _ c (by omega) _ F3.out)
  rw [← HG.out] at HP
  go_wp2_with (go_at_call 31; refine HP.out.mono ?_; rintro e w4 ⟨a', m, c', rfl, hown, hb4⟩; refine Hid.out ?_)
  refine (show ∀ {p : Prop}, p → Hid p from fun h => h) ?_
  have hA4 := ((HA2.out.alloc (.cells #[.string f.name, .string f.text, .int .i64 (f.text.size : Int)] 49)).alloc (.cells #[.slice none 0 0] 26)).up hb4
  have x4 := (Box.new (w2.alloc (.cells #[.string f.name, .string f.text, .int .i64 (f.text.size : Int)] 49)) 26 (.slice none 0 0) (w2.heap.size + 1) (by simp)).below hb4 (by simp)
  have T := sDoAct_tailno w _ n c x gs (w2.heap.size + 1) (by have := HA2.out.size; omega) a' m c' w4 hA4 x4 (own_mono hown (by simp)) HGf.out HGl.out HDg.out
  obtain ⟨o1, o2, HTd⟩ := T
  clear c0 c1 c2 c3 c4 c5 f5 hown hb4 HP F3 HA2
  obtain ⟨c0, c1, c2, c3, c4, c5, f5⟩ := hA4.cells
  clear hA4 x4
  go_wp2_with (go_at_call 42; refine (HTd.out).mono ?_; rintro e w6 ⟨rfl, hA6⟩; refine Hid.out ?_)
  refine (show ∀ {p : Prop}, p → Hid p from fun h => h) ?_
  obtain ⟨s1, q1⟩ := hA6.refused
  clear c0 c1 c2 c3 c4 c5 f5 o1 o2 HTd
  obtain ⟨c0, c1, c2, c3, c4, c5, f5⟩ := hA6.cells
  clear hA6
  go_wp2
  exact bodyPost_ret (v := .tuple #[.agg #[.slice none 0 0], .bool false]) (by simp [results, Try.results23, go_sem, s1]) rfl ⟨rfl, q1⟩

set_option maxRecDepth 100000 in
set_option maxHeartbeats 8000000 in
theorem sDoAct_drop (fs : List FileV) (hfit : FitsF fs) (n : Nat) (a : Option Addr) (c : Nat) (x : ActV) (w : World) (h : Fs w w.heap.size a n fs) (hf : ActFine fs x) (hk : x.kind = 4) (k : Nat) (f : FileV) (hat : atN fs x.name = some k) (hfk : fs[k]? = some f) (gs : List FileV) (hgs : gs = without fs x.name) (hd : DiskR gs) :
    Calls Try.prog 23 #[.agg #[.slice a n c], .agg #[.int .i64 x.kind, .string x.name, .string x.text, .string x.to]] w (ActAns w (some gs)) := by
  have hn30 := disk_n hf.disk h
  have hnm : n ≤ maxLen := by unfold maxLen; omega
  have H := sDiskOk_any fs hfit n a c hnm (w3 w a n c x) (w3_fs h)
  rw [dB_true hf.disk] at H
  have HD := hideIt H
  have HN := hideIt (fun W => l03Name_yes x.name hf.name.1 hf.name.2 W)
  have HF := hideIt h
  obtain ⟨l1, l2, l3, l4⟩ := looks0 hf (by omega) (by omega)
  have dk : (x.kind == 1) = false := by simp [hk]
  have dk2 : (x.kind == 2) = false := by simp [hk]
  have dk3 : (x.kind == 3) = false := by simp [hk]
  have dk4 : (x.kind == 4) = true := by simp [hk]
  have HA := hideIt hat
  have hkl : k < n := by rw [← h.1]; exact atN_lt hat
  have hff := hfit f (List.mem_of_getElem? hfk)
  unfold maxLen at hff
  have HK := hideIt hfk
  have HG := hideIt hgs
  have HDg := hideIt hd
  clear H h hf hat hk hfk hgs hd
  unfold ActAns
  go_enter Try.func23, Try.ntmps23
  go_wp2_with (go_at_call 42; refine (show Calls Try.prog 42 #[.agg #[.slice a n c]] (w3 w a n c x) _ from HD.out).mono ?_; rintro e w1 ⟨rfl, hb1⟩; refine Hid.out ?_)
  refine (show ∀ {p : Prop}, p → Hid p from fun h => h) ?_
  have hA := (ActAt.start w a n c x).up hb1
  obtain ⟨c0, c1, c2, c3, c4, c5, f5⟩ := hA.cells
  have HAt := hideIt hA
  have F1 := hideIt ((w3_fs (c := c) (x := x) HF.out).up hb1)
  have HL := l03At_any fs x.name n a c hnm w1 F1.out
  rw [HA.out] at HL
  have HLh := hideIt HL
  unfold atI at HLh
  clear HD hb1 hA HL HF
  go_wp2_with (first | (go_at_call 43; refine (HN.out _).mono ?_; rintro e w2 ⟨rfl, rfl⟩) | (go_at_call 44; refine HLh.out.mono ?_; rintro e w2 ⟨rfl, hb2⟩; refine Hid.out ?_))
  refine (show ∀ {p : Prop}, p → Hid p from fun h => h) ?_
  have hA0 := HAt.out.up hb2
  have F2 := hideIt (F1.out.up hb2)
  have m0 : w.heap.size < w2.heap.size := by have := hA0.size; omega
  have m1 : w.heap.size + 1 < w2.heap.size := by have := hA0.size; omega
  have m2 : w.heap.size + 1 + 1 < w2.heap.size := by have := hA0.size; omega
  clear c0 c1 c2 c3 c4 c5 f5
  obtain ⟨c0, c1, c2, c3, c4, c5, f5⟩ := hA0.cells
  have HA2 := hideIt hA0
  rcases F2.out.2 with hz | ⟨b, off, rfl, hbl, hcc⟩
  · omega
  obtain ⟨v0, v1, v2⟩ := hcc k f HK.out
  have b1 : (0 : Int) ≤ (k : Int) := by omega
  have b2 : (k : Int) < (n : Int) := by omega
  have dk0 : decide ((0 : Int) ≤ (k : Int)) = true := by simp
  have dk1 : decide ((k : Int) < 0) = false := by simp
  clear hcc
  clear HLh hb2 HAt hA0 F1
  have F3 := hideIt ((F2.out.up ((Below.refl _ _).alloc (Nat.le_refl _) (.cells #[.string f.name, .string f.text, .int .i64 f.kept] 49))).up ((Below.refl _ _).alloc (Nat.le_refl _) (.cells #[.slice none 0 0] 26)))
  have HP := hideIt (l03Without_any fs x.name n _ c (by omega) _ F3.out)
  rw [← HG.out] at HP
  go_wp2_with (go_at_call 45; refine HP.out.mono ?_; rintro e w4 ⟨a', m, c', rfl, hown, hb4⟩; refine Hid.out ?_)
  refine (show ∀ {p : Prop}, p → Hid p from fun h => h) ?_
  have hA4 := ((HA2.out.alloc (.cells #[.string f.name, .string f.text, .int .i64 f.kept] 49)).alloc (.cells #[.slice none 0 0] 26)).up hb4
  have x4 := (Box.new (w2.alloc (.cells #[.string f.name, .string f.text, .int .i64 f.kept] 49)) 26 (.slice none 0 0) (w2.heap.size + 1) (by simp)).below hb4 (by simp)
  have T := sDoAct_tail w _ n c x gs (w2.heap.size + 1) (by have := HA2.out.size; omega) a' m c' w4 hA4 x4 (own_mono hown (by simp)) (HDg.out)
  obtain ⟨o1, o2, HTd⟩ := T
  clear c0 c1 c2 c3 c4 c5 f5 hown hb4 HP F3 HA2
  obtain ⟨c0, c1, c2, c3, c4, c5, f5⟩ := hA4.cells
  clear hA4 x4
  go_wp2_with (go_at_call 42; refine (HTd.out).mono ?_; rintro e w6 ⟨rfl, hA6, x6, hown6⟩; refine Hid.out ?_)
  refine (show ∀ {p : Prop}, p → Hid p from fun h => h) ?_
  have s1 := (hA6.x2.set (.slice a' m c')).cell
  have q1 := hideIt (hA6.below.setCell (p := ⟨w.heap.size + 1 + 1, 0, none⟩) (by show w.heap.size ≤ w.heap.size + 1 + 1; omega) (.slice a' m c'))
  have HO := hideIt (own_mono (own_setLow hown6 (w.heap.size + 1 + 1) 0 (.slice a' m c') (by omega)) (show w.heap.size ≤ _ by omega))
  have o3 := x6.cell
  clear c0 c1 c2 c3 c4 c5 f5 o1 o2 HTd hown6
  obtain ⟨c0, c1, c2, c3, c4, c5, f5⟩ := hA6.cells
  clear hA6 x6
  go_wp2
  exact bodyPost_ret (v := .tuple #[.agg #[.slice a' m c'], .bool true]) (by simp [results, Try.results23, go_sem, s1]) rfl ⟨a', m, c', rfl, HO.out, q1.out⟩
set_option maxRecDepth 100000 in
set_option maxHeartbeats 8000000 in
theorem sDoAct_dropno (fs : List FileV) (hfit : FitsF fs) (n : Nat) (a : Option Addr) (c : Nat) (x : ActV) (w : World) (h : Fs w w.heap.size a n fs) (hf : ActFine fs x) (hk : x.kind = 4) (k : Nat) (f : FileV) (hat : atN fs x.name = some k) (hfk : fs[k]? = some f) (gs : List FileV) (hgs : gs = without fs x.name) (hgf : FitsF gs) (hgl : gs.length ≤ 1048576) (hd : ¬ DiskR gs) :
    Calls Try.prog 23 #[.agg #[.slice a n c], .agg #[.int .i64 x.kind, .string x.name, .string x.text, .string x.to]] w (ActAns w none) := by
  have hn30 := disk_n hf.disk h
  have hnm : n ≤ maxLen := by unfold maxLen; omega
  have H := sDiskOk_any fs hfit n a c hnm (w3 w a n c x) (w3_fs h)
  rw [dB_true hf.disk] at H
  have HD := hideIt H
  have HN := hideIt (fun W => l03Name_yes x.name hf.name.1 hf.name.2 W)
  have HF := hideIt h
  obtain ⟨l1, l2, l3, l4⟩ := looks0 hf (by omega) (by omega)
  have dk : (x.kind == 1) = false := by simp [hk]
  have dk2 : (x.kind == 2) = false := by simp [hk]
  have dk3 : (x.kind == 3) = false := by simp [hk]
  have dk4 : (x.kind == 4) = true := by simp [hk]
  have HA := hideIt hat
  have hkl : k < n := by rw [← h.1]; exact atN_lt hat
  have hff := hfit f (List.mem_of_getElem? hfk)
  unfold maxLen at hff
  have HK := hideIt hfk
  have HG := hideIt hgs
  have HDg := hideIt hd
  have HGf := hideIt hgf
  have HGl := hideIt hgl
  clear H h hf hat hk hfk hgs hd hgf hgl
  unfold ActAns
  go_enter Try.func23, Try.ntmps23
  go_wp2_with (go_at_call 42; refine (show Calls Try.prog 42 #[.agg #[.slice a n c]] (w3 w a n c x) _ from HD.out).mono ?_; rintro e w1 ⟨rfl, hb1⟩; refine Hid.out ?_)
  refine (show ∀ {p : Prop}, p → Hid p from fun h => h) ?_
  have hA := (ActAt.start w a n c x).up hb1
  obtain ⟨c0, c1, c2, c3, c4, c5, f5⟩ := hA.cells
  have HAt := hideIt hA
  have F1 := hideIt ((w3_fs (c := c) (x := x) HF.out).up hb1)
  have HL := l03At_any fs x.name n a c hnm w1 F1.out
  rw [HA.out] at HL
  have HLh := hideIt HL
  unfold atI at HLh
  clear HD hb1 hA HL HF
  go_wp2_with (first | (go_at_call 43; refine (HN.out _).mono ?_; rintro e w2 ⟨rfl, rfl⟩) | (go_at_call 44; refine HLh.out.mono ?_; rintro e w2 ⟨rfl, hb2⟩; refine Hid.out ?_))
  refine (show ∀ {p : Prop}, p → Hid p from fun h => h) ?_
  have hA0 := HAt.out.up hb2
  have F2 := hideIt (F1.out.up hb2)
  have m0 : w.heap.size < w2.heap.size := by have := hA0.size; omega
  have m1 : w.heap.size + 1 < w2.heap.size := by have := hA0.size; omega
  have m2 : w.heap.size + 1 + 1 < w2.heap.size := by have := hA0.size; omega
  clear c0 c1 c2 c3 c4 c5 f5
  obtain ⟨c0, c1, c2, c3, c4, c5, f5⟩ := hA0.cells
  have HA2 := hideIt hA0
  rcases F2.out.2 with hz | ⟨b, off, rfl, hbl, hcc⟩
  · omega
  obtain ⟨v0, v1, v2⟩ := hcc k f HK.out
  have b1 : (0 : Int) ≤ (k : Int) := by omega
  have b2 : (k : Int) < (n : Int) := by omega
  have dk0 : decide ((0 : Int) ≤ (k : Int)) = true := by simp
  have dk1 : decide ((k : Int) < 0) = false := by simp
  clear hcc
  clear HLh hb2 HAt hA0 F1
  have F3 := hideIt ((F2.out.up ((Below.refl _ _).alloc (Nat.le_refl _) (.cells #[.string f.name, .string f.text, .int .i64 f.kept] 49))).up ((Below.refl _ _).alloc (Nat.le_refl _) (.cells #[.slice none 0 0] 26)))
  have HP := hideIt (l03Without_any fs x.name n _ c (by omega) _ F3.out)
  rw [← HG.out] at HP
  go_wp2_with (go_at_call 45; refine HP.out.mono ?_; rintro e w4 ⟨a', m, c', rfl, hown, hb4⟩; refine Hid.out ?_)
  refine (show ∀ {p : Prop}, p → Hid p from fun h => h) ?_
  have hA4 := ((HA2.out.alloc (.cells #[.string f.name, .string f.text, .int .i64 f.kept] 49)).alloc (.cells #[.slice none 0 0] 26)).up hb4
  have x4 := (Box.new (w2.alloc (.cells #[.string f.name, .string f.text, .int .i64 f.kept] 49)) 26 (.slice none 0 0) (w2.heap.size + 1) (by simp)).below hb4 (by simp)
  have T := sDoAct_tailno w _ n c x gs (w2.heap.size + 1) (by have := HA2.out.size; omega) a' m c' w4 hA4 x4 (own_mono hown (by simp)) HGf.out HGl.out HDg.out
  obtain ⟨o1, o2, HTd⟩ := T
  clear c0 c1 c2 c3 c4 c5 f5 hown hb4 HP F3 HA2
  obtain ⟨c0, c1, c2, c3, c4, c5, f5⟩ := hA4.cells
  clear hA4 x4
  go_wp2_with (go_at_call 42; refine (HTd.out).mono ?_; rintro e w6 ⟨rfl, hA6⟩; refine Hid.out ?_)
  refine (show ∀ {p : Prop}, p → Hid p from fun h => h) ?_
  obtain ⟨s1, q1⟩ := hA6.refused
  clear c0 c1 c2 c3 c4 c5 f5 o1 o2 HTd
  obtain ⟨c0, c1, c2, c3, c4, c5, f5⟩ := hA6.cells
  clear hA6
  go_wp2
  exact bodyPost_ret (v := .tuple #[.agg #[.slice none 0 0], .bool false]) (by simp [results, Try.results23, go_sem, s1]) rfl ⟨rfl, q1⟩

end Go.Proofs.Ythffflpclmpamaa
namespace Go.Proofs.Ythffflpclmpamaa
open Go.RowKit

theorem str_ne {a b : ByteArray} (h : ¬ a = b) : (a.toList == b.toList) = false := by
  have h1 : ¬ a.toList = b.toList := by
    rw [Lib.toList_data, Lib.toList_data]
    intro e
    apply h
    cases a; cases b
    simpa using e
  simp [h1]

set_option maxRecDepth 100000 in
set_option maxHeartbeats 8000000 in
theorem sDoAct_other (fs : List FileV) (hfit : FitsF fs) (n : Nat) (a : Option Addr) (c : Nat) (x : ActV) (w : World) (h : Fs w w.heap.size a n fs) (hf : ActFine fs x) (hk : x.kind ≠ 1 ∧ x.kind ≠ 2 ∧ x.kind ≠ 3 ∧ x.kind ≠ 4) (k : Nat) (f : FileV) (hat : atN fs x.name = some k) (hfk : fs[k]? = some f) :
    Calls Try.prog 23 #[.agg #[.slice a n c], .agg #[.int .i64 x.kind, .string x.name, .string x.text, .string x.to]] w (ActAns w none) := by
  have hn30 := disk_n hf.disk h
  have hnm : n ≤ maxLen := by unfold maxLen; omega
  have H := sDiskOk_any fs hfit n a c hnm (w3 w a n c x) (w3_fs h)
  rw [dB_true hf.disk] at H
  have HD := hideIt H
  have HN := hideIt (fun W => l03Name_yes x.name hf.name.1 hf.name.2 W)
  have HF := hideIt h
  obtain ⟨l1, l2, l3, l4⟩ := looks0 hf hk.1 hk.2.2.1
  have dk : (x.kind == 1) = false := by simp [hk]
  have dk2 : (x.kind == 2) = false := by simp [hk]
  have dk3 : (x.kind == 3) = false := by simp [hk]
  have dk4 : (x.kind == 4) = false := by simp [hk]
  clear hk
  have HA := hideIt hat
  have hkl : k < n := by rw [← h.1]; exact atN_lt hat
  have hff := hfit f (List.mem_of_getElem? hfk)
  unfold maxLen at hff
  have HK := hideIt hfk
  clear H h hf hat hfk
  unfold ActAns
  go_enter Try.func23, Try.ntmps23
  go_wp2_with (go_at_call 42; refine (show Calls Try.prog 42 #[.agg #[.slice a n c]] (w3 w a n c x) _ from HD.out).mono ?_; rintro e w1 ⟨rfl, hb1⟩; refine Hid.out ?_)
  refine (show ∀ {p : Prop}, p → Hid p from fun h => h) ?_
  have hA := (ActAt.start w a n c x).up hb1
  obtain ⟨c0, c1, c2, c3, c4, c5, f5⟩ := hA.cells
  have HAt := hideIt hA
  have F1 := hideIt ((w3_fs (c := c) (x := x) HF.out).up hb1)
  have HL := l03At_any fs x.name n a c hnm w1 F1.out
  rw [HA.out] at HL
  have HLh := hideIt HL
  unfold atI at HLh
  clear HD hb1 hA HL HF
  go_wp2_with (first | (go_at_call 43; refine (HN.out _).mono ?_; rintro e w2 ⟨rfl, rfl⟩) | (go_at_call 44; refine HLh.out.mono ?_; rintro e w2 ⟨rfl, hb2⟩; refine Hid.out ?_))
  refine (show ∀ {p : Prop}, p → Hid p from fun h => h) ?_
  have hA0 := HAt.out.up hb2
  have F2 := hideIt (F1.out.up hb2)
  have m0 : w.heap.size < w2.heap.size := by have := hA0.size; omega
  have m1 : w.heap.size + 1 < w2.heap.size := by have := hA0.size; omega
  have m2 : w.heap.size + 1 + 1 < w2.heap.size := by have := hA0.size; omega
  clear c0 c1 c2 c3 c4 c5 f5
  obtain ⟨c0, c1, c2, c3, c4, c5, f5⟩ := hA0.cells
  have HA2 := hideIt hA0
  rcases F2.out.2 with hz | ⟨b, off, rfl, hbl, hcc⟩
  · omega
  obtain ⟨v0, v1, v2⟩ := hcc k f HK.out
  have b1 : (0 : Int) ≤ (k : Int) := by omega
  have b2 : (k : Int) < (n : Int) := by omega
  have dk0 : decide ((0 : Int) ≤ (k : Int)) = true := by simp
  have dk1 : decide ((k : Int) < 0) = false := by simp
  clear hcc
  have hB := HA2.out.x2.set (.slice none 0 0)
  have s1 := ((hB.alloc (.cells #[.string f.name, .string f.text, .int .i64 f.kept] 49)).alloc (.cells #[.slice none 0 0] 26)).cell
  have q1 := (HA2.out.refused.2.alloc (by have := HA2.out.size; simp [World.setCell]; omega) (.cells #[.string f.name, .string f.text, .int .i64 f.kept] 49)).alloc (by have := HA2.out.size; simp [World.setCell]; omega) (.cells #[.slice none 0 0] 26)
  clear HLh hb2 HAt hA0 F1 hB HA2
  go_wp2
  exact bodyPost_ret (v := .tuple #[.agg #[.slice none 0 0], .bool false]) (by simp [results, Try.results23, go_sem, s1]) rfl ⟨rfl, q1⟩

set_option maxRecDepth 100000 in
set_option maxHeartbeats 8000000 in
theorem sDoAct_movebad (fs : List FileV) (hfit : FitsF fs) (n : Nat) (a : Option Addr) (c : Nat) (x : ActV) (w : World) (h : Fs w w.heap.size a n fs) (hf : ActFine fs x) (hk : x.kind = 3) (hxt : x.to.size ≤ maxLen) (k : Nat) (f : FileV) (hat : atN fs x.name = some k) (hfk : fs[k]? = some f) (hbad : f.kept < f.text.size ∨ x.to = x.name ∨ ¬ NameOk x.to) :
    Calls Try.prog 23 #[.agg #[.slice a n c], .agg #[.int .i64 x.kind, .string x.name, .string x.text, .string x.to]] w (ActAns w none) := by
  have hn30 := disk_n hf.disk h
  have hnm : n ≤ maxLen := by unfold maxLen; omega
  have H := sDiskOk_any fs hfit n a c hnm (w3 w a n c x) (w3_fs h)
  rw [dB_true hf.disk] at H
  have HD := hideIt H
  have HN := hideIt (fun W => l03Name_yes x.name hf.name.1 hf.name.2 W)
  have HF := hideIt h
  obtain ⟨qq, l1, l2, l3, l4⟩ := looks3 hf hk
  have dk : (x.kind == 1) = false := by simp [hk]
  have dk2 : (x.kind == 2) = false := by simp [hk]
  have dk3 : (x.kind == 3) = true := by simp [hk]
  have HBad := hideIt hbad
  clear hk hbad
  have HA := hideIt hat
  have hkl : k < n := by rw [← h.1]; exact atN_lt hat
  have hff := hfit f (List.mem_of_getElem? hfk)
  unfold maxLen at hff
  have HK := hideIt hfk
  clear H h hf hat hfk
  unfold ActAns
  go_enter Try.func23, Try.ntmps23
  go_wp2_with (go_at_call 42; refine (show Calls Try.prog 42 #[.agg #[.slice a n c]] (w3 w a n c x) _ from HD.out).mono ?_; rintro e w1 ⟨rfl, hb1⟩; refine Hid.out ?_)
  refine (show ∀ {p : Prop}, p → Hid p from fun h => h) ?_
  have hA := (ActAt.start w a n c x).up hb1
  obtain ⟨c0, c1, c2, c3, c4, c5, f5⟩ := hA.cells
  have HAt := hideIt hA
  have F1 := hideIt ((w3_fs (c := c) (x := x) HF.out).up hb1)
  have HL := l03At_any fs x.name n a c hnm w1 F1.out
  rw [HA.out] at HL
  have HLh := hideIt HL
  unfold atI at HLh
  clear HD hb1 hA HL HF
  go_wp2_with (first | (go_at_call 43; refine (HN.out _).mono ?_; rintro e w2 ⟨rfl, rfl⟩) | (go_at_call 44; refine HLh.out.mono ?_; rintro e w2 ⟨rfl, hb2⟩; refine Hid.out ?_))
  refine (show ∀ {p : Prop}, p → Hid p from fun h => h) ?_
  have hA0 := HAt.out.up hb2
  have F2 := hideIt (F1.out.up hb2)
  have m0 : w.heap.size < w2.heap.size := by have := hA0.size; omega
  have m1 : w.heap.size + 1 < w2.heap.size := by have := hA0.size; omega
  have m2 : w.heap.size + 1 + 1 < w2.heap.size := by have := hA0.size; omega
  clear c0 c1 c2 c3 c4 c5 f5
  obtain ⟨c0, c1, c2, c3, c4, c5, f5⟩ := hA0.cells
  have HA2 := hideIt hA0
  rcases F2.out.2 with hz | ⟨b, off, rfl, hbl, hcc⟩
  · omega
  obtain ⟨v0, v1, v2⟩ := hcc k f HK.out
  have b1 : (0 : Int) ≤ (k : Int) := by omega
  have b2 : (k : Int) < (n : Int) := by omega
  have dk0 : decide ((0 : Int) ≤ (k : Int)) = true := by simp
  have dk1 : decide ((k : Int) < 0) = false := by simp
  clear hcc
  have hB := HA2.out.x2.set (.slice none 0 0)
  have s1 := ((hB.alloc (.cells #[.string f.name, .string f.text, .int .i64 f.kept] 49)).alloc (.cells #[.slice none 0 0] 26)).cell
  have q1 := (HA2.out.refused.2.alloc (by have := HA2.out.size; simp [World.setCell]; omega) (.cells #[.string f.name, .string f.text, .int .i64 f.kept] 49)).alloc (by have := HA2.out.size; simp [World.setCell]; omega) (.cells #[.slice none 0 0] 26)
  clear HLh hb2 HAt hA0 F1 hB HA2
  by_cases g1 : f.kept < f.text.size
  · have e1 : decide (f.kept < (f.text.size : Int)) = true := by simp; omega
    go_wp2
    exact bodyPost_ret (v := .tuple #[.agg #[.slice none 0 0], .bool false]) (by simp [results, Try.results23, go_sem, s1]) rfl ⟨rfl, q1⟩
  · have e1 : decide (f.kept < (f.text.size : Int)) = false := by simp; omega
    by_cases g2 : x.to = x.name
    · have e2 : (x.to.toList == x.name.toList) = true := by rw [g2]; simp
      clear g2
      go_wp2
      exact bodyPost_ret (v := .tuple #[.agg #[.slice none 0 0], .bool false]) (by simp [results, Try.results23, go_sem, s1]) rfl ⟨rfl, q1⟩
    · have e2 := str_ne g2
      have HN2 := hideIt (fun W => l03Name_no x.to hxt (by
        rcases HBad.out with h | h | h
        · exact absurd h g1
        · exact absurd h g2
        · unfold NameOk at h; omega) W)
      clear g2
      go_wp2_with (go_at_call 43; refine (HN2.out _).mono ?_; rintro e w5 ⟨rfl, rfl⟩)
      exact bodyPost_ret (v := .tuple #[.agg #[.slice none 0 0], .bool false]) (by simp [results, Try.results23, go_sem, s1]) rfl ⟨rfl, q1⟩

end Go.Proofs.Ythffflpclmpamaa
namespace Go.Proofs.Ythffflpclmpamaa
open Go.RowKit

set_option maxRecDepth 100000 in
set_option maxHeartbeats 8000000 in
theorem sDoAct_move (fs : List FileV) (hfit : FitsF fs) (n : Nat) (a : Option Addr) (c : Nat) (x : ActV) (w : World) (h : Fs w w.heap.size a n fs) (hf : ActFine fs x) (hk : x.kind = 3) (k : Nat) (f : FileV) (hat : atN fs x.name = some k) (hfk : fs[k]? = some f) (hkept : ¬ f.kept < f.text.size) (hne : ¬ x.to = x.name) (hto : NameOk x.to) (gs : List FileV) (hgs : gs = put (without fs x.name) ⟨x.to, f.text, f.kept⟩) (hd : DiskR gs) :
    Calls Try.prog 23 #[.agg #[.slice a n c], .agg #[.int .i64 x.kind, .string x.name, .string x.text, .string x.to]] w (ActAns w (some gs)) := by
  have hn30 := disk_n hf.disk h
  have hnm : n ≤ maxLen := by unfold maxLen; omega
  have H := sDiskOk_any fs hfit n a c hnm (w3 w a n c x) (w3_fs h)
  rw [dB_true hf.disk] at H
  have HD := hideIt H
  have HN := hideIt (fun W => l03Name_yes x.name hf.name.1 hf.name.2 W)
  have HF := hideIt h
  obtain ⟨qq, l1, l2, l3, l4⟩ := looks3 hf hk
  have dk : (x.kind == 1) = false := by simp [hk]
  have dk2 : (x.kind == 2) = false := by simp [hk]
  have dk3 : (x.kind == 3) = true := by simp [hk]
  have ek : decide (f.kept < (f.text.size : Int)) = false := by simp; omega
  have en := str_ne hne
  have HN2 := hideIt (fun W => l03Name_yes x.to hto.1 hto.2 W)
  clear hne hto
  have HA := hideIt hat
  have hkl : k < n := by rw [← h.1]; exact atN_lt hat
  have hff := hfit f (List.mem_of_getElem? hfk)
  unfold maxLen at hff
  have HK := hideIt hfk
  have HG := hideIt hgs
  have HDg := hideIt hd
  clear H h hf hat hk hfk hgs hd
  unfold ActAns
  go_enter Try.func23, Try.ntmps23
  go_wp2_with (go_at_call 42; refine (show Calls Try.prog 42 #[.agg #[.slice a n c]] (w3 w a n c x) _ from HD.out).mono ?_; rintro e w1 ⟨rfl, hb1⟩; refine Hid.out ?_)
  refine (show ∀ {p : Prop}, p → Hid p from fun h => h) ?_
  have hA := (ActAt.start w a n c x).up hb1
  obtain ⟨c0, c1, c2, c3, c4, c5, f5⟩ := hA.cells
  have HAt := hideIt hA
  have F1 := hideIt ((w3_fs (c := c) (x := x) HF.out).up hb1)
  have HL := l03At_any fs x.name n a c hnm w1 F1.out
  rw [HA.out] at HL
  have HLh := hideIt HL
  unfold atI at HLh
  clear HD hb1 hA HL HF
  go_wp2_with (first | (go_at_call 43; refine (HN.out _).mono ?_; rintro e w2 ⟨rfl, rfl⟩) | (go_at_call 44; refine HLh.out.mono ?_; rintro e w2 ⟨rfl, hb2⟩; refine Hid.out ?_))
  refine (show ∀ {p : Prop}, p → Hid p from fun h => h) ?_
  have hA0 := HAt.out.up hb2
  have F2 := hideIt (F1.out.up hb2)
  have m0 : w.heap.size < w2.heap.size := by have := hA0.size; omega
  have m1 : w.heap.size + 1 < w2.heap.size := by have := hA0.size; omega
  have m2 : w.heap.size + 1 + 1 < w2.heap.size := by have := hA0.size; omega
  clear c0 c1 c2 c3 c4 c5 f5
  obtain ⟨c0, c1, c2, c3, c4, c5, f5⟩ := hA0.cells
  have HA2 := hideIt hA0
  rcases F2.out.2 with hz | ⟨b, off, rfl, hbl, hcc⟩
  · omega
  obtain ⟨v0, v1, v2⟩ := hcc k f HK.out
  have b1 : (0 : Int) ≤ (k : Int) := by omega
  have b2 : (k : Int) < (n : Int) := by omega
  have dk0 : decide ((0 : Int) ≤ (k : Int)) = true := by simp
  have dk1 : decide ((k : Int) < 0) = false := by simp
  clear hcc
  clear HLh hb2 HAt hA0 F1
  have F3 := hideIt ((F2.out.up ((Below.refl _ _).alloc (Nat.le_refl _) (.cells #[.string x.to, .string f.text, .int .i64 f.kept] 49))).up ((Below.refl _ _).alloc (Nat.le_refl _) (.cells #[.slice none 0 0] 26)))
  have hA3 := (HA2.out.alloc (.cells #[.string x.to, .string f.text, .int .i64 f.kept] 49)).alloc (.cells #[.slice none 0 0] 26)
  have xf : ((w2.alloc (.cells #[.string x.to, .string f.text, .int .i64 f.kept] 49)).alloc (.cells #[.slice none 0 0] 26)).heap[w2.heap.size]? = some (.cells #[.string x.to, .string f.text, .int .i64 f.kept] 49 (0, 0)) := by
    rw [Below.heap_alloc _ _ _ (by simp)]; exact heap_alloc_new w2 _
  have xo := Box.new (w2.alloc (.cells #[.string x.to, .string f.text, .int .i64 f.kept] 49)) 26 (.slice none 0 0) (w2.heap.size + 1) (by simp)
  have HA3 := hideIt hA3
  have HXO := hideIt xo
  have HKc : Hid (∀ u, Good ((w2.alloc (.cells #[.string x.to, .string f.text, .int .i64 f.kept] 49)).alloc (.cells #[.slice none 0 0] 26)) u → u.cell? ⟨w.heap.size, 0, none⟩ = some (.slice (some ⟨b, off, none⟩) n c) ∧ u.cell? ⟨w.heap.size + 1, 1, none⟩ = some (.string x.name) ∧ u.cell? ⟨w2.heap.size, 0, none⟩ = some (.string x.to) ∧ u.cell? ⟨w2.heap.size, 1, none⟩ = some (.string f.text) ∧ u.cell? ⟨w2.heap.size, 2, none⟩ = some (.int .i64 f.kept)) := fun u hu => by
    have hs := hA3.size
    refine ⟨by rw [hu.cell (by omega)]; exact hA3.cells.1, by rw [hu.cell (by omega)]; exact hA3.cells.2.2.1, ?_, ?_, ?_⟩
    · rw [hu.cell (by simp; omega), cell_of_row _ _ 0 _ _ _ xf]; rfl
    · rw [hu.cell (by simp; omega), cell_of_row _ _ 1 _ _ _ xf]; rfl
    · rw [hu.cell (by simp; omega), cell_of_row _ _ 2 _ _ _ xf]; rfl
  have HKo : Hid (∀ u, Good ((w2.alloc (.cells #[.string x.to, .string f.text, .int .i64 f.kept] 49)).alloc (.cells #[.slice none 0 0] 26)) u → u.cell? ⟨w2.heap.size + 1, 0, none⟩ = some (.slice none 0 0) ∧ u.frozen? ⟨w2.heap.size + 1, 0, none⟩ = false) := fun u hu =>
    have y := xo.below hu xo.lt
    ⟨y.cell, y.frozen⟩
  have HW : Hid (∀ u, Good ((w2.alloc (.cells #[.string x.to, .string f.text, .int .i64 f.kept] 49)).alloc (.cells #[.slice none 0 0] 26)) u → Calls Try.prog 45 #[.agg #[.slice (some ⟨b, off, none⟩) n c], .string x.name] u fun e w' => ∃ a2 m2 c2, e = .returned (.agg #[.slice a2 m2 c2]) ∧ w'.ownsRow u.heap.size 49 3 (.slice a2 m2 c2) m2 (fcells (without fs x.name)) ∧ Good ((w2.alloc (.cells #[.string x.to, .string f.text, .int .i64 f.kept] 49)).alloc (.cells #[.slice none 0 0] 26)) w') := fun u hu =>
    (l03Without_any fs x.name n _ c (by omega) u (hu.fs F3.out)).mono fun _ _ ⟨a2, m2, c2, he, ho, hb⟩ => ⟨a2, m2, c2, he, ho, Below.trans hu (hb.mono (Below.size hu))⟩
  have HP : Hid (∀ u B a2 m2 c2, Good ((w2.alloc (.cells #[.string x.to, .string f.text, .int .i64 f.kept] 49)).alloc (.cells #[.slice none 0 0] 26)) u → ((w2.alloc (.cells #[.string x.to, .string f.text, .int .i64 f.kept] 49)).alloc (.cells #[.slice none 0 0] 26)).heap.size ≤ u.heap.size → u.ownsRow B 49 3 (.slice a2 m2 c2) m2 (fcells (without fs x.name)) → Calls Try.prog 31 #[.agg #[.slice a2 m2 c2], .agg #[.string x.to, .string f.text, .int .i64 f.kept]] u fun e w' => ∃ a' m c', e = .returned (.agg #[.slice a' m c']) ∧ w'.ownsRow ((w2.alloc (.cells #[.string x.to, .string f.text, .int .i64 f.kept] 49)).alloc (.cells #[.slice none 0 0] 26)).heap.size 49 3 (.slice a' m c') m (fcells gs) ∧ Good ((w2.alloc (.cells #[.string x.to, .string f.text, .int .i64 f.kept] 49)).alloc (.cells #[.slice none 0 0] 26)) w') := fun u B a2 m2 c2 hu hs ho => by
    have hfs := Fs_of_ownv ho
    have h1 := without_le fs x.name
    have h2 := F3.out.1
    have h3 := hfs.1
    have := l03Put_any (without fs x.name) ⟨x.to, f.text, f.kept⟩ m2 a2 c2 (by omega) u hfs
    rw [← HG.out] at this
    exact this.mono fun _ _ ⟨a', m, c', he, ho, hb⟩ => ⟨a', m, c', he, own_mono ho hs, Below.trans hu (hb.mono (Below.size hu))⟩
  have S0 : Good ((w2.alloc (.cells #[.string x.to, .string f.text, .int .i64 f.kept] 49)).alloc (.cells #[.slice none 0 0] 26)) ((w2.alloc (.cells #[.string x.to, .string f.text, .int .i64 f.kept] 49)).alloc (.cells #[.slice none 0 0] 26)).drew := (Below.refl _ _).drew
  clear hA3 xf xo
  go_wp2_with (go_at_call 43; refine (HN2.out _).mono ?_; rintro e w5 ⟨rfl, rfl⟩)
  go_region_held3 (fun u => u.cell? ⟨w.heap.size, 0, none⟩ = some (.slice (some ⟨b, off, none⟩) n c) ∧ u.cell? ⟨w.heap.size + 1, 1, none⟩ = some (.string x.name) ∧ u.cell? ⟨w2.heap.size, 0, none⟩ = some (.string x.to) ∧ u.cell? ⟨w2.heap.size, 1, none⟩ = some (.string f.text) ∧ u.cell? ⟨w2.heap.size, 2, none⟩ = some (.int .i64 f.kept))
    (first | exact HKc.out _ S2 | exact HKc.out _ S1 | exact HKc.out _ S0 | exact ⟨by rw [set_other (by omega)]; exact (HKc.out _ S2).1, by rw [set_other (by omega)]; exact (HKc.out _ S2).2.1, by rw [set_other (by omega)]; exact (HKc.out _ S2).2.2.1, by rw [set_other (by omega)]; exact (HKc.out _ S2).2.2.2.1, by rw [set_other (by omega)]; exact (HKc.out _ S2).2.2.2.2⟩)
    (first | (go_at_call 45; refine (HW.out _ S0).mono ?_; rintro e w7 ⟨a2, m2, c2', rfl, own2, S1⟩) | (go_at_call 31; refine (HP.out _ _ _ _ _ S1 (Below.size S1) own2).mono ?_; rintro e w4 ⟨a', m, c', rfl, hown, S2⟩; have z1 := (HKo.out _ S2).1; have z2 := (HKo.out _ S2).2))
  have hA4 := HA3.out.up S2
  have x4 := HXO.out.below S2 HXO.out.lt
  have T := sDoAct_tail w _ n c x gs (w2.heap.size + 1) (by have := HA2.out.size; omega) a' m c' w4 hA4 x4 (own_mono hown (by simp)) (HDg.out)
  obtain ⟨o1, o2, HTd⟩ := T
  clear c0 c1 c2 c3 c4 c5 f5 hown HP HW HKc HKo F3 HA2 z1 z2
  obtain ⟨c0, c1, c2, c3, c4, c5, f5⟩ := hA4.cells
  clear hA4 x4
  go_wp2_with (go_at_call 42; refine (HTd.out).mono ?_; rintro e w6 ⟨rfl, hA6, x6, hown6⟩; refine Hid.out ?_)
  refine (show ∀ {p : Prop}, p → Hid p from fun h => h) ?_
  have s1 := (hA6.x2.set (.slice a' m c')).cell
  have q1 := hideIt (hA6.below.setCell (p := ⟨w.heap.size + 1 + 1, 0, none⟩) (by show w.heap.size ≤ w.heap.size + 1 + 1; omega) (.slice a' m c'))
  have HO := hideIt (own_mono (own_setLow hown6 (w.heap.size + 1 + 1) 0 (.slice a' m c') (by omega)) (show w.heap.size ≤ _ by omega))
  have o3 := x6.cell
  clear c0 c1 c2 c3 c4 c5 f5 o1 o2 HTd hown6
  obtain ⟨c0, c1, c2, c3, c4, c5, f5⟩ := hA6.cells
  clear hA6 x6
  go_wp2
  exact bodyPost_ret (v := .tuple #[.agg #[.slice a' m c'], .bool true]) (by simp [results, Try.results23, go_sem, s1]) rfl ⟨a', m, c', rfl, HO.out, q1.out⟩
set_option maxRecDepth 100000 in
set_option maxHeartbeats 8000000 in
theorem sDoAct_moveno (fs : List FileV) (hfit : FitsF fs) (n : Nat) (a : Option Addr) (c : Nat) (x : ActV) (w : World) (h : Fs w w.heap.size a n fs) (hf : ActFine fs x) (hk : x.kind = 3) (k : Nat) (f : FileV) (hat : atN fs x.name = some k) (hfk : fs[k]? = some f) (hkept : ¬ f.kept < f.text.size) (hne : ¬ x.to = x.name) (hto : NameOk x.to) (gs : List FileV) (hgs : gs = put (without fs x.name) ⟨x.to, f.text, f.kept⟩) (hgf : FitsF gs) (hgl : gs.length ≤ 1048576) (hd : ¬ DiskR gs) :
    Calls Try.prog 23 #[.agg #[.slice a n c], .agg #[.int .i64 x.kind, .string x.name, .string x.text, .string x.to]] w (ActAns w none) := by
  have hn30 := disk_n hf.disk h
  have hnm : n ≤ maxLen := by unfold maxLen; omega
  have H := sDiskOk_any fs hfit n a c hnm (w3 w a n c x) (w3_fs h)
  rw [dB_true hf.disk] at H
  have HD := hideIt H
  have HN := hideIt (fun W => l03Name_yes x.name hf.name.1 hf.name.2 W)
  have HF := hideIt h
  obtain ⟨qq, l1, l2, l3, l4⟩ := looks3 hf hk
  have dk : (x.kind == 1) = false := by simp [hk]
  have dk2 : (x.kind == 2) = false := by simp [hk]
  have dk3 : (x.kind == 3) = true := by simp [hk]
  have ek : decide (f.kept < (f.text.size : Int)) = false := by simp; omega
  have en := str_ne hne
  have HN2 := hideIt (fun W => l03Name_yes x.to hto.1 hto.2 W)
  clear hne hto
  have HA := hideIt hat
  have hkl : k < n := by rw [← h.1]; exact atN_lt hat
  have hff := hfit f (List.mem_of_getElem? hfk)
  unfold maxLen at hff
  have HK := hideIt hfk
  have HG := hideIt hgs
  have HDg := hideIt hd
  have HGf := hideIt hgf
  have HGl := hideIt hgl
  clear H h hf hat hk hfk hgs hd hgf hgl
  unfold ActAns
  go_enter Try.func23, Try.ntmps23
  go_wp2_with (go_at_call 42; refine (show Calls Try.prog 42 #[.agg #[.slice a n c]] (w3 w a n c x) _ from HD.out).mono ?_; rintro e w1 ⟨rfl, hb1⟩; refine Hid.out ?_)
  refine (show ∀ {p : Prop}, p → Hid p from fun h => h) ?_
  have hA := (ActAt.start w a n c x).up hb1
  obtain ⟨c0, c1, c2, c3, c4, c5, f5⟩ := hA.cells
  have HAt := hideIt hA
  have F1 := hideIt ((w3_fs (c := c) (x := x) HF.out).up hb1)
  have HL := l03At_any fs x.name n a c hnm w1 F1.out
  rw [HA.out] at HL
  have HLh := hideIt HL
  unfold atI at HLh
  clear HD hb1 hA HL HF
  go_wp2_with (first | (go_at_call 43; refine (HN.out _).mono ?_; rintro e w2 ⟨rfl, rfl⟩) | (go_at_call 44; refine HLh.out.mono ?_; rintro e w2 ⟨rfl, hb2⟩; refine Hid.out ?_))
  refine (show ∀ {p : Prop}, p → Hid p from fun h => h) ?_
  have hA0 := HAt.out.up hb2
  have F2 := hideIt (F1.out.up hb2)
  have m0 : w.heap.size < w2.heap.size := by have := hA0.size; omega
  have m1 : w.heap.size + 1 < w2.heap.size := by have := hA0.size; omega
  have m2 : w.heap.size + 1 + 1 < w2.heap.size := by have := hA0.size; omega
  clear c0 c1 c2 c3 c4 c5 f5
  obtain ⟨c0, c1, c2, c3, c4, c5, f5⟩ := hA0.cells
  have HA2 := hideIt hA0
  rcases F2.out.2 with hz | ⟨b, off, rfl, hbl, hcc⟩
  · omega
  obtain ⟨v0, v1, v2⟩ := hcc k f HK.out
  have b1 : (0 : Int) ≤ (k : Int) := by omega
  have b2 : (k : Int) < (n : Int) := by omega
  have dk0 : decide ((0 : Int) ≤ (k : Int)) = true := by simp
  have dk1 : decide ((k : Int) < 0) = false := by simp
  clear hcc
  clear HLh hb2 HAt hA0 F1
  have F3 := hideIt ((F2.out.up ((Below.refl _ _).alloc (Nat.le_refl _) (.cells #[.string x.to, .string f.text, .int .i64 f.kept] 49))).up ((Below.refl _ _).alloc (Nat.le_refl _) (.cells #[.slice none 0 0] 26)))
  have hA3 := (HA2.out.alloc (.cells #[.string x.to, .string f.text, .int .i64 f.kept] 49)).alloc (.cells #[.slice none 0 0] 26)
  have xf : ((w2.alloc (.cells #[.string x.to, .string f.text, .int .i64 f.kept] 49)).alloc (.cells #[.slice none 0 0] 26)).heap[w2.heap.size]? = some (.cells #[.string x.to, .string f.text, .int .i64 f.kept] 49 (0, 0)) := by
    rw [Below.heap_alloc _ _ _ (by simp)]; exact heap_alloc_new w2 _
  have xo := Box.new (w2.alloc (.cells #[.string x.to, .string f.text, .int .i64 f.kept] 49)) 26 (.slice none 0 0) (w2.heap.size + 1) (by simp)
  have HA3 := hideIt hA3
  have HXO := hideIt xo
  have HKc : Hid (∀ u, Good ((w2.alloc (.cells #[.string x.to, .string f.text, .int .i64 f.kept] 49)).alloc (.cells #[.slice none 0 0] 26)) u → u.cell? ⟨w.heap.size, 0, none⟩ = some (.slice (some ⟨b, off, none⟩) n c) ∧ u.cell? ⟨w.heap.size + 1, 1, none⟩ = some (.string x.name) ∧ u.cell? ⟨w2.heap.size, 0, none⟩ = some (.string x.to) ∧ u.cell? ⟨w2.heap.size, 1, none⟩ = some (.string f.text) ∧ u.cell? ⟨w2.heap.size, 2, none⟩ = some (.int .i64 f.kept)) := fun u hu => by
    have hs := hA3.size
    refine ⟨by rw [hu.cell (by omega)]; exact hA3.cells.1, by rw [hu.cell (by omega)]; exact hA3.cells.2.2.1, ?_, ?_, ?_⟩
    · rw [hu.cell (by simp; omega), cell_of_row _ _ 0 _ _ _ xf]; rfl
    · rw [hu.cell (by simp; omega), cell_of_row _ _ 1 _ _ _ xf]; rfl
    · rw [hu.cell (by simp; omega), cell_of_row _ _ 2 _ _ _ xf]; rfl
  have HKo : Hid (∀ u, Good ((w2.alloc (.cells #[.string x.to, .string f.text, .int .i64 f.kept] 49)).alloc (.cells #[.slice none 0 0] 26)) u → u.cell? ⟨w2.heap.size + 1, 0, none⟩ = some (.slice none 0 0) ∧ u.frozen? ⟨w2.heap.size + 1, 0, none⟩ = false) := fun u hu =>
    have y := xo.below hu xo.lt
    ⟨y.cell, y.frozen⟩
  have HW : Hid (∀ u, Good ((w2.alloc (.cells #[.string x.to, .string f.text, .int .i64 f.kept] 49)).alloc (.cells #[.slice none 0 0] 26)) u → Calls Try.prog 45 #[.agg #[.slice (some ⟨b, off, none⟩) n c], .string x.name] u fun e w' => ∃ a2 m2 c2, e = .returned (.agg #[.slice a2 m2 c2]) ∧ w'.ownsRow u.heap.size 49 3 (.slice a2 m2 c2) m2 (fcells (without fs x.name)) ∧ Good ((w2.alloc (.cells #[.string x.to, .string f.text, .int .i64 f.kept] 49)).alloc (.cells #[.slice none 0 0] 26)) w') := fun u hu =>
    (l03Without_any fs x.name n _ c (by omega) u (hu.fs F3.out)).mono fun _ _ ⟨a2, m2, c2, he, ho, hb⟩ => ⟨a2, m2, c2, he, ho, Below.trans hu (hb.mono (Below.size hu))⟩
  have HP : Hid (∀ u B a2 m2 c2, Good ((w2.alloc (.cells #[.string x.to, .string f.text, .int .i64 f.kept] 49)).alloc (.cells #[.slice none 0 0] 26)) u → ((w2.alloc (.cells #[.string x.to, .string f.text, .int .i64 f.kept] 49)).alloc (.cells #[.slice none 0 0] 26)).heap.size ≤ u.heap.size → u.ownsRow B 49 3 (.slice a2 m2 c2) m2 (fcells (without fs x.name)) → Calls Try.prog 31 #[.agg #[.slice a2 m2 c2], .agg #[.string x.to, .string f.text, .int .i64 f.kept]] u fun e w' => ∃ a' m c', e = .returned (.agg #[.slice a' m c']) ∧ w'.ownsRow ((w2.alloc (.cells #[.string x.to, .string f.text, .int .i64 f.kept] 49)).alloc (.cells #[.slice none 0 0] 26)).heap.size 49 3 (.slice a' m c') m (fcells gs) ∧ Good ((w2.alloc (.cells #[.string x.to, .string f.text, .int .i64 f.kept] 49)).alloc (.cells #[.slice none 0 0] 26)) w') := fun u B a2 m2 c2 hu hs ho => by
    have hfs := Fs_of_ownv ho
    have h1 := without_le fs x.name
    have h2 := F3.out.1
    have h3 := hfs.1
    have := l03Put_any (without fs x.name) ⟨x.to, f.text, f.kept⟩ m2 a2 c2 (by omega) u hfs
    rw [← HG.out] at this
    exact this.mono fun _ _ ⟨a', m, c', he, ho, hb⟩ => ⟨a', m, c', he, own_mono ho hs, Below.trans hu (hb.mono (Below.size hu))⟩
  have S0 : Good ((w2.alloc (.cells #[.string x.to, .string f.text, .int .i64 f.kept] 49)).alloc (.cells #[.slice none 0 0] 26)) ((w2.alloc (.cells #[.string x.to, .string f.text, .int .i64 f.kept] 49)).alloc (.cells #[.slice none 0 0] 26)).drew := (Below.refl _ _).drew
  clear hA3 xf xo
  go_wp2_with (go_at_call 43; refine (HN2.out _).mono ?_; rintro e w5 ⟨rfl, rfl⟩)
  go_region_held3 (fun u => u.cell? ⟨w.heap.size, 0, none⟩ = some (.slice (some ⟨b, off, none⟩) n c) ∧ u.cell? ⟨w.heap.size + 1, 1, none⟩ = some (.string x.name) ∧ u.cell? ⟨w2.heap.size, 0, none⟩ = some (.string x.to) ∧ u.cell? ⟨w2.heap.size, 1, none⟩ = some (.string f.text) ∧ u.cell? ⟨w2.heap.size, 2, none⟩ = some (.int .i64 f.kept))
    (first | exact HKc.out _ S2 | exact HKc.out _ S1 | exact HKc.out _ S0 | exact ⟨by rw [set_other (by omega)]; exact (HKc.out _ S2).1, by rw [set_other (by omega)]; exact (HKc.out _ S2).2.1, by rw [set_other (by omega)]; exact (HKc.out _ S2).2.2.1, by rw [set_other (by omega)]; exact (HKc.out _ S2).2.2.2.1, by rw [set_other (by omega)]; exact (HKc.out _ S2).2.2.2.2⟩)
    (first | (go_at_call 45; refine (HW.out _ S0).mono ?_; rintro e w7 ⟨a2, m2, c2', rfl, own2, S1⟩) | (go_at_call 31; refine (HP.out _ _ _ _ _ S1 (Below.size S1) own2).mono ?_; rintro e w4 ⟨a', m, c', rfl, hown, S2⟩; have z1 := (HKo.out _ S2).1; have z2 := (HKo.out _ S2).2))
  have hA4 := HA3.out.up S2
  have x4 := HXO.out.below S2 HXO.out.lt
  have T := sDoAct_tailno w _ n c x gs (w2.heap.size + 1) (by have := HA2.out.size; omega) a' m c' w4 hA4 x4 (own_mono hown (by simp)) HGf.out HGl.out HDg.out
  obtain ⟨o1, o2, HTd⟩ := T
  clear c0 c1 c2 c3 c4 c5 f5 hown HP HW HKc HKo F3 HA2 z1 z2
  obtain ⟨c0, c1, c2, c3, c4, c5, f5⟩ := hA4.cells
  clear hA4 x4
  go_wp2_with (go_at_call 42; refine (HTd.out).mono ?_; rintro e w6 ⟨rfl, hA6⟩; refine Hid.out ?_)
  refine (show ∀ {p : Prop}, p → Hid p from fun h => h) ?_
  obtain ⟨s1, q1⟩ := hA6.refused
  clear c0 c1 c2 c3 c4 c5 f5 o1 o2 HTd
  obtain ⟨c0, c1, c2, c3, c4, c5, f5⟩ := hA6.cells
  clear hA6
  go_wp2
  exact bodyPost_ret (v := .tuple #[.agg #[.slice none 0 0], .bool false]) (by simp [results, Try.results23, go_sem, s1]) rfl ⟨rfl, q1⟩

end Go.Proofs.Ythffflpclmpamaa
namespace Go.Proofs.Ythffflpclmpamaa
open Go.RowKit

open Classical in
/-- what an act makes of the files, ahead of the look at what comes -/
noncomputable def actOut (fs : List FileV) (x : ActV) : Option (List FileV) :=
  if x.kind = 1 then some (put fs (match fileOf fs x.name with | some f => ⟨f.name, f.text ++ x.text, f.kept⟩ | none => ⟨x.name, ⟨#[]⟩ ++ x.text, 0⟩))
  else match fileOf fs x.name with
    | none => none
    | some f =>
      if x.kind = 2 then some (put fs ⟨f.name, f.text, f.text.size⟩)
      else if x.kind = 3 then (if f.kept < f.text.size ∨ x.to = x.name ∨ ¬ NameOk x.to then none else some (put (without fs x.name) ⟨x.to, f.text, f.kept⟩))
      else if x.kind = 4 then some (without fs x.name)
      else none

open Classical in
/-- what DoAct answers -/
noncomputable def doAct (fs : List FileV) (x : ActV) : Option (List FileV) :=
  if DiskR fs ∧ ¬ ActBad x then (actOut fs x).bind fun gs => if DiskR gs then some gs else none else none

theorem fileOf_none {fs : List FileV} {name : ByteArray} (h : fileOf fs name = none) : atN fs name = none := by
  unfold fileOf at h
  cases hA : atN fs name with
  | none => rfl
  | some k =>
    rw [hA] at h
    have := atN_lt hA
    simp at h
    omega
theorem fileOf_some {fs : List FileV} {name : ByteArray} {f : FileV} (h : fileOf fs name = some f) : ∃ k, atN fs name = some k ∧ fs[k]? = some f := by
  unfold fileOf at h
  cases hA : atN fs name with
  | none => rw [hA] at h; simp at h
  | some k => rw [hA] at h; exact ⟨k, rfl, h⟩

theorem put_mem {fs : List FileV} {f g : FileV} (h : g ∈ put fs f) : g ∈ fs ∨ g = f := by
  unfold put at h
  simp only [List.mem_append, List.mem_filter, List.mem_singleton] at h
  rcases h with (h | h) | h
  · exact .inl h.1
  · exact .inr h
  · exact .inl h.1
theorem put_len (fs : List FileV) (f : FileV) : (put fs f).length ≤ 2 * fs.length + 1 := by
  unfold put
  have h1 := List.length_filter_le (fun g : FileV => lessB g.name f.name) fs
  have h2 := List.length_filter_le (fun g : FileV => moreB g.name f.name) fs
  simp only [List.length_append, List.length_cons, List.length_nil]
  omega
theorem put_fits {fs : List FileV} {f : FileV} (h : FitsF fs) (h1 : f.name.size ≤ maxLen) (h2 : f.text.size ≤ maxLen) : FitsF (put fs f) := fun g hg => by
  rcases put_mem hg with hg | rfl
  · exact h g hg
  · exact ⟨h1, h2⟩
theorem without_fits {fs : List FileV} {name : ByteArray} (h : FitsF fs) : FitsF (without fs name) := fun g hg => h g (List.mem_filter.1 hg).1

theorem fine_of {fs : List FileV} {x : ActV} (hd : DiskR fs) (hx : ¬ ActBad x) : ActFine fs x := by
  unfold ActBad at hx
  refine ⟨hd, ?_, ?_, ?_⟩
  · exact Classical.byContradiction fun h => hx (.inl h)
  · by_cases h : x.kind = 3
    · exact .inl h
    · exact .inr (Classical.byContradiction fun h2 => hx (.inr (.inl ⟨h, h2⟩)))
  · by_cases h : x.kind = 1
    · exact .inl h
    · exact .inr (Classical.byContradiction fun h2 => hx (.inr (.inr ⟨h, h2⟩)))

/-- an act as the machine bears it -/
def FitA (x : ActV) : Prop := x.name.size ≤ 1048576 ∧ x.text.size ≤ 1048576 ∧ x.to.size ≤ 1048576

open Classical in
theorem sDoAct_any (fs : List FileV) (hlet : fs.length + letters fs ≤ 1048576) (n : Nat) (a : Option Addr) (c : Nat) (x : ActV) (hx : FitA x) (w : World) (h : Fs w w.heap.size a n fs) :
    Calls Try.prog 23 #[.agg #[.slice a n c], .agg #[.int .i64 x.kind, .string x.name, .string x.text, .string x.to]] w (ActAns w (doAct fs x)) := by
  have hfit := fits_of hlet
  have hn : n ≤ maxLen := by unfold maxLen; have := h.1; omega
  have hl := h.1
  obtain ⟨x1, x2, x3⟩ := hx
  have mx : (1048576 : Nat) ≤ maxLen := by unfold maxLen; omega
  have fsz : ∀ {f : FileV}, f ∈ fs → f.name.size ≤ 1048576 ∧ f.text.size ≤ 1048576 := fun hf => by have := letters_mem hf; omega
  unfold doAct
  by_cases hd : DiskR fs
  · by_cases hb : ActBad x
    · rw [if_neg (by simp [hb])]
      exact sDoAct_actbad fs hfit n a c hn x (by omega) w h hd hb
    · rw [if_pos ⟨hd, hb⟩]
      have hf := fine_of hd hb
      have h30 : fs.length ≤ 30 := hd.1
      unfold actOut
      by_cases k1 : x.kind = 1
      · rw [if_pos k1]
        cases hfo : fileOf fs x.name with
        | none =>
          have hat := fileOf_none hfo
          show Calls _ _ _ _ (ActAns w (if DiskR (put fs ⟨x.name, ⟨#[]⟩ ++ x.text, 0⟩) then some (put fs ⟨x.name, ⟨#[]⟩ ++ x.text, 0⟩) else none))
          by_cases hg : DiskR (put fs ⟨x.name, ⟨#[]⟩ ++ x.text, 0⟩)
          · rw [if_pos hg]
            exact sDoAct_addnew fs hfit n a c x x2 w h hf k1 hat _ rfl hg
          · rw [if_neg hg]
            refine sDoAct_addnewno fs hfit n a c x x2 w h hf k1 hat _ rfl (put_fits hfit (by show x.name.size ≤ _; omega) ?_) (by have := put_len fs ⟨x.name, ⟨#[]⟩ ++ x.text, 0⟩; omega) hg
            show (⟨#[]⟩ ++ x.text : ByteArray).size ≤ _
            rw [ByteArray.size_append]
            show 0 + x.text.size ≤ _
            omega
        | some f =>
          obtain ⟨k, hat, hfk⟩ := fileOf_some hfo
          have hfm := fsz (List.mem_of_getElem? hfk)
          show Calls _ _ _ _ (ActAns w (if DiskR (put fs ⟨f.name, f.text ++ x.text, f.kept⟩) then some (put fs ⟨f.name, f.text ++ x.text, f.kept⟩) else none))
          by_cases hg : DiskR (put fs ⟨f.name, f.text ++ x.text, f.kept⟩)
          · rw [if_pos hg]
            exact sDoAct_addfound fs hfit n a c x x2 w h hf k1 k f hfm.2 hat hfk _ rfl hg
          · rw [if_neg hg]
            refine sDoAct_addfoundno fs hfit n a c x x2 w h hf k1 k f hfm.2 hat hfk _ rfl (put_fits hfit (by show f.name.size ≤ _; omega) ?_) (by have := put_len fs ⟨f.name, f.text ++ x.text, f.kept⟩; omega) hg
            show (f.text ++ x.text : ByteArray).size ≤ _
            rw [ByteArray.size_append]
            unfold maxLen
            omega
      · rw [if_neg k1]
        cases hfo : fileOf fs x.name with
        | none => exact sDoAct_none fs hfit n a c x w h hf k1 (fileOf_none hfo)
        | some f =>
          obtain ⟨k, hat, hfk⟩ := fileOf_some hfo
          have hfm := fsz (List.mem_of_getElem? hfk)
          dsimp only
          by_cases k2 : x.kind = 2
          · rw [if_pos k2]
            show Calls _ _ _ _ (ActAns w (if DiskR (put fs ⟨f.name, f.text, f.text.size⟩) then some (put fs ⟨f.name, f.text, f.text.size⟩) else none))
            by_cases hg : DiskR (put fs ⟨f.name, f.text, f.text.size⟩)
            · rw [if_pos hg]
              exact sDoAct_keep fs hfit n a c x w h hf k2 k f hat hfk _ rfl hg
            · rw [if_neg hg]
              exact sDoAct_keepno fs hfit n a c x w h hf k2 k f hat hfk _ rfl (put_fits hfit (by show f.name.size ≤ _; omega) (by show f.text.size ≤ _; omega)) (by have := put_len fs ⟨f.name, f.text, f.text.size⟩; omega) hg
          · rw [if_neg k2]
            by_cases k3 : x.kind = 3
            · rw [if_pos k3]
              by_cases hm : f.kept < f.text.size ∨ x.to = x.name ∨ ¬ NameOk x.to
              · rw [if_pos hm]
                exact sDoAct_movebad fs hfit n a c x w h hf k3 (by omega) k f hat hfk hm
              · rw [if_neg hm]
                have m1 : ¬ f.kept < f.text.size := fun h => hm (.inl h)
                have m2 : ¬ x.to = x.name := fun h => hm (.inr (.inl h))
                have m3 : NameOk x.to := Classical.byContradiction fun h => hm (.inr (.inr h))
                show Calls _ _ _ _ (ActAns w (if DiskR (put (without fs x.name) ⟨x.to, f.text, f.kept⟩) then some (put (without fs x.name) ⟨x.to, f.text, f.kept⟩) else none))
                have wl := without_le fs x.name
                by_cases hg : DiskR (put (without fs x.name) ⟨x.to, f.text, f.kept⟩)
                · rw [if_pos hg]
                  exact sDoAct_move fs hfit n a c x w h hf k3 k f hat hfk m1 m2 m3 _ rfl hg
                · rw [if_neg hg]
                  exact sDoAct_moveno fs hfit n a c x w h hf k3 k f hat hfk m1 m2 m3 _ rfl (put_fits (without_fits hfit) (by show x.to.size ≤ _; omega) (by show f.text.size ≤ _; omega)) (by have := put_len (without fs x.name) ⟨x.to, f.text, f.kept⟩; omega) hg
            · rw [if_neg k3]
              by_cases k4 : x.kind = 4
              · rw [if_pos k4]
                show Calls _ _ _ _ (ActAns w (if DiskR (without fs x.name) then some (without fs x.name) else none))
                have wl := without_le fs x.name
                by_cases hg : DiskR (without fs x.name)
                · rw [if_pos hg]
                  exact sDoAct_drop fs hfit n a c x w h hf k4 k f hat hfk _ rfl hg
                · rw [if_neg hg]
                  exact sDoAct_dropno fs hfit n a c x w h hf k4 k f hat hfk _ rfl (without_fits hfit) (by omega) hg
              · rw [if_neg k4]
                exact sDoAct_other fs hfit n a c x w h hf ⟨k1, k2, k3, k4⟩ k f hat hfk
  · rw [if_neg (by simp [hd])]
    exact sDoAct_bad fs hfit n a c hn x w h hd
end Go.Proofs.Ythffflpclmpamaa
namespace Go.Proofs.Ythffflpclmpamaa
open Go.RowKit

theorem bytes_ext {a b : ByteArray} (h : a.data.toList = b.data.toList) : a = b := by
  cases a; cases b
  simpa using h
theorem lt_asym {a b : List UInt8} (h : a < b) : ¬ b < a := fun k => Std.lt_irrefl (Std.lt_trans h k)
theorem lessB_iff (a b : ByteArray) : lessB a b = true ↔ a.data.toList < b.data.toList := by
  unfold lessB
  rw [bytesLess_eq, Lib.toList_data, Lib.toList_data]
  simp
theorem moreB_iff (a b : ByteArray) : moreB a b = true ↔ b.data.toList < a.data.toList := by
  unfold moreB
  rw [bytesLess_eq, Lib.toList_data, Lib.toList_data]
  rcases Std.lt_trichotomy a.data.toList b.data.toList with h | h | h
  · have := lt_asym h
    simp [h, this]
  · simp [h]
  · have h1 := lt_asym h
    have h2 : ¬ a.data.toList = b.data.toList := fun e => by rw [e] at h; exact Std.lt_irrefl h
    simp only [h1, h, decide_false, Bool.false_or, Bool.not_eq_true', beq_eq_false_iff_ne]
    exact ⟨fun _ => trivial, fun _ => h2⟩
theorem hasName_iff (nm : ByteArray) (f : FileV) : hasName nm f = true ↔ f.name = nm := by
  unfold hasName
  rw [Lib.toList_data, Lib.toList_data]
  constructor
  · intro h
    exact bytes_ext (by simpa using h)
  · rintro rfl
    simp

/-- the bytes of a file's name -/
def nmOf (f : FileV) : List UInt8 := f.name.data.toList
theorem nm_inj {f g : FileV} (h : nmOf f = nmOf g) : f.name = g.name := bytes_ext h
def Sorted (fs : List FileV) : Prop := fs.Pairwise fun f g => nmOf f < nmOf g

theorem Sorted.ne {fs : List FileV} (h : Sorted fs) : fs.Pairwise fun f g => f.name ≠ g.name :=
  List.Pairwise.imp (fun {f g} (hlt : nmOf f < nmOf g) e => by
    have : nmOf f = nmOf g := by unfold nmOf; rw [e]
    rw [this] at hlt
    exact Std.lt_irrefl hlt) h
theorem Sorted.inj {fs : List FileV} (h : Sorted fs) {f g : FileV} (hf : f ∈ fs) (hg : g ∈ fs) (e : f.name = g.name) : f = g := by
  have hn := h.ne
  clear h
  induction fs with
  | nil => cases hf
  | cons x xs ih =>
    rw [List.pairwise_cons] at hn
    rcases List.mem_cons.1 hf with rfl | hf'
    · rcases List.mem_cons.1 hg with rfl | hg'
      · rfl
      · exact absurd e (hn.1 g hg')
    · rcases List.mem_cons.1 hg with rfl | hg'
      · exact absurd e.symm (hn.1 f hf')
      · exact ih hf' hg' hn.2

theorem sorted_of_adj {fs : List FileV} (h : ∀ (k : Nat) (f g : FileV), fs[k]? = some f → fs[k + 1]? = some g → nmOf f < nmOf g) : Sorted fs := by
  induction fs with
  | nil => exact List.Pairwise.nil
  | cons x xs ih =>
    have hxs : Sorted xs := ih fun k f g hf hg => h (k + 1) f g (by simpa using hf) (by simpa using hg)
    refine List.pairwise_cons.2 ⟨?_, hxs⟩
    cases xs with
    | nil => intro a ha; cases ha
    | cons y ys =>
      have hxy : nmOf x < nmOf y := h 0 x y rfl rfl
      intro a ha
      rcases List.mem_cons.1 ha with rfl | ha'
      · exact hxy
      · exact Std.lt_trans hxy ((List.pairwise_cons.1 hxs).1 a ha')
theorem adj_of_sorted {fs : List FileV} (h : Sorted fs) (k : Nat) (f g : FileV) (hf : fs[k]? = some f) (hg : fs[k + 1]? = some g) : nmOf f < nmOf g := by
  have hk := List.getElem?_eq_some_iff.1 hf
  have hk1 := List.getElem?_eq_some_iff.1 hg
  have := (List.pairwise_iff_getElem.1 h) k (k + 1) hk.1 hk1.1 (by omega)
  rw [hk.2, hk1.2] at this
  exact this

theorem disk_iff (fs : List FileV) : DiskR fs ↔ fs.length ≤ 30 ∧ (∀ f ∈ fs, FileOk f) ∧ Sorted fs := by
  constructor
  · rintro ⟨h1, h2⟩
    refine ⟨h1, fun f hf => ?_, sorted_of_adj fun k f g hf hg => ?_⟩
    · obtain ⟨k, hk⟩ := List.getElem?_of_mem hf
      exact (h2 k (List.getElem?_eq_some_iff.1 hk).1 f hk).1
    · have := (h2 (k + 1) (List.getElem?_eq_some_iff.1 hg).1 g hg).2 f (by omega) (by simpa using hf)
      exact (lessB_iff _ _).1 this
  · rintro ⟨h1, h2, h3⟩
    refine ⟨h1, fun k hk f hf => ⟨h2 f (List.mem_of_getElem? hf), fun g h0 hg => ?_⟩⟩
    obtain ⟨m, rfl⟩ : ∃ m, k = m + 1 := ⟨k - 1, by omega⟩
    exact (lessB_iff _ _).2 (adj_of_sorted h3 m g f (by simpa using hg) hf)

theorem mem_without {fs : List FileV} {nm : ByteArray} {g : FileV} : g ∈ without fs nm ↔ g ∈ fs ∧ g.name ≠ nm := by
  unfold without
  rw [List.mem_filter]
  have := hasName_iff nm g
  cases hh : hasName nm g
  · simp [hh] at this ⊢
    exact fun _ => this
  · simp [hh] at this ⊢
    exact fun _ => this
theorem lt_or_of_ne {f g : FileV} (h : g.name ≠ f.name) : lessB g.name f.name = true ∨ moreB g.name f.name = true := by
  rw [lessB_iff, moreB_iff]
  rcases Std.lt_trichotomy g.name.data.toList f.name.data.toList with h1 | h1 | h1
  · exact .inl h1
  · exact absurd (bytes_ext h1) h
  · exact .inr h1
theorem less_ne {a b : ByteArray} (h : lessB a b = true) : a ≠ b := fun e => by
  rw [lessB_iff, e] at h
  exact Std.lt_irrefl h
theorem more_ne {a b : ByteArray} (h : moreB a b = true) : a ≠ b := fun e => by
  rw [moreB_iff, e] at h
  exact Std.lt_irrefl h
theorem mem_put {fs : List FileV} {f g : FileV} : g ∈ put fs f ↔ g = f ∨ (g ∈ fs ∧ g.name ≠ f.name) := by
  unfold put
  simp only [List.mem_append, List.mem_filter, List.mem_singleton]
  constructor
  · rintro ((⟨h1, h2⟩ | h) | ⟨h1, h2⟩)
    · exact .inr ⟨h1, less_ne h2⟩
    · exact .inl h
    · exact .inr ⟨h1, more_ne h2⟩
  · rintro (h | ⟨h1, h2⟩)
    · exact .inl (.inr h)
    · rcases lt_or_of_ne h2 with h3 | h3
      · exact .inl (.inl ⟨h1, h3⟩)
      · exact .inr ⟨h1, h3⟩

theorem sorted_without {fs : List FileV} (h : Sorted fs) (nm : ByteArray) : Sorted (without fs nm) := List.Pairwise.filter _ h
theorem sorted_put {fs : List FileV} (h : Sorted fs) (f : FileV) : Sorted (put fs f) := by
  unfold put
  have hl : ∀ g ∈ fs.filter (fun g => lessB g.name f.name), nmOf g < nmOf f := fun g hg => (lessB_iff _ _).1 (List.mem_filter.1 hg).2
  have hm : ∀ g ∈ fs.filter (fun g => moreB g.name f.name), nmOf f < nmOf g := fun g hg => (moreB_iff _ _).1 (List.mem_filter.1 hg).2
  refine List.pairwise_append.2 ⟨List.pairwise_append.2 ⟨List.Pairwise.filter _ h, List.pairwise_singleton _ _, ?_⟩, List.Pairwise.filter _ h, ?_⟩
  · intro a ha b hb
    rw [List.mem_singleton] at hb
    subst hb
    exact hl a ha
  · intro a ha b hb
    rcases List.mem_append.1 ha with ha | ha
    · exact Std.lt_trans (hl a ha) (hm b hb)
    · rw [List.mem_singleton] at ha
      subst ha
      exact hm b hb

/-- whether there is a file of this name -/
def isIn (fs : List FileV) (nm : ByteArray) : Bool := fs.any (hasName nm)
theorem isIn_iff {fs : List FileV} {nm : ByteArray} : isIn fs nm = true ↔ ∃ f ∈ fs, f.name = nm := by
  unfold isIn
  rw [List.any_eq_true]
  constructor
  · rintro ⟨f, h1, h2⟩; exact ⟨f, h1, (hasName_iff _ _).1 h2⟩
  · rintro ⟨f, h1, h2⟩; exact ⟨f, h1, (hasName_iff _ _).2 h2⟩
theorem isIn_no {fs : List FileV} {nm : ByteArray} (h : ∀ f ∈ fs, f.name ≠ nm) : isIn fs nm = false := by
  cases hh : isIn fs nm
  · rfl
  · obtain ⟨f, h1, h2⟩ := isIn_iff.1 hh
    exact absurd h2 (h f h1)
theorem len_without {fs : List FileV} (h : Sorted fs) (nm : ByteArray) : (without fs nm).length + (if isIn fs nm then 1 else 0) = fs.length := by
  induction fs with
  | nil => simp [without, isIn]
  | cons x xs ih =>
    have hx := (List.pairwise_cons.1 h.ne).1
    have ih := ih (List.pairwise_cons.1 h).2
    by_cases hn : hasName nm x = true
    · have hall : ∀ g ∈ xs, g.name ≠ nm := fun g hg e => hx g hg (by rw [(hasName_iff _ _).1 hn, e])
      have h1 := isIn_no hall
      rw [h1] at ih
      have e1 : without (x :: xs) nm = without xs nm := by unfold without; rw [List.filter_cons]; simp [hn]
      have e2 : isIn (x :: xs) nm = true := by unfold isIn; simp [hn]
      rw [e1, e2]
      simp at ih ⊢
      omega
    · have hn' : hasName nm x = false := by simpa using hn
      have e1 : without (x :: xs) nm = x :: without xs nm := by unfold without; rw [List.filter_cons]; simp [hn']
      have e2 : isIn (x :: xs) nm = isIn xs nm := by unfold isIn; simp [hn']
      rw [e1, e2]
      simp only [List.length_cons]
      omega
theorem len_parts (fs : List FileV) (f : FileV) : (fs.filter fun g => lessB g.name f.name).length + (fs.filter fun g => moreB g.name f.name).length = (without fs f.name).length := by
  induction fs with
  | nil => rfl
  | cons x xs ih =>
    unfold without at *
    rw [List.filter_cons, List.filter_cons, List.filter_cons]
    by_cases hn : x.name = f.name
    · have h1 : lessB x.name f.name = false := by cases hh : lessB x.name f.name; rfl; exact absurd hn (less_ne hh)
      have h2 : moreB x.name f.name = false := by cases hh : moreB x.name f.name; rfl; exact absurd hn (more_ne hh)
      have h3 : hasName f.name x = true := (hasName_iff _ _).2 hn
      simp only [h1, h2, h3]
      simpa using ih
    · have h3 : hasName f.name x = false := by cases hh : hasName f.name x; rfl; exact absurd ((hasName_iff _ _).1 hh) hn
      rcases lt_or_of_ne hn with h1 | h1
      · have h2 : moreB x.name f.name = false := by
          cases hh : moreB x.name f.name
          · rfl
          · exact absurd ((moreB_iff _ _).1 hh) (lt_asym ((lessB_iff _ _).1 h1))
        simp only [h1, h2, h3]
        simp at ih ⊢
        omega
      · have h2 : lessB x.name f.name = false := by
          cases hh : lessB x.name f.name
          · rfl
          · exact absurd ((lessB_iff _ _).1 hh) (lt_asym ((moreB_iff _ _).1 h1))
        simp only [h1, h2, h3]
        simp at ih ⊢
        omega
theorem len_put {fs : List FileV} (h : Sorted fs) (f : FileV) : (put fs f).length + (if isIn fs f.name then 1 else 0) = fs.length + 1 := by
  have h1 := len_parts fs f
  have h2 := len_without h f.name
  unfold put
  simp only [List.length_append, List.length_cons, List.length_nil]
  omega

theorem fileOf_is {fs : List FileV} {nm : ByteArray} {f : FileV} (h : fileOf fs nm = some f) : f ∈ fs ∧ f.name = nm := by
  obtain ⟨k, hk, hf⟩ := fileOf_some h
  refine ⟨List.mem_of_getElem? hf, ?_⟩
  unfold atN at hk
  obtain ⟨h1, h2, _⟩ := List.findIdx?_eq_some_iff_getElem.1 hk
  rw [List.getElem?_eq_getElem h1] at hf
  cases hf
  exact (hasName_iff _ _).1 h2
theorem fileOf_not {fs : List FileV} {nm : ByteArray} (h : fileOf fs nm = none) : ∀ f ∈ fs, f.name ≠ nm := by
  intro f hf e
  have := fileOf_none h
  unfold atN at this
  have := List.findIdx?_eq_none_iff.1 this f hf
  rw [(hasName_iff _ _).2 e] at this
  cases this
theorem fileOf_mem {fs : List FileV} {f : FileV} (hs : Sorted fs) (hf : f ∈ fs) : fileOf fs f.name = some f := by
  cases h : fileOf fs f.name with
  | none => exact absurd rfl (fileOf_not h f hf)
  | some g =>
    obtain ⟨h1, h2⟩ := fileOf_is h
    rw [hs.inj h1 hf h2]
theorem isIn_of {fs : List FileV} {nm : ByteArray} : isIn fs nm = (fileOf fs nm).isSome := by
  cases h : fileOf fs nm with
  | none => exact isIn_no (fileOf_not h)
  | some f => exact isIn_iff.2 ⟨f, fileOf_is h⟩

theorem disk_without {fs : List FileV} (h : DiskR fs) (nm : ByteArray) : DiskR (without fs nm) := by
  rw [disk_iff] at h ⊢
  exact ⟨Nat.le_trans (without_le _ _) h.1, fun f hf => h.2.1 f (mem_without.1 hf).1, sorted_without h.2.2 nm⟩
theorem disk_put {fs : List FileV} (h : DiskR fs) {f : FileV} (hf : FileOk f) (hl : (put fs f).length ≤ 30) : DiskR (put fs f) := by
  rw [disk_iff] at h ⊢
  refine ⟨hl, fun g hg => ?_, sorted_put h.2.2 f⟩
  rcases mem_put.1 hg with rfl | hg
  · exact hf
  · exact h.2.1 g hg.1
theorem disk_put_no {fs : List FileV} {f : FileV} (h : ¬ FileOk f ∨ 30 < (put fs f).length) : ¬ DiskR (put fs f) := fun hd => by
  rw [disk_iff] at hd
  rcases h with h | h
  · exact h (hd.2.1 f (mem_put.2 (.inl rfl)))
  · omega
theorem len_put_in {fs : List FileV} (h : DiskR fs) (f : FileV) (hi : isIn fs f.name = true) : (put fs f).length = fs.length := by
  have := len_put ((disk_iff fs).1 h).2.2 f
  rw [hi] at this
  simpa using this
theorem len_put_new {fs : List FileV} (h : DiskR fs) (f : FileV) (hi : isIn fs f.name = false) : (put fs f).length = fs.length + 1 := by
  have := len_put ((disk_iff fs).1 h).2.2 f
  rw [hi] at this
  simpa using this
end Go.Proofs.Ythffflpclmpamaa
