/- What the specification's DoAct answers where the kind is none, and where it does not move. -/
import Derived.Test.YtegknhnmfaafmaaSAct3
namespace Go.Proofs.Ytegknhnmfaafmaa
open Go.RowKit

theorem str_ne {a b : ByteArray} (h : ¬ a = b) : (a.toList == b.toList) = false := by
  have h1 : ¬ a.toList = b.toList := by
    rw [Lib.toList_data, Lib.toList_data]
    intro e
    apply h
    cases a; cases b
    simpa using e
  simp [h1]

set_option maxRecDepth 100000 in
set_option maxHeartbeats 8000000 in
theorem sDoAct_other (fs : List FileV) (hfit : FitsF fs) (n : Nat) (a : Option Addr) (c : Nat) (x : ActV) (w : World) (h : Fs w w.heap.size a n fs) (hf : ActFine fs x) (hk : x.kind ≠ 1 ∧ x.kind ≠ 2 ∧ x.kind ≠ 3 ∧ x.kind ≠ 4) (k : Nat) (f : FileV) (hat : atN fs x.name = some k) (hfk : fs[k]? = some f) :
    Calls Try.prog 36 #[.agg #[.slice a n c], .agg #[.int .i64 x.kind, .string x.name, .string x.text, .string x.to]] w (ActAns w none) := by
  have hn30 := disk_n hf.disk h
  have hnm : n ≤ maxLen := by unfold maxLen; omega
  have H := sDiskOk_any fs hfit n a c hnm (w3 w a n c x) (w3_fs h)
  rw [dB_true hf.disk] at H
  have HD := hideIt H
  have HN := hideIt (fun W => l03Name_yes x.name hf.name.1 hf.name.2 W)
  have HF := hideIt h
  obtain ⟨l1, l2, l3, l4⟩ := looks0 hf hk.1 hk.2.2.1
  have dk : (x.kind == 1) = false := by simp [hk]
  have dk2 : (x.kind == 2) = false := by simp [hk]
  have dk3 : (x.kind == 3) = false := by simp [hk]
  have dk4 : (x.kind == 4) = false := by simp [hk]
  clear hk
  have HA := hideIt hat
  have hkl : k < n := by rw [← h.1]; exact atN_lt hat
  have hff := hfit f (List.mem_of_getElem? hfk)
  unfold maxLen at hff
  have HK := hideIt hfk
  clear H h hf hat hfk
  unfold ActAns
  go_enter Try.func36, Try.ntmps36
  go_wp2_with (go_at_call 49; refine (show Calls Try.prog 49 #[.agg #[.slice a n c]] (w3 w a n c x) _ from HD.out).mono ?_; rintro e w1 ⟨rfl, hb1⟩; refine Hid.out ?_)
  refine (show ∀ {p : Prop}, p → Hid p from fun h => h) ?_
  have hA := (ActAt.start w a n c x).up hb1
  obtain ⟨c0, c1, c2, c3, c4, c5, f5⟩ := hA.cells
  have HAt := hideIt hA
  have F1 := hideIt ((w3_fs (c := c) (x := x) HF.out).up hb1)
  have HL := l03At_any fs x.name n a c hnm w1 F1.out
  rw [HA.out] at HL
  have HLh := hideIt HL
  unfold atI at HLh
  clear HD hb1 hA HL HF
  go_wp2_with (first | (go_at_call 50; refine (HN.out _).mono ?_; rintro e w2 ⟨rfl, rfl⟩) | (go_at_call 51; refine HLh.out.mono ?_; rintro e w2 ⟨rfl, hb2⟩; refine Hid.out ?_))
  refine (show ∀ {p : Prop}, p → Hid p from fun h => h) ?_
  have hA0 := HAt.out.up hb2
  have F2 := hideIt (F1.out.up hb2)
  have m0 : w.heap.size < w2.heap.size := by have := hA0.size; omega
  have m1 : w.heap.size + 1 < w2.heap.size := by have := hA0.size; omega
  have m2 : w.heap.size + 1 + 1 < w2.heap.size := by have := hA0.size; omega
  clear c0 c1 c2 c3 c4 c5 f5
  obtain ⟨c0, c1, c2, c3, c4, c5, f5⟩ := hA0.cells
  have HA2 := hideIt hA0
  rcases F2.out.2 with hz | ⟨b, off, rfl, hbl, hcc⟩
  · omega
  obtain ⟨v0, v1, v2⟩ := hcc k f HK.out
  have b1 : (0 : Int) ≤ (k : Int) := by omega
  have b2 : (k : Int) < (n : Int) := by omega
  have dk0 : decide ((0 : Int) ≤ (k : Int)) = true := by simp
  have dk1 : decide ((k : Int) < 0) = false := by simp
  clear hcc
  have hB := HA2.out.x2.set (.slice none 0 0)
  have s1 := ((hB.alloc (.cells #[.string f.name, .string f.text, .int .i64 f.kept] 36)).alloc (.cells #[.slice none 0 0] 26)).cell
  have q1 := (HA2.out.refused.2.alloc (by have := HA2.out.size; simp [World.setCell]; omega) (.cells #[.string f.name, .string f.text, .int .i64 f.kept] 36)).alloc (by have := HA2.out.size; simp [World.setCell]; omega) (.cells #[.slice none 0 0] 26)
  clear HLh hb2 HAt hA0 F1 hB HA2
  go_wp2
  exact bodyPost_ret (v := .tuple #[.agg #[.slice none 0 0], .bool false]) (by simp [results, Try.results36, go_sem, s1]) rfl ⟨rfl, q1⟩

set_option maxRecDepth 100000 in
set_option maxHeartbeats 8000000 in
theorem sDoAct_movebad (fs : List FileV) (hfit : FitsF fs) (n : Nat) (a : Option Addr) (c : Nat) (x : ActV) (w : World) (h : Fs w w.heap.size a n fs) (hf : ActFine fs x) (hk : x.kind = 3) (hxt : x.to.size ≤ maxLen) (k : Nat) (f : FileV) (hat : atN fs x.name = some k) (hfk : fs[k]? = some f) (hbad : f.kept < f.text.size ∨ x.to = x.name ∨ ¬ NameOk x.to) :
    Calls Try.prog 36 #[.agg #[.slice a n c], .agg #[.int .i64 x.kind, .string x.name, .string x.text, .string x.to]] w (ActAns w none) := by
  have hn30 := disk_n hf.disk h
  have hnm : n ≤ maxLen := by unfold maxLen; omega
  have H := sDiskOk_any fs hfit n a c hnm (w3 w a n c x) (w3_fs h)
  rw [dB_true hf.disk] at H
  have HD := hideIt H
  have HN := hideIt (fun W => l03Name_yes x.name hf.name.1 hf.name.2 W)
  have HF := hideIt h
  obtain ⟨qq, l1, l2, l3, l4⟩ := looks3 hf hk
  have dk : (x.kind == 1) = false := by simp [hk]
  have dk2 : (x.kind == 2) = false := by simp [hk]
  have dk3 : (x.kind == 3) = true := by simp [hk]
  have HBad := hideIt hbad
  clear hk hbad
  have HA := hideIt hat
  have hkl : k < n := by rw [← h.1]; exact atN_lt hat
  have hff := hfit f (List.mem_of_getElem? hfk)
  unfold maxLen at hff
  have HK := hideIt hfk
  clear H h hf hat hfk
  unfold ActAns
  go_enter Try.func36, Try.ntmps36
  go_wp2_with (go_at_call 49; refine (show Calls Try.prog 49 #[.agg #[.slice a n c]] (w3 w a n c x) _ from HD.out).mono ?_; rintro e w1 ⟨rfl, hb1⟩; refine Hid.out ?_)
  refine (show ∀ {p : Prop}, p → Hid p from fun h => h) ?_
  have hA := (ActAt.start w a n c x).up hb1
  obtain ⟨c0, c1, c2, c3, c4, c5, f5⟩ := hA.cells
  have HAt := hideIt hA
  have F1 := hideIt ((w3_fs (c := c) (x := x) HF.out).up hb1)
  have HL := l03At_any fs x.name n a c hnm w1 F1.out
  rw [HA.out] at HL
  have HLh := hideIt HL
  unfold atI at HLh
  clear HD hb1 hA HL HF
  go_wp2_with (first | (go_at_call 50; refine (HN.out _).mono ?_; rintro e w2 ⟨rfl, rfl⟩) | (go_at_call 51; refine HLh.out.mono ?_; rintro e w2 ⟨rfl, hb2⟩; refine Hid.out ?_))
  refine (show ∀ {p : Prop}, p → Hid p from fun h => h) ?_
  have hA0 := HAt.out.up hb2
  have F2 := hideIt (F1.out.up hb2)
  have m0 : w.heap.size < w2.heap.size := by have := hA0.size; omega
  have m1 : w.heap.size + 1 < w2.heap.size := by have := hA0.size; omega
  have m2 : w.heap.size + 1 + 1 < w2.heap.size := by have := hA0.size; omega
  clear c0 c1 c2 c3 c4 c5 f5
  obtain ⟨c0, c1, c2, c3, c4, c5, f5⟩ := hA0.cells
  have HA2 := hideIt hA0
  rcases F2.out.2 with hz | ⟨b, off, rfl, hbl, hcc⟩
  · omega
  obtain ⟨v0, v1, v2⟩ := hcc k f HK.out
  have b1 : (0 : Int) ≤ (k : Int) := by omega
  have b2 : (k : Int) < (n : Int) := by omega
  have dk0 : decide ((0 : Int) ≤ (k : Int)) = true := by simp
  have dk1 : decide ((k : Int) < 0) = false := by simp
  clear hcc
  have hB := HA2.out.x2.set (.slice none 0 0)
  have s1 := ((hB.alloc (.cells #[.string f.name, .string f.text, .int .i64 f.kept] 36)).alloc (.cells #[.slice none 0 0] 26)).cell
  have q1 := (HA2.out.refused.2.alloc (by have := HA2.out.size; simp [World.setCell]; omega) (.cells #[.string f.name, .string f.text, .int .i64 f.kept] 36)).alloc (by have := HA2.out.size; simp [World.setCell]; omega) (.cells #[.slice none 0 0] 26)
  clear HLh hb2 HAt hA0 F1 hB HA2
  by_cases g1 : f.kept < f.text.size
  · have e1 : decide (f.kept < (f.text.size : Int)) = true := by simp; omega
    go_wp2
    exact bodyPost_ret (v := .tuple #[.agg #[.slice none 0 0], .bool false]) (by simp [results, Try.results36, go_sem, s1]) rfl ⟨rfl, q1⟩
  · have e1 : decide (f.kept < (f.text.size : Int)) = false := by simp; omega
    by_cases g2 : x.to = x.name
    · have e2 : (x.to.toList == x.name.toList) = true := by rw [g2]; simp
      clear g2
      go_wp2
      exact bodyPost_ret (v := .tuple #[.agg #[.slice none 0 0], .bool false]) (by simp [results, Try.results36, go_sem, s1]) rfl ⟨rfl, q1⟩
    · have e2 := str_ne g2
      have HN2 := hideIt (fun W => l03Name_no x.to hxt (by
        rcases HBad.out with h | h | h
        · exact absurd h g1
        · exact absurd h g2
        · unfold NameOk at h; omega) W)
      clear g2
      go_wp2_with (go_at_call 50; refine (HN2.out _).mono ?_; rintro e w5 ⟨rfl, rfl⟩)
      exact bodyPost_ret (v := .tuple #[.agg #[.slice none 0 0], .bool false]) (by simp [results, Try.results36, go_sem, s1]) rfl ⟨rfl, q1⟩

end Go.Proofs.Ytegknhnmfaafmaa
