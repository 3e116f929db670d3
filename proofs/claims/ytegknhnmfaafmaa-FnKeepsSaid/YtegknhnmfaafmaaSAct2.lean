/- What the specification's DoAct answers where disk and act are as they must be. -/
import Derived.Test.YtegknhnmfaafmaaSAct
namespace Go.Proofs.Ytegknhnmfaafmaa
open Go.RowKit

/-- disk and act are as they must be -/
structure ActFine (fs : List FileV) (x : ActV) : Prop where
  disk : DiskR fs
  name : NameOk x.name
  to : x.kind = 3 ∨ x.to.size = 0
  text : x.kind = 1 ∨ x.text.size = 0

theorem ActFine.d1 {fs : List FileV} {x : ActV} (h : ActFine fs x) : (x.kind != 3 && !x.to.toList.isEmpty) = false := by
  rcases h.to with h | h
  · simp [h]
  · simp [str_empty h]
theorem ActFine.d2 {fs : List FileV} {x : ActV} (h : ActFine fs x) : (x.kind != 1 && !x.text.toList.isEmpty) = false := by
  rcases h.text with h | h
  · simp [h]
  · simp [str_empty h]

theorem disk_n {fs : List FileV} {n : Nat} {w : World} {B : Nat} {a : Option Addr} (hd : DiskR fs) (h : Fs w B a n fs) : n ≤ 30 := by rw [← h.1]; exact hd.1

/-- the four looks at kind, To and Text, decided -/
def Looks (x : ActV) (p q r t : Bool) : Prop := (x.kind != 3) = p ∧ x.to.toList.isEmpty = q ∧ (x.kind != 1) = r ∧ x.text.toList.isEmpty = t

theorem looks3 {fs : List FileV} {x : ActV} (h : ActFine fs x) (hk : x.kind = 3) : ∃ q, Looks x false q true true :=
  ⟨_, by simp [hk], rfl, by simp [hk], str_empty (by rcases h.text with h | h <;> omega)⟩
theorem looks1 {fs : List FileV} {x : ActV} (h : ActFine fs x) (hk : x.kind = 1) : ∃ t, Looks x true true false t :=
  ⟨_, by simp [hk], str_empty (by rcases h.to with h | h <;> omega), by simp [hk], rfl⟩
theorem looks0 {fs : List FileV} {x : ActV} (h : ActFine fs x) (h1 : x.kind ≠ 1) (h3 : x.kind ≠ 3) : Looks x true true true true :=
  ⟨by simp [h3], str_empty (by rcases h.to with h | h <;> omega), by simp [h1], str_empty (by rcases h.text with h | h <;> omega)⟩

set_option maxRecDepth 100000 in
set_option maxHeartbeats 4000000 in
theorem sDoAct_none (fs : List FileV) (hfit : FitsF fs) (n : Nat) (a : Option Addr) (c : Nat) (x : ActV) (w : World) (h : Fs w w.heap.size a n fs) (hf : ActFine fs x) (hk : x.kind ≠ 1) (hat : atN fs x.name = none) :
    Calls Try.prog 36 #[.agg #[.slice a n c], .agg #[.int .i64 x.kind, .string x.name, .string x.text, .string x.to]] w fun e w' => e = .returned (.tuple #[.agg #[.slice none 0 0], .bool false]) ∧ Below w.heap.size w w' := by
  have hn30 := disk_n hf.disk h
  have hnm : n ≤ maxLen := by unfold maxLen; omega
  have H := sDiskOk_any fs hfit n a c hnm (w3 w a n c x) (w3_fs h)
  rw [dB_true hf.disk] at H
  have HD := hideIt H
  have HN := hideIt (fun W => l03Name_yes x.name hf.name.1 hf.name.2 W)
  have HF := hideIt h
  have hl : (∃ q, Looks x false q true true) ∨ Looks x true true true true := by
    by_cases h3 : x.kind = 3
    · exact .inl (looks3 hf h3)
    · exact .inr (looks0 hf hk h3)
  have dk : (x.kind == 1) = false := by simp [hk]
  have HA := hideIt hat
  clear H h hf hk hat
  rcases hl with ⟨q, l1, l2, l3, l4⟩ | ⟨l1, l2, l3, l4⟩
  all_goals
    go_enter Try.func36, Try.ntmps36
    go_wp2_with (go_at_call 49; refine (show Calls Try.prog 49 #[.agg #[.slice a n c]] (w3 w a n c x) _ from HD.out).mono ?_; rintro e w1 ⟨rfl, hb1⟩; refine Hid.out ?_)
    refine (show ∀ {p : Prop}, p → Hid p from fun h => h) ?_
    have hA := (ActAt.start w a n c x).up hb1
    obtain ⟨c0, c1, c2, c3, c4, c5, f5⟩ := hA.cells
    have HAt := hideIt hA
    have HL := l03At_any fs x.name n a c hnm w1 ((w3_fs (c := c) (x := x) HF.out).up hb1)
    rw [HA.out] at HL
    have HLh := hideIt HL
    unfold atI at HLh
    clear HD hb1 hA HL
    go_wp2_with (first | (go_at_call 50; refine (HN.out _).mono ?_; rintro e w2 ⟨rfl, rfl⟩) | (go_at_call 51; refine HLh.out.mono ?_; rintro e w2 ⟨rfl, hb2⟩; refine Hid.out ?_))
    refine (show ∀ {p : Prop}, p → Hid p from fun h => h) ?_
    have hA := ((HAt.out.up hb2).alloc (.cells #[.string x.name, .string ⟨#[]⟩, .int .i64 0] 36)).alloc (.cells #[.slice none 0 0] 26)
    have hA0 := HAt.out.up hb2
    have hB := hA0.x2.set (.slice none 0 0)
    have s1 := ((hB.alloc (.cells #[.string x.name, .string ⟨#[]⟩, .int .i64 0] 36)).alloc (.cells #[.slice none 0 0] 26)).cell
    have q1 := (hA0.refused.2.alloc (by have := hA0.size; simp [World.setCell]; omega) (.cells #[.string x.name, .string ⟨#[]⟩, .int .i64 0] 36)).alloc (by have := hA0.size; simp [World.setCell]; omega) (.cells #[.slice none 0 0] 26)
    clear hB
    have m0 : w.heap.size < w2.heap.size := by have := hA0.size; omega
    have m1 : w.heap.size + 1 < w2.heap.size := by have := hA0.size; omega
    have m2 : w.heap.size + 1 + 1 < w2.heap.size := by have := hA0.size; omega
    clear c0 c1 c2 c3 c4 c5 f5
    obtain ⟨c0, c1, c2, c3, c4, c5, f5⟩ := hA0.cells
    clear HLh hb2 hA HAt hA0
    go_wp2
    exact bodyPost_ret (v := .tuple #[.agg #[.slice none 0 0], .bool false]) (by simp [results, Try.results36, go_sem, s1]) rfl ⟨rfl, q1⟩
end Go.Proofs.Ytegknhnmfaafmaa
