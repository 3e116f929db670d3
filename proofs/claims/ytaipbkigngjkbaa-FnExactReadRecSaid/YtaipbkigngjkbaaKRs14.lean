/- What the program's ReadShort answers. The program's reader of records: short texts, questions, answers, orders. -/
import Derived.Test.YtaipbkigngjkbaaKOr10
import Derived.Test.YtaipbkigngjkbaaKShelf
import Derived.Lib.Strings
import Derived.WalkSpells
import Derived.Test.YtaipbkigngjkbaaKBq14
import Derived.Test.YtaipbkigngjkbaaKRp14
namespace Go.Proofs.Ytaipbkigngjkbaa
open Go.RowKit Vt

theorem cut_size (s : ByteArray) (j n : Nat) (hs : s.size ≤ 1048576) : (s.extract j (j + n)).size ≤ 1048576 := by
  rw [ByteArray.size_extract]
  omega

theorem clone_any (s : ByteArray) (h : s.size ≤ 1048576) (w : World) :
    Calls Try.prog 78 #[.string s] w fun e w' => e = .returned (.string s) ∧ Below w.heap.size w w' := by
  go_enter Try.func78, Try.ntmps78
  go_wp2_with (go_at_call 83; refine (Try.stringslite_Clone s _ (by omega)).mono ?_; rintro e w1 ⟨rfl, hb1⟩)
  go_ret
  exact ⟨rfl, hb1⟩

theorem iReadShort_none (s : ByteArray) (hs : s.size ≤ 1048576) (a : Int) (hr : rvI s a = none) (w : World) :
    Calls Try.prog 71 #[.string s, .int .i64 a] w fun e w' => e = .returned (.tuple #[.string ⟨#[]⟩, .int .i64 0, .bool false]) ∧ Below w.heap.size w w' := by
  have H := fun w => iReadVar_any s hs a w
  rw [hr] at H
  unfold rvV at H
  have K : Hid _ := H
  clear H hr
  go_enter Try.func71, Try.ntmps71
  go_wp2_with (go_at_call 58; refine (K.out _).mono ?_; rintro e w1 ⟨rfl, hw1⟩; subst hw1)
  go_ret3
  exact ⟨rfl, Below.refl _ _⟩

theorem iReadShort_big (s : ByteArray) (hs : s.size ≤ 1048576) (a : Int) (n j : Nat) (hr : rvI s a = some (n, j)) (hb : 20000 < n ∨ s.size < j + n) (w : World) :
    Calls Try.prog 71 #[.string s, .int .i64 a] w fun e w' => e = .returned (.tuple #[.string ⟨#[]⟩, .int .i64 0, .bool false]) ∧ Below w.heap.size w w' := by
  have H := fun w => iReadVar_any s hs a w
  have hbd := rvI_some hr
  rw [hr] at H
  unfold rvV at H
  have K : Hid _ := H
  clear H hr
  by_cases h1 : 20000 < n
  · have d1 : decide ((20000 : Int) < (n : Int)) = true := by simp; omega
    clear hb
    go_enter Try.func71, Try.ntmps71
    go_wp2_with (go_at_call 58; refine (K.out _).mono ?_; rintro e w1 ⟨rfl, hw1⟩; subst hw1)
    go_ret3
    exact ⟨rfl, Below.refl _ _⟩
  · have d1 : decide ((20000 : Int) < (n : Int)) = false := by simp; omega
    have h2 : (s.size : Int) - (j : Int) < (n : Int) := by omega
    have d2 : decide ((s.size : Int) - (j : Int) < (n : Int)) = true := by simp; omega
    clear hb
    go_enter Try.func71, Try.ntmps71
    go_wp2_with (go_at_call 58; refine (K.out _).mono ?_; rintro e w1 ⟨rfl, hw1⟩; subst hw1)
    go_ret3
    exact ⟨rfl, Below.refl _ _⟩

theorem iReadShort_yes (s : ByteArray) (hs : s.size ≤ 1048576) (a : Int) (n j : Nat) (hr : rvI s a = some (n, j)) (h1 : n ≤ 20000) (h2 : j + n ≤ s.size) (w : World) :
    Calls Try.prog 71 #[.string s, .int .i64 a] w fun e w' => e = .returned (.tuple #[.string (s.extract j (j + n)), .int .i64 ((j : Int) + (n : Int)), .bool true]) ∧ Below w.heap.size w w' := by
  have H := fun w => iReadVar_any s hs a w
  have hbd := rvI_some hr
  rw [hr] at H
  unfold rvV at H
  have K : Hid _ := H
  clear H hr
  have d1 : decide ((20000 : Int) < (n : Int)) = false := by simp; omega
  have d2 : decide ((s.size : Int) - (j : Int) < (n : Int)) = false := by simp; omega
  go_enter Try.func71, Try.ntmps71
  go_wp2_with (go_at_call 58; refine (K.out _).mono ?_; rintro e w1 ⟨rfl, hw1⟩; subst hw1)
  have hz := cut_size s j n hs
  refine (clone_any (s.extract j (j + n)) hz _).mono ?_
  rintro e w2 ⟨rfl, hb2⟩
  go_wp2
  go_ret3
  exact ⟨rfl, hb2⟩

end Go.Proofs.Ytaipbkigngjkbaa
namespace Go.Proofs.Ytaipbkigngjkbaa
open Go.RowKit Vt

theorem rvI_at {s : ByteArray} {p : Nat} (hp : p ≤ s.size) : rvI s (p : Int) = rv p (from_ s p) := by
  unfold rvI
  rw [if_pos (by omega), Int.toNat_natCast]
theorem RrAt.below {w w' : World} {G : Nat} {n : Int} {s : ByteArray} {p : Nat} (h : RrAt w G n s p) (hb : Below w.heap.size w w') : RrAt w' G n s p := ⟨by rw [hb.block G h.lt]; exact h.1, h.2⟩
/-- a short text stands at p: k bytes at j -/
def ShOk (s : ByteArray) (p k j : Nat) : Prop := rv p (from_ s p) = some (k, j) ∧ k ≤ 20000 ∧ j + k ≤ s.size
def ShBad (s : ByteArray) (p : Nat) : Prop := rv p (from_ s p) = none ∨ ∃ k j, rv p (from_ s p) = some (k, j) ∧ (20000 < k ∨ s.size < j + k)
theorem sh_cases (s : ByteArray) (p : Nat) : (∃ k j, ShOk s p k j) ∨ ShBad s p := by
  cases hr : rv p (from_ s p) with
  | none => exact .inr (.inl hr)
  | some x =>
    obtain ⟨k, j⟩ := x
    by_cases hk : k ≤ 20000 ∧ j + k ≤ s.size
    · exact .inl ⟨k, j, hr, hk⟩
    · exact .inr (.inr ⟨k, j, hr, by omega⟩)
set_option maxHeartbeats 1000000 in
theorem short_yes (n : Int) (s : ByteArray) (hs : s.size ≤ 1048576) (p k j : Nat) (hk : ShOk s p k j) (G : Nat) (w : World) (h : RrAt w G n s p) :
    Calls Try.prog 60 #[.pointer (some ⟨G, 0, none⟩)] w fun e w' => e = .returned (.string (s.extract j (j + k))) ∧ RrAt w' G n s (j + k) ∧ w.grownBy w' (some G) := by
  have HV := hideIt (iReadShort_yes s hs (p : Int) k j (by rw [rvI_at h.2]; exact hk.1) hk.2.1 hk.2.2)
  have HN := hideIt (need_yes G)
  have HH := hideIt h
  have HK := hideIt hk.2.2
  have HC : Hid (∀ u, Below w.heap.size w u → u.cell? ⟨G, 1, none⟩ = some (.string s) ∧ u.cell? ⟨G, 2, none⟩ = some (.int .i64 (p : Int))) := fun u hu => ⟨(h.below hu).c1, (h.below hu).c2⟩
  have hS0 := HC.out _ (Below.refl _ _).drew
  have ew : IntKind.i64.wrap ((j : Int) + (k : Int)) = (j : Int) + (k : Int) := by have := hk.2; rw [IntKind.wrap_i64]; omega
  clear h hk
  go_enter Try.func60, Try.ntmps60
  go_wp2
  go_region_held3 (fun u => u.cell? ⟨G, 1, none⟩ = some (.string s) ∧ u.cell? ⟨G, 2, none⟩ = some (.int .i64 (p : Int))) (first | assumption)
    ((go_at_call 71; refine (HV.out _).mono ?_; rintro e w1 ⟨rfl, hb1⟩; have hS1 := HC.out _ (bdr hb1)))
  have h1 := HH.out.below (bdr hb1)
  have c2 := h1.c2
  have f2 := h1.fz 2
  have HH1 := hideIt h1
  have HB1 := hideIt (gr_below (bdr hb1) (some G))
  clear h1 hS1 hS0 hb1 HV HC
  go_wp2_with (go_at_call 52; refine (HN.out _).mono ?_; rintro e w2 ⟨rfl, hw1⟩; subst hw1)
  go_ret
  refine ⟨rfl, ?_, gr_trans HB1.out (gr_set _ _ _ _)⟩
  have := HH1.out.set (j + k) HK.out
  rw [Int.natCast_add] at this
  exact this
set_option maxHeartbeats 1000000 in
theorem short_no (n : Int) (s : ByteArray) (hs : s.size ≤ 1048576) (p : Nat) (hk : ShBad s p) (G : Nat) (w : World) (h : RrAt w G n s p) :
    Calls Try.prog 60 #[.pointer (some ⟨G, 0, none⟩)] w fun e w' => e = .panicked PV ∧ w.grownBy w' (some G) := by
  have HV : Hid (∀ w, Calls Try.prog 71 #[.string s, .int .i64 (p : Int)] w fun e w' => e = .returned (.tuple #[.string ⟨#[]⟩, .int .i64 0, .bool false]) ∧ Below w.heap.size w w') := fun w => by
    rcases hk with hr | ⟨k, j, hr, hb⟩
    · exact iReadShort_none s hs (p : Int) (by rw [rvI_at h.2]; exact hr) w
    · exact iReadShort_big s hs (p : Int) k j (by rw [rvI_at h.2]; exact hr) hb w
  have HN := hideIt (need_no G)
  have HC : Hid (∀ u, Below w.heap.size w u → u.cell? ⟨G, 1, none⟩ = some (.string s) ∧ u.cell? ⟨G, 2, none⟩ = some (.int .i64 (p : Int))) := fun u hu => ⟨(h.below hu).c1, (h.below hu).c2⟩
  have hS0 := HC.out _ (Below.refl _ _).drew
  clear h hk
  go_enter Try.func60, Try.ntmps60
  go_wp2
  go_region_held3 (fun u => u.cell? ⟨G, 1, none⟩ = some (.string s) ∧ u.cell? ⟨G, 2, none⟩ = some (.int .i64 (p : Int))) (first | assumption)
    ((go_at_call 71; refine (HV.out _).mono ?_; rintro e w1 ⟨rfl, hb1⟩; have hS1 := HC.out _ (bdr hb1)))
  have HB1 := hideIt (gr_below (bdr hb1) (some G))
  clear hS1 hS0 hb1 HV HC
  go_wp2_with (go_at_call 52; refine (HN.out _).mono ?_; rintro e w2 ⟨rfl, hw1⟩; subst hw1)
  exact ⟨rfl, rfl, HB1.out⟩
end Go.Proofs.Ytaipbkigngjkbaa
