/- What the program's nameOk and DiskOk answer at every list of files. -/
import Derived.Test.YtegknhnmfaafmaaSFiles
import Derived.Test.YtegknhnmfaafmaaLawKit
namespace Go.Proofs.Ytegknhnmfaafmaa
open Go.RowKit

theorem nameOk_yes (s : ByteArray) (h0 : 1 ≤ s.size) (h1 : s.size ≤ 8) (w : World) :
    Calls Try.prog 28 #[.string s] w fun e w' => e = .returned (.bool true) ∧ w' = w := by
  have d1 : decide ((1 : Int) ≤ (s.size : Int)) = true := by simp; omega
  have d2 : decide ((s.size : Int) ≤ 8) = true := by simp; omega
  go_enter Try.func28, Try.ntmps28
  go_wp2
  go_ret
  exact ⟨by simp, rfl⟩

theorem nameOk_no (s : ByteArray) (hm : s.size ≤ maxLen) (h : s.size < 1 ∨ 8 < s.size) (w : World) :
    Calls Try.prog 28 #[.string s] w fun e w' => e = .returned (.bool false) ∧ w' = w := by
  unfold maxLen at hm
  by_cases h1 : 1 ≤ s.size
  · have d1 : decide ((1 : Int) ≤ (s.size : Int)) = true := by simp; omega
    have d2 : decide ((s.size : Int) ≤ 8) = false := by simp; omega
    go_enter Try.func28, Try.ntmps28
    go_wp2
    go_ret
    exact ⟨by simp, rfl⟩
  · have d1 : decide ((1 : Int) ≤ (s.size : Int)) = false := by simp; omega
    go_enter Try.func28, Try.ntmps28
    go_wp2
    go_ret
    exact ⟨by simp, rfl⟩

set_option maxRecDepth 100000 in
set_option maxHeartbeats 8000000 in
theorem iDiskOk_any (fs : List FileV) (hfit : FitsF fs) (n : Nat) (a : Option Addr) (c : Nat) (hn : n ≤ maxLen) (w : World) (h : Fs w w.heap.size a n fs) :
    Calls Try.prog 12 #[.agg #[.slice a n c]] w fun e w' => e = .returned (.bool (dB fs)) ∧ Below w.heap.size w w' := by
  unfold maxLen at hn
  obtain ⟨hlen, hrow⟩ := h
  by_cases h30 : n ≤ 30
  · have HR := hideIt hrow
    have HF := hideIt hfit
    clear hrow hfit
    have up : ∀ {W : World}, Below (w.heap.size + 1) (w.alloc (.cells #[.slice a n c] 26)) W → Below w.heap.size w W := fun hW =>
      ((Below.refl w.heap.size w).alloc (Nat.le_refl _) _).trans (hW.mono (by omega))
    have UP := hideIt (fun W => @up W)
    clear up
    generalize hB : dB fs = B
    have HB := hideIt hB
    clear hB
    have d0 : decide ((30 : Int) < (n : Int)) = false := by simp; omega
    go_enter Try.func12, Try.ntmps12
    go_wp2
    go_loopw [12] (fun i wr => ∃ k : Nat, k ≤ n ∧ i = .int .i64 (k : Int) ∧ Hid (∀ j, j < k → OkAt fs j) ∧ Below (w.heap.size + 1) (w.alloc (.cells #[.slice a n c] 26)) wr) (fun i _ => n - (intOf i).toNat)
    case atStart => exact ⟨0, by omega, rfl, fun j hj => by omega, Below.refl _ _⟩
    case round =>
      obtain ⟨k, hk, rfl, hok, hb⟩ := hrel
      have hsz := hb.size
      simp at hsz
      have hw0 : w.heap.size < wr.heap.size := by omega
      have hd : wr.cell? ⟨w.heap.size, 0, none⟩ = some (.slice a n c) := by rw [hb.cell (by simp)]; simp
      by_cases hlt : k < n
      · rcases HR.out with hz | ⟨b, off, rfl, hbl, hc⟩
        · omega
        · obtain ⟨f, hf⟩ : ∃ f, fs[k]? = some f := ⟨fs[k]'(by omega), List.getElem?_eq_getElem (by omega)⟩
          have hcc : ∀ j f, fs[j]? = some f → wr.cell? ⟨b, off + j * 3, none⟩ = some (.string f.name) ∧ wr.cell? ⟨b, off + j * 3 + 1, none⟩ = some (.string f.text) ∧ wr.cell? ⟨b, off + j * 3 + 2, none⟩ = some (.int .i64 f.kept) := fun j f hf => by
            obtain ⟨c0, c1, c2⟩ := hc j f hf
            have hw := fun o => Below.heap_alloc w o b hbl
            refine ⟨?_, ?_, ?_⟩
            · rw [hb.cell (p := ⟨b, _, none⟩) (by show b < _; omega), World.cell?_of_block (w := w) (hw _)]; exact c0
            · rw [hb.cell (p := ⟨b, _, none⟩) (by show b < _; omega), World.cell?_of_block (w := w) (hw _)]; exact c1
            · rw [hb.cell (p := ⟨b, _, none⟩) (by show b < _; omega), World.cell?_of_block (w := w) (hw _)]; exact c2
          obtain ⟨e0, e1, e2⟩ := hcc k f hf
          have hbw : b < wr.heap.size := by omega
          have b1 : (0 : Int) ≤ (k : Int) := by omega
          have b2 : (k : Int) < (n : Int) := by omega
          have hff := HF.out f (List.mem_of_getElem? hf)
          unfold maxLen at hff
          have K9 : Hid (∀ nq, Below (w.heap.size + 1) (w.alloc (.cells #[.slice (some ⟨b, off, none⟩) n c] 26)) ((wr.alloc (.cells #[.string f.name, .string f.text, .int .i64 f.kept] 36)).drewN nq)) := fun nq => below_drewN (hb.alloc (by omega) _) nq
          by_cases hnm : 1 ≤ f.name.size ∧ f.name.size ≤ 8
          · have HN := hideIt (fun W => nameOk_yes f.name hnm.1 hnm.2 W)
            by_cases htx : f.text.size ≤ 20000
            · have d2 : decide ((20000 : Int) < (f.text.size : Int)) = false := by simp; omega
              by_cases hkp : 0 ≤ f.kept ∧ f.kept ≤ f.text.size
              · have d4 : decide (f.kept < 0) = false := by simp; omega
                have d5 : decide ((f.text.size : Int) < f.kept) = false := by simp; omega
                have hfok : FileOk f := ⟨hnm, htx, hkp⟩
                by_cases hk0 : 0 < k
                · obtain ⟨m, rfl⟩ : ∃ m, k = m + 1 := ⟨k - 1, by omega⟩
                  obtain ⟨g, hg⟩ : ∃ g, fs[m]? = some g := ⟨fs[m]'(by omega), List.getElem?_eq_getElem (by omega)⟩
                  obtain ⟨g0, _, _⟩ := hcc m g hg
                  have d3 : decide ((0 : Int) < (m : Int) + 1) = true := by simp
                  have hw1 : IntKind.i64.wrap (m : Int) = (m : Int) := by rw [IntKind.wrap_i64]; omega
                  have b3 : (0 : Int) ≤ (m : Int) := by omega
                  have b4 : (m : Int) < (n : Int) := by omega
                  by_cases hl : lessB g.name f.name = true
                  · have HO : Hid (∀ j, j < m + 1 + 1 → OkAt fs j) := fun j hj => by
                      by_cases e : j = m + 1
                      · subst e
                        intro f' hf'
                        rw [hf] at hf'
                        cases hf'
                        refine ⟨hfok, fun g' _ hg' => ?_⟩
                        rw [show m + 1 - 1 = m by omega, hg] at hg'
                        cases hg'
                        exact hl
                      · exact hok.out j (by omega)
                    unfold lessB at hl
                    clear hcc hc hg hf hfok hok
                    go_wp2_with (go_at_call 28; refine (HN.out _).mono ?_; rintro e w1 ⟨rfl, rfl⟩)
                    go_quiet (fail)
                    go_wp2
                    exact ⟨⟨m + 1 + 1, by omega, by go_num, HO, K9.out _⟩, by simp [intOf]; omega⟩
                  · have hl' : lessB g.name f.name = false := by simpa using hl
                    have HNO := hideIt (not_order hf hg hl')
                    unfold lessB at hl'
                    clear hcc hc hg hf hfok hok hl
                    go_wp2_with (go_at_call 28; refine (HN.out _).mono ?_; rintro e w1 ⟨rfl, rfl⟩)
                    go_quiet (fail)
                    go_wp2
                    go_ret
                    exact ⟨by rw [← HB.out, dB_false HNO.out]; rfl, UP.out _ (K9.out _)⟩
                · have d3 : decide ((0 : Int) < (k : Int)) = false := by simp; omega
                  have HO : Hid (∀ j, j < k + 1 → OkAt fs j) := fun j hj => by
                    obtain rfl : j = k := by omega
                    intro f' hf'
                    rw [hf] at hf'
                    cases hf'
                    exact ⟨hfok, fun g' h0 _ => absurd h0 hk0⟩
                  clear hcc hc hf hfok hok
                  go_wp2_with (go_at_call 28; refine (HN.out _).mono ?_; rintro e w1 ⟨rfl, rfl⟩)
                  go_quiet (fail)
                  go_wp2
                  exact ⟨⟨k + 1, by omega, by go_num, HO, K9.out _⟩, by simp [intOf]; omega⟩
              · have HNO := hideIt (not_disk hf (fun h => hkp h.2.2))
                by_cases hk1 : 0 ≤ f.kept
                · have d4 : decide (f.kept < 0) = false := by simp; omega
                  have d5 : decide ((f.text.size : Int) < f.kept) = true := by simp; omega
                  clear hcc hc hf hok hkp
                  go_wp2_with (go_at_call 28; refine (HN.out _).mono ?_; rintro e w1 ⟨rfl, rfl⟩)
                  go_ret
                  exact ⟨by rw [← HB.out, dB_false HNO.out]; rfl, UP.out _ (K9.out 0)⟩
                · have d4 : decide (f.kept < 0) = true := by simp; omega
                  clear hcc hc hf hok hkp
                  go_wp2_with (go_at_call 28; refine (HN.out _).mono ?_; rintro e w1 ⟨rfl, rfl⟩)
                  go_ret
                  exact ⟨by rw [← HB.out, dB_false HNO.out]; rfl, UP.out _ (K9.out 0)⟩
            · have d2 : decide ((20000 : Int) < (f.text.size : Int)) = true := by simp; omega
              have HNO := hideIt (not_disk hf (fun h => htx h.2.1))
              clear hcc hc hf hok
              go_wp2_with (go_at_call 28; refine (HN.out _).mono ?_; rintro e w1 ⟨rfl, rfl⟩)
              go_ret
              exact ⟨by rw [← HB.out, dB_false HNO.out]; rfl, UP.out _ (K9.out 0)⟩
          · have HN := hideIt (fun W => nameOk_no f.name (by unfold maxLen; omega) (by omega) W)
            have HNO := hideIt (not_disk hf (fun h => hnm h.1))
            clear hcc hc hf hok hnm
            go_wp2_with (go_at_call 28; refine (HN.out _).mono ?_; rintro e w1 ⟨rfl, rfl⟩)
            go_ret
            exact ⟨by rw [← HB.out, dB_false HNO.out]; rfl, UP.out _ (K9.out 0)⟩
      · have HD := hideIt (show DiskR fs from ⟨by omega, fun j hj => hok.out j (by omega)⟩)
        have K9 := hideIt (UP.out _ hb)
        clear hok
        go_wp2
        go_ret
        exact ⟨by rw [← HB.out, dB_true HD.out]; rfl, K9.out⟩
  · have hno : ¬ DiskR fs := fun hd => h30 (by rw [← hlen]; exact hd.1)
    rw [dB_false hno]
    have d1 : decide ((30 : Int) < (n : Int)) = true := by simp; omega
    clear hno hrow
    go_enter Try.func12, Try.ntmps12
    go_wp2
    go_ret
    exact ⟨rfl, (Below.refl _ _).alloc (Nat.le_refl _) _⟩
end Go.Proofs.Ytegknhnmfaafmaa
