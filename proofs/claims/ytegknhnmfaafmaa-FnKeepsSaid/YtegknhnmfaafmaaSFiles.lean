/- What the specification's DiskOk answers at every list of files. -/
import Derived.Test.YtegknhnmfaafmaaFiles
import Derived.Laws.Cover1
namespace Go.Proofs.Ytegknhnmfaafmaa
open Go.RowKit

theorem l01In_yes (x a b : Int) (h1 : a ≤ x) (h2 : x ≤ b) (w : World) :
    Calls Try.prog 39 #[.int .i64 x, .int .i64 a, .int .i64 b] w fun e w' => e = .returned (.bool true) ∧ w' = w := by
  have d1 : decide (a ≤ x) = true := by simp [h1]
  have d2 : decide (x ≤ b) = true := by simp [h2]
  go_enter Try.func39, Try.ntmps39
  go_wp2
  go_ret
  exact ⟨by simp, rfl⟩

theorem l01In_no (x a b : Int) (h : x < a ∨ b < x) (w : World) :
    Calls Try.prog 39 #[.int .i64 x, .int .i64 a, .int .i64 b] w fun e w' => e = .returned (.bool false) ∧ w' = w := by
  by_cases h1 : a ≤ x
  · have d1 : decide (a ≤ x) = true := by simp [h1]
    have h2 : ¬ x ≤ b := by omega
    have d2 : decide (x ≤ b) = false := by simp [h2]
    go_enter Try.func39, Try.ntmps39
    go_wp2
    go_ret
    exact ⟨by simp, rfl⟩
  · have d1 : decide (a ≤ x) = false := by simp [h1]
    go_enter Try.func39, Try.ntmps39
    go_wp2
    go_ret
    exact ⟨by simp, rfl⟩

theorem l03Name_yes (s : ByteArray) (h0 : 1 ≤ s.size) (h1 : s.size ≤ 8) (w : World) :
    Calls Try.prog 50 #[.string s] w fun e w' => e = .returned (.bool true) ∧ w' = w := by
  have H := hideIt (l01In_yes (s.size : Int) 1 8 (by omega) (by omega) w)
  go_enter Try.func50, Try.ntmps50
  go_wp2_with (go_at_call 39; refine H.out.mono ?_; rintro e w1 ⟨rfl, rfl⟩)
  go_ret
  exact ⟨rfl, rfl⟩

theorem l03Name_no (s : ByteArray) (hm : s.size ≤ maxLen) (h : s.size < 1 ∨ 8 < s.size) (w : World) :
    Calls Try.prog 50 #[.string s] w fun e w' => e = .returned (.bool false) ∧ w' = w := by
  unfold maxLen at hm
  have H := hideIt (l01In_no (s.size : Int) 1 8 (by omega) w)
  go_enter Try.func50, Try.ntmps50
  go_wp2_with (go_at_call 39; refine H.out.mono ?_; rintro e w1 ⟨rfl, rfl⟩)
  go_ret
  exact ⟨rfl, rfl⟩

def lessB (a b : ByteArray) : Bool := Op.bytesLess a.toList b.toList
/-- a file as it must be -/
def FileOk (f : FileV) : Prop := (1 ≤ f.name.size ∧ f.name.size ≤ 8) ∧ f.text.size ≤ 20000 ∧ 0 ≤ f.kept ∧ f.kept ≤ f.text.size
/-- the file at k is as it must be, and behind the one ahead of it -/
def OkAt (fs : List FileV) (k : Nat) : Prop := ∀ f, fs[k]? = some f → FileOk f ∧ ∀ g, 0 < k → fs[k - 1]? = some g → lessB g.name f.name = true
/-- a disk as it must be -/
def DiskR (fs : List FileV) : Prop := fs.length ≤ 30 ∧ ∀ k, k < fs.length → OkAt fs k

/-- whether a disk is as it must be -/
noncomputable def dB (fs : List FileV) : Bool := @decide (DiskR fs) (Classical.propDecidable _)
theorem dB_true {fs : List FileV} (h : DiskR fs) : dB fs = true := by unfold dB; simp [h]
theorem dB_false {fs : List FileV} (h : ¬ DiskR fs) : dB fs = false := by unfold dB; simp [h]
theorem dB_iff {fs : List FileV} : dB fs = true ↔ DiskR fs := by unfold dB; simp

theorem not_disk {fs : List FileV} {k : Nat} {f : FileV} (hf : fs[k]? = some f) (h : ¬ FileOk f) : ¬ DiskR fs := fun hd =>
  h ((hd.2 k (List.getElem?_eq_some_iff.1 hf).1 f hf).1)
theorem not_order {fs : List FileV} {m : Nat} {f g : FileV} (hf : fs[m + 1]? = some f) (hg : fs[m]? = some g) (h : lessB g.name f.name = false) : ¬ DiskR fs := fun hd => by
  have := (hd.2 (m + 1) (List.getElem?_eq_some_iff.1 hf).1 f hf).2 g (by omega) hg
  rw [h] at this
  cases this

set_option maxRecDepth 100000 in
set_option maxHeartbeats 8000000 in
theorem sDiskOk_any (fs : List FileV) (hfit : FitsF fs) (n : Nat) (a : Option Addr) (c : Nat) (hn : n ≤ maxLen) (w : World) (h : Fs w w.heap.size a n fs) :
    Calls Try.prog 49 #[.agg #[.slice a n c]] w fun e w' => e = .returned (.bool (dB fs)) ∧ Below w.heap.size w w' := by
  unfold maxLen at hn
  obtain ⟨hlen, hrow⟩ := h
  by_cases h30 : n ≤ 30
  · have HR := hideIt hrow
    have HF := hideIt hfit
    clear hrow hfit
    have up : ∀ {W : World}, Below (w.heap.size + 1) (w.alloc (.cells #[.slice a n c] 26)) W → Below w.heap.size w W := fun hW =>
      ((Below.refl w.heap.size w).alloc (Nat.le_refl _) _).trans (hW.mono (by omega))
    have UP := hideIt (fun W => @up W)
    clear up
    generalize hB : dB fs = B
    have HB := hideIt hB
    clear hB
    go_enter Try.func49, Try.ntmps49
    go_wp2
    go_loopw [3] (fun i wr => ∃ k : Nat, k ≤ n ∧ i = .int .i64 (k : Int) ∧ Hid (∀ j, j < k → OkAt fs j) ∧ Below (w.heap.size + 1) (w.alloc (.cells #[.slice a n c] 26)) wr) (fun i _ => n - (intOf i).toNat)
    case atStart => exact ⟨0, by omega, rfl, fun j hj => by omega, Below.refl _ _⟩
    case round =>
      obtain ⟨k, hk, rfl, hok, hb⟩ := hrel
      have hsz := hb.size
      simp at hsz
      have hw0 : w.heap.size < wr.heap.size := by omega
      have hd : wr.cell? ⟨w.heap.size, 0, none⟩ = some (.slice a n c) := by rw [hb.cell (by simp)]; simp
      by_cases hlt : k < n
      · rcases HR.out with hz | ⟨b, off, rfl, hbl, hc⟩
        · omega
        · obtain ⟨f, hf⟩ : ∃ f, fs[k]? = some f := ⟨fs[k]'(by omega), List.getElem?_eq_getElem (by omega)⟩
          have hcc : ∀ j f, fs[j]? = some f → wr.cell? ⟨b, off + j * 3, none⟩ = some (.string f.name) ∧ wr.cell? ⟨b, off + j * 3 + 1, none⟩ = some (.string f.text) ∧ wr.cell? ⟨b, off + j * 3 + 2, none⟩ = some (.int .i64 f.kept) := fun j f hf => by
            obtain ⟨c0, c1, c2⟩ := hc j f hf
            have hw := fun o => Below.heap_alloc w o b hbl
            refine ⟨?_, ?_, ?_⟩
            · rw [hb.cell (p := ⟨b, _, none⟩) (by show b < _; omega), World.cell?_of_block (w := w) (hw _)]; exact c0
            · rw [hb.cell (p := ⟨b, _, none⟩) (by show b < _; omega), World.cell?_of_block (w := w) (hw _)]; exact c1
            · rw [hb.cell (p := ⟨b, _, none⟩) (by show b < _; omega), World.cell?_of_block (w := w) (hw _)]; exact c2
          obtain ⟨e0, e1, e2⟩ := hcc k f hf
          have hbw : b < wr.heap.size := by omega
          have b1 : (0 : Int) ≤ (k : Int) := by omega
          have b2 : (k : Int) < (n : Int) := by omega
          have hff := HF.out f (List.mem_of_getElem? hf)
          unfold maxLen at hff
          have K9 : Hid (∀ nq, Below (w.heap.size + 1) (w.alloc (.cells #[.slice (some ⟨b, off, none⟩) n c] 26)) ((wr.alloc (.cells #[.string f.name, .string f.text, .int .i64 f.kept] 36)).drewN nq)) := fun nq => below_drewN (hb.alloc (by omega) _) nq
          by_cases hnm : 1 ≤ f.name.size ∧ f.name.size ≤ 8
          · have HN := hideIt (fun W => l03Name_yes f.name hnm.1 hnm.2 W)
            by_cases htx : f.text.size ≤ 20000
            · have d2 : decide ((20000 : Int) < (f.text.size : Int)) = false := by simp; omega
              by_cases hkp : 0 ≤ f.kept ∧ f.kept ≤ f.text.size
              · have HI := hideIt (fun W => l01In_yes f.kept 0 f.text.size hkp.1 hkp.2 W)
                have hfok : FileOk f := ⟨hnm, htx, hkp⟩
                by_cases hk0 : 0 < k
                · obtain ⟨m, rfl⟩ : ∃ m, k = m + 1 := ⟨k - 1, by omega⟩
                  obtain ⟨g, hg⟩ : ∃ g, fs[m]? = some g := ⟨fs[m]'(by omega), List.getElem?_eq_getElem (by omega)⟩
                  obtain ⟨g0, _, _⟩ := hcc m g hg
                  have d3 : decide ((0 : Int) < (m : Int) + 1) = true := by simp
                  have hw1 : IntKind.i64.wrap (m : Int) = (m : Int) := by rw [IntKind.wrap_i64]; omega
                  have b3 : (0 : Int) ≤ (m : Int) := by omega
                  have b4 : (m : Int) < (n : Int) := by omega
                  by_cases hl : lessB g.name f.name = true
                  · have HO : Hid (∀ j, j < m + 1 + 1 → OkAt fs j) := fun j hj => by
                      by_cases e : j = m + 1
                      · subst e
                        intro f' hf'
                        rw [hf] at hf'
                        cases hf'
                        refine ⟨hfok, fun g' _ hg' => ?_⟩
                        rw [show m + 1 - 1 = m by omega, hg] at hg'
                        cases hg'
                        exact hl
                      · exact hok.out j (by omega)
                    unfold lessB at hl
                    clear hcc hc hg hf hfok hok
                    go_wp2
                    go_quiet (first | (go_at_call 50; exact Calls.quiet_of_same (HN.out _)) | (go_at_call 39; exact Calls.quiet_of_same (HI.out _)))
                    go_wp2
                    exact ⟨⟨m + 1 + 1, by omega, by go_num, HO, K9.out _⟩, by simp [intOf]; omega⟩
                  · have hl' : lessB g.name f.name = false := by simpa using hl
                    have HNO := hideIt (not_order hf hg hl')
                    unfold lessB at hl'
                    clear hcc hc hg hf hfok hok hl
                    go_wp2
                    go_quiet (first | (go_at_call 50; exact Calls.quiet_of_same (HN.out _)) | (go_at_call 39; exact Calls.quiet_of_same (HI.out _)))
                    go_wp2
                    go_ret
                    exact ⟨by rw [← HB.out, dB_false HNO.out]; rfl, UP.out _ (K9.out _)⟩
                · have d3 : decide ((0 : Int) < (k : Int)) = false := by simp; omega
                  have HO : Hid (∀ j, j < k + 1 → OkAt fs j) := fun j hj => by
                    obtain rfl : j = k := by omega
                    intro f' hf'
                    rw [hf] at hf'
                    cases hf'
                    exact ⟨hfok, fun g' h0 _ => absurd h0 hk0⟩
                  clear hcc hc hf hfok hok
                  go_wp2
                  go_quiet (first | (go_at_call 50; exact Calls.quiet_of_same (HN.out _)) | (go_at_call 39; exact Calls.quiet_of_same (HI.out _)))
                  go_wp2
                  exact ⟨⟨k + 1, by omega, by go_num, HO, K9.out _⟩, by simp [intOf]; omega⟩
              · have HI := hideIt (fun W => l01In_no f.kept 0 f.text.size (by omega) W)
                have HNO := hideIt (not_disk hf (fun h => hkp h.2.2))
                clear hcc hc hf hok hkp
                go_wp2
                go_quiet (first | (go_at_call 50; exact Calls.quiet_of_same (HN.out _)) | (go_at_call 39; exact Calls.quiet_of_same (HI.out _)))
                go_wp2
                go_ret
                exact ⟨by rw [← HB.out, dB_false HNO.out]; rfl, UP.out _ (K9.out _)⟩
            · have d2 : decide ((20000 : Int) < (f.text.size : Int)) = true := by simp; omega
              have HNO := hideIt (not_disk hf (fun h => htx h.2.1))
              clear hcc hc hf hok
              go_wp2
              go_quiet ((go_at_call 50; exact Calls.quiet_of_same (HN.out _)))
              go_wp2
              go_ret
              exact ⟨by rw [← HB.out, dB_false HNO.out]; rfl, UP.out _ (K9.out _)⟩
          · have HN := hideIt (fun W => l03Name_no f.name (by unfold maxLen; omega) (by omega) W)
            have HNO := hideIt (not_disk hf (fun h => hnm h.1))
            clear hcc hc hf hok hnm
            go_wp2
            go_quiet ((go_at_call 50; exact Calls.quiet_of_same (HN.out _)))
            go_wp2
            go_ret
            exact ⟨by rw [← HB.out, dB_false HNO.out]; rfl, UP.out _ (K9.out _)⟩
      · have HD := hideIt (show DiskR fs from ⟨by omega, fun j hj => hok.out j (by omega)⟩)
        have K9 := hideIt (UP.out _ hb)
        clear hok
        go_wp2
        go_ret
        exact ⟨by rw [← HB.out, dB_true HD.out]; rfl, K9.out⟩
  · have hno : ¬ DiskR fs := fun hd => h30 (by rw [← hlen]; exact hd.1)
    rw [dB_false hno]
    have d1 : decide ((30 : Int) < (n : Int)) = true := by simp; omega
    clear hno hrow
    go_enter Try.func49, Try.ntmps49
    go_wp2
    go_ret
    exact ⟨rfl, (Below.refl _ _).alloc (Nat.le_refl _) _⟩
end Go.Proofs.Ytegknhnmfaafmaa
