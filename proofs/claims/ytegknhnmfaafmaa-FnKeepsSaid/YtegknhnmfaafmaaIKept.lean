/- What the program's AllKept answers at every list of files. -/
import Derived.Test.YtegknhnmfaafmaaKeptR
import Derived.Test.YtegknhnmfaafmaaIDisk
namespace Go.Proofs.Ytegknhnmfaafmaa
open Go.RowKit

set_option maxRecDepth 100000 in
set_option maxHeartbeats 4000000 in
theorem iAllKept_any (fs : List FileV) (hfit : FitsF fs) (n : Nat) (a : Option Addr) (c : Nat) (hn : n ≤ maxLen) (w : World) (h : Fs w w.heap.size a n fs) :
    Calls Try.prog 11 #[.agg #[.slice a n c]] w fun e w' => e = .returned (.bool (akB fs)) ∧ Below w.heap.size w w' := by
  have H := iDiskOk_any fs hfit n a c hn (w.alloc (.cells #[.slice a n c] 26)) ((h.alloc (Nat.le_refl _) _).mono (by simp))
  unfold maxLen at hn
  obtain ⟨hlen, hrow⟩ := h
  by_cases hd : DiskR fs
  · rw [dB_true hd] at H
    have HK := hideIt H
    have HD := hideIt hd
    have HR := hideIt hrow
    have HF := hideIt hfit
    clear H hd hrow hfit
    generalize hB : akB fs = B
    have HB := hideIt hB
    clear hB
    go_enter Try.func11, Try.ntmps11
    go_wp2_with (go_at_call 12; refine HK.out.mono ?_; rintro e w1 ⟨rfl, hb1⟩; refine Hid.out ?_)
    refine (show ∀ {p : Prop}, p → Hid p from fun h => h) ?_
    have x0 : w1.cell? ⟨w.heap.size, 0, none⟩ = some (.slice a n c) := by rw [hb1.cell (by simp)]; simp
    have K := hideIt (((Below.refl w.heap.size w).alloc (Nat.le_refl _) (.cells #[.slice a n c] 26)).trans (hb1.mono (by simp)))
    have z1 : w.heap.size < w1.heap.size := by have := hb1.size; simp at this; omega
    clear HK hb1
    go_wp2
    go_loopw [11] (fun i wr => ∃ (k : Nat), k ≤ n ∧ i = .int .i64 (k : Int) ∧ Hid (∀ (j : Nat) (g : FileV), j < k → fs[j]? = some g → (g.text.size : Int) ≤ g.kept) ∧ Below w1.heap.size w1 wr) (fun i _ => n - (intOf i).toNat)
    case atStart => exact ⟨0, by omega, rfl, fun j g hj => by omega, Below.refl _ _⟩
    case round =>
      obtain ⟨k, hk, rfl, hno, hb⟩ := hrel
      have kz := K.out.size
      have K2 := hideIt (K.out.trans (hb.mono (by omega)))
      by_cases hlt : k < n
      · rcases HR.out with hz | ⟨b, off, rfl, hbl, hc⟩
        · omega
        · obtain ⟨f, hf⟩ : ∃ f, fs[k]? = some f := ⟨fs[k]'(by omega), List.getElem?_eq_getElem (by omega)⟩
          obtain ⟨c0, c1, c2⟩ := hc k f hf
          have e0 : wr.cell? ⟨b, off + k * 3, none⟩ = some (.string f.name) := by rw [K2.out.cell hbl]; exact c0
          have e1 : wr.cell? ⟨b, off + k * 3 + 1, none⟩ = some (.string f.text) := by rw [K2.out.cell hbl]; exact c1
          have e2 : wr.cell? ⟨b, off + k * 3 + 2, none⟩ = some (.int .i64 f.kept) := by rw [K2.out.cell hbl]; exact c2
          have b1 : (0 : Int) ≤ (k : Int) := by omega
          have b2 : (k : Int) < (n : Int) := by omega
          have hbz := hb.size
          have hbw : b < wr.heap.size := by omega
          have K3 := hideIt (K2.out.alloc (by omega) (.cells #[.string f.name, .string f.text, .int .i64 f.kept] 36))
          have K4 := hideIt (hb.alloc (by omega) (.cells #[.string f.name, .string f.text, .int .i64 f.kept] 36))
          by_cases hh : f.kept < f.text.size
          · have d1 : decide (f.kept < (f.text.size : Int)) = true := by simp; omega
            have HA : Hid (¬ AllR fs) := fun hA => hA.2 f (List.mem_of_getElem? hf) hh
            clear hc c0 c1 c2 hf hno
            go_wp2
            go_ret
            exact ⟨by rw [← HB.out, akB_false HA.out]; rfl, K3.out⟩
          · have d1 : decide (f.kept < (f.text.size : Int)) = false := by simp; omega
            have HO : Hid (∀ (j : Nat) (g : FileV), j < k + 1 → fs[j]? = some g → (g.text.size : Int) ≤ g.kept) := fun j g hj hg => by
              by_cases e : j = k
              · subst e
                rw [hf] at hg
                cases hg
                omega
              · exact hno.out j g (by omega) hg
            clear hc c0 c1 c2 hf hno
            go_wp2
            exact ⟨⟨k + 1, by omega, by go_num, HO, K4.out⟩, by simp [intOf]; omega⟩
      · have HA : Hid (AllR fs) := ⟨HD.out, fun f hf => by
          obtain ⟨j, hj⟩ := List.getElem?_of_mem hf
          have := hno.out j f (by have := (List.getElem?_eq_some_iff.1 hj).1; omega) hj
          omega⟩
        clear hno
        go_wp2
        go_ret
        exact ⟨by rw [← HB.out, akB_true HA.out]; rfl, K2.out⟩
  · rw [dB_false hd] at H
    have HK := hideIt H
    rw [akB_false (fun h => hd h.1)]
    clear H hd hrow
    go_enter Try.func11, Try.ntmps11
    go_wp2_with (go_at_call 12; refine HK.out.mono ?_; rintro e w1 ⟨rfl, hb1⟩)
    go_ret
    exact ⟨rfl, ((Below.refl _ _).alloc (Nat.le_refl _) _).trans (hb1.mono (by simp))⟩
end Go.Proofs.Ytegknhnmfaafmaa
