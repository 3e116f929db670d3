/- The walk of FnExactAllKept, where the program's AllKept answers as the specification's. -/
import Derived.Test.YtibcdpnodikpiaiIKept
import Derived.Test.YtibcdpnodikpiaiSKept
import Derived.Test.YtibcdpnodikpiaiOpenFiles
import Derived.Test.YtibcdpnodikpiaiLawKit
namespace Go.Proofs.Ytibcdpnodikpiai
open Go.RowKit

/-- what is asked of the program's AllKept -/
def IAllKept : Prop := ∀ (fs : List FileV) (n : Nat) (a : Option Addr) (c : Nat) (W : World), fs.length + letters fs ≤ 1048576 → Fs W W.heap.size a n fs →
  Calls Try.prog 31 #[.agg #[.slice a n c]] W fun e w' => e = .returned (.bool (akB fs)) ∧ Below W.heap.size W w'

set_option maxRecDepth 100000 in
set_option maxHeartbeats 4000000 in
theorem fnExactAllKept.walk (hI : IAllKept) (fs : List FileV) (hfitF : ∀ f ∈ fs, FitF f) (n : Nat) (a : Option Addr) (c : Nat) (hn : n ≤ maxLen) (w : World) (h : Fs w w.heap.size a n fs) :
    Calls Try.prog 7 #[.agg #[.slice a n c]] w fun e w' => e = .returned (.bool true) ∧ Below w.heap.size w w' := by
  have hfit : FitsF fs := fun f hf => ⟨(hfitF f hf).1, (hfitF f hf).2.1⟩
  have fA : Fs (w.alloc (.cells #[.slice a n c] 24)) (w.alloc (.cells #[.slice a n c] 24)).heap.size a n fs := (h.alloc (Nat.le_refl _) _).mono (by simp)
  have HS := hideIt (szDisk_any fs hfit 1048576 (by omega) (by omega) n a c hn _ fA)
  have HF := hideIt fA
  have HN : Hid (fs.length = n) := h.1
  have HI := hideIt hI
  have hp := szFs_pos 1048576 fs
  clear hfit hfitF h fA hI
  generalize szFs 1048576 fs = r at *
  by_cases g : r < 0
  · obtain rfl : r = -1 := by omega
    clear hp
    go_enter Try.func7, Try.ntmps7
    go_wp2_with (go_at_call 8; refine HS.out.mono ?_; rintro e w1 ⟨rfl, hb1⟩)
    go_ret
    exact ⟨rfl, ((Below.refl _ _).alloc (Nat.le_refl _) _).trans (hb1.mono (by simp))⟩
  · have hlet : fs.length + letters fs ≤ 1048576 := by omega
    have hn1 : n ≤ 1048576 := by have := HN.out; omega
    have d1 : decide (r < 0) = false := by simp; omega
    have HL := hideIt hlet
    clear hp hlet
    go_enter Try.func7, Try.ntmps7
    go_wp2_with (go_at_call 8; refine HS.out.mono ?_; rintro e w1 ⟨rfl, hb1⟩; refine Hid.out ?_)
    refine (show ∀ {p : Prop}, p → Hid p from fun h => h) ?_
    have c1 : w1.cell? ⟨w.heap.size, 0, none⟩ = some (.slice a n c) := by rw [hb1.cell (by simp)]; simp
    have z1 : w.heap.size < w1.heap.size := by have := hb1.size; simp at this; omega
    have F1 := hideIt (HF.out.up hb1)
    have K1 := hideIt (((Below.refl w.heap.size w).alloc (Nat.le_refl _) (.cells #[.slice a n c] 24)).trans (hb1.mono (by simp)))
    have HT := hideIt (toDisk_any fs n a c hn1 w1 F1.out)
    clear HS HF hb1
    go_wp2_with (go_at_call 11; refine HT.out.mono ?_; rintro e w2 ⟨g2, rfl, hown2, hb2⟩; refine Hid.out ?_)
    refine (show ∀ {p : Prop}, p → Hid p from fun h => h) ?_
    have c2 : w2.cell? ⟨w.heap.size, 0, none⟩ = some (.slice a n c) := by rw [hb2.cell (by exact z1)]; exact c1
    have z2 : w.heap.size < w2.heap.size := by have := hb2.size; omega
    have F2 := hideIt (F1.out.up hb2)
    have K2 := hideIt (K1.out.trans (hb2.mono (by omega)))
    have HD := hideIt (sAllKept_any fs (fits_of HL.out) n (some ⟨g2, 0, none⟩) n hn w2 (Fs_of_own hown2))
    clear HT hb2 c1 z1 F1 K1 hown2
    go_wp2_with (go_at_call 30; refine HD.out.mono ?_; rintro e w3 ⟨rfl, hb3⟩; refine Hid.out ?_)
    refine (show ∀ {p : Prop}, p → Hid p from fun h => h) ?_
    have c3 : w3.cell? ⟨w.heap.size, 0, none⟩ = some (.slice a n c) := by rw [hb3.cell (by exact z2)]; exact c2
    have z3 : w.heap.size < w3.heap.size := by have := hb3.size; omega
    have F3 := hideIt (F2.out.up hb3)
    have K3 := hideIt (K2.out.trans (hb3.mono (by omega)))
    have HT := hideIt (toDisk_any fs n a c hn1 w3 F3.out)
    clear HD hb3 c2 z2 F2 K2
    go_wp2_with (go_at_call 11; refine HT.out.mono ?_; rintro e w4 ⟨g4, rfl, hown4, hb4⟩; refine Hid.out ?_)
    refine (show ∀ {p : Prop}, p → Hid p from fun h => h) ?_
    have c4 : w4.cell? ⟨w.heap.size, 0, none⟩ = some (.slice a n c) := by rw [hb4.cell (by exact z3)]; exact c3
    have z4 : w.heap.size < w4.heap.size := by have := hb4.size; omega
    have F4 := hideIt (F3.out.up hb4)
    have K4 := hideIt (K3.out.trans (hb4.mono (by omega)))
    have G4 := hideIt (Fs_of_own hown4)
    have HD := hideIt (HI.out fs n (some ⟨g4, 0, none⟩) n (w4.alloc (.cells #[.slice (some ⟨g4, 0, none⟩) n n] 31)) HL.out (((Fs_of_own hown4).alloc (Nat.le_refl _) _).mono (by simp)))
    clear HT hb4 c3 z3 F3 K3 hown4
    go_wp2_with (go_at_call 31; refine HD.out.mono ?_; rintro e w5 ⟨rfl, hb5⟩; refine Hid.out ?_)
    refine (show ∀ {p : Prop}, p → Hid p from fun h => h) ?_
    have z5 : w4.heap.size < w5.heap.size := by have := hb5.size; simp at this; omega
    have c5 : w5.cell? ⟨w.heap.size, 0, none⟩ = some (.slice a n c) := by rw [hb5.cell (by show w.heap.size < _; simp; omega)]; rw [World.cell?_of_block (w := w4) (Below.heap_alloc w4 _ w.heap.size z4)]; exact c4
    have x5 : w5.cell? ⟨w4.heap.size, 0, none⟩ = some (.slice (some ⟨g4, 0, none⟩) n n) := by rw [hb5.cell (by simp)]; simp
    have B5 : Below w4.heap.size w4 w5 := ((Below.refl _ _).alloc (Nat.le_refl _) _).trans (hb5.mono (by simp))
    have K5 := hideIt (K4.out.trans (B5.mono (by omega)))
    have F5 := hideIt (F4.out.up B5)
    have G5 := hideIt (G4.out.up B5)
    have S0 : Good w5 w5.drew := (Below.refl _ _).drew
    have zz : w.heap.size < w5.heap.size := by omega
    have HT : Hid (∀ u, Good w5 u → Calls Try.prog 11 #[.agg #[.slice a n c]] u fun e w' => ∃ g, e = .returned (.agg #[.slice (some ⟨g, 0, none⟩) n n]) ∧ Fs w' w'.heap.size (some ⟨g, 0, none⟩) n fs ∧ Good w5 w') := fun u hu =>
      (toDisk_any fs n a c hn1 u (hu.fs F5.out)).mono fun _ _ ⟨g, he, ho, hb⟩ => ⟨g, he, Fs_of_own ho, Below.trans hu (hb.mono (Below.size hu))⟩
    have HE : Hid (∀ u g, Good w5 u → Fs u u.heap.size (some ⟨g, 0, none⟩) n fs → Calls Try.prog 14 #[.agg #[.slice (some ⟨g4, 0, none⟩) n n], .agg #[.slice (some ⟨g, 0, none⟩) n n]] u fun e w' => e = .returned (.bool true) ∧ Good w5 w') := fun u g hu hf =>
      (eqDisk_same fs n _ _ n n hn1 u (hu.fs G5.out) hf).mono fun _ _ ⟨he, hb⟩ => ⟨he, Below.trans hu (hb.mono (Below.size hu))⟩
    have HK : Hid (∀ u, Good w5 u → u.cell? ⟨w.heap.size, 0, none⟩ = some (.slice a n c) ∧ u.cell? ⟨w4.heap.size, 0, none⟩ = some (.slice (some ⟨g4, 0, none⟩) n n)) := fun u hu => ⟨by rw [hu.cell zz]; exact c5, by rw [hu.cell z5]; exact x5⟩
    clear HD hb5 B5 c4 z4 F4 K4 G4
    go_wp2
    go_region_held3 (fun u => Good w5 u ∧ u.cell? ⟨w.heap.size, 0, none⟩ = some (.slice a n c) ∧ u.cell? ⟨w4.heap.size, 0, none⟩ = some (.slice (some ⟨g4, 0, none⟩) n n))
      (first | exact ⟨S7, HK.out _ S7⟩ | exact ⟨S6, HK.out _ S6⟩ | exact ⟨S0, HK.out _ S0⟩)
      (first | (go_at_call 11; refine (HT.out _ S0).mono ?_; rintro e w6 ⟨g6, rfl, f6, S6⟩) | (go_at_call 14; refine (HE.out _ _ S6 f6).mono ?_; rintro e w7 ⟨rfl, S7⟩))
    all_goals
      go_wp2
      go_ret
      exact ⟨rfl, K5.out.trans (Below.mono S7 (by omega))⟩
theorem iAllKept_is : IAllKept := fun fs n a c W hl h => iAllKept_any fs (fits_of hl) n a c (by unfold maxLen; have := h.1; omega) W h
end Go.Proofs.Ytibcdpnodikpiai
