/- What the program's FileAt answers at every list of files. -/
import Derived.Test.YtibcdpnodikpiahSFileAt
import Derived.Test.YtibcdpnodikpiahLawKit
import Derived.Test.YtibcdpnodikpiahShelf
namespace Go.Proofs.Ytibcdpnodikpiah
open Go.RowKit

/-- what FileAt answers -/
def faV : Option FileV → Value
  | none => .tuple #[.string ⟨#[]⟩, .bool false]
  | some f => .tuple #[.string f.text, .bool true]

theorem clone_any (s : ByteArray) (h : s.size ≤ 1048576) (w : World) :
    Calls Try.prog 19 #[.string s] w fun e w' => e = .returned (.string s) ∧ Below w.heap.size w w' := by
  go_enter Try.func19, Try.ntmps19
  go_wp2_with (go_at_call 23; refine (Try.stringslite_Clone s _ (by omega)).mono ?_; rintro e w1 ⟨rfl, hb1⟩)
  go_ret
  exact ⟨rfl, hb1⟩

set_option maxRecDepth 100000 in
set_option maxHeartbeats 4000000 in
theorem iFileAt_any (fs : List FileV) (name : ByteArray) (n : Nat) (a : Option Addr) (c : Nat) (w : World) (hlet : fs.length + letters fs ≤ 1048576) (h : Fs w w.heap.size a n fs) :
    Calls Try.prog 11 #[.agg #[.slice a n c], .string name] w fun e w' => e = .returned (faV (fileOf fs name)) ∧ Below w.heap.size w w' := by
  obtain ⟨hlen, hrow⟩ := h
  have hn : n ≤ 1048576 := by omega
  have HR := hideIt hrow
  have HL := hideIt hlet
  clear hrow hlet
  have up : ∀ {W : World}, Below (w.heap.size + 1) (w.alloc (.cells #[.slice a n c] 29)) W → Below w.heap.size w W := fun hW =>
    ((Below.refl w.heap.size w).alloc (Nat.le_refl _) _).trans (hW.mono (by omega))
  have UP := hideIt (fun W => @up W)
  clear up
  generalize hB : fileOf fs name = B
  have HB := hideIt hB
  clear hB
  go_enter Try.func11, Try.ntmps11
  go_wp2
  go_loopw [11] (fun i wr => ∃ k : Nat, k ≤ n ∧ i = .int .i64 (k : Int) ∧ Hid (∀ (j : Nat) (g : FileV), j < k → fs[j]? = some g → hasName name g = false) ∧ Below (w.heap.size + 1) (w.alloc (.cells #[.slice a n c] 29)) wr) (fun i _ => n - (intOf i).toNat)
  case atStart => exact ⟨0, by omega, rfl, fun j _ hj => by omega, Below.refl _ _⟩
  case round =>
    obtain ⟨k, hk, rfl, hno, hb⟩ := hrel
    have hsz := hb.size
    simp at hsz
    have hw0 : w.heap.size < wr.heap.size := by omega
    by_cases hlt : k < n
    · rcases HR.out with hz | ⟨b, off, rfl, hbl, hc⟩
      · omega
      · obtain ⟨f, hf⟩ : ∃ f, fs[k]? = some f := ⟨fs[k]'(by omega), List.getElem?_eq_getElem (by omega)⟩
        obtain ⟨c0, c1, c2⟩ := hc k f hf
        have hw := fun o => Below.heap_alloc w o b hbl
        have e0 : wr.cell? ⟨b, off + k * 3, none⟩ = some (.string f.name) := by rw [hb.cell (p := ⟨b, _, none⟩) (by show b < _; omega), World.cell?_of_block (w := w) (hw _)]; exact c0
        have e1 : wr.cell? ⟨b, off + k * 3 + 1, none⟩ = some (.string f.text) := by rw [hb.cell (p := ⟨b, _, none⟩) (by show b < _; omega), World.cell?_of_block (w := w) (hw _)]; exact c1
        have e2 : wr.cell? ⟨b, off + k * 3 + 2, none⟩ = some (.int .i64 f.kept) := by rw [hb.cell (p := ⟨b, _, none⟩) (by show b < _; omega), World.cell?_of_block (w := w) (hw _)]; exact c2
        have hbw : b < wr.heap.size := by omega
        have b1 : (0 : Int) ≤ (k : Int) := by omega
        have b2 : (k : Int) < (n : Int) := by omega
        have K9 := hideIt (hb.alloc (by omega) (.cells #[.string f.name, .string f.text, .int .i64 f.kept] 38))
        by_cases hh : f.name.toList = name.toList
        · have d1 : (f.name.toList == name.toList) = true := by simpa using hh
          have HA : Hid (B = some f) := by
            show B = some f
            rw [← HB.out]
            unfold fileOf
            rw [atN_some hf d1 hno.out]
            exact hf
          have hft : f.text.size ≤ 1048576 := by have := letters_mem (List.mem_of_getElem? hf); have := HL.out; omega
          have HC := hideIt (clone_any f.text hft)
          clear hc c0 c1 c2 hf hno hh
          go_wp2_with (go_at_call 19; refine (HC.out _).mono ?_; rintro e w1 ⟨rfl, hb1⟩)
          go_ret2
          rw [HA.out]
          exact ⟨rfl, UP.out _ (K9.out.trans (hb1.mono (by simp; omega)))⟩
        · have d1 : (f.name.toList == name.toList) = false := by simpa using hh
          have HO : Hid (∀ (j : Nat) (g : FileV), j < k + 1 → fs[j]? = some g → hasName name g = false) := fun j g hj hg => by
            by_cases e : j = k
            · subst e
              rw [hf] at hg
              cases hg
              exact d1
            · exact hno.out j g (by omega) hg
          clear hc c0 c1 c2 hf hno hh
          go_wp2
          exact ⟨⟨k + 1, by omega, by go_num, HO, K9.out⟩, by simp [intOf]; omega⟩
    · have HA : Hid (B = none) := by
        show B = none
        rw [← HB.out]
        unfold fileOf
        rw [atN_none (fun j g hg => hno.out j g (by have := (List.getElem?_eq_some_iff.1 hg).1; omega) hg)]
        rfl
      have K9 := hideIt (UP.out _ hb)
      clear hno
      go_wp2
      go_ret2
      rw [HA.out]
      exact ⟨rfl, K9.out⟩
end Go.Proofs.Ytibcdpnodikpiah
