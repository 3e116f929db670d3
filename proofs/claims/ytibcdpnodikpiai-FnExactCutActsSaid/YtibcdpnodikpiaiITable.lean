/- What the program's tableOf makes. -/
import Derived.Test.YtibcdpnodikpiaiTab
import Derived.Test.YtibcdpnodikpiaiIDisk
namespace Go.Proofs.Ytibcdpnodikpiai
open Go.RowKit Go.WideMaps Go.Maps

theorem run_mkmap (n : Int) (w : World) : (Instr.makeMap 68 (some (.int .i64 n))).run Try.prog w = .ok (.map (some w.heap.size)) (w.alloc (.map #[] 0)) := by
  simp [Instr.makeMap, run_underlying Try.underlying68, asInt, asIntOf, Result.andThen]

set_option maxRecDepth 100000 in
set_option maxHeartbeats 4000000 in
theorem tableOf_any (fs : List FileV) (n : Nat) (a : Option Addr) (c : Nat) (w : World) (hd : DiskR fs) (h : Fs w w.heap.size a n fs) :
    Calls Try.prog 40 #[.agg #[.slice a n c]] w fun e w' => ∃ M loc D, e = .returned (.map (some M)) ∧ Tab w' w.heap.size M loc fs D ∧ Below w.heap.size w w' := by
  obtain ⟨hlen, hrow⟩ := h
  have hn : n ≤ 30 := by rw [← hlen]; exact hd.1
  have HR := hideIt hrow
  have HD := hideIt hd
  clear hrow hd
  have hmm := run_mkmap (n : Int)
  go_enter Try.func40, Try.ntmps40
  go_wp2
  go_loopw [13] (fun i wr => ∃ k : Nat, k ≤ n ∧ i = .int .i64 (k : Int) ∧ Hid (∃ loc D, Tab wr w.heap.size (w.heap.size + 1) loc (fs.take k) D) ∧ Below w.heap.size w wr) (fun i _ => n - (intOf i).toNat)
  case atStart =>
    refine ⟨0, by omega, rfl, ?_, ((Below.refl w.heap.size w).alloc (Nat.le_refl _) _).alloc (by simp) _⟩
    have := Tab.made (w.alloc (.cells #[.slice a n c] 31)) w.heap.size (fun _ => 0) (by simp)
    rw [show (w.alloc (.cells #[.slice a n c] 31)).heap.size = w.heap.size + 1 by simp] at this
    exact ⟨_, _, this⟩
  case round =>
    obtain ⟨k, hk, rfl, hT, hb⟩ := hrel
    have hsz := hb.size
    by_cases hlt : k < n
    · rcases HR.out with hz | ⟨b, off, rfl, hbl, hc⟩
      · omega
      · obtain ⟨f, hf⟩ : ∃ f, fs[k]? = some f := ⟨fs[k]'(by omega), List.getElem?_eq_getElem (by omega)⟩
        obtain ⟨c0, c1, c2⟩ := hc k f hf
        have e0 : wr.cell? ⟨b, off + k * 3, none⟩ = some (.string f.name) := by rw [hb.cell (p := ⟨b, _, none⟩) (by show b < _; omega)]; exact c0
        have e1 : wr.cell? ⟨b, off + k * 3 + 1, none⟩ = some (.string f.text) := by rw [hb.cell (p := ⟨b, _, none⟩) (by show b < _; omega)]; exact c1
        have e2 : wr.cell? ⟨b, off + k * 3 + 2, none⟩ = some (.int .i64 f.kept) := by rw [hb.cell (p := ⟨b, _, none⟩) (by show b < _; omega)]; exact c2
        have hbw : b < wr.heap.size := by omega
        have b1 : (0 : Int) ≤ (k : Int) := by omega
        have b2 : (k : Int) < (n : Int) := by omega
        obtain ⟨loc, D, T⟩ := hT.out
        have hML := T.map_lt
        have hsrt := ((disk_iff fs).1 HD.out).2.2
        have hfm : f ∈ fs := List.mem_of_getElem? hf
        have hok := ((disk_iff fs).1 HD.out).2.1 f hfm
        have hnm : f.name.size ≤ maxLen := by unfold maxLen; have := hok.1; omega
        have htk := take_snocF fs k f hf
        have hnew : ∀ g ∈ fs.take k, g.name ≠ f.name := by
          intro g hg e
          have hp : Sorted (fs.take (k + 1)) := List.Pairwise.sublist (List.take_sublist _ _) hsrt
          rw [htk] at hp
          exact (List.pairwise_append.1 hp.ne).2.2 g hg f (List.mem_singleton.2 rfl) e
        have T2 := hideIt ((T.alloc (.cells #[.string f.name, .string f.text, .int .i64 f.kept] 63)).alloc (.cells #[.string f.name, .string f.text, .int .i64 f.kept] 63))
        have X2 := hideIt (show FBox ((wr.alloc (.cells #[.string f.name, .string f.text, .int .i64 f.kept] 63)).alloc (.cells #[.string f.name, .string f.text, .int .i64 f.kept] 63)) (wr.heap.size + 1) f by
          have := FBox.new (wr.alloc (.cells #[.string f.name, .string f.text, .int .i64 f.kept] 63)) f
          rw [show (wr.alloc (.cells #[.string f.name, .string f.text, .int .i64 f.kept] 63)).heap.size = wr.heap.size + 1 by simp] at this
          exact this)
        have HF : Hid (∀ g ∈ fs.take k, g.name ≠ f.name → loc g.name ≠ wr.heap.size + 1) := fun g hg _ => by have := (T.box g hg).lt; omega
        have HM : Hid (∀ g, g ∈ fs.take (k + 1) ↔ g = f ∨ (g ∈ fs.take k ∧ g.name ≠ f.name)) := fun g => by
          rw [htk, List.mem_append, List.mem_singleton]
          constructor
          · rintro (h1 | h1)
            · exact .inr ⟨h1, hnew g h1⟩
            · exact .inl h1
          · rintro (h1 | h1)
            · exact .inr h1
            · exact .inl h1.1
        have HL : Hid ((fs.take (k + 1)).length + (if isIn (fs.take k) f.name then 1 else 0) = (fs.take k).length + 1) := by
          show (fs.take (k + 1)).length + (if isIn (fs.take k) f.name then 1 else 0) = (fs.take k).length + 1
          rw [isIn_no hnew, htk]
          simp
        have HTL : Hid ((fs.take k).length ≤ 1048576) := by show (fs.take k).length ≤ 1048576; rw [List.length_take]; omega
        have K := hideIt ((hb.alloc (by omega) (.cells #[.string f.name, .string f.text, .int .i64 f.kept] 63)).alloc (by simp; omega) (.cells #[.string f.name, .string f.text, .int .i64 f.kept] 63))
        clear hc c0 c1 c2 hf hT T hsrt hfm hok htk hnew
        go_wp2_with ((at_mapUpdate; refine put_at _ rfl _ _ _ rfl T2.out HTL.out (f := f) rfl hnm X2.out (by omega) (by omega) HF.out HM.out HL.out rfl rfl rfl ?_; intro w1 hT1 hg1))
        exact ⟨⟨k + 1, by omega, by go_num, ⟨_, hT1⟩, K.out.grown hg1 (by simp; omega) (fun j hj => by cases hj; omega)⟩, by simp [intOf]; omega⟩
    · have HT : Hid (∃ loc D, Tab wr w.heap.size (w.heap.size + 1) loc fs D) := by
        have := hT.out
        rw [List.take_of_length_le (by omega)] at this
        exact this
      clear hT
      go_wp2
      go_ret
      obtain ⟨loc, D, T⟩ := HT.out
      exact ⟨_, loc, D, rfl, T, hb⟩
end Go.Proofs.Ytibcdpnodikpiai
