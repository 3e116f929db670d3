/- What the specification's FileAt answers at every list of files. The library's contracts at this program, by the shelf's own laying in plain words: each body is held against the body of which its contract was proved. What a copy of a text is. What the program's FileAt answers at every list of files. What the laws' own mark of a number is. What the laws' own marks and looks on files answer: markFileS, heldFileS, markDisk, heldDisk. -/
import Derived.Test.YthffflpclmpamaaKSAct2
import Derived.Shelf.LaysM
import Derived.Shelf.Strconv.Clone
import Derived.Test.YthffflpclmpamaaProg
import Derived.Test.YthffflpclmpamaaKSFiles
import Derived.Test.YthffflpclmpamaaKActs
import Derived.WalkSpells
import Derived.WalkSmall
import Derived.BigQuiet
import Derived.Deep.QuietTactic
import Derived.Laws.Concat
import Derived.Deep.RegionHeld3
namespace Go.Proofs.Ythffflpclmpamaa
open Go.RowKit

end Go.Proofs.Ythffflpclmpamaa
namespace Go.Proofs
open Go.Shelf
def Try.laysM316_ren : Go.Shelf.Ren := ⟨fun | 316 => 48 | n => n, fun | 9 => 9 | 3 => 3 | 4 => 4 | 37 => 22 | 0 => 0 | 127 => 86 | 5 => 5 | n => n, fun | n => n⟩
theorem Try.laysM316 : Go.Proofs.LaysM.n316 Try.prog Try.laysM316_ren := {
  mixed := by kernel_rfl
  f316 := Try.func48.trans (congrArg some (by kernel_rfl))
  t0 := Try.underlying0
  a0 := Try.isAgg0
  z0 := Try.sizeOf0
  v0 := Try.zeroValue0
  t3 := Try.underlying3
  a3 := Try.isAgg3
  z3 := Try.sizeOf3
  v3 := Try.zeroValue3
  t4 := Try.underlying4
  a4 := Try.isAgg4
  z4 := Try.sizeOf4
  v4 := Try.zeroValue4
  t9 := Try.underlying9
  a9 := Try.isAgg9
  z9 := Try.sizeOf9
  v9 := Try.zeroValue9
  t37 := Try.underlying22
  a37 := Try.isAgg22
  z37 := Try.sizeOf22
  v37 := Try.zeroValue22
  t127 := Try.underlying86
  a127 := Try.isAgg86
  z127 := Try.sizeOf86
  v127 := Try.zeroValue86
  t5 := Try.underlying5
  a5 := Try.isAgg5
  z5 := Try.sizeOf5
  v5 := Try.zeroValue5
  i0 := by kernel_rfl
  i3 := by kernel_rfl
  i4 := by kernel_rfl
  i5 := by kernel_rfl
  i9 := by kernel_rfl
  i37 := by kernel_rfl
  i127 := by kernel_rfl }
open Go.RowKit in
theorem Try.stringslite_Clone (s : ByteArray) (w : World) (hlim : s.size ≤ 281474976710656) :
    Calls Try.prog 48 #[.string s] w fun e w' => e = .returned (.string s) ∧ Below w.heap.size w w' := Any.stringslite_Clone Try.laysM316 s w hlim
end Go.Proofs
namespace Go.Proofs.Ythffflpclmpamaa
open Go.RowKit

theorem clone_any (s : ByteArray) (h : s.size ≤ 1048576) (w : World) :
    Calls Try.prog 25 #[.string s] w fun e w' => e = .returned (.string s) ∧ Below w.heap.size w w' := by
  go_enter Try.func25, Try.ntmps25
  go_wp2_with (go_at_call 48; refine (Try.stringslite_Clone s _ (by omega)).mono ?_; rintro e w1 ⟨rfl, hb1⟩)
  go_ret
  exact ⟨rfl, hb1⟩

end Go.Proofs.Ythffflpclmpamaa
namespace Go.Proofs.Ythffflpclmpamaa
open Go.RowKit

/-- what FileAt answers -/
def faV : Option FileV → Value
  | none => .tuple #[.string ⟨#[]⟩, .bool false]
  | some f => .tuple #[.string f.text, .bool true]

set_option maxRecDepth 100000 in
set_option maxHeartbeats 4000000 in
theorem iFileAt_any (fs : List FileV) (name : ByteArray) (n : Nat) (a : Option Addr) (c : Nat) (w : World) (hlet : fs.length + letters fs ≤ 1048576) (h : Fs w w.heap.size a n fs) :
    Calls Try.prog 10 #[.agg #[.slice a n c], .string name] w fun e w' => e = .returned (faV (fileOf fs name)) ∧ Below w.heap.size w w' := by
  obtain ⟨hlen, hrow⟩ := h
  have hn : n ≤ 1048576 := by omega
  have HR := hideIt hrow
  have HL := hideIt hlet
  clear hrow hlet
  have up : ∀ {W : World}, Below (w.heap.size + 1) (w.alloc (.cells #[.slice a n c] 26)) W → Below w.heap.size w W := fun hW =>
    ((Below.refl w.heap.size w).alloc (Nat.le_refl _) _).trans (hW.mono (by omega))
  have UP := hideIt (fun W => @up W)
  clear up
  generalize hB : fileOf fs name = B
  have HB := hideIt hB
  clear hB
  go_enter Try.func10, Try.ntmps10
  go_wp2
  go_loopw [11] (fun i wr => ∃ k : Nat, k ≤ n ∧ i = .int .i64 (k : Int) ∧ Hid (∀ (j : Nat) (g : FileV), j < k → fs[j]? = some g → hasName name g = false) ∧ Below (w.heap.size + 1) (w.alloc (.cells #[.slice a n c] 26)) wr) (fun i _ => n - (intOf i).toNat)
  case atStart => exact ⟨0, by omega, rfl, fun j _ hj => by omega, Below.refl _ _⟩
  case round =>
    obtain ⟨k, hk, rfl, hno, hb⟩ := hrel
    have hsz := hb.size
    simp at hsz
    have hw0 : w.heap.size < wr.heap.size := by omega
    by_cases hlt : k < n
    · rcases HR.out with hz | ⟨b, off, rfl, hbl, hc⟩
      · omega
      · obtain ⟨f, hf⟩ : ∃ f, fs[k]? = some f := ⟨fs[k]'(by omega), List.getElem?_eq_getElem (by omega)⟩
        obtain ⟨c0, c1, c2⟩ := hc k f hf
        have hw := fun o => Below.heap_alloc w o b hbl
        have e0 : wr.cell? ⟨b, off + k * 3, none⟩ = some (.string f.name) := by rw [hb.cell (p := ⟨b, _, none⟩) (by show b < _; omega), World.cell?_of_block (w := w) (hw _)]; exact c0
        have e1 : wr.cell? ⟨b, off + k * 3 + 1, none⟩ = some (.string f.text) := by rw [hb.cell (p := ⟨b, _, none⟩) (by show b < _; omega), World.cell?_of_block (w := w) (hw _)]; exact c1
        have e2 : wr.cell? ⟨b, off + k * 3 + 2, none⟩ = some (.int .i64 f.kept) := by rw [hb.cell (p := ⟨b, _, none⟩) (by show b < _; omega), World.cell?_of_block (w := w) (hw _)]; exact c2
        have hbw : b < wr.heap.size := by omega
        have b1 : (0 : Int) ≤ (k : Int) := by omega
        have b2 : (k : Int) < (n : Int) := by omega
        have K9 := hideIt (hb.alloc (by omega) (.cells #[.string f.name, .string f.text, .int .i64 f.kept] 49))
        by_cases hh : f.name.toList = name.toList
        · have d1 : (f.name.toList == name.toList) = true := by simpa using hh
          have HA : Hid (B = some f) := by
            show B = some f
            rw [← HB.out]
            unfold fileOf
            rw [atN_some hf d1 hno.out]
            exact hf
          have hft : f.text.size ≤ 1048576 := by have := letters_mem (List.mem_of_getElem? hf); have := HL.out; omega
          have HC := hideIt (clone_any f.text hft)
          clear hc c0 c1 c2 hf hno hh
          go_wp2_with (go_at_call 25; refine (HC.out _).mono ?_; rintro e w1 ⟨rfl, hb1⟩)
          go_ret2
          rw [HA.out]
          exact ⟨rfl, UP.out _ (K9.out.trans (hb1.mono (by simp; omega)))⟩
        · have d1 : (f.name.toList == name.toList) = false := by simpa using hh
          have HO : Hid (∀ (j : Nat) (g : FileV), j < k + 1 → fs[j]? = some g → hasName name g = false) := fun j g hj hg => by
            by_cases e : j = k
            · subst e
              rw [hf] at hg
              cases hg
              exact d1
            · exact hno.out j g (by omega) hg
          clear hc c0 c1 c2 hf hno hh
          go_wp2
          exact ⟨⟨k + 1, by omega, by go_num, HO, K9.out⟩, by simp [intOf]; omega⟩
    · have HA : Hid (B = none) := by
        show B = none
        rw [← HB.out]
        unfold fileOf
        rw [atN_none (fun j g hg => hno.out j g (by have := (List.getElem?_eq_some_iff.1 hg).1; omega) hg)]
        rfl
      have K9 := hideIt (UP.out _ hb)
      clear hno
      go_wp2
      go_ret2
      rw [HA.out]
      exact ⟨rfl, K9.out⟩
end Go.Proofs.Ythffflpclmpamaa
namespace Go.Proofs.Ythffflpclmpamaa
open Go.RowKit Dg
open Go.Lib (decDigits)

theorem conv_byte (w : World) (b : UInt8) (x : Int) (hx : (b.toNat : Int) = x) :
    (convert 22 9 (.slice (some ⟨w.heap.size, 0, none⟩) 1 1)).run Try.prog (w.alloc (.cells #[.int .u8 x] 5)) = .ok (.string (one b)) (w.alloc (.cells #[.int .u8 x] 5)) := by
  subst hx
  refine run_convert_bytes_back (P := Try.prog) _ 22 9 5 ⟨w.heap.size, 0, none⟩ 1 [b] Try.underlying22 Try.underlying5 Try.underlying9 ?_
  intro j hj
  match j, hj with
  | 0, _ => exact one_new _ _ _ 0 _ rfl

/-- the mark of a number -/
def mk (k : Nat) : ByteArray := one 109 ++ ⟨(decDigits k).toArray⟩

end Go.Proofs.Ythffflpclmpamaa
namespace Go.Proofs.Ythffflpclmpamaa
open Go.RowKit

theorem grown_of_below {w w' : World} (h : Below w.heap.size w w') (row : Option Nat) : w.grownBy w' row :=
  ⟨h.os, h.tape, h.output, h.size, fun k hk _ => h.block k hk⟩
theorem grown_trans {a b c : World} {row : Option Nat} (h : a.grownBy b row) (k : b.grownBy c row) : a.grownBy c row :=
  ⟨k.os.trans h.os, k.tape.trans h.tape, k.output.trans h.output, Nat.le_trans h.size k.size, fun i hi hr => (k.block i (Nat.lt_of_lt_of_le hi h.size) hr).trans (h.block i hi hr)⟩

/-- the marked file of a number -/
def mfile (k : Nat) : FileV := ⟨mk k, mk (k + 1), (k : Int) + 2⟩
/-- n marked files from k0 on -/
def marks (k0 n : Nat) : List FileV := (List.range n).map fun t => mfile (k0 + t * 3)
theorem marks_snoc (k0 n : Nat) : marks k0 (n + 1) = marks k0 n ++ [mfile (k0 + n * 3)] := by simp [marks, List.range_succ]
theorem marks_length (k0 n : Nat) : (marks k0 n).length = n := by simp [marks]
theorem marks_at (k0 n j : Nat) (h : j < n) : (marks k0 n)[j]? = some (mfile (k0 + j * 3)) := by simp [marks, h]

end Go.Proofs.Ythffflpclmpamaa
