/- The library's buffer of bytes, at this program, by the shelf's own laying in plain words. What the program's ShortText answers at every text in its range. -/
import Derived.Shelf.Bytes.WriteStringAt
import Derived.Shelf.Bytes.WriteByteAt
import Derived.Shelf.Bytes.StringAt
import Derived.Test.YtaipbkigngjkbaaDoorProg
import Derived.Test.YtaipbkigngjkbaaDoorKSOt10
import Derived.Laws.Concat
namespace Go.Proofs
open Go.Shelf
def Tryd.laysAt178_ren : Go.Shelf.Ren := ⟨fun | 178 => 64 | 251 => 44 | 252 => 45 | 181 => 61 | 184 => 62 | 290 => 63 | 324 => 73 | n => n, fun | 130 => 84 | 9 => 9 | 3 => 3 | 75 => 68 | 0 => 0 | 93 => 64 | 91 => 62 | 131 => 85 | 4 => 4 | 37 => 60 | 20 => 20 | 80 => 72 | 5 => 5 | n => n, fun | 14 => 0 | n => n⟩
theorem Tryd.laysAt178 : Go.Proofs.LaysM.n178 Tryd.prog Tryd.laysAt178_ren := {
  mixed := by kernel_rfl
  f178 := Tryd.func64.trans (congrArg some (by kernel_rfl))
  f181 := Tryd.func61.trans (congrArg some (by kernel_rfl))
  f184 := Tryd.func62.trans (congrArg some (by kernel_rfl))
  f251 := Tryd.func44.trans (congrArg some (by kernel_rfl))
  f252 := Tryd.func45.trans (congrArg some (by kernel_rfl))
  f290 := Tryd.func63.trans (congrArg some (by kernel_rfl))
  f324 := Tryd.func73.trans (congrArg some (by kernel_rfl))
  t0 := Tryd.underlying0
  a0 := Tryd.isAgg0
  z0 := Tryd.sizeOf0
  v0 := Tryd.zeroValue0
  t3 := Tryd.underlying3
  a3 := Tryd.isAgg3
  z3 := Tryd.sizeOf3
  v3 := Tryd.zeroValue3
  t4 := Tryd.underlying4
  a4 := Tryd.isAgg4
  z4 := Tryd.sizeOf4
  v4 := Tryd.zeroValue4
  t9 := Tryd.underlying9
  a9 := Tryd.isAgg9
  z9 := Tryd.sizeOf9
  v9 := Tryd.zeroValue9
  t20 := Tryd.underlying20
  a20 := Tryd.isAgg20
  z20 := Tryd.sizeOf20
  v20 := Tryd.zeroValue20
  t37 := Tryd.underlying60
  a37 := Tryd.isAgg60
  z37 := Tryd.sizeOf60
  v37 := Tryd.zeroValue60
  t75 := Tryd.underlying68
  a75 := Tryd.isAgg68
  z75 := Tryd.sizeOf68
  v75 := Tryd.zeroValue68
  t91 := Tryd.underlying62
  a91 := Tryd.isAgg62
  z91 := Tryd.sizeOf62
  v91 := Tryd.zeroValue62
  t93 := Tryd.underlying64
  a93 := Tryd.isAgg64
  z93 := Tryd.sizeOf64
  v93 := Tryd.zeroValue64
  t130 := Tryd.underlying84
  a130 := Tryd.isAgg84
  z130 := Tryd.sizeOf84
  v130 := Tryd.zeroValue84
  t131 := Tryd.underlying85
  a131 := Tryd.isAgg85
  z131 := Tryd.sizeOf85
  v131 := Tryd.zeroValue85
  g14 := by kernel_rfl
  t5 := Tryd.underlying5
  a5 := Tryd.isAgg5
  z5 := Tryd.sizeOf5
  v5 := Tryd.zeroValue5
  t80 := Tryd.underlying72
  a80 := Tryd.isAgg72
  z80 := Tryd.sizeOf72
  v80 := Tryd.zeroValue72
  i0 := by kernel_rfl
  i3 := by kernel_rfl
  i4 := by kernel_rfl
  i5 := by kernel_rfl
  i9 := by kernel_rfl
  i20 := by kernel_rfl
  i37 := by kernel_rfl
  i75 := by kernel_rfl
  i80 := by kernel_rfl
  i91 := by kernel_rfl
  i93 := by kernel_rfl
  i130 := by kernel_rfl
  i131 := by kernel_rfl
  m14 := by kernel_rfl }
def Tryd.laysAt179_ren : Go.Shelf.Ren := ⟨fun | 179 => 22 | 251 => 44 | 252 => 45 | 181 => 61 | 184 => 62 | 290 => 63 | 324 => 73 | n => n, fun | 130 => 84 | 5 => 5 | 75 => 68 | 0 => 0 | 93 => 64 | 91 => 62 | 3 => 3 | 131 => 85 | 4 => 4 | 37 => 60 | 20 => 20 | 80 => 72 | 9 => 9 | n => n, fun | 14 => 0 | n => n⟩
theorem Tryd.laysAt179 : Go.Proofs.LaysM.n179 Tryd.prog Tryd.laysAt179_ren := {
  mixed := by kernel_rfl
  f179 := Tryd.func22.trans (congrArg some (by kernel_rfl))
  f181 := Tryd.func61.trans (congrArg some (by kernel_rfl))
  f184 := Tryd.func62.trans (congrArg some (by kernel_rfl))
  f251 := Tryd.func44.trans (congrArg some (by kernel_rfl))
  f252 := Tryd.func45.trans (congrArg some (by kernel_rfl))
  f290 := Tryd.func63.trans (congrArg some (by kernel_rfl))
  f324 := Tryd.func73.trans (congrArg some (by kernel_rfl))
  t0 := Tryd.underlying0
  a0 := Tryd.isAgg0
  z0 := Tryd.sizeOf0
  v0 := Tryd.zeroValue0
  t3 := Tryd.underlying3
  a3 := Tryd.isAgg3
  z3 := Tryd.sizeOf3
  v3 := Tryd.zeroValue3
  t4 := Tryd.underlying4
  a4 := Tryd.isAgg4
  z4 := Tryd.sizeOf4
  v4 := Tryd.zeroValue4
  t5 := Tryd.underlying5
  a5 := Tryd.isAgg5
  z5 := Tryd.sizeOf5
  v5 := Tryd.zeroValue5
  t20 := Tryd.underlying20
  a20 := Tryd.isAgg20
  z20 := Tryd.sizeOf20
  v20 := Tryd.zeroValue20
  t37 := Tryd.underlying60
  a37 := Tryd.isAgg60
  z37 := Tryd.sizeOf60
  v37 := Tryd.zeroValue60
  t75 := Tryd.underlying68
  a75 := Tryd.isAgg68
  z75 := Tryd.sizeOf68
  v75 := Tryd.zeroValue68
  t91 := Tryd.underlying62
  a91 := Tryd.isAgg62
  z91 := Tryd.sizeOf62
  v91 := Tryd.zeroValue62
  t93 := Tryd.underlying64
  a93 := Tryd.isAgg64
  z93 := Tryd.sizeOf64
  v93 := Tryd.zeroValue64
  t130 := Tryd.underlying84
  a130 := Tryd.isAgg84
  z130 := Tryd.sizeOf84
  v130 := Tryd.zeroValue84
  t131 := Tryd.underlying85
  a131 := Tryd.isAgg85
  z131 := Tryd.sizeOf85
  v131 := Tryd.zeroValue85
  g14 := by kernel_rfl
  t9 := Tryd.underlying9
  a9 := Tryd.isAgg9
  z9 := Tryd.sizeOf9
  v9 := Tryd.zeroValue9
  t80 := Tryd.underlying72
  a80 := Tryd.isAgg72
  z80 := Tryd.sizeOf72
  v80 := Tryd.zeroValue72
  i0 := by kernel_rfl
  i3 := by kernel_rfl
  i4 := by kernel_rfl
  i5 := by kernel_rfl
  i9 := by kernel_rfl
  i20 := by kernel_rfl
  i37 := by kernel_rfl
  i75 := by kernel_rfl
  i80 := by kernel_rfl
  i91 := by kernel_rfl
  i93 := by kernel_rfl
  i130 := by kernel_rfl
  i131 := by kernel_rfl
  m14 := by kernel_rfl }
def Tryd.laysAt182_ren : Go.Shelf.Ren := ⟨fun | 182 => 27 | n => n, fun | 130 => 84 | 9 => 9 | 4 => 4 | 0 => 0 | 93 => 64 | 37 => 60 | 3 => 3 | 91 => 62 | 5 => 5 | n => n, fun | n => n⟩
theorem Tryd.laysAt182 : Go.Proofs.LaysM.n182 Tryd.prog Tryd.laysAt182_ren := {
  mixed := by kernel_rfl
  f182 := Tryd.func27.trans (congrArg some (by kernel_rfl))
  t0 := Tryd.underlying0
  a0 := Tryd.isAgg0
  z0 := Tryd.sizeOf0
  v0 := Tryd.zeroValue0
  t3 := Tryd.underlying3
  a3 := Tryd.isAgg3
  z3 := Tryd.sizeOf3
  v3 := Tryd.zeroValue3
  t4 := Tryd.underlying4
  a4 := Tryd.isAgg4
  z4 := Tryd.sizeOf4
  v4 := Tryd.zeroValue4
  t9 := Tryd.underlying9
  a9 := Tryd.isAgg9
  z9 := Tryd.sizeOf9
  v9 := Tryd.zeroValue9
  t37 := Tryd.underlying60
  a37 := Tryd.isAgg60
  z37 := Tryd.sizeOf60
  v37 := Tryd.zeroValue60
  t93 := Tryd.underlying64
  a93 := Tryd.isAgg64
  z93 := Tryd.sizeOf64
  v93 := Tryd.zeroValue64
  t130 := Tryd.underlying84
  a130 := Tryd.isAgg84
  z130 := Tryd.sizeOf84
  v130 := Tryd.zeroValue84
  t5 := Tryd.underlying5
  a5 := Tryd.isAgg5
  z5 := Tryd.sizeOf5
  v5 := Tryd.zeroValue5
  t91 := Tryd.underlying62
  a91 := Tryd.isAgg62
  z91 := Tryd.sizeOf62
  v91 := Tryd.zeroValue62
  i0 := by kernel_rfl
  i3 := by kernel_rfl
  i4 := by kernel_rfl
  i5 := by kernel_rfl
  i9 := by kernel_rfl
  i37 := by kernel_rfl
  i91 := by kernel_rfl
  i93 := by kernel_rfl
  i130 := by kernel_rfl }
end Go.Proofs
namespace Go.Proofs.YtaipbkigngjkbaaDoor
open Go.RowKit Vt

/-- the number n in bytes, as a text -/
def vtS (n : Nat) : ByteArray := ⟨(vt n).toArray⟩

theorem vtS_size (n : Nat) : (vtS n).size ≤ n + 1 := by
  have h := vt_length n n (Nat.le_refl _)
  have : (vtS n).size = (vt n).length := by simp [vtS, ByteArray.size]
  omega

theorem iShort_yes (s : ByteArray) (hs : s.size ≤ 20000) (w : World) :
    Calls Tryd.prog 48 #[.string s] w fun e w' => e = .returned (.tuple #[.string (vtS s.size ++ s), .bool true]) ∧ Below w.heap.size w w' := by
  have hz := vtS_size s.size
  go_enter Tryd.func48, Tryd.ntmps48
  go_wp2_with (go_at_call 46; refine (show Calls Tryd.prog 46 #[.int .i64 (s.size : Int)] w fun e w' => e = .returned (.tuple #[.string (vtS s.size), .bool true]) ∧ Below w.heap.size w w' from iVarText_yes s.size (by omega) _).mono ?_; rintro e w1 ⟨rfl, hb1⟩)
  go_ret2
  exact ⟨rfl, hb1⟩

end Go.Proofs.YtaipbkigngjkbaaDoor
