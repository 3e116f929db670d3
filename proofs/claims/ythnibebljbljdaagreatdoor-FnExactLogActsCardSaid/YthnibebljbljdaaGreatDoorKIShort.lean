/- The library's buffer of bytes, at this program, by the shelf's own laying in plain words. What the program's ShortText answers at every text in its range. -/
import Derived.Shelf.Bytes.WriteStringAt
import Derived.Shelf.Bytes.WriteByteAt
import Derived.Shelf.Bytes.StringAt
import Derived.Test.YthnibebljbljdaaGreatDoorProg
import Derived.Test.YthnibebljbljdaaGreatDoorKITy10
import Derived.Laws.Concat
namespace Go.Proofs
open Go.Shelf
def Tryz.laysAt178_ren : Go.Shelf.Ren := ⟨fun | 178 => 128 | 251 => 104 | 252 => 105 | 181 => 125 | 184 => 126 | 290 => 127 | 324 => 140 | n => n, fun | 130 => 168 | 9 => 9 | 3 => 3 | 75 => 144 | 0 => 0 | 93 => 140 | 91 => 138 | 131 => 169 | 4 => 4 | 37 => 136 | 20 => 20 | 80 => 148 | 5 => 5 | n => n, fun | 14 => 0 | n => n⟩
theorem Tryz.laysAt178 : Go.Proofs.LaysM.n178 Tryz.prog Tryz.laysAt178_ren := {
  mixed := by kernel_rfl
  f178 := Tryz.func128.trans (congrArg some (by kernel_rfl))
  f181 := Tryz.func125.trans (congrArg some (by kernel_rfl))
  f184 := Tryz.func126.trans (congrArg some (by kernel_rfl))
  f251 := Tryz.func104.trans (congrArg some (by kernel_rfl))
  f252 := Tryz.func105.trans (congrArg some (by kernel_rfl))
  f290 := Tryz.func127.trans (congrArg some (by kernel_rfl))
  f324 := Tryz.func140.trans (congrArg some (by kernel_rfl))
  t0 := Tryz.underlying0
  a0 := Tryz.isAgg0
  z0 := Tryz.sizeOf0
  v0 := Tryz.zeroValue0
  t3 := Tryz.underlying3
  a3 := Tryz.isAgg3
  z3 := Tryz.sizeOf3
  v3 := Tryz.zeroValue3
  t4 := Tryz.underlying4
  a4 := Tryz.isAgg4
  z4 := Tryz.sizeOf4
  v4 := Tryz.zeroValue4
  t9 := Tryz.underlying9
  a9 := Tryz.isAgg9
  z9 := Tryz.sizeOf9
  v9 := Tryz.zeroValue9
  t20 := Tryz.underlying20
  a20 := Tryz.isAgg20
  z20 := Tryz.sizeOf20
  v20 := Tryz.zeroValue20
  t37 := Tryz.underlying136
  a37 := Tryz.isAgg136
  z37 := Tryz.sizeOf136
  v37 := Tryz.zeroValue136
  t75 := Tryz.underlying144
  a75 := Tryz.isAgg144
  z75 := Tryz.sizeOf144
  v75 := Tryz.zeroValue144
  t91 := Tryz.underlying138
  a91 := Tryz.isAgg138
  z91 := Tryz.sizeOf138
  v91 := Tryz.zeroValue138
  t93 := Tryz.underlying140
  a93 := Tryz.isAgg140
  z93 := Tryz.sizeOf140
  v93 := Tryz.zeroValue140
  t130 := Tryz.underlying168
  a130 := Tryz.isAgg168
  z130 := Tryz.sizeOf168
  v130 := Tryz.zeroValue168
  t131 := Tryz.underlying169
  a131 := Tryz.isAgg169
  z131 := Tryz.sizeOf169
  v131 := Tryz.zeroValue169
  g14 := by kernel_rfl
  t5 := Tryz.underlying5
  a5 := Tryz.isAgg5
  z5 := Tryz.sizeOf5
  v5 := Tryz.zeroValue5
  t80 := Tryz.underlying148
  a80 := Tryz.isAgg148
  z80 := Tryz.sizeOf148
  v80 := Tryz.zeroValue148
  i0 := by kernel_rfl
  i3 := by kernel_rfl
  i4 := by kernel_rfl
  i5 := by kernel_rfl
  i9 := by kernel_rfl
  i20 := by kernel_rfl
  i37 := by kernel_rfl
  i75 := by kernel_rfl
  i80 := by kernel_rfl
  i91 := by kernel_rfl
  i93 := by kernel_rfl
  i130 := by kernel_rfl
  i131 := by kernel_rfl
  m14 := by kernel_rfl }
def Tryz.laysAt179_ren : Go.Shelf.Ren := ⟨fun | 179 => 76 | 251 => 104 | 252 => 105 | 181 => 125 | 184 => 126 | 290 => 127 | 324 => 140 | n => n, fun | 130 => 168 | 5 => 5 | 75 => 144 | 0 => 0 | 93 => 140 | 91 => 138 | 3 => 3 | 131 => 169 | 4 => 4 | 37 => 136 | 20 => 20 | 80 => 148 | 9 => 9 | n => n, fun | 14 => 0 | n => n⟩
theorem Tryz.laysAt179 : Go.Proofs.LaysM.n179 Tryz.prog Tryz.laysAt179_ren := {
  mixed := by kernel_rfl
  f179 := Tryz.func76.trans (congrArg some (by kernel_rfl))
  f181 := Tryz.func125.trans (congrArg some (by kernel_rfl))
  f184 := Tryz.func126.trans (congrArg some (by kernel_rfl))
  f251 := Tryz.func104.trans (congrArg some (by kernel_rfl))
  f252 := Tryz.func105.trans (congrArg some (by kernel_rfl))
  f290 := Tryz.func127.trans (congrArg some (by kernel_rfl))
  f324 := Tryz.func140.trans (congrArg some (by kernel_rfl))
  t0 := Tryz.underlying0
  a0 := Tryz.isAgg0
  z0 := Tryz.sizeOf0
  v0 := Tryz.zeroValue0
  t3 := Tryz.underlying3
  a3 := Tryz.isAgg3
  z3 := Tryz.sizeOf3
  v3 := Tryz.zeroValue3
  t4 := Tryz.underlying4
  a4 := Tryz.isAgg4
  z4 := Tryz.sizeOf4
  v4 := Tryz.zeroValue4
  t5 := Tryz.underlying5
  a5 := Tryz.isAgg5
  z5 := Tryz.sizeOf5
  v5 := Tryz.zeroValue5
  t20 := Tryz.underlying20
  a20 := Tryz.isAgg20
  z20 := Tryz.sizeOf20
  v20 := Tryz.zeroValue20
  t37 := Tryz.underlying136
  a37 := Tryz.isAgg136
  z37 := Tryz.sizeOf136
  v37 := Tryz.zeroValue136
  t75 := Tryz.underlying144
  a75 := Tryz.isAgg144
  z75 := Tryz.sizeOf144
  v75 := Tryz.zeroValue144
  t91 := Tryz.underlying138
  a91 := Tryz.isAgg138
  z91 := Tryz.sizeOf138
  v91 := Tryz.zeroValue138
  t93 := Tryz.underlying140
  a93 := Tryz.isAgg140
  z93 := Tryz.sizeOf140
  v93 := Tryz.zeroValue140
  t130 := Tryz.underlying168
  a130 := Tryz.isAgg168
  z130 := Tryz.sizeOf168
  v130 := Tryz.zeroValue168
  t131 := Tryz.underlying169
  a131 := Tryz.isAgg169
  z131 := Tryz.sizeOf169
  v131 := Tryz.zeroValue169
  g14 := by kernel_rfl
  t9 := Tryz.underlying9
  a9 := Tryz.isAgg9
  z9 := Tryz.sizeOf9
  v9 := Tryz.zeroValue9
  t80 := Tryz.underlying148
  a80 := Tryz.isAgg148
  z80 := Tryz.sizeOf148
  v80 := Tryz.zeroValue148
  i0 := by kernel_rfl
  i3 := by kernel_rfl
  i4 := by kernel_rfl
  i5 := by kernel_rfl
  i9 := by kernel_rfl
  i20 := by kernel_rfl
  i37 := by kernel_rfl
  i75 := by kernel_rfl
  i80 := by kernel_rfl
  i91 := by kernel_rfl
  i93 := by kernel_rfl
  i130 := by kernel_rfl
  i131 := by kernel_rfl
  m14 := by kernel_rfl }
def Tryz.laysAt182_ren : Go.Shelf.Ren := ⟨fun | 182 => 81 | n => n, fun | 130 => 168 | 9 => 9 | 4 => 4 | 0 => 0 | 93 => 140 | 37 => 136 | 3 => 3 | 91 => 138 | 5 => 5 | n => n, fun | n => n⟩
theorem Tryz.laysAt182 : Go.Proofs.LaysM.n182 Tryz.prog Tryz.laysAt182_ren := {
  mixed := by kernel_rfl
  f182 := Tryz.func81.trans (congrArg some (by kernel_rfl))
  t0 := Tryz.underlying0
  a0 := Tryz.isAgg0
  z0 := Tryz.sizeOf0
  v0 := Tryz.zeroValue0
  t3 := Tryz.underlying3
  a3 := Tryz.isAgg3
  z3 := Tryz.sizeOf3
  v3 := Tryz.zeroValue3
  t4 := Tryz.underlying4
  a4 := Tryz.isAgg4
  z4 := Tryz.sizeOf4
  v4 := Tryz.zeroValue4
  t9 := Tryz.underlying9
  a9 := Tryz.isAgg9
  z9 := Tryz.sizeOf9
  v9 := Tryz.zeroValue9
  t37 := Tryz.underlying136
  a37 := Tryz.isAgg136
  z37 := Tryz.sizeOf136
  v37 := Tryz.zeroValue136
  t93 := Tryz.underlying140
  a93 := Tryz.isAgg140
  z93 := Tryz.sizeOf140
  v93 := Tryz.zeroValue140
  t130 := Tryz.underlying168
  a130 := Tryz.isAgg168
  z130 := Tryz.sizeOf168
  v130 := Tryz.zeroValue168
  t5 := Tryz.underlying5
  a5 := Tryz.isAgg5
  z5 := Tryz.sizeOf5
  v5 := Tryz.zeroValue5
  t91 := Tryz.underlying138
  a91 := Tryz.isAgg138
  z91 := Tryz.sizeOf138
  v91 := Tryz.zeroValue138
  i0 := by kernel_rfl
  i3 := by kernel_rfl
  i4 := by kernel_rfl
  i5 := by kernel_rfl
  i9 := by kernel_rfl
  i37 := by kernel_rfl
  i91 := by kernel_rfl
  i93 := by kernel_rfl
  i130 := by kernel_rfl }
end Go.Proofs
namespace Go.Proofs.YthnibebljbljdaaGreatDoor
open Go.RowKit Vt

/-- the number n in bytes, as a text -/
def vtS (n : Nat) : ByteArray := ⟨(vt n).toArray⟩

theorem vtS_size (n : Nat) : (vtS n).size ≤ n + 1 := by
  have h := vt_length n n (Nat.le_refl _)
  have : (vtS n).size = (vt n).length := by simp [vtS, ByteArray.size]
  omega

theorem iShort_yes (s : ByteArray) (hs : s.size ≤ 20000) (w : World) :
    Calls Tryz.prog 107 #[.string s] w fun e w' => e = .returned (.tuple #[.string (vtS s.size ++ s), .bool true]) ∧ Below w.heap.size w w' := by
  have hz := vtS_size s.size
  go_enter Tryz.func107, Tryz.ntmps107
  go_wp2_with (go_at_call 83; refine (show Calls Tryz.prog 83 #[.int .i64 (s.size : Int)] w fun e w' => e = .returned (.tuple #[.string (vtS s.size), .bool true]) ∧ Below w.heap.size w w' from iVarText_yes s.size (by omega) _).mono ?_; rintro e w1 ⟨rfl, hb1⟩)
  go_ret2
  exact ⟨rfl, hb1⟩

end Go.Proofs.YthnibebljbljdaaGreatDoor
