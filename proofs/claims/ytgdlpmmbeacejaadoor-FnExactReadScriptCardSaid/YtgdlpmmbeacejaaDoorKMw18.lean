/- The program's words: a word called. -/
import Derived.Test.YtgdlpmmbeacejaaDoorKIWd18
import Derived.Test.YtgdlpmmbeacejaaDoorKWx17
namespace Go.Proofs.YtgdlpmmbeacejaaDoor
open Go.RowKit C

def cntW (i : Nat) : Nat := if i < 4 then 3 else 1
def kkW (i : Nat) : Int := if i < 4 then (i : Int) + 1 else (i : Int) - 2
def fkW (i : Nat) : Nat := if i < 4 then 39 else if i < 7 then 40 else 41
/-- what a word makes of numbers -/
def evI (i : Nat) (ns : List Nat) : Option EvR :=
  if i < 4 then (match ns with
    | [x, y, z] => some ⟨1, 0, 0, x, (i : Int) + 1, y, z⟩
    | _ => none)
  else if i < 7 then (match ns with
    | [x] => some ⟨(i : Int) - 2, 0, x, 0, 0, 0, 0⟩
    | _ => none)
  else (match ns with
    | [x] => some ⟨(i : Int) - 2, x, 0, 0, 0, 0, 0⟩
    | _ => none)
/-- a word's boxes -/
structure WBx (w : World) (i b1 b2 : Nat) : Prop where
  l1 : b1 < w.heap.size
  c1 : w.cell? ⟨b1, 0, none⟩ = some (.int .i64 (cntW i : Int))
  l2 : b2 < w.heap.size
  c2 : ∃ b3, b3 < w.heap.size ∧ w.cell? ⟨b3, 0, none⟩ = some (.int .i64 (kkW i)) ∧ w.cell? ⟨b2, 0, none⟩ = some (.func (.func (fkW i)) #[] #[.pointer (some ⟨b3, 0, none⟩)])
theorem WBx.up {w u : World} {i b1 b2 : Nat} (h : WBx w i b1 b2) (hb : Below w.heap.size w u) : WBx u i b1 b2 := by
  obtain ⟨l1, c1, l2, b3, l3, c3, c2⟩ := h
  exact ⟨Nat.lt_of_lt_of_le l1 hb.size, by rw [hb.cell l1]; exact c1, Nat.lt_of_lt_of_le l2 hb.size, b3, Nat.lt_of_lt_of_le l3 hb.size, by rw [hb.cell l3]; exact c3, by rw [hb.cell l2]; exact c2⟩
/-- a row of numbers that is only read -/
def Vi (w : World) (a : Option Addr) (ns : List Nat) : Prop := ns = [] ∨ ∃ b off, a = some ⟨b, off, none⟩ ∧ b < w.heap.size ∧ ∀ (j x : Nat), ns[j]? = some x → w.cell? ⟨b, off + j, none⟩ = some (.int .i64 (x : Int))
theorem Vi.up {w u : World} {a : Option Addr} {ns : List Nat} (h : Vi w a ns) (hb : Below w.heap.size w u) : Vi u a ns := by
  refine h.imp id ?_
  rintro ⟨b, off, h1, h2, h3⟩
  exact ⟨b, off, h1, Nat.lt_of_lt_of_le h2 hb.size, fun j x hx => by rw [hb.cell h2]; exact h3 j x hx⟩
theorem Vi.of_own {w : World} {B n c : Nat} {a : Option Addr} {ns : List Nat} (h : w.ownsRow B 3 1 (.slice a n c) n (nv ns)) : Vi w a ns := by
  have hl := h.1
  rcases h.2 with ⟨hv, h0⟩ | ⟨g, cap, cur, hv, hr⟩
  · left
    subst h0
    exact List.eq_nil_of_length_eq_zero (by simpa [nv] using hl)
  · simp at hv
    obtain ⟨rfl, rfl⟩ := hv
    refine .inr ⟨g, 0, rfl, (h.lt g rfl).2, fun j x hx => ?_⟩
    have hj : j < ns.length := (List.getElem?_eq_some_iff.1 hx).1
    rw [Nat.zero_add, h.cellAt j (by simp [nv] at hl; omega), nv, List.getElem?_map, hx]
    rfl
/-- what a word answers -/
def WdOut (i : Nat) (ns : List Nat) (w : World) (e : Ending) (w' : World) : Prop := Below w.heap.size w w' ∧ match evI i ns with
  | none => e = .returned (.tuple #[.agg ec0, .bool false])
  | some v => e = .returned (.tuple #[.agg (ec v false), .bool true])
theorem evI_none {i : Nat} {ns : List Nat} (h : ns.length ≠ cntW i) : evI i ns = none := by
  unfold evI
  unfold cntW at h
  split
  · rename_i hi
    rw [if_pos hi] at h
    split
    · simp at h
    · rfl
  · rename_i hi
    rw [if_neg hi] at h
    split <;> split <;> first | rfl | (simp at h; done)

set_option maxRecDepth 100000 in
set_option maxHeartbeats 2000000 in
theorem wordIt_no (i : Nat) (ns : List Nat) (n : Nat) (hn : ns.length = n) (a : Option Addr) (c b1 b2 : Nat) (w : World) (hw : WBx w i b1 b2) (h : n ≠ cntW i) :
    Calls Tryd.prog 51 #[.slice a n c, .pointer (some ⟨b1, 0, none⟩), .pointer (some ⟨b2, 0, none⟩)] w (WdOut i ns w) := by
  have e1 : ((n : Int) != (cntW i : Int)) = true := by simp; omega
  have l1 := hw.l1
  have c1 := hw.c1
  have HN := hideIt (evI_none (i := i) (ns := ns) (by rw [hn]; exact h))
  generalize cntW i = q at *
  go_enter Tryd.func51, Tryd.ntmps51
  go_wp2
  refine bodyPost_ret (v := .tuple #[.agg #[.int .i64 0, .int .i64 0, .int .i64 0, .int .i64 0, .int .i64 0, .int .i64 0, .int .i64 0, .bool false, .slice none 0 0], .bool false]) (by simp [results, Tryd.results51, go_sem]) rfl ⟨(Below.refl _ _).alloc (Nat.le_refl _) _, ?_⟩
  rw [HN.out]

set_option maxRecDepth 100000 in
set_option maxHeartbeats 4000000 in
theorem wordIt_ask (i : Nat) (x y z : Nat) (hi : i < 4) (b off c b1 b2 : Nat) (w : World) (hw : WBx w i b1 b2) (hb : b < w.heap.size) (h0 : w.cell? ⟨b, off, none⟩ = some (.int .i64 (x : Int))) (h1 : w.cell? ⟨b, off + 1, none⟩ = some (.int .i64 (y : Int))) (h2 : w.cell? ⟨b, off + 2, none⟩ = some (.int .i64 (z : Int))) :
    Calls Tryd.prog 51 #[.slice (some ⟨b, off, none⟩) 3 c, .pointer (some ⟨b1, 0, none⟩), .pointer (some ⟨b2, 0, none⟩)] w fun e w' => e = .returned (.tuple #[.agg #[.int .i64 1, .int .i64 0, .int .i64 0, .int .i64 (x : Int), .int .i64 (kkW i), .int .i64 (y : Int), .int .i64 (z : Int), .bool false, .slice none 0 0], .bool true]) ∧ Below w.heap.size w w' := by
  obtain ⟨l1, c1, l2, b3, l3, c3, c2⟩ := hw
  rw [show cntW i = 3 by unfold cntW; rw [if_pos hi]] at c1
  obtain ⟨kq, hkq⟩ : ∃ kq, kq = kkW i := ⟨_, rfl⟩
  rw [← hkq] at c3
  rw [show fkW i = 39 by unfold fkW; rw [if_pos hi]] at c2
  obtain ⟨W, hW⟩ : ∃ W, W = w.alloc (.cells #[.int .i64 0, .int .i64 0, .int .i64 0, .int .i64 0, .int .i64 0, .int .i64 0, .int .i64 0, .bool false, .slice none 0 0] 57) := ⟨_, rfl⟩
  have bW : Below w.heap.size w W := by rw [hW]; exact belA _ _
  have B0 : BxA W w.heap.size 57 #[.int .i64 0, .int .i64 0, .int .i64 0, .int .i64 0, .int .i64 0, .int .i64 0, .int .i64 0, .bool false, .slice none 0 0] := by rw [hW]; exact BxA.new _ _ _
  have HC := hideIt (askIt_any kq x y z b off c b3 W (by have := bW.size; omega) (by rw [bW.cell hb]; exact h0) (by rw [bW.cell hb]; exact h1) (by rw [bW.cell hb]; exact h2) (by have := bW.size; omega) (by rw [bW.cell l3]; exact c3))
  have k1 : W.cell? ⟨b1, 0, none⟩ = some (.int .i64 3) := by rw [bW.cell l1]; exact c1
  have k2 : W.cell? ⟨b2, 0, none⟩ = some (.func (.func 39) #[] #[.pointer (some ⟨b3, 0, none⟩)]) := by rw [bW.cell l2]; exact c2
  have HB := hideIt bW
  have H0 := hideIt B0
  rw [← hkq]
  clear hkq
  clear c1 c2 c3 B0 bW h0 h1 h2
  go_enter Tryd.func51, Tryd.ntmps51
  go_upto_region 1 with fail
  rw [← hW]
  clear hW
  go_wp2_with (go_at_call 39; refine HC.out.mono ?_; rintro e w2 ⟨rfl, b2_⟩; refine Hid.out ?_)
  refine hidw ?_
  have X2 := H0.out.up b2_
  have XF := BxA.setA (l := [.int .i64 0, .int .i64 0, .int .i64 0, .int .i64 0, .int .i64 0, .int .i64 0, .int .i64 0, .bool false, .slice none 0 0]) X2 0 [.int .i64 1, .int .i64 0, .int .i64 0, .int .i64 (x : Int), .int .i64 kq, .int .i64 (y : Int), .int .i64 (z : Int), .bool false, .slice none 0 0]
  rw [setV_all [.int .i64 0, .int .i64 0, .int .i64 0, .int .i64 0, .int .i64 0, .int .i64 0, .int .i64 0, .bool false, .slice none 0 0] [.int .i64 1, .int .i64 0, .int .i64 0, .int .i64 (x : Int), .int .i64 kq, .int .i64 (y : Int), .int .i64 (z : Int), .bool false, .slice none 0 0] rfl] at XF
  have HFn := hideIt (below_setA (bupN HB.out b2_) (Nat.le_refl _) 0 [.int .i64 1, .int .i64 0, .int .i64 0, .int .i64 (x : Int), .int .i64 kq, .int .i64 (y : Int), .int .i64 (z : Int), .bool false, .slice none 0 0])
  dsimp only [setA] at XF HFn
  have r0 := X2.cell 0 rfl
  have z0 := X2.frozen 0
  have s0 := XF.at 0 rfl
  have r1 := X2.cell 1 rfl
  have z1 := X2.frozen 1
  have s1 := XF.at 1 rfl
  have r2 := X2.cell 2 rfl
  have z2 := X2.frozen 2
  have s2 := XF.at 2 rfl
  have r3 := X2.cell 3 rfl
  have z3 := X2.frozen 3
  have s3 := XF.at 3 rfl
  have r4 := X2.cell 4 rfl
  have z4 := X2.frozen 4
  have s4 := XF.at 4 rfl
  have r5 := X2.cell 5 rfl
  have z5 := X2.frozen 5
  have s5 := XF.at 5 rfl
  have r6 := X2.cell 6 rfl
  have z6 := X2.frozen 6
  have s6 := XF.at 6 rfl
  have r7 := X2.cell 7 rfl
  have z7 := X2.frozen 7
  have s7 := XF.at 7 rfl
  have r8 := X2.cell 8 rfl
  have z8 := X2.frozen 8
  have s8 := XF.at 8 rfl
  have HSx := hideIt (And.intro s0 (And.intro s1 (And.intro s2 (And.intro s3 (And.intro s4 (And.intro s5 (And.intro s6 (And.intro s7 s8))))))))
  clear XF X2 HB H0 HC k1 k2 b2_ s0 s1 s2 s3 s4 s5 s6 s7 s8
  go_wp2
  obtain ⟨s0, s1, s2, s3, s4, s5, s6, s7, s8⟩ := HSx.out
  exact bodyPost_ret (v := .tuple #[.agg #[.int .i64 1, .int .i64 0, .int .i64 0, .int .i64 (x : Int), .int .i64 kq, .int .i64 (y : Int), .int .i64 (z : Int), .bool false, .slice none 0 0], .bool true]) (by simp [results, Tryd.results51, go_sem, s0, s1, s2, s3, s4, s5, s6, s7, s8]) rfl ⟨rfl, HFn.out⟩

set_option maxRecDepth 100000 in
set_option maxHeartbeats 4000000 in
theorem wordIt_packet (i : Nat) (x : Nat) (hi : 4 ≤ i ∧ i < 7) (b off c b1 b2 : Nat) (w : World) (hw : WBx w i b1 b2) (hb : b < w.heap.size) (h0 : w.cell? ⟨b, off, none⟩ = some (.int .i64 (x : Int))) :
    Calls Tryd.prog 51 #[.slice (some ⟨b, off, none⟩) 1 c, .pointer (some ⟨b1, 0, none⟩), .pointer (some ⟨b2, 0, none⟩)] w fun e w' => e = .returned (.tuple #[.agg #[.int .i64 (kkW i), .int .i64 0, .int .i64 (x : Int), .int .i64 0, .int .i64 0, .int .i64 0, .int .i64 0, .bool false, .slice none 0 0], .bool true]) ∧ Below w.heap.size w w' := by
  obtain ⟨l1, c1, l2, b3, l3, c3, c2⟩ := hw
  rw [show cntW i = 1 by unfold cntW; rw [if_neg (by omega)]] at c1
  obtain ⟨kq, hkq⟩ : ∃ kq, kq = kkW i := ⟨_, rfl⟩
  rw [← hkq] at c3
  rw [show fkW i = 40 by unfold fkW; rw [if_neg (by omega), if_pos (by omega)]] at c2
  obtain ⟨W, hW⟩ : ∃ W, W = w.alloc (.cells #[.int .i64 0, .int .i64 0, .int .i64 0, .int .i64 0, .int .i64 0, .int .i64 0, .int .i64 0, .bool false, .slice none 0 0] 57) := ⟨_, rfl⟩
  have bW : Below w.heap.size w W := by rw [hW]; exact belA _ _
  have B0 : BxA W w.heap.size 57 #[.int .i64 0, .int .i64 0, .int .i64 0, .int .i64 0, .int .i64 0, .int .i64 0, .int .i64 0, .bool false, .slice none 0 0] := by rw [hW]; exact BxA.new _ _ _
  have HC := hideIt (packetIt_any kq x b off c b3 W (by have := bW.size; omega) (by rw [bW.cell hb]; exact h0) (by have := bW.size; omega) (by rw [bW.cell l3]; exact c3))
  have k1 : W.cell? ⟨b1, 0, none⟩ = some (.int .i64 1) := by rw [bW.cell l1]; exact c1
  have k2 : W.cell? ⟨b2, 0, none⟩ = some (.func (.func 40) #[] #[.pointer (some ⟨b3, 0, none⟩)]) := by rw [bW.cell l2]; exact c2
  have HB := hideIt bW
  have H0 := hideIt B0
  rw [← hkq]
  clear hkq
  clear c1 c2 c3 B0 bW h0
  go_enter Tryd.func51, Tryd.ntmps51
  go_upto_region 1 with fail
  rw [← hW]
  clear hW
  go_wp2_with (go_at_call 40; refine HC.out.mono ?_; rintro e w2 ⟨rfl, b2_⟩; refine Hid.out ?_)
  refine hidw ?_
  have X2 := H0.out.up b2_
  have XF := BxA.setA (l := [.int .i64 0, .int .i64 0, .int .i64 0, .int .i64 0, .int .i64 0, .int .i64 0, .int .i64 0, .bool false, .slice none 0 0]) X2 0 [.int .i64 kq, .int .i64 0, .int .i64 (x : Int), .int .i64 0, .int .i64 0, .int .i64 0, .int .i64 0, .bool false, .slice none 0 0]
  rw [setV_all [.int .i64 0, .int .i64 0, .int .i64 0, .int .i64 0, .int .i64 0, .int .i64 0, .int .i64 0, .bool false, .slice none 0 0] [.int .i64 kq, .int .i64 0, .int .i64 (x : Int), .int .i64 0, .int .i64 0, .int .i64 0, .int .i64 0, .bool false, .slice none 0 0] rfl] at XF
  have HFn := hideIt (below_setA (bupN HB.out b2_) (Nat.le_refl _) 0 [.int .i64 kq, .int .i64 0, .int .i64 (x : Int), .int .i64 0, .int .i64 0, .int .i64 0, .int .i64 0, .bool false, .slice none 0 0])
  dsimp only [setA] at XF HFn
  have r0 := X2.cell 0 rfl
  have z0 := X2.frozen 0
  have s0 := XF.at 0 rfl
  have r1 := X2.cell 1 rfl
  have z1 := X2.frozen 1
  have s1 := XF.at 1 rfl
  have r2 := X2.cell 2 rfl
  have z2 := X2.frozen 2
  have s2 := XF.at 2 rfl
  have r3 := X2.cell 3 rfl
  have z3 := X2.frozen 3
  have s3 := XF.at 3 rfl
  have r4 := X2.cell 4 rfl
  have z4 := X2.frozen 4
  have s4 := XF.at 4 rfl
  have r5 := X2.cell 5 rfl
  have z5 := X2.frozen 5
  have s5 := XF.at 5 rfl
  have r6 := X2.cell 6 rfl
  have z6 := X2.frozen 6
  have s6 := XF.at 6 rfl
  have r7 := X2.cell 7 rfl
  have z7 := X2.frozen 7
  have s7 := XF.at 7 rfl
  have r8 := X2.cell 8 rfl
  have z8 := X2.frozen 8
  have s8 := XF.at 8 rfl
  have HSx := hideIt (And.intro s0 (And.intro s1 (And.intro s2 (And.intro s3 (And.intro s4 (And.intro s5 (And.intro s6 (And.intro s7 s8))))))))
  clear XF X2 HB H0 HC k1 k2 b2_ s0 s1 s2 s3 s4 s5 s6 s7 s8
  go_wp2
  obtain ⟨s0, s1, s2, s3, s4, s5, s6, s7, s8⟩ := HSx.out
  exact bodyPost_ret (v := .tuple #[.agg #[.int .i64 kq, .int .i64 0, .int .i64 (x : Int), .int .i64 0, .int .i64 0, .int .i64 0, .int .i64 0, .bool false, .slice none 0 0], .bool true]) (by simp [results, Tryd.results51, go_sem, s0, s1, s2, s3, s4, s5, s6, s7, s8]) rfl ⟨rfl, HFn.out⟩

set_option maxRecDepth 100000 in
set_option maxHeartbeats 4000000 in
theorem wordIt_node (i : Nat) (x : Nat) (hi : 7 ≤ i) (b off c b1 b2 : Nat) (w : World) (hw : WBx w i b1 b2) (hb : b < w.heap.size) (h0 : w.cell? ⟨b, off, none⟩ = some (.int .i64 (x : Int))) :
    Calls Tryd.prog 51 #[.slice (some ⟨b, off, none⟩) 1 c, .pointer (some ⟨b1, 0, none⟩), .pointer (some ⟨b2, 0, none⟩)] w fun e w' => e = .returned (.tuple #[.agg #[.int .i64 (kkW i), .int .i64 (x : Int), .int .i64 0, .int .i64 0, .int .i64 0, .int .i64 0, .int .i64 0, .bool false, .slice none 0 0], .bool true]) ∧ Below w.heap.size w w' := by
  obtain ⟨l1, c1, l2, b3, l3, c3, c2⟩ := hw
  rw [show cntW i = 1 by unfold cntW; rw [if_neg (by omega)]] at c1
  obtain ⟨kq, hkq⟩ : ∃ kq, kq = kkW i := ⟨_, rfl⟩
  rw [← hkq] at c3
  rw [show fkW i = 41 by unfold fkW; rw [if_neg (by omega), if_neg (by omega)]] at c2
  obtain ⟨W, hW⟩ : ∃ W, W = w.alloc (.cells #[.int .i64 0, .int .i64 0, .int .i64 0, .int .i64 0, .int .i64 0, .int .i64 0, .int .i64 0, .bool false, .slice none 0 0] 57) := ⟨_, rfl⟩
  have bW : Below w.heap.size w W := by rw [hW]; exact belA _ _
  have B0 : BxA W w.heap.size 57 #[.int .i64 0, .int .i64 0, .int .i64 0, .int .i64 0, .int .i64 0, .int .i64 0, .int .i64 0, .bool false, .slice none 0 0] := by rw [hW]; exact BxA.new _ _ _
  have HC := hideIt (nodeIt_any kq x b off c b3 W (by have := bW.size; omega) (by rw [bW.cell hb]; exact h0) (by have := bW.size; omega) (by rw [bW.cell l3]; exact c3))
  have k1 : W.cell? ⟨b1, 0, none⟩ = some (.int .i64 1) := by rw [bW.cell l1]; exact c1
  have k2 : W.cell? ⟨b2, 0, none⟩ = some (.func (.func 41) #[] #[.pointer (some ⟨b3, 0, none⟩)]) := by rw [bW.cell l2]; exact c2
  have HB := hideIt bW
  have H0 := hideIt B0
  rw [← hkq]
  clear hkq
  clear c1 c2 c3 B0 bW h0
  go_enter Tryd.func51, Tryd.ntmps51
  go_upto_region 1 with fail
  rw [← hW]
  clear hW
  go_wp2_with (go_at_call 41; refine HC.out.mono ?_; rintro e w2 ⟨rfl, b2_⟩; refine Hid.out ?_)
  refine hidw ?_
  have X2 := H0.out.up b2_
  have XF := BxA.setA (l := [.int .i64 0, .int .i64 0, .int .i64 0, .int .i64 0, .int .i64 0, .int .i64 0, .int .i64 0, .bool false, .slice none 0 0]) X2 0 [.int .i64 kq, .int .i64 (x : Int), .int .i64 0, .int .i64 0, .int .i64 0, .int .i64 0, .int .i64 0, .bool false, .slice none 0 0]
  rw [setV_all [.int .i64 0, .int .i64 0, .int .i64 0, .int .i64 0, .int .i64 0, .int .i64 0, .int .i64 0, .bool false, .slice none 0 0] [.int .i64 kq, .int .i64 (x : Int), .int .i64 0, .int .i64 0, .int .i64 0, .int .i64 0, .int .i64 0, .bool false, .slice none 0 0] rfl] at XF
  have HFn := hideIt (below_setA (bupN HB.out b2_) (Nat.le_refl _) 0 [.int .i64 kq, .int .i64 (x : Int), .int .i64 0, .int .i64 0, .int .i64 0, .int .i64 0, .int .i64 0, .bool false, .slice none 0 0])
  dsimp only [setA] at XF HFn
  have r0 := X2.cell 0 rfl
  have z0 := X2.frozen 0
  have s0 := XF.at 0 rfl
  have r1 := X2.cell 1 rfl
  have z1 := X2.frozen 1
  have s1 := XF.at 1 rfl
  have r2 := X2.cell 2 rfl
  have z2 := X2.frozen 2
  have s2 := XF.at 2 rfl
  have r3 := X2.cell 3 rfl
  have z3 := X2.frozen 3
  have s3 := XF.at 3 rfl
  have r4 := X2.cell 4 rfl
  have z4 := X2.frozen 4
  have s4 := XF.at 4 rfl
  have r5 := X2.cell 5 rfl
  have z5 := X2.frozen 5
  have s5 := XF.at 5 rfl
  have r6 := X2.cell 6 rfl
  have z6 := X2.frozen 6
  have s6 := XF.at 6 rfl
  have r7 := X2.cell 7 rfl
  have z7 := X2.frozen 7
  have s7 := XF.at 7 rfl
  have r8 := X2.cell 8 rfl
  have z8 := X2.frozen 8
  have s8 := XF.at 8 rfl
  have HSx := hideIt (And.intro s0 (And.intro s1 (And.intro s2 (And.intro s3 (And.intro s4 (And.intro s5 (And.intro s6 (And.intro s7 s8))))))))
  clear XF X2 HB H0 HC k1 k2 b2_ s0 s1 s2 s3 s4 s5 s6 s7 s8
  go_wp2
  obtain ⟨s0, s1, s2, s3, s4, s5, s6, s7, s8⟩ := HSx.out
  exact bodyPost_ret (v := .tuple #[.agg #[.int .i64 kq, .int .i64 (x : Int), .int .i64 0, .int .i64 0, .int .i64 0, .int .i64 0, .int .i64 0, .bool false, .slice none 0 0], .bool true]) (by simp [results, Tryd.results51, go_sem, s0, s1, s2, s3, s4, s5, s6, s7, s8]) rfl ⟨rfl, HFn.out⟩

theorem wordIt_any (i : Nat) (ns : List Nat) (n : Nat) (hn : ns.length = n) (a : Option Addr) (c b1 b2 : Nat) (w : World) (hw : WBx w i b1 b2) (hv : Vi w a ns) :
    Calls Tryd.prog 51 #[.slice a n c, .pointer (some ⟨b1, 0, none⟩), .pointer (some ⟨b2, 0, none⟩)] w (WdOut i ns w) := by
  by_cases h : n = cntW i
  · by_cases h4 : i < 4
    · rw [show cntW i = 3 by unfold cntW; rw [if_pos h4]] at h
      subst h
      match ns, hn with
      | [x, y, z], _ =>
        rcases hv with hv | ⟨b, off, rfl, hb, hc⟩
        · cases hv
        · have e : evI i [x, y, z] = some ⟨1, 0, 0, x, kkW i, y, z⟩ := by unfold evI kkW; rw [if_pos h4, if_pos h4]
          exact (wordIt_ask i x y z h4 b off c b1 b2 w hw hb (hc 0 x rfl) (hc 1 y rfl) (hc 2 z rfl)).mono fun e' w' ⟨p1, p2⟩ => ⟨p2, by rw [e]; exact p1⟩
    · rw [show cntW i = 1 by unfold cntW; rw [if_neg h4]] at h
      subst h
      match ns, hn with
      | [x], _ =>
        rcases hv with hv | ⟨b, off, rfl, hb, hc⟩
        · cases hv
        · by_cases h7 : i < 7
          · have e : evI i [x] = some ⟨kkW i, 0, x, 0, 0, 0, 0⟩ := by unfold evI kkW; rw [if_neg h4, if_pos h7, if_neg h4]
            exact (wordIt_packet i x ⟨by omega, h7⟩ b off c b1 b2 w hw hb (hc 0 x rfl)).mono fun e' w' ⟨p1, p2⟩ => ⟨p2, by rw [e]; exact p1⟩
          · have e : evI i [x] = some ⟨kkW i, x, 0, 0, 0, 0, 0⟩ := by unfold evI kkW; rw [if_neg h4, if_neg h7, if_neg h4]
            exact (wordIt_node i x (by omega) b off c b1 b2 w hw hb (hc 0 x rfl)).mono fun e' w' ⟨p1, p2⟩ => ⟨p2, by rw [e]; exact p1⟩
  · exact wordIt_no i ns n hn a c b1 b2 w hw h
end Go.Proofs.YtgdlpmmbeacejaaDoor
