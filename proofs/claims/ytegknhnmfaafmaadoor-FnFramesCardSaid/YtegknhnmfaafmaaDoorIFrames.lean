/- The program's reader of frames, a function that is handed a yield: it yields each whole record with the place behind its frame, for every loop body that keeps the file's cell. -/
import Derived.RangeFuncNested
import Derived.RangeFuncBound
import Derived.RangeFuncCalls
import Derived.RangeFuncLeaves
import Derived.RangeFuncBox
import Derived.Shelf.Abstract
import Derived.Shelf.RegionOpen
import Derived.WalkKit
import Derived.OwnWalkIn
import Derived.TacticsInMore
import Derived.LoopNIn
import Derived.LoopIn
import Derived.Maps.AppendAt
import Derived.Test.YtegknhnmfaafmaaDoorIFrame
namespace Go.Proofs.YtegknhnmfaafmaaDoor
open Go.RowKit Go.Shelf Vt Crc
attribute [local go_sem] Oper.semAt_some

/-- a record and the place behind its frame -/
abbrev Rec := { x : ByteArray × Nat // x.1.size ≤ 9000 }

/-- as yield takes it -/
abbrev recV (x : Rec) : Array Value := #[.string x.1.1, .int .i64 (x.1.2 : Int)]

/-- the records alone -/
def txts (xs : List Rec) : List ByteArray := xs.map fun x => x.1.1

theorem txts_snoc (xs : List Rec) (x : Rec) : txts (xs ++ [x]) = txts xs ++ [x.1.1] := by simp [txts]
theorem txts_length (xs : List Rec) : (txts xs).length = xs.length := by simp [txts]

/-- the place behind the last -/
def endOf (xs : List Rec) : Nat := (xs.getLast?.map fun x => x.1.2).getD 0

theorem endOf_snoc (xs : List Rec) (x : Rec) : endOf (xs ++ [x]) = x.1.2 := by simp [endOf]

/-- what a round that goes on keeps: what lay below n, and the file's cell -/
structure KeepF (n B : Nat) (W W' : World) : Prop where
  low : Below n W W'
  file : ∀ v, W.cell? ⟨B, 0, none⟩ = some v → W'.cell? ⟨B, 0, none⟩ = some v

theorem KeepF.trans {n B : Nat} {A C D : World} (h : KeepF n B A C) (k : KeepF n B C D) : KeepF n B A D :=
  ⟨h.low.trans k.low, fun v hv => k.file v (h.file v hv)⟩

theorem KeepF.turn {n B : Nat} {w : World} (hn : n ≤ w.heap.size) (W : World) (l : Nat) (o o' : Obj) (hl : w.heap.size ≤ l) (h : W.heap[l]? = some o) (hc : o.isCells = false) (hw : o.isWalk = false) : KeepF n B W (W.putObj l o') :=
  ⟨belowK_b hn W l o o' hl h hc hw, fun _ hv => cell_kept hv (grownBy_putObj' W l o') (fun r e => by cases e; exact ⟨o, h, hc⟩)⟩

/-- whether a value says yes -/
def isT : Value → Bool
  | .bool b => b
  | _ => false

/-- how much is left for the reader's loop -/
def leftOf (z : Nat) (at_ ok : Value) : Nat := if isT ok then z + 1 - (intOf at_).toNat else 0

/-- what the reader's loop bears -/
structure RdAt (s : ByteArray) (w : World) (B : Nat) (J : List Rec → World → Prop) (pre : List Rec) (a : Nat) (wr : World) : Prop where
  un : UnAt s (txts pre) a
  last : endOf pre = a
  low : Below w.heap.size w wr
  file : wr.cell? ⟨B, 0, none⟩ = some (.string s)
  inv : J pre wr

theorem grown_low {w w' : World} (h : Below w.heap.size w w') (row : Option Nat) : w.grownBy w' row :=
  ⟨h.os, h.tape, h.output, h.size, fun k hk _ => h.block k hk⟩

theorem RdAt.quiet {s : ByteArray} {w : World} {B : Nat} {J : List Rec → World → Prop} {pre : List Rec} {a : Nat} {wr w1 : World} {D : Nat} (h : RdAt s w B J pre a wr) (hJ : AbidesFrom D J) (hb : Below wr.heap.size wr w1) : RdAt s w B J pre a w1 :=
  ⟨h.un, h.last, h.low.trans (hb.mono h.low.size), cell_kept h.file (grown_low hb none) (fun r e => by cases e), hJ _ _ _ none h.inv (grown_low hb none) (fun r e => by cases e)⟩

/-- what a look at place a has told -/
def Res (s : ByteArray) (a : Nat) (r : ByteArray) (b : Nat) (o : Bool) : Prop := (o = false ∧ rf s a = none) ∨ (o = true ∧ rf s a = some (r, b))

theorem read_res {s : ByteArray} (hs : s.size ≤ 20000) {a : Nat} (h : a ≤ s.size) {w : World} (ht : Tab w) {wr : World} (hb : Below w.heap.size w wr) :
    Calls Tryd.prog 37 #[.string s, .int .i64 (a : Int)] wr fun e w' => ∃ r b o, e = .returned (.tuple #[.string r, .int .i64 ((b : Nat) : Int), .bool o]) ∧ Below wr.heap.size wr w' ∧ Res s a r b o := by
  have h1 := readFrame_any s hs a h wr (ht.below hb (Nat.le_refl _))
  cases hr : rf s a with
  | none =>
    rw [hr] at h1
    exact h1.mono fun _ _ h => ⟨⟨#[]⟩, 0, false, h.1, h.2, .inl ⟨rfl, hr⟩⟩
  | some x =>
    obtain ⟨r, b⟩ := x
    rw [hr] at h1
    exact h1.mono fun _ _ h => ⟨r, b, true, h.1, h.2, .inr ⟨rfl, hr⟩⟩

theorem read_res0 {s : ByteArray} (hs : s.size ≤ 20000) {w : World} (ht : Tab w) {wr : World} (hb : Below w.heap.size w wr) :
    Calls Tryd.prog 37 #[.string s, .int .i64 0] wr fun e w' => ∃ r b o, e = .returned (.tuple #[.string r, .int .i64 ((b : Nat) : Int), .bool o]) ∧ Below wr.heap.size wr w' ∧ Res s 0 r b o :=
  read_res hs (a := 0) (Nat.zero_le _) ht hb

set_option maxRecDepth 100000 in
set_option maxHeartbeats 2000000 in
theorem framesIt_in (n l B : Nat) (hn : 1 ≤ n) (s : ByteArray) (hs : s.size ≤ 20000) (w : World) (ht : Tab w) (D : Nat) (J Jx : List Rec → World → Prop) (hJ : AbidesFrom D J)
    (hY : ∀ pre x W1, J pre W1 → pre.length < 4000 → YieldAt Fence.wide (n - 1) Tryd.prog l (recV x) W1 fun e W' =>
      (e = .returned (.bool true) ∧ J (pre ++ [x]) W' ∧ KeepF w.heap.size B W1 W') ∨ (e = .returned (.bool false) ∧ Jx (pre ++ [x]) W'))
    (W : World) (hW : Below w.heap.size w W) (hB : W.cell? ⟨B, 0, none⟩ = some (.string s)) (h0 : J [] W) :
    CallsIn Fence.wide n Tryd.prog 36 #[.func (.yield l) #[] #[], .pointer (some ⟨B, 0, none⟩)] W fun e W' => (∃ v, e = .returned v) ∧
      ((∃ ys, un s = (txts ys, endOf ys) ∧ J ys W') ∨ (∃ pre, True ∧ Jx pre W')) := by
  have HS : RdAt s w B J [] 0 W := ⟨UnAt.start s hs, rfl, hW, hB, h0⟩
  have HT := hidOf ht
  clear ht hW h0
  refine callsIn_of_wp Tryd.func36 rfl trivial ?_ rfl
  simp only [Tryd.ntmps36, List.size_toArray, List.length_cons, List.length_nil, Nat.reduceAdd, Nat.reduceSub, Array.replicate_succ, Array.replicate_zero, List.push_toArray, List.append_toArray, List.nil_append, List.cons_append]
  gi_wp2_with (refine ⟨trivial, ?_⟩; gi_at_call 37; refine (callsIn_wide.2 (read_res0 hs HT.out HS.low)).mono ?_; rintro e w1 ⟨r0, b0, o0, rfl, hb1, hres0⟩)
  have HS1 := HS.quiet hJ hb1
  gi_loopw [3, 4, 5] (fun rec at_ ok wr => ∃ (pre : List Rec) (a : Nat) (r : ByteArray) (b : Nat) (o : Bool), RdAt s w B J pre a wr ∧ rec = .string r ∧ at_ = .int .i64 (b : Int) ∧ ok = .bool o ∧ Res s a r b o)
    (fun _ at_ ok _ => leftOf s.size at_ ok)
  case atStart => exact ⟨[], 0, r0, b0, o0, HS1, rfl, rfl, rfl, hres0⟩
  case round =>
    obtain ⟨pre, a, r, b, o, hst, rfl, rfl, rfl, hres⟩ := hrel
    rcases hres with ⟨rfl, hr⟩ | ⟨rfl, hr⟩
    · gi_wp2
      refine ⟨fun _ h => (by cases h), ?_⟩
      gi_wp2
      go_end0
      exact ⟨⟨_, rfl⟩, .inl ⟨pre, by rw [hst.un.done hr, hst.last], hst.inv⟩⟩
    · have hb := rf_some hr
      have hfew := hst.un.few
      have hY1 := hY pre ⟨(r, b), hb.2.2⟩ wr hst.inv (by rw [txts_length] at hfew; omega)
      obtain ⟨fn, tmps, assign, body, hy, hR⟩ := hY1
      dsimp only [recV] at hy
      have hunr := hst.un.step hr
      gi_wp2
      refine hR.mono ?_
      rintro e W3 (⟨rfl, hJ3, hk3⟩ | ⟨rfl, hJx3⟩)
      · have HS3 : RdAt s w B J (pre ++ [⟨(r, b), hb.2.2⟩]) b W3 := ⟨by rw [txts_snoc]; exact hunr, endOf_snoc _ _, hst.low.trans hk3.low, hk3.file _ hst.file, hJ3⟩
        have hf3 := HS3.file
        clear hunr hfew hk3 hJ3 hR hy
        gi_wp2_with (refine ⟨trivial, ?_⟩; gi_at_call 37; refine (callsIn_wide.2 (read_res hs (a := b) hb.2.1 HT.out HS3.low)).mono ?_; rintro e w4 ⟨r4, b4, o4, rfl, hb4, hres4⟩)
        have HS4 := HS3.quiet hJ hb4
        go_roundw
        case rel => exact ⟨_, b, r4, b4, o4, HS4, rfl, rfl, rfl, hres4⟩
        case measure =>
          rcases hres4 with ⟨rfl, hr4⟩ | ⟨rfl, hr4⟩
          · simp [leftOf, isT, intOf]; omega
          · have := rf_some hr4
            simp [leftOf, isT, intOf]; omega
      · gi_wp2
        go_end0
        exact ⟨⟨_, rfl⟩, .inr ⟨_, trivial, hJx3⟩⟩
end Go.Proofs.YtegknhnmfaafmaaDoor
