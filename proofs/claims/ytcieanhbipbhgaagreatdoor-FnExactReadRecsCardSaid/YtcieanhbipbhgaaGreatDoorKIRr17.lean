/- What the program's Frame and her reader of one frame answer. The program's reader of frames, a function that is handed a yield: it yields each whole record with the place behind its frame, for every loop body that keeps the file's cell. What the program's Unframe answers: it ranges over the reader of frames. The reader of frames, for bodies that may leave it: where it is left, what had come are the file's first records. The records that a file has: pure. What the program's ReadRecs answers: it ranges over the reader of frames, and leaves it at a text that has no record. -/
import Derived.Test.YtcieanhbipbhgaaGreatDoorKIUnseal
import Derived.RangeFuncNested
import Derived.RangeFuncBound
import Derived.RangeFuncCalls
import Derived.RangeFuncLeaves
import Derived.RangeFuncBox
import Derived.Shelf.Abstract
import Derived.Shelf.RegionOpen
import Derived.WalkKit
import Derived.OwnWalkIn
import Derived.TacticsInMore
import Derived.LoopNIn
import Derived.LoopIn
import Derived.Maps.AppendAt
import Derived.Deep.AppendLies
import Derived.Test.YtcieanhbipbhgaaGreatDoorKRsMk17
import Derived.Test.YtcieanhbipbhgaaGreatDoorKRy14
namespace Go.Proofs.YtcieanhbipbhgaaGreatDoor.F
open Go.RowKit Vt Crc

theorem vtS_size (n : Nat) : (vtS n).size ≤ n + 1 := by
  have := vt_length n n (Nat.le_refl _)
  simpa [vtS, ByteArray.size] using this

theorem recordOk_yes (n : Int) (h1 : 1 ≤ n) (h2 : n ≤ 9000) (w : World) :
    Calls Tryz.prog 44 #[.int .i64 n] w fun e w' => e = .returned (.bool true) ∧ w = w' := by
  go_enter Tryz.func44, Tryz.ntmps44
  go_wp2
  go_ret
  exact ⟨rfl, rfl⟩

theorem recordOk_no (n : Int) (h : n < 1 ∨ 9000 < n) (w : World) :
    Calls Tryz.prog 44 #[.int .i64 n] w fun e w' => e = .returned (.bool false) ∧ w = w' := by
  rcases h with h | h
  · have d1 : decide (1 ≤ n) = false := by simp; omega
    go_enter Tryz.func44, Tryz.ntmps44
    go_wp2
    go_ret
    exact ⟨rfl, rfl⟩
  · have d1 : decide (1 ≤ n) = true := by simp; omega
    have d2 : decide (n ≤ 9000) = false := by simp; omega
    go_enter Tryz.func44, Tryz.ntmps44
    go_wp2
    go_ret
    exact ⟨rfl, rfl⟩

theorem frm_def (s : ByteArray) : vtS s.size ++ fourS (smS s) ++ s = frm s := rfl

theorem iReadVar_at (s : ByteArray) (hs : s.size ≤ 20000) (a : Nat) (h : a ≤ s.size) (w : World) :
    Calls Tryz.prog 43 #[.string s, .int .i64 (a : Int)] w fun e w' => e = .returned (rvV (rv a (from_ s a))) ∧ w = w' :=
  (iReadVar_in s (by omega) a h w).mono fun _ _ h => ⟨h.1, h.2.symm⟩

theorem readFrame_none (s : ByteArray) (hs : s.size ≤ 20000) (a : Nat) (h : a ≤ s.size) (hr : rv a (from_ s a) = none) (w : World) :
    Calls Tryz.prog 31 #[.string s, .int .i64 (a : Int)] w fun e w' => e = .returned (rfV none) ∧ Below w.heap.size w w' := by
  have H : Hid (∀ w : World, Calls Tryz.prog 43 #[.string s, .int .i64 (a : Int)] w fun e w' => e = .returned (.tuple #[.int .i64 0, .int .i64 0, .bool false]) ∧ w = w') := fun w => by
    have := iReadVar_at s hs a h w
    rw [hr] at this
    exact this
  clear hr
  unfold rfV
  go_enter Tryz.func31, Tryz.ntmps31
  go_wp2_with (go_at_call 43; refine (H.out _).mono ?_; rintro e w1 ⟨rfl, hw1⟩; subst hw1)
  go_ret3
  exact ⟨rfl, Below.refl _ _⟩

theorem read_hid {s : ByteArray} (hs : s.size ≤ 20000) {a : Nat} (h : a ≤ s.size) {n j : Nat} (hr : rv a (from_ s a) = some (n, j)) :
    Hid (∀ w : World, Calls Tryz.prog 43 #[.string s, .int .i64 (a : Int)] w fun e w' => e = .returned (.tuple #[.int .i64 (n : Int), .int .i64 (j : Int), .bool true]) ∧ w = w') := fun w => by
  have := iReadVar_at s hs a h w
  rw [hr] at this
  exact this

theorem readFrame_no (s : ByteArray) (hs : s.size ≤ 20000) (a : Nat) (h : a ≤ s.size) (n j : Nat) (hr : rv a (from_ s a) = some (n, j)) (hc : ¬ (1 ≤ n ∧ n ≤ 9000 ∧ j + 4 + n ≤ s.size)) (w : World) :
    Calls Tryz.prog 31 #[.string s, .int .i64 (a : Int)] w fun e w' => e = .returned (rfV none) ∧ Below w.heap.size w w' := by
  have H := read_hid hs h hr
  have hb := rv_bounds hr
  have hj : j ≤ s.size := hb.2.2 h
  have hn := hb.1
  clear hr hb
  unfold rfV
  by_cases hok : 1 ≤ n ∧ n ≤ 9000
  · have d1 : decide ((s.size : Int) - (j : Int) - 4 < (n : Int)) = true := by simp; omega
    obtain ⟨k1, k2⟩ := hok
    clear hc
    go_enter Tryz.func31, Tryz.ntmps31
    go_wp2_with (first
      | (go_at_call 43; refine (H.out _).mono ?_; rintro e w1 ⟨rfl, hw1⟩; subst hw1)
      | (go_at_call 44; refine (recordOk_yes _ (by omega) (by omega) _).mono ?_; rintro e w1 ⟨rfl, hw1⟩; subst hw1))
    go_ret3
    exact ⟨rfl, Below.refl _ _⟩
  · clear hc
    go_enter Tryz.func31, Tryz.ntmps31
    go_wp2_with (first
      | (go_at_call 43; refine (H.out _).mono ?_; rintro e w1 ⟨rfl, hw1⟩; subst hw1)
      | (go_at_call 44; refine (recordOk_no _ (by omega) _).mono ?_; rintro e w1 ⟨rfl, hw1⟩; subst hw1))
    go_ret3
    exact ⟨rfl, Below.refl _ _⟩

set_option maxHeartbeats 1000000 in
theorem readFrame_in (s : ByteArray) (hs : s.size ≤ 20000) (a : Nat) (h : a ≤ s.size) (n j : Nat) (hr : rv a (from_ s a) = some (n, j)) (k1 : 1 ≤ n) (k2 : n ≤ 9000) (k3 : j + 4 + n ≤ s.size) (w : World) (ht : Tab w) :
    Calls Tryz.prog 31 #[.string s, .int .i64 (a : Int)] w fun e w' => e = .returned (rfV (rf s a)) ∧ Below w.heap.size w w' := by
  have H := read_hid hs h hr
  have d1 : decide ((s.size : Int) - (j : Int) - 4 < (n : Int)) = false := by simp; omega
  obtain ⟨R, hR⟩ : ∃ R, R = s.extract (j + 4) (j + 4 + n) := ⟨_, rfl⟩
  have n1 : ((j : Int) + 4).toNat = j + 4 := by omega
  have n2 : ((j : Int) + 4 + (n : Int)).toNat = j + 4 + n := by omega
  have n3 : (j : Int).toNat = j := by omega
  have b1 : (0 : Int) ≤ (j : Int) + 4 := by omega
  have b2 : (j : Int) + 4 ≤ (j : Int) + 4 + (n : Int) := by omega
  have b3 : (j : Int) + 4 + (n : Int) ≤ (s.size : Int) := by omega
  have b4 : (0 : Int) ≤ (j : Int) := by omega
  have b5 : (j : Int) ≤ (j : Int) + 4 := by omega
  have b6 : (j : Int) + 4 ≤ (s.size : Int) := by omega
  have hz : (s.extract (j + 4) (j + 4 + n)).size ≤ maxLen := by rw [ByteArray.size_extract]; unfold maxLen; omega
  have HT := hidOf ht
  have hS0 : St w w.drew := (St.here w).drew
  by_cases he : fourS (smS (s.extract (j + 4) (j + 4 + n))) = s.extract j (j + 4)
  · have E := hidOf (rf_yes hr k1 k2 k3 he)
    clear ht hr
    go_enter Tryz.func31, Tryz.ntmps31
    go_wp2_with (first
      | (go_at_call 43; refine (H.out _).mono ?_; rintro e w1 ⟨rfl, hw1⟩; subst hw1)
      | (go_at_call 44; refine (recordOk_yes _ (by omega) (by omega) _).mono ?_; rintro e w1 ⟨rfl, hw1⟩; subst hw1))
    go_region_held3 (fun u => St w u) (first | assumption | exact hS0) (first
      | (go_at_call 45; refine (iSumOf_St _ hz HT.out (by assumption)).mono ?_; rintro e w1 ⟨rfl, hS3⟩)
      | (go_at_call 46; refine (text_St _ (smS_lt _) (by assumption)).mono ?_; rintro e w1 ⟨rfl, hS3⟩))
    all_goals
      go_wp2
      go_ret3
      exact ⟨by rw [E.out]; simp [rfV], hS3⟩
  · have E := hidOf (rf_neq hr he)
    have d3 := str_neqF he
    clear ht hr
    go_enter Tryz.func31, Tryz.ntmps31
    go_wp2_with (first
      | (go_at_call 43; refine (H.out _).mono ?_; rintro e w1 ⟨rfl, hw1⟩; subst hw1)
      | (go_at_call 44; refine (recordOk_yes _ (by omega) (by omega) _).mono ?_; rintro e w1 ⟨rfl, hw1⟩; subst hw1))
    go_region_held3 (fun u => St w u) (first | assumption | exact hS0) (first
      | (go_at_call 45; refine (iSumOf_St _ hz HT.out (by assumption)).mono ?_; rintro e w1 ⟨rfl, hS3⟩)
      | (go_at_call 46; refine (text_St _ (smS_lt _) (by assumption)).mono ?_; rintro e w1 ⟨rfl, hS3⟩))
    all_goals
      go_wp2
      go_ret3
      exact ⟨by rw [E.out]; rfl, hS3⟩

theorem readFrame_any (s : ByteArray) (hs : s.size ≤ 20000) (a : Nat) (h : a ≤ s.size) (w : World) (ht : Tab w) :
    Calls Tryz.prog 31 #[.string s, .int .i64 (a : Int)] w fun e w' => e = .returned (rfV (rf s a)) ∧ Below w.heap.size w w' := by
  cases hr : rv a (from_ s a) with
  | none => rw [rf_none hr]; exact readFrame_none s hs a h hr w
  | some x =>
    obtain ⟨n, j⟩ := x
    by_cases hc : 1 ≤ n ∧ n ≤ 9000 ∧ j + 4 + n ≤ s.size
    · exact readFrame_in s hs a h n j hr hc.1 hc.2.1 hc.2.2 w ht
    · rw [rf_no hr hc]; exact readFrame_no s hs a h n j hr hc w
end Go.Proofs.YtcieanhbipbhgaaGreatDoor.F
namespace Go.Proofs.YtcieanhbipbhgaaGreatDoor.F
open Go.RowKit Go.Shelf Vt Crc
attribute [local go_sem] Oper.semAt_some

/-- a record and the place behind its frame -/
abbrev Rec := { x : ByteArray × Nat // x.1.size ≤ 9000 }

/-- as yield takes it -/
abbrev recV (x : Rec) : Array Value := #[.string x.1.1, .int .i64 (x.1.2 : Int)]

/-- the records alone -/
def txts (xs : List Rec) : List ByteArray := xs.map fun x => x.1.1

theorem txts_snoc (xs : List Rec) (x : Rec) : txts (xs ++ [x]) = txts xs ++ [x.1.1] := by simp [txts]
theorem txts_length (xs : List Rec) : (txts xs).length = xs.length := by simp [txts]

/-- the place behind the last -/
def endOf (xs : List Rec) : Nat := (xs.getLast?.map fun x => x.1.2).getD 0

theorem endOf_snoc (xs : List Rec) (x : Rec) : endOf (xs ++ [x]) = x.1.2 := by simp [endOf]

/-- what a round that goes on keeps: what lay below n, and the file's cell -/
structure KeepF (n B : Nat) (W W' : World) : Prop where
  low : Below n W W'
  file : ∀ v, W.cell? ⟨B, 0, none⟩ = some v → W'.cell? ⟨B, 0, none⟩ = some v

theorem KeepF.trans {n B : Nat} {A C D : World} (h : KeepF n B A C) (k : KeepF n B C D) : KeepF n B A D :=
  ⟨h.low.trans k.low, fun v hv => k.file v (h.file v hv)⟩

theorem KeepF.turn {n B : Nat} {w : World} (hn : n ≤ w.heap.size) (W : World) (l : Nat) (o o' : Obj) (hl : w.heap.size ≤ l) (h : W.heap[l]? = some o) (hc : o.isCells = false) (hw : o.isWalk = false) : KeepF n B W (W.putObj l o') :=
  ⟨belowK_b hn W l o o' hl h hc hw, fun _ hv => cell_kept hv (grownBy_putObj' W l o') (fun r e => by cases e; exact ⟨o, h, hc⟩)⟩

/-- whether a value says yes -/
def isT : Value → Bool
  | .bool b => b
  | _ => false

/-- how much is left for the reader's loop -/
def leftOf (z : Nat) (at_ ok : Value) : Nat := if isT ok then z + 1 - (intOf at_).toNat else 0

/-- what the reader's loop bears -/
structure RdAt (s : ByteArray) (w : World) (B : Nat) (J : List Rec → World → Prop) (pre : List Rec) (a : Nat) (wr : World) : Prop where
  un : UnAt s (txts pre) a
  last : endOf pre = a
  low : Below w.heap.size w wr
  file : wr.cell? ⟨B, 0, none⟩ = some (.string s)
  inv : J pre wr

theorem grown_low {w w' : World} (h : Below w.heap.size w w') (row : Option Nat) : w.grownBy w' row :=
  ⟨h.os, h.tape, h.output, h.size, fun k hk _ => h.block k hk⟩

theorem RdAt.quiet {s : ByteArray} {w : World} {B : Nat} {J : List Rec → World → Prop} {pre : List Rec} {a : Nat} {wr w1 : World} {D : Nat} (h : RdAt s w B J pre a wr) (hJ : AbidesFrom D J) (hb : Below wr.heap.size wr w1) : RdAt s w B J pre a w1 :=
  ⟨h.un, h.last, h.low.trans (hb.mono h.low.size), cell_kept h.file (grown_low hb none) (fun r e => by cases e), hJ _ _ _ none h.inv (grown_low hb none) (fun r e => by cases e)⟩

/-- what a look at place a has told -/
def Res (s : ByteArray) (a : Nat) (r : ByteArray) (b : Nat) (o : Bool) : Prop := (o = false ∧ rf s a = none) ∨ (o = true ∧ rf s a = some (r, b))

theorem read_res {s : ByteArray} (hs : s.size ≤ 20000) {a : Nat} (h : a ≤ s.size) {w : World} (ht : Tab w) {wr : World} (hb : Below w.heap.size w wr) :
    Calls Tryz.prog 31 #[.string s, .int .i64 (a : Int)] wr fun e w' => ∃ r b o, e = .returned (.tuple #[.string r, .int .i64 ((b : Nat) : Int), .bool o]) ∧ Below wr.heap.size wr w' ∧ Res s a r b o := by
  have h1 := readFrame_any s hs a h wr (ht.below hb (Nat.le_refl _))
  cases hr : rf s a with
  | none =>
    rw [hr] at h1
    exact h1.mono fun _ _ h => ⟨⟨#[]⟩, 0, false, h.1, h.2, .inl ⟨rfl, hr⟩⟩
  | some x =>
    obtain ⟨r, b⟩ := x
    rw [hr] at h1
    exact h1.mono fun _ _ h => ⟨r, b, true, h.1, h.2, .inr ⟨rfl, hr⟩⟩

theorem read_res0 {s : ByteArray} (hs : s.size ≤ 20000) {w : World} (ht : Tab w) {wr : World} (hb : Below w.heap.size w wr) :
    Calls Tryz.prog 31 #[.string s, .int .i64 0] wr fun e w' => ∃ r b o, e = .returned (.tuple #[.string r, .int .i64 ((b : Nat) : Int), .bool o]) ∧ Below wr.heap.size wr w' ∧ Res s 0 r b o :=
  read_res hs (a := 0) (Nat.zero_le _) ht hb

set_option maxRecDepth 100000 in
set_option maxHeartbeats 2000000 in
theorem framesIt_in (n l B : Nat) (hn : 1 ≤ n) (s : ByteArray) (hs : s.size ≤ 20000) (w : World) (ht : Tab w) (D : Nat) (J Jx : List Rec → World → Prop) (hJ : AbidesFrom D J)
    (hY : ∀ pre x W1, J pre W1 → pre.length < 4000 → YieldAt Fence.wide (n - 1) Tryz.prog l (recV x) W1 fun e W' =>
      (e = .returned (.bool true) ∧ J (pre ++ [x]) W' ∧ KeepF w.heap.size B W1 W') ∨ (e = .returned (.bool false) ∧ Jx (pre ++ [x]) W'))
    (W : World) (hW : Below w.heap.size w W) (hB : W.cell? ⟨B, 0, none⟩ = some (.string s)) (h0 : J [] W) :
    CallsIn Fence.wide n Tryz.prog 30 #[.func (.yield l) #[] #[], .pointer (some ⟨B, 0, none⟩)] W fun e W' => (∃ v, e = .returned v) ∧
      ((∃ ys, un s = (txts ys, endOf ys) ∧ J ys W') ∨ (∃ pre, True ∧ Jx pre W')) := by
  have HS : RdAt s w B J [] 0 W := ⟨UnAt.start s hs, rfl, hW, hB, h0⟩
  have HT := hidOf ht
  clear ht hW h0
  refine callsIn_of_wp Tryz.func30 rfl trivial ?_ rfl
  simp only [Tryz.ntmps30, List.size_toArray, List.length_cons, List.length_nil, Nat.reduceAdd, Nat.reduceSub, Array.replicate_succ, Array.replicate_zero, List.push_toArray, List.append_toArray, List.nil_append, List.cons_append]
  gi_wp2_with (refine ⟨trivial, ?_⟩; gi_at_call 31; refine (callsIn_wide.2 (read_res0 hs HT.out HS.low)).mono ?_; rintro e w1 ⟨r0, b0, o0, rfl, hb1, hres0⟩)
  have HS1 := HS.quiet hJ hb1
  gi_loopw [3, 4, 5] (fun rec at_ ok wr => ∃ (pre : List Rec) (a : Nat) (r : ByteArray) (b : Nat) (o : Bool), RdAt s w B J pre a wr ∧ rec = .string r ∧ at_ = .int .i64 (b : Int) ∧ ok = .bool o ∧ Res s a r b o)
    (fun _ at_ ok _ => leftOf s.size at_ ok)
  case atStart => exact ⟨[], 0, r0, b0, o0, HS1, rfl, rfl, rfl, hres0⟩
  case round =>
    obtain ⟨pre, a, r, b, o, hst, rfl, rfl, rfl, hres⟩ := hrel
    rcases hres with ⟨rfl, hr⟩ | ⟨rfl, hr⟩
    · gi_wp2
      refine ⟨fun _ h => (by cases h), ?_⟩
      gi_wp2
      go_end0
      exact ⟨⟨_, rfl⟩, .inl ⟨pre, by rw [hst.un.done hr, hst.last], hst.inv⟩⟩
    · have hb := rf_some hr
      have hfew := hst.un.few
      have hY1 := hY pre ⟨(r, b), hb.2.2⟩ wr hst.inv (by rw [txts_length] at hfew; omega)
      obtain ⟨fn, tmps, assign, body, hy, hR⟩ := hY1
      dsimp only [recV] at hy
      have hunr := hst.un.step hr
      gi_wp2
      refine hR.mono ?_
      rintro e W3 (⟨rfl, hJ3, hk3⟩ | ⟨rfl, hJx3⟩)
      · have HS3 : RdAt s w B J (pre ++ [⟨(r, b), hb.2.2⟩]) b W3 := ⟨by rw [txts_snoc]; exact hunr, endOf_snoc _ _, hst.low.trans hk3.low, hk3.file _ hst.file, hJ3⟩
        have hf3 := HS3.file
        clear hunr hfew hk3 hJ3 hR hy
        gi_wp2_with (refine ⟨trivial, ?_⟩; gi_at_call 31; refine (callsIn_wide.2 (read_res hs (a := b) hb.2.1 HT.out HS3.low)).mono ?_; rintro e w4 ⟨r4, b4, o4, rfl, hb4, hres4⟩)
        have HS4 := HS3.quiet hJ hb4
        go_roundw
        case rel => exact ⟨_, b, r4, b4, o4, HS4, rfl, rfl, rfl, hres4⟩
        case measure =>
          rcases hres4 with ⟨rfl, hr4⟩ | ⟨rfl, hr4⟩
          · simp [leftOf, isT, intOf]; omega
          · have := rf_some hr4
            simp [leftOf, isT, intOf]; omega
      · gi_wp2
        go_end0
        exact ⟨⟨_, rfl⟩, .inr ⟨_, trivial, hJx3⟩⟩
end Go.Proofs.YtcieanhbipbhgaaGreatDoor.F
namespace Go.Proofs.YtcieanhbipbhgaaGreatDoor.F
open Go.RowKit Go.Shelf Vt Crc
attribute [local go_sem] Oper.semAt_some

theorem frames_stops (n B : Nat) (hn : 1 ≤ n) (s : ByteArray) (hs : s.size ≤ 20000) (w : World) (ht : Tab w) (w1 : World) (hw : Below w.heap.size w w1) (hB : B < w1.heap.size) (hc : w1.cell? ⟨B, 0, none⟩ = some (.string s)) :
    SeqStopsK Fence.wide n Tryz.prog 30 #[.pointer (some ⟨B, 0, none⟩)] recV (KeepF w.heap.size B) (fun ys => un s = (txts ys, endOf ys)) (fun _ => True) 4000 w1 := fun l J Jx W hW hJ _ hY h0 =>
  framesIt_in n l B hn s hs w ht W.heap.size J Jx hJ hY W (hw.trans (hW.mono hw.size)) ((hW.cell (p := ⟨B, 0, none⟩) hB).trans hc) h0

theorem framesOf_in (n : Nat) (s : ByteArray) (w : World) :
    CallsIn Fence.wide n Tryz.prog 12 #[.string s] w fun e w' => e = .returned (.func (.func 30) #[] #[.pointer (some ⟨w.heap.size, 0, none⟩)]) ∧ w' = w.alloc (.cells #[.string s] 9) := by
  refine callsIn_of_wp Tryz.func12 rfl trivial ?_ rfl
  simp only [Tryz.ntmps12, List.size_toArray, List.length_cons, List.length_nil, Nat.reduceAdd, Nat.reduceSub, Array.replicate_succ, Array.replicate_zero, List.push_toArray, List.append_toArray, List.nil_append, List.cons_append]
  gi_wp2
  go_ret
  exact ⟨rfl, rfl⟩

theorem info9 : (Tryz.prog.info? 9).map (fun i => (i.zero, i.size, i.bytes)) = some (some (.string ⟨#[]⟩), 1, 16) := by kernel_rfl

/-- the row of records is written out, and is not the file's cell -/
def RowF (n : Nat) (pre : List Rec) (v : Value) : Prop := ∃ g cap, v = .slice (some ⟨g, 0, none⟩) (txts pre).length cap ∧ g ≠ n + 1 + 1 + 1

/-- what an answer of a reader of a file is -/
def UnOut (s : ByteArray) (w : World) (e : Ending) (w' : World) : Prop :=
  ∃ v, e = .returned (.tuple #[v, .int .i64 ((un s).2 : Int)]) ∧ w'.ownsRow w.heap.size 9 1 v (un s).1.length ((un s).1.map Value.string) ∧ Below w.heap.size w w'

theorem stepIn_append {F : Fence} {n : Nat} {P : Program} {ops : Array Oper} {o : Oper} {a : Act} {w : World} {K : Act → World → Prop} {Q : Exit → Act → World → Prop} {E : Prop} (hgd : o.guard = none) (s x : Operand) (t : TypeId)
    (ho : o.op = .call { callee := .builtin .append, args := #[s, x], argTypes := #[t, t] }) {v v2 v' : Value} {w' : World} (hs : a.eval s = v) (hx : a.eval x = v2) (hr : (Builtin.append_ #[t, t] o.type #[v, v2]).run P w = .ok v' w') (hK : K (a.put o.dst v') w') :
    if Region.wanted o (yielded ops a.tmps) = true then Oper.wpIn F n P o a w K Q else E := by
  have hw : Region.wanted o (yielded ops a.tmps) = true := by simp [Region.wanted, hgd]
  rw [if_pos hw]
  unfold Oper.wpIn
  refine ⟨?_, ?_⟩
  · simp [Oper.about, ho, resolve, Target.leads, Sem.run_pure]
  · rw [Oper.semAt_plain F _ _ (by rw [ho]; intro c hc'; cases hc')]
    simp [execOp, ho, resolve, invoke, builtin, hs, hx, hr, Result.andThen]
    exact hK

/-- what a round owes, from the world W where it begins to the world where it ends -/
structure RoundF (w : World) (pre : List Rec) (W : World) (X : ByteArray) (Y : Int) (k g cap : Nat) (W3 : World) : Prop where
  others : KeepsOthers W W3
  keep : KeepF w.heap.size (w.heap.size + 1 + 1 + 1) W W3
  box : Boxed W3 (w.heap.size + 1) 28 (.slice (some ⟨g, 0, none⟩) (k + 1) cap)
  row : W3.ownsRow w.heap.size 9 1 (.slice (some ⟨g, 0, none⟩) (k + 1) cap) (k + 1) ((txts pre).map Value.string ++ [.string X])
  place : g ≠ w.heap.size + 1 + 1 + 1
  last : Boxed W3 (w.heap.size + 1 + 1) 3 (.int .i64 Y)

theorem RoundF.out {w : World} {pre : List Rec} {W W3 : World} {X : ByteArray} {Y : Int} {k g cap : Nat} (h : RoundF w pre W X Y k g cap W3) (hB : Below w.heap.size w W) (x : Rec) (hk : k = (txts pre).length) (hX : X = x.1.1) (hY : Y = (x.1.2 : Int)) :
    ((∃ v, Boxed W3 (w.heap.size + 1) 28 v ∧ W3.ownsRow w.heap.size 9 1 v (txts (pre ++ [x])).length ((txts (pre ++ [x])).map Value.string) ∧ RowF w.heap.size (pre ++ [x]) v) ∧ Boxed W3 (w.heap.size + 1 + 1) 3 (.int .i64 (endOf (pre ++ [x]) : Int))) ∧ Below w.heap.size w W3 := by
  have hl : (txts (pre ++ [x])).length = k + 1 := by rw [txts_snoc, List.length_append, ← hk]; rfl
  refine ⟨⟨⟨_, h.box, ?_, g, cap, by rw [hl], h.place⟩, ?_⟩, hB.trans h.keep.low⟩
  · rw [hl, txts_snoc, List.map_append, ← hX]
    exact h.row
  · rw [endOf_snoc, ← hY]
    exact h.last

/-- a round: the record's copy, the row with it, the two boxes -/
theorem clone_round {w W : World} {pre : List Rec} {X : ByteArray} (hxs : X.size ≤ 1048576) (Y E : Int) {k g cap : Nat} (hk4 : k < 4000) (hW3 : w.heap.size + 1 + 1 + 1 < W.heap.size)
    (hv : Boxed W (w.heap.size + 1) 28 (.slice (some ⟨g, 0, none⟩) k cap)) (hrow : W.ownsRow w.heap.size 9 1 (.slice (some ⟨g, 0, none⟩) k cap) k ((txts pre).map Value.string))
    (hE : Boxed W (w.heap.size + 1 + 1) 3 (.int .i64 E)) (hg : g ≠ w.heap.size + 1 + 1 + 1) :
    Calls Tryz.prog 90 #[.string X] W.drew fun e w1 => e = .returned (.string X) ∧ w1.cell? ⟨w.heap.size + 1, 0, none⟩ = some (.slice (some ⟨g, 0, none⟩) k cap) ∧ w.heap.size + 1 < w1.heap.size ∧
      ∃ g' cap' w2, (Builtin.append_ #[28, 28] 28 #[.slice (some ⟨g, 0, none⟩) k cap, .slice (some ⟨w1.heap.size, 0, none⟩) 1 1]).run Tryz.prog (w1.alloc (.cells #[.string X] 9)) = .ok (.slice (some ⟨g', 0, none⟩) (k + 1) cap') w2 ∧
        w2.cell? ⟨w.heap.size + 1, 0, none⟩ = some (.slice (some ⟨g, 0, none⟩) k cap) ∧ w2.frozen? ⟨w.heap.size + 1, 0, none⟩ = false ∧ w2.cell? ⟨w.heap.size + 1 + 1, 0, none⟩ = some (.int .i64 E) ∧ w2.frozen? ⟨w.heap.size + 1 + 1, 0, none⟩ = false ∧
        RoundF w pre W X Y k g' cap' ((w2.setCell ⟨w.heap.size + 1, 0, none⟩ (.slice (some ⟨g', 0, none⟩) (k + 1) cap')).setCell ⟨w.heap.size + 1 + 1, 0, none⟩ (.int .i64 Y)) := by
  obtain ⟨i0, hi, hz0, hz1, hz2⟩ := info_parts info9
  refine (clone_anyC X hxs W.drew).mono fun e w1 ⟨he, hb1⟩ => ⟨he, ?_⟩
  have hs1 : W.heap.size ≤ w1.heap.size := hb1.size
  have hv1 : Boxed w1 (w.heap.size + 1) 28 (.slice (some ⟨g, 0, none⟩) k cap) := Boxed.kept (W := W.drew) hv (grown_low hb1 none) (by simp)
  have hrow1 : w1.ownsRow w.heap.size 9 1 (.slice (some ⟨g, 0, none⟩) k cap) k ((txts pre).map Value.string) := World.ownsRow.kept (w := W.drew) hrow (grown_low hb1 none) (by simp [Value.ownBlock])
  have hE1 : Boxed w1 (w.heap.size + 1 + 1) 3 (.int .i64 E) := Boxed.kept (W := W.drew) hE (grown_low hb1 none) (by simp)
  obtain ⟨g', cap', w2, happ, hown2, hgrow2, hlies, hlt2⟩ := run_append_lies (P := Tryz.prog) (w1.alloc (.cells #[.string X] 9)) 28 28 w.heap.size 9 i0 (.string ⟨#[]⟩) 1 16 Tryz.underlying28 hi hz0 hz1 hz2 rfl (by decide) (.slice (some ⟨g, 0, none⟩) k cap) k _ (hrow1.alloc _) ⟨w1.heap.size, 0, none⟩ 1 1 [.string X] rfl (cell_one_new _ _ _) (by simp [Value.oneCell']) (by omega) (by unfold maxLen; omega) (by omega) (by simp; omega) _ rfl
  obtain ⟨a1, a2, a3, a4, a5⟩ := hv1.appended (by decide) hrow1 (by omega) (by omega) hown2 hgrow2
  have hE2 : Boxed w2 (w.heap.size + 1 + 1) 3 (.int .i64 E) := (hE1.alloc _).kept hgrow2 (hE1.not_row (by decide) hrow1)
  have hgl : g' ≠ w.heap.size + 1 + 1 + 1 := by
    rcases hlies with h | h
    · simp [Value.ownBlock] at h; omega
    · simp at h; omega
  refine ⟨hv1.cell, by omega, g', cap', w2, happ, a1.cell, a1.frozen, hE2.cell, hE2.frozen, ?_, ?_, ?_, ?_, hgl, ?_⟩
  · exact (((KeepsOthers.drew W).trans (KeepsOthers.of_grownBy (grown_low hb1 none) (fun j o ej _ => by cases ej))).trans a4).trans (KeepsOthers.setCell _ _ _)
  · refine ⟨(((Below.refl _ W).drew.trans (hb1.mono (by show _ ≤ W.heap.size; omega))).trans a5).setCell (by show _ ≤ w.heap.size + 1 + 1; omega) _, fun v hc => ?_⟩
    have h1 : w1.heap[w.heap.size + 1 + 1 + 1]? = W.heap[w.heap.size + 1 + 1 + 1]? := hb1.block _ hW3
    have h2 : w2.heap[w.heap.size + 1 + 1 + 1]? = (w1.alloc (.cells #[.string X] 9)).heap[w.heap.size + 1 + 1 + 1]? := hgrow2.block _ (by simp; omega) (by simp [Value.ownBlock]; omega)
    have h3 := Below.heap_alloc w1 (.cells #[.string X] 9) (w.heap.size + 1 + 1 + 1) (by omega)
    rw [← hc]
    refine World.cell?_of_block ?_
    show ((w2.setCell _ _).setCell _ _).heap[w.heap.size + 1 + 1 + 1]? = _
    rw [Below.heap_setCell _ _ _ _ (by show w.heap.size + 1 + 1 + 1 ≠ w.heap.size + 1 + 1; omega), Below.heap_setCell _ _ _ _ (by show w.heap.size + 1 + 1 + 1 ≠ w.heap.size + 1; omega), h2, h3, h1]
  · exact a2.other (by omega) _
  · exact a3.kept (grownBy_setCell' _ _ _) (.inr ((hE2.other (by omega) _).not_row (by decide) a3).symm)
  · exact (hE2.other (by omega) _).set _

/-- a row of no text -/
def OutZ (bf : Int) (w : World) (e : Ending) (w' : World) : Prop := ∃ a c, e = .returned (.tuple #[.slice a 0 c, .int .i64 bf]) ∧ Below w.heap.size w w'
/-- a row of n texts -/
def OutP (bf : Int) (n : Nat) (ss : List ByteArray) (w : World) (e : Ending) (w' : World) : Prop :=
  ∃ g c, e = .returned (.tuple #[.slice (some ⟨g, 0, none⟩) n c, .int .i64 bf]) ∧ w'.ownsRow w.heap.size 9 1 (.slice (some ⟨g, 0, none⟩) n c) n (ss.map Value.string) ∧ Below w.heap.size w w'

theorem outZ {s : ByteArray} {w : World} {e : Ending} {w' : World} (h : UnOut s w e w') (hz : (un s).1 = []) : OutZ ((un s).2 : Int) w e w' := by
  obtain ⟨v, he, ho, hb⟩ := h
  rw [hz] at ho
  rcases ho.2 with ⟨rfl, _⟩ | ⟨g, cap, cur, rfl, _⟩
  · exact ⟨_, _, he, hb⟩
  · exact ⟨_, _, he, hb⟩

theorem outP {s : ByteArray} {w : World} {e : Ending} {w' : World} (h : UnOut s w e w') (hz : 0 < (un s).1.length) :
    OutP ((un s).2 : Int) (un s).1.length (un s).1 w e w' := by
  obtain ⟨v, he, ho, hb⟩ := h
  have ho' := ho
  rcases ho.2 with ⟨_, h0⟩ | ⟨g, cap, cur, rfl, _⟩
  · omega
  · exact ⟨g, cap, he, ho', hb⟩

end Go.Proofs.YtcieanhbipbhgaaGreatDoor.F
namespace Go.Proofs.YtcieanhbipbhgaaGreatDoor.F
open Go.RowKit Go.Shelf Vt Crc
attribute [local go_sem] Oper.semAt_some

/-- the bytes that the frames of some records take -/
def sumF (L : List ByteArray) : Nat := (L.map fun t => (frm t).size).sum
theorem sumF_app (L M : List ByteArray) : sumF (L ++ M) = sumF L + sumF M := by simp [sumF]
theorem sumF_one (r : ByteArray) : sumF [r] = (frm r).size := by simp [sumF]
/-- a frame is as long as it was read -/
theorem rf_canon {s : ByteArray} {a : Nat} {r : ByteArray} {b : Nat} (ha : a ≤ s.size) (h : rf s a = some (r, b)) : b = a + (frm r).size := by
  have hs := rf_some h
  unfold rf at h
  split at h
  · cases h
  · rename_i n j hr
    have hb := rv_bounds hr
    have ht := rv_text hr
    split at h
    · rename_i hc
      simp only [Option.some.injEq, Prod.mk.injEq] at h
      obtain ⟨rfl, rfl⟩ := h
      have hz : (s.extract (j + 4) (j + 4 + n)).size = n := by rw [ByteArray.size_extract]; omega
      have h1 : (vtS n).size = j - a := by
        rw [← ht, ByteArray.size_extract]
        have := hb.2.2 ha
        omega
      have h4 : (fourS (smS (s.extract (j + 4) (j + 4 + n)))).size = 4 := by rw [hc.2.2.2, ByteArray.size_extract]; omega
      unfold frm
      rw [hz, ByteArray.size_append, ByteArray.size_append, h1, h4, hz]
      have := hb.2.1
      omega
    · cases h
theorem unF_sum (s : ByteArray) : ∀ (f : Nat) (pre : List ByteArray) (a : Nat), a ≤ s.size → ∃ Q, (unF f s pre a).1 = pre ++ Q ∧ (unF f s pre a).2 = a + sumF Q := by
  intro f
  induction f with
  | zero => intro pre a _; exact ⟨[], by simp [unF], by simp [unF, sumF]⟩
  | succ f ih =>
    intro pre a ha
    unfold unF
    cases hr : rf s a with
    | none => exact ⟨[], by simp, by simp [sumF]⟩
    | some x =>
      obtain ⟨r, b⟩ := x
      have hb := rf_some hr
      obtain ⟨Q, h1, h2⟩ := ih (pre ++ [r]) b hb.2.1
      refine ⟨r :: Q, ?_, ?_⟩
      · show (unF f s (pre ++ [r]) b).1 = _
        rw [h1]
        simp
      · show (unF f s (pre ++ [r]) b).2 = _
        rw [h2, rf_canon ha hr]
        simp [sumF]
        omega
theorem UnAt.sum {s : ByteArray} {pre : List ByteArray} {a : Nat} (h : UnAt s pre a) (hs : s.size ≤ 20000) : a = sumF pre ∧ ∃ Q, (un s).1 = pre ++ Q := by
  obtain ⟨f, _, hf⟩ := h.rest
  obtain ⟨Q, h1, h2⟩ := unF_sum s f pre a h.le
  obtain ⟨Q0, g1, g2⟩ := unF_sum s (s.size + 1) [] 0 (Nat.zero_le _)
  have hu : un s = unF (s.size + 1) s [] 0 := by unfold un; rw [if_pos hs]
  rw [hf] at h1 h2
  rw [← hu] at g1 g2
  rw [List.nil_append] at g1
  have h3 : sumF (un s).1 = sumF pre + sumF Q := by rw [h1, sumF_app]
  rw [g1] at h3
  exact ⟨by omega, Q, h1⟩
/-- where the reader was left: at a record behind those that had come -/
def StopF (s : ByteArray) (pre : List Rec) : Prop := ∃ p x, pre = p ++ [x] ∧ UnAt s (txts p) (endOf p) ∧ rf s (endOf p) = some (x.1.1, x.1.2)
set_option maxRecDepth 100000 in
set_option maxHeartbeats 2000000 in
theorem framesIt_in2 (n l B : Nat) (hn : 1 ≤ n) (s : ByteArray) (hs : s.size ≤ 20000) (w : World) (ht : Tab w) (D : Nat) (J Jx : List Rec → World → Prop) (hJ : AbidesFrom D J)
    (hY : ∀ pre x W1, J pre W1 → pre.length < 4000 → YieldAt Fence.wide (n - 1) Tryz.prog l (recV x) W1 fun e W' =>
      (e = .returned (.bool true) ∧ J (pre ++ [x]) W' ∧ KeepF w.heap.size B W1 W') ∨ (e = .returned (.bool false) ∧ Jx (pre ++ [x]) W'))
    (W : World) (hW : Below w.heap.size w W) (hB : W.cell? ⟨B, 0, none⟩ = some (.string s)) (h0 : J [] W) :
    CallsIn Fence.wide n Tryz.prog 30 #[.func (.yield l) #[] #[], .pointer (some ⟨B, 0, none⟩)] W fun e W' => (∃ v, e = .returned v) ∧
      ((∃ ys, un s = (txts ys, endOf ys) ∧ J ys W') ∨ (∃ pre, StopF s pre ∧ Jx pre W')) := by
  have HS : RdAt s w B J [] 0 W := ⟨UnAt.start s hs, rfl, hW, hB, h0⟩
  have HT := hidOf ht
  clear ht hW h0
  refine callsIn_of_wp Tryz.func30 rfl trivial ?_ rfl
  simp only [Tryz.ntmps30, List.size_toArray, List.length_cons, List.length_nil, Nat.reduceAdd, Nat.reduceSub, Array.replicate_succ, Array.replicate_zero, List.push_toArray, List.append_toArray, List.nil_append, List.cons_append]
  gi_wp2_with (refine ⟨trivial, ?_⟩; gi_at_call 31; refine (callsIn_wide.2 (read_res0 hs HT.out HS.low)).mono ?_; rintro e w1 ⟨r0, b0, o0, rfl, hb1, hres0⟩)
  have HS1 := HS.quiet hJ hb1
  gi_loopw [3, 4, 5] (fun rec at_ ok wr => ∃ (pre : List Rec) (a : Nat) (r : ByteArray) (b : Nat) (o : Bool), RdAt s w B J pre a wr ∧ rec = .string r ∧ at_ = .int .i64 (b : Int) ∧ ok = .bool o ∧ Res s a r b o)
    (fun _ at_ ok _ => leftOf s.size at_ ok)
  case atStart => exact ⟨[], 0, r0, b0, o0, HS1, rfl, rfl, rfl, hres0⟩
  case round =>
    obtain ⟨pre, a, r, b, o, hst, rfl, rfl, rfl, hres⟩ := hrel
    rcases hres with ⟨rfl, hr⟩ | ⟨rfl, hr⟩
    · gi_wp2
      refine ⟨fun _ h => (by cases h), ?_⟩
      gi_wp2
      go_end0
      exact ⟨⟨_, rfl⟩, .inl ⟨pre, by rw [hst.un.done hr, hst.last], hst.inv⟩⟩
    · have hb := rf_some hr
      have hfew := hst.un.few
      have hY1 := hY pre ⟨(r, b), hb.2.2⟩ wr hst.inv (by rw [txts_length] at hfew; omega)
      obtain ⟨fn, tmps, assign, body, hy, hR⟩ := hY1
      dsimp only [recV] at hy
      have HST : Hid (StopF s (pre ++ [⟨(r, b), hb.2.2⟩])) := ⟨pre, _, rfl, by rw [hst.last]; exact hst.un, by rw [hst.last]; exact hr⟩
      have hunr := hst.un.step hr
      gi_wp2
      refine hR.mono ?_
      rintro e W3 (⟨rfl, hJ3, hk3⟩ | ⟨rfl, hJx3⟩)
      · have HS3 : RdAt s w B J (pre ++ [⟨(r, b), hb.2.2⟩]) b W3 := ⟨by rw [txts_snoc]; exact hunr, endOf_snoc _ _, hst.low.trans hk3.low, hk3.file _ hst.file, hJ3⟩
        have hf3 := HS3.file
        clear hunr hfew hk3 hJ3 hR hy
        gi_wp2_with (refine ⟨trivial, ?_⟩; gi_at_call 31; refine (callsIn_wide.2 (read_res hs (a := b) hb.2.1 HT.out HS3.low)).mono ?_; rintro e w4 ⟨r4, b4, o4, rfl, hb4, hres4⟩)
        have HS4 := HS3.quiet hJ hb4
        go_roundw
        case rel => exact ⟨_, b, r4, b4, o4, HS4, rfl, rfl, rfl, hres4⟩
        case measure =>
          rcases hres4 with ⟨rfl, hr4⟩ | ⟨rfl, hr4⟩
          · simp [leftOf, isT, intOf]; omega
          · have := rf_some hr4
            simp [leftOf, isT, intOf]; omega
      · gi_wp2
        go_end0
        exact ⟨⟨_, rfl⟩, .inr ⟨_, HST.out, hJx3⟩⟩
theorem frames_stops2 (n B : Nat) (hn : 1 ≤ n) (s : ByteArray) (hs : s.size ≤ 20000) (w : World) (ht : Tab w) (w1 : World) (hw : Below w.heap.size w w1) (hB : B < w1.heap.size) (hc : w1.cell? ⟨B, 0, none⟩ = some (.string s)) :
    SeqStopsK Fence.wide n Tryz.prog 30 #[.pointer (some ⟨B, 0, none⟩)] recV (KeepF w.heap.size B) (fun ys => un s = (txts ys, endOf ys)) (StopF s) 4000 w1 := fun l J Jx W hW hJ _ hY h0 =>
  framesIt_in2 n l B hn s hs w ht W.heap.size J Jx hJ hY W (hw.trans (hW.mono hw.size)) ((hW.cell (p := ⟨B, 0, none⟩) hB).trans hc) h0
end Go.Proofs.YtcieanhbipbhgaaGreatDoor.F
namespace Go.Proofs.YtcieanhbipbhgaaGreatDoor
open Go.RowKit Vt

/-- the right record of a text, or none -/
noncomputable def rcO (n : Int) (t : ByteArray) : Option RecV := Classical.choose (isR_cases n t.data.toList)
theorem rcO_is (n : Int) (t : ByteArray) : IsR n t.data.toList (rcO n t) := Classical.choose_spec (isR_cases n t.data.toList)
/-- the records up to the first text that is none, and the bytes that their frames take -/
noncomputable def rds (n : Int) : List ByteArray → List RecV × Nat
  | [] => ([], 0)
  | t :: ts => match rcO n t with
    | none => ([], 0)
    | some r => (r :: (rds n ts).1, (F.frm t).size + (rds n ts).2)
theorem rds_app (n : Int) (rest : List ByteArray) : ∀ (pre : List ByteArray) (rs : List RecV), pre.map (rcO n) = rs.map some → rds n (pre ++ rest) = (rs ++ (rds n rest).1, F.sumF pre + (rds n rest).2) := by
  intro pre
  induction pre with
  | nil =>
    intro rs h
    cases rs with
    | nil => simp [F.sumF]
    | cons r rs => simp at h
  | cons t ts ih =>
    intro rs h
    cases rs with
    | nil => simp at h
    | cons r rs =>
      simp only [List.map_cons, List.cons.injEq] at h
      have h2 := ih rs h.2
      rw [List.cons_append, rds, h.1]
      simp only [h2, List.cons_append, Prod.mk.injEq, true_and]
      simp [F.sumF]
      omega
theorem rds_done (n : Int) (pre : List ByteArray) (rs : List RecV) (h : pre.map (rcO n) = rs.map some) : rds n pre = (rs, F.sumF pre) := by
  have := rds_app n [] pre rs h
  simpa [rds] using this
theorem rds_stop (n : Int) (pre : List ByteArray) (x : ByteArray) (rest : List ByteArray) (rs : List RecV) (h : pre.map (rcO n) = rs.map some) (hx : rcO n x = none) : rds n (pre ++ x :: rest) = (rs, F.sumF pre) := by
  have := rds_app n (x :: rest) pre rs h
  rw [this, rds, hx]
  simp
end Go.Proofs.YtcieanhbipbhgaaGreatDoor
namespace Go.Proofs.YtcieanhbipbhgaaGreatDoor
open Go.RowKit Go.Shelf Vt
attribute [local go_sem] Oper.semAt_some

/-- what an answer of records is -/
def RrsA (n : Int) (s : ByteArray) (w : World) (e : Ending) (w' : World) : Prop :=
  ∃ a m c qs, e = .returned (.tuple #[.slice a m c, .int .i64 (((rds n (F.un s).1).2 : Nat) : Int)]) ∧ RS w' w.heap.size a m c qs ∧ qs.map RQ.r = (rds n (F.un s).1).1 ∧ Below w.heap.size w w'
theorem own_keepC {u v : World} {B e s n : Nat} {x : Value} {xs : List Value} {row : Option Nat} (h : u.ownsRow B e s x n xs) (hg : u.grownBy v row) (hne : ∀ r, row = some r → ∃ o : Obj, u.heap[r]? = some o ∧ o.isCells = false) : v.ownsRow B e s x n xs := by
  refine World.ownsRow.kept h hg ?_
  cases hx : x.ownBlock with
  | none => exact .inl rfl
  | some g =>
    refine .inr (fun e1 => ?_)
    obtain ⟨o, ho, hc⟩ := hne g e1.symm
    rcases h.2 with ⟨hv, _⟩ | ⟨g', cap, cur, hv, _, hcur, _⟩
    · rw [hv] at hx; simp [Value.ownBlock] at hx
    · rw [hv] at hx
      simp [Value.ownBlock] at hx
      subst hx
      rw [hcur] at ho
      simp only [Option.some.injEq] at ho
      subst ho
      simp [Obj.isCells] at hc
theorem RS.keepC {u v : World} {B : Nat} {a : Option Addr} {m c : Nat} {qs : List RQ} {row : Option Nat} (h : RS u B a m c qs) (hg : u.grownBy v row) (hne : ∀ r, row = some r → ∃ o : Obj, u.heap[r]? = some o ∧ o.isCells = false) : RS v B a m c qs :=
  ⟨own_keepC h.row hg hne, fun q hq => by
    obtain ⟨h1, h2⟩ := h.each q hq
    exact ⟨⟨own_keepC h1.r1 hg hne, own_keepC h1.r2 hg hne, own_keepC h1.r3 hg hne, h1.t1, h1.t2, h1.t3, Nat.le_trans h1.th hg.size, h1.bd, h1.ap⟩, h2⟩, h.apart, h.out⟩
theorem boxed_keepC {u v : World} {b : Nat} {t : TypeId} {x : Value} {row : Option Nat} (h : Boxed u b t x) (hg : u.grownBy v row) (hne : ∀ r, row = some r → ∃ o : Obj, u.heap[r]? = some o ∧ o.isCells = false) : Boxed v b t x :=
  h.kept hg (fun e => by
    obtain ⟨o, ho, hc⟩ := hne b e.symm
    have h' : u.heap[b]? = some (.cells #[x] t (0, 0)) := h
    rw [h'] at ho
    simp only [Option.some.injEq] at ho
    subst ho
    simp [Obj.isCells] at hc)
/-- where the range stands -/
structure JR (n : Int) (w : World) (b0 : Nat) (pre : List F.Rec) (a : Option Addr) (m c : Nat) (qs : List RQ) (W : World) : Prop where
  hn : Boxed W b0 3 (.int .i64 n)
  hv : Boxed W (b0 + 1 + 1) 22 (.slice a m c)
  rs : RS W b0 a m c qs
  ok : (F.txts pre).map (rcO n) = (qs.map RQ.r).map some
  hE : Boxed W (b0 + 1 + 1 + 1) 3 (.int .i64 (F.endOf pre : Int))
  low : Below b0 w W
  sz : b0 + 1 + 1 + 1 + 1 < W.heap.size
  lo : ∀ q ∈ qs, b0 + 5 ≤ q.lo
  gne : ∀ g, (Value.slice a m c).ownBlock = some g → g ≠ b0 + 1 + 1 + 1 + 1
def JRI (n : Int) (w : World) (b0 : Nat) (pre : List F.Rec) (W : World) : Prop := ∃ a m c qs, JR n w b0 pre a m c qs W
theorem JRI.own (n : Int) (w : World) (b0 B : Nat) (hb : b0 ≤ B) : OwnFrom B (JRI n w b0) := by
  rintro pre W W' row ⟨a, m, c, qs, h⟩ hg hr
  have hne : ∀ r, row = some r → ∃ o : Obj, W.heap[r]? = some o ∧ o.isCells = false := fun r e => (hr r e).2
  exact ⟨a, m, c, qs, boxed_keepC h.hn hg hne, boxed_keepC h.hv hg hne, h.rs.keepC hg hne, h.ok, boxed_keepC h.hE hg hne,
    h.low.trans ⟨hg.os, hg.tape, hg.output, hg.size, fun k hk => hg.block k (by have := h.sz; omega) (fun e => by have := (hr k e.symm).1; omega)⟩, Nat.lt_of_lt_of_le h.sz hg.size, h.lo, h.gne⟩
theorem JR.len {n : Int} {w : World} {b0 : Nat} {pre : List F.Rec} {a : Option Addr} {m c : Nat} {qs : List RQ} {W : World} (h : JR n w b0 pre a m c qs W) : pre.length = m := by
  have h1 := congrArg List.length h.ok
  simp [F.txts_length] at h1
  rw [h1]
  exact h.rs.len
theorem infoRec17 : (Tryz.prog.info? 40).map (fun i => (i.zero, i.size, i.bytes)) = some (some (.agg #[.int .i64 0, .int .i64 0, .int .i64 0, .int .i64 0, .int .i64 0, .int .i64 0, .int .i64 0, .bool false, .slice none 0 0, .slice none 0 0, .int .i64 0, .int .i64 0, .slice none 0 0, .int .i64 0]), 14, 160) := by kernel_rfl
theorem wpListIn_append_lies {F : Fence} {n : Nat} {P : Program} (w : World) {ops : Array Oper} {rest : List Oper} {o : Oper} {a : Go.Act} {Q : Exit → Go.Act → World → Prop}
    (hg : o.guard = none) (s x : Operand) (t : TypeId) (hop : o.op = Op.call { callee := Callee.builtin Builtin.append, args := #[s, x], argTypes := #[t, t] }) {v v2 v' : Value} {w' : World} (hs : a.eval s = v) (hx : a.eval x = v2) (hr : (Builtin.append_ #[t, t] o.type #[v, v2]).run P w = .ok v' w')
    (hK : wpListIn F n P ops Q rest (a.put o.dst v') w') : wpListIn F n P ops Q (o :: rest) a w := by
  refine wpListIn_plain hg fun K hK' => ?_
  unfold Oper.wpIn
  refine ⟨?_, ?_⟩
  · simp [Oper.about, hop, resolve, Target.leads, Sem.run_pure]
  · rw [Oper.semAt_plain F _ _ (by rw [hop]; intro c hc'; cases hc')]
    simp [execOp, hop, resolve, invoke, builtin, hs, hx, hr, Result.andThen]
    exact hK' _ _ hK
theorem RS.avoid {P : Nat → Prop} {u v : World} {B : Nat} {a : Option Addr} {m c : Nat} {qs : List RQ} (h : RS u B a m c qs) (ht : Trn P u v) (h1 : ∀ g, (Value.slice a m c).ownBlock = some g → ¬ P g) (h2 : ∀ q ∈ qs, ∀ k, P k → k < q.lo ∨ q.hi ≤ k) : RS v B a m c qs :=
  ⟨own_trn h.row ht h1, fun q hq => ⟨(h.each q hq).1.trn ht (h2 q hq), (h.each q hq).2⟩, h.apart, h.out⟩
theorem rq_one (q : RQ) : ∀ u ∈ rqC q, u.oneCell' = true := by
  intro u hu
  simp only [rqC, List.mem_cons, List.not_mem_nil, or_false] at hu
  rcases hu with rfl | rfl | rfl | rfl | rfl | rfl | rfl | rfl | rfl | rfl | rfl | rfl | rfl | rfl <;> rfl
theorem set_trnB (u : World) (b : Nat) (x : Value) : Trn (fun k => k = b) u (u.setCell ⟨b, 0, none⟩ x) := trn_imp (Trn.of_grown (grownBy_setCell' u b x)) (fun k hk => by simp only [Option.some.injEq] at hk; exact hk.symm)
theorem owned_cells {u : World} {B e s n : Nat} {x : Value} {xs : List Value} (h : u.ownsRow B e s x n xs) : ∀ (j : Nat) (o : Obj), x.ownBlock = some j → u.heap[j]? = some o → o.isCells = true := by
  intro j o hj ho
  rcases h.2 with ⟨hv, _⟩ | ⟨g', cap, cur, hv, _, hcur, _⟩
  · rw [hv] at hj; simp [Value.ownBlock] at hj
  · rw [hv] at hj
    simp [Value.ownBlock] at hj
    subst hj
    rw [hcur] at ho
    simp only [Option.some.injEq] at ho
    subst ho
    rfl
/-- a round: the record is read, and put behind the others -/
theorem rec_round {n : Int} {w W : World} {pre : List F.Rec} {a : Option Addr} {m c : Nat} {qs : List RQ} (J : JR n w w.heap.size pre a m c qs W) (x : F.Rec) (X : ByteArray) (hX : X = x.1.1) (Y : Int) (hY : Y = (x.1.2 : Int)) (r : RecV) (hr : rcO n X = some r) (hm : m < 4000) :
    Calls Tryz.prog 13 #[.int .i64 n, .string X] W fun e w1 => ∃ q : RQ, e = .returned (.tuple #[.agg #[.int .i64 q.r.kind, .int .i64 q.r.id, .int .i64 q.r.op, .int .i64 q.r.a, .int .i64 q.r.b, .int .i64 q.r.sh, .int .i64 q.r.an.num, .bool q.r.an.ok, .slice q.a1 q.k1 q.c1, .slice q.a2 q.k2 q.c2, .int .i64 q.r.o.num, .int .i64 q.r.o.op, .slice q.a3 q.k3 q.c3, .int .i64 q.r.o.v], .bool true]) ∧ w1.cell? ⟨w.heap.size + 1 + 1, 0, none⟩ = some (.slice a m c) ∧ w.heap.size + 1 + 1 + 1 + 1 < w1.heap.size ∧
      ∃ g' cap' w4, (Builtin.append_ #[22, 22] 22 #[.slice a m c, .slice (some ⟨w1.heap.size + 1, 0, none⟩) 1 1]).run Tryz.prog ((w1.alloc (.cells #[.int .i64 q.r.kind, .int .i64 q.r.id, .int .i64 q.r.op, .int .i64 q.r.a, .int .i64 q.r.b, .int .i64 q.r.sh, .int .i64 q.r.an.num, .bool q.r.an.ok, .slice q.a1 q.k1 q.c1, .slice q.a2 q.k2 q.c2, .int .i64 q.r.o.num, .int .i64 q.r.o.op, .slice q.a3 q.k3 q.c3, .int .i64 q.r.o.v] 40)).alloc (.cells #[.int .i64 q.r.kind, .int .i64 q.r.id, .int .i64 q.r.op, .int .i64 q.r.a, .int .i64 q.r.b, .int .i64 q.r.sh, .int .i64 q.r.an.num, .bool q.r.an.ok, .slice q.a1 q.k1 q.c1, .slice q.a2 q.k2 q.c2, .int .i64 q.r.o.num, .int .i64 q.r.o.op, .slice q.a3 q.k3 q.c3, .int .i64 q.r.o.v] 40)) = .ok (.slice (some ⟨g', 0, none⟩) (m + 1) cap') w4 ∧
        w4.cell? ⟨w.heap.size + 1 + 1, 0, none⟩ = some (.slice a m c) ∧ w4.frozen? ⟨w.heap.size + 1 + 1, 0, none⟩ = false ∧ w4.cell? ⟨w.heap.size + 1 + 1 + 1, 0, none⟩ = some (.int .i64 (F.endOf pre : Int)) ∧ w4.frozen? ⟨w.heap.size + 1 + 1 + 1, 0, none⟩ = false ∧
        KeepsOthers W ((w4.setCell ⟨w.heap.size + 1 + 1, 0, none⟩ (.slice (some ⟨g', 0, none⟩) (m + 1) cap')).setCell ⟨w.heap.size + 1 + 1 + 1, 0, none⟩ (.int .i64 Y)) ∧
        F.KeepF w.heap.size (w.heap.size + 1 + 1 + 1 + 1) W ((w4.setCell ⟨w.heap.size + 1 + 1, 0, none⟩ (.slice (some ⟨g', 0, none⟩) (m + 1) cap')).setCell ⟨w.heap.size + 1 + 1 + 1, 0, none⟩ (.int .i64 Y)) ∧
        JRI n w w.heap.size (pre ++ [x]) ((w4.setCell ⟨w.heap.size + 1 + 1, 0, none⟩ (.slice (some ⟨g', 0, none⟩) (m + 1) cap')).setCell ⟨w.heap.size + 1 + 1 + 1, 0, none⟩ (.int .i64 Y)) := by
  obtain ⟨i0, hi, hz0, hz1, hz2⟩ := info_parts infoRec17
  have hxs : X.size ≤ 1048576 := by rw [hX]; have := x.2; omega
  refine (iReadRec_any n X hxs W (some r) (by rw [← hr]; exact rcO_is n X)).mono ?_
  rintro e w1 ⟨⟨a1, k1, c1, a2, k2, c2, a3, k3, c3, rfl, hrc⟩, hb1⟩
  have hsz := J.sz
  have z1 := hb1.size
  have hl := J.rs.lows
  have hq1 : RQ.ok ⟨r, a1, k1, c1, a2, k2, c2, a3, k3, c3, W.heap.size, w1.heap.size⟩ w1 := ok_of hrc
  obtain ⟨q, hq⟩ : ∃ q : RQ, q = ⟨r, a1, k1, c1, a2, k2, c2, a3, k3, c3, W.heap.size, w1.heap.size⟩ := ⟨_, rfl⟩
  rw [← hq] at hq1
  have e1 : q.lo = W.heap.size := by rw [hq]
  have e2 : q.hi = w1.heap.size := by rw [hq]
  have e3 : q.r = r := by rw [hq]
  refine ⟨q, by rw [hq]; rfl, ?_⟩
  have hg1 := F.grown_low hb1 none
  have hn1 := J.hn.kept hg1 (by simp)
  have hv1 := J.hv.kept hg1 (by simp)
  have hE1 := J.hE.kept hg1 (by simp)
  refine ⟨hv1.cell, by omega, ?_⟩
  obtain ⟨w3, hw3⟩ : ∃ w3, w3 = (w1.alloc (.cells #[.int .i64 q.r.kind, .int .i64 q.r.id, .int .i64 q.r.op, .int .i64 q.r.a, .int .i64 q.r.b, .int .i64 q.r.sh, .int .i64 q.r.an.num, .bool q.r.an.ok, .slice q.a1 q.k1 q.c1, .slice q.a2 q.k2 q.c2, .int .i64 q.r.o.num, .int .i64 q.r.o.op, .slice q.a3 q.k3 q.c3, .int .i64 q.r.o.v] 40)).alloc (.cells #[.int .i64 q.r.kind, .int .i64 q.r.id, .int .i64 q.r.op, .int .i64 q.r.a, .int .i64 q.r.b, .int .i64 q.r.sh, .int .i64 q.r.an.num, .bool q.r.an.ok, .slice q.a1 q.k1 q.c1, .slice q.a2 q.k2 q.c2, .int .i64 q.r.o.num, .int .i64 q.r.o.op, .slice q.a3 q.k3 q.c3, .int .i64 q.r.o.v] 40) := ⟨_, rfl⟩
  have K3 : Below w1.heap.size w1 w3 := by rw [hw3]; exact ((Below.refl _ _).alloc (Nat.le_refl _) _).alloc (by simp) _
  have z3 : w3.heap.size = w1.heap.size + 2 := by rw [hw3]; simp
  have hg3 := F.grown_low K3 none
  have hn3 := hn1.kept hg3 (by simp)
  have hv3 := hv1.kept hg3 (by simp)
  have hE3 := hE1.kept hg3 (by simp)
  have R3 := (J.rs.up hb1).up K3
  have Q3 : q.ok w3 := hq1.trn (trn_below K3) (fun _ e => e.elim)
  have hrow3 : w3.heap[w1.heap.size + 1]? = some (.cells #[.int .i64 q.r.kind, .int .i64 q.r.id, .int .i64 q.r.op, .int .i64 q.r.a, .int .i64 q.r.b, .int .i64 q.r.sh, .int .i64 q.r.an.num, .bool q.r.an.ok, .slice q.a1 q.k1 q.c1, .slice q.a2 q.k2 q.c2, .int .i64 q.r.o.num, .int .i64 q.r.o.op, .slice q.a3 q.k3 q.c3, .int .i64 q.r.o.v] 40 (0, 0)) := by
    have h := heap_alloc_new (w1.alloc (.cells #[.int .i64 q.r.kind, .int .i64 q.r.id, .int .i64 q.r.op, .int .i64 q.r.a, .int .i64 q.r.b, .int .i64 q.r.sh, .int .i64 q.r.an.num, .bool q.r.an.ok, .slice q.a1 q.k1 q.c1, .slice q.a2 q.k2 q.c2, .int .i64 q.r.o.num, .int .i64 q.r.o.op, .slice q.a3 q.k3 q.c3, .int .i64 q.r.o.v] 40)) (.cells #[.int .i64 q.r.kind, .int .i64 q.r.id, .int .i64 q.r.op, .int .i64 q.r.a, .int .i64 q.r.b, .int .i64 q.r.sh, .int .i64 q.r.an.num, .bool q.r.an.ok, .slice q.a1 q.k1 q.c1, .slice q.a2 q.k2 q.c2, .int .i64 q.r.o.num, .int .i64 q.r.o.op, .slice q.a3 q.k3 q.c3, .int .i64 q.r.o.v] 40)
    rw [show (w1.alloc (.cells #[.int .i64 q.r.kind, .int .i64 q.r.id, .int .i64 q.r.op, .int .i64 q.r.a, .int .i64 q.r.b, .int .i64 q.r.sh, .int .i64 q.r.an.num, .bool q.r.an.ok, .slice q.a1 q.k1 q.c1, .slice q.a2 q.k2 q.c2, .int .i64 q.r.o.num, .int .i64 q.r.o.op, .slice q.a3 q.k3 q.c3, .int .i64 q.r.o.v] 40)).heap.size = w1.heap.size + 1 by simp] at h
    rw [hw3]
    exact h
  obtain ⟨g', cap', w4, happ, hown4, hgr4, hlies, hlt4⟩ := run_append_lies (P := Tryz.prog) w3 22 22 w.heap.size 40 i0 _ 14 160 Tryz.underlying22 hi hz0 hz1 hz2 rfl (by decide) (.slice a m c) m (qcells qs) R3.row ⟨w1.heap.size + 1, 0, none⟩ 1 1 (rqC q) rfl
    (fun j u hu => by
      have hj : (⟨w1.heap.size + 1, 0, none⟩ : Addr).add j = ⟨w1.heap.size + 1, j, none⟩ := by
        by_cases h0 : j = 0
        · subst h0; rfl
        · simp [Addr.add, h0]
      rw [hj, cell_of_row w3 (w1.heap.size + 1) j _ _ _ hrow3]
      show (rqC q).toArray[j]? = some u
      rw [List.getElem?_toArray]
      exact hu) (rq_one q) (by omega) (by unfold maxLen; omega) (by omega) (by omega) _ rfl
  rw [hw3] at happ
  have nv := hv3.not_row (by decide) R3.row
  have nE : some (w.heap.size + 1 + 1 + 1) ≠ (Value.slice a m c).ownBlock := by
    have h := hE3.not_row (t := 3) (by decide) R3.row
    exact h
  have nn : some w.heap.size ≠ (Value.slice a m c).ownBlock := hn3.not_row (by decide) R3.row
  have hn4 := hn3.kept hgr4 nn
  have hv4 := hv3.kept hgr4 nv
  have hE4 := hE3.kept hgr4 nE
  have R4 : RS w4 w.heap.size (some ⟨g', 0, none⟩) (m + 1) cap' (qs ++ [q]) := R3.snoc Q3 (by rw [e1]; omega) (fun p hp => by rw [e1]; exact hl.2 p hp) (fun g hg => by rw [e1]; exact hl.1 g hg) hgr4 hown4 (hlies.imp id (fun h => by omega))
  have g4 : g' ≠ w.heap.size + 1 + 1 + 1 + 1 := by
    rcases hlies with h | h
    · exact J.gne g' h
    · omega
  have l4 : ∀ p ∈ qs ++ [q], w.heap.size + 5 ≤ p.lo := fun p hp => by
    rcases List.mem_append.1 hp with hp | hp
    · exact J.lo p hp
    · simp at hp; rw [hp, e1]; omega
  have R5 := R4.avoid (set_trnB w4 (w.heap.size + 1 + 1) (.slice (some ⟨g', 0, none⟩) (m + 1) cap')) (fun g hg e => hv4.not_row (by decide) R4.row (by rw [hg, e])) (fun p hp k hk => .inl (by have := l4 p hp; omega))
  have hE5 := hE4.other (B' := w.heap.size + 1 + 1) (by omega) (.slice (some ⟨g', 0, none⟩) (m + 1) cap')
  have R6 := R5.avoid (set_trnB _ (w.heap.size + 1 + 1 + 1) (.int .i64 Y)) (fun g hg e => hE5.not_row (by decide) R5.row (by rw [hg, e])) (fun p hp k hk => .inl (by have := l4 p hp; omega))
  have low4 : Below w.heap.size W w4 := ((hb1.mono (by omega)).trans (K3.mono (by omega))).grown hgr4 (by omega) (fun j hj => (R3.row.lt j hj).1)
  have low6 : Below w.heap.size W ((w4.setCell ⟨w.heap.size + 1 + 1, 0, none⟩ (.slice (some ⟨g', 0, none⟩) (m + 1) cap')).setCell ⟨w.heap.size + 1 + 1 + 1, 0, none⟩ (.int .i64 Y)) := (low4.setCell (by show _ ≤ w.heap.size + 1 + 1; omega) _).setCell (by show _ ≤ w.heap.size + 1 + 1 + 1; omega) _
  refine ⟨g', cap', w4, happ, hv4.cell, hv4.frozen, hE4.cell, hE4.frozen, ?_, ?_, ?_⟩
  · exact ((((KeepsOthers.of_grownBy hg1 (fun j o ej _ => by cases ej)).trans (KeepsOthers.of_grownBy hg3 (fun j o ej _ => by cases ej))).trans (KeepsOthers.of_grownBy hgr4 (owned_cells R3.row))).trans (KeepsOthers.setCell _ _ _)).trans (KeepsOthers.setCell _ _ _)
  · refine ⟨low6, fun v hc => ?_⟩
    rw [← hc]
    refine World.cell?_of_block ?_
    show ((w4.setCell _ _).setCell _ _).heap[w.heap.size + 1 + 1 + 1 + 1]? = _
    rw [Below.heap_setCell _ _ _ _ (by show w.heap.size + 1 + 1 + 1 + 1 ≠ w.heap.size + 1 + 1 + 1; omega), Below.heap_setCell _ _ _ _ (by show w.heap.size + 1 + 1 + 1 + 1 ≠ w.heap.size + 1 + 1; omega), hgr4.block _ (by omega) (fun e => J.gne _ e.symm rfl), K3.block _ (by omega), hb1.block _ hsz]
  · refine ⟨_, _, _, qs ++ [q], (hn4.other (by omega) _).other (by omega) _, (hv4.set _).other (by omega) _, R6, ?_, ?_, J.low.trans low6, ?_, l4, fun g hg => ?_⟩
    · rw [F.txts_snoc, List.map_append, J.ok, List.map_append, List.map_append, List.map_cons, List.map_cons, List.map_cons, ← hX, hr, e3]
      rfl
    · have h := hE5.set (.int .i64 Y)
      rw [hY] at h ⊢
      rw [F.endOf_snoc]
      exact h
    · have := low6.size
      exact Nat.lt_of_lt_of_le hsz (by have h1 := hgr4.size; simp; omega)
    · have hg' : some g' = some g := hg
      simp only [Option.some.injEq] at hg'
      rw [← hg']
      exact g4
theorem iReadRecs_long (n : Int) (s : ByteArray) (hs : 20000 < s.size) (hm : s.size ≤ maxLen) (w : World) : Calls Tryz.prog 5 #[.int .i64 n, .string s] w (RrsA n s w) := by
  unfold maxLen at hm
  have E := hideIt (F.un_long s hs)
  go_enter Tryz.func5, Tryz.ntmps5
  go_wp2
  go_region
  all_goals
    go_wp2
    go_ret2
    unfold RrsA
    rw [E.out]
    refine ⟨some ⟨w.heap.size + 1, 0, none⟩, 0, 0, [], rfl, ?_, rfl, ?_⟩
    · have r0 := RS.made (w.alloc (.cells #[.int .i64 n] 3)) w.heap.size (by simp)
      rw [show (w.alloc (.cells #[.int .i64 n] 3)).heap.size = w.heap.size + 1 by simp] at r0
      have up1 : ∀ (u : World) (o : Obj), Below u.heap.size u (u.alloc o) := fun u o => (Below.refl _ _).alloc (Nat.le_refl _) o
      exact ((r0.up (up1 _ _)).up (up1 _ _)).up (Below.drew (Below.refl _ _))
    · exact (((((Below.refl _ w).alloc (Nat.le_refl _) _).alloc (by simp) _).alloc (by simp; omega) _).alloc (by simp; omega) _).drew
set_option maxRecDepth 100000 in
set_option maxHeartbeats 8000000 in
theorem iReadRecs_short (n : Int) (s : ByteArray) (hs : s.size ≤ 20000) (w : World) (ht : Tab w) : Calls Tryz.prog 5 #[.int .i64 n, .string s] w (RrsA n s w) := by
  obtain ⟨i0, hi, hz0, hz1, hz2⟩ := info_parts infoRec17
  have hmx : Tryz.prog.follows .mixedOrders = true := by kernel_rfl
  have d0 : decide ((20000 : Int) < (s.size : Int)) = false := by simp; omega
  have HT := hideIt ht
  clear ht
  refine (callsIn_wide (n := 6)).1 ?_
  refine callsIn_of_wp_marks Tryz.func5 rfl trivial ?_ rfl
  simp only [Tryz.ntmps5, List.size_toArray, List.length_cons, List.length_nil, Nat.reduceAdd, Nat.reduceSub, Array.replicate_succ, Array.replicate_zero, List.push_toArray, List.append_toArray, List.nil_append, List.cons_append]
  gi_wp2_with (refine ⟨trivial, ?_⟩; gi_at_call 12; refine (F.framesOf_in _ s _).mono ?_; rintro e w' ⟨rfl, rfl⟩)
  have hB0 : Below w.heap.size w (((((w.alloc (.cells #[.int .i64 n] 3)).alloc (.cells #[] 40)).alloc (.cells #[.slice (some ⟨w.heap.size + 1, 0, none⟩) 0 0] 22)).alloc (.cells #[.int .i64 0] 3)).alloc (.cells #[.string s] 9)) := (((((Below.refl _ w).alloc (Nat.le_refl _) _).alloc (by simp) _).alloc (by simp; omega) _).alloc (by simp; omega) _).alloc (by simp; omega) _
  have J0 : JR n w w.heap.size [] (some ⟨w.heap.size + 1, 0, none⟩) 0 0 [] (((((w.alloc (.cells #[.int .i64 n] 3)).alloc (.cells #[] 40)).alloc (.cells #[.slice (some ⟨w.heap.size + 1, 0, none⟩) 0 0] 22)).alloc (.cells #[.int .i64 0] 3)).alloc (.cells #[.string s] 9)) := by
    have r0 := RS.made (w.alloc (.cells #[.int .i64 n] 3)) w.heap.size (by simp)
    rw [show (w.alloc (.cells #[.int .i64 n] 3)).heap.size = w.heap.size + 1 by simp] at r0
    have up1 : ∀ (u : World) (o : Obj), Below u.heap.size u (u.alloc o) := fun u o => (Below.refl _ _).alloc (Nat.le_refl _) o
    have bn := Boxed.new w 3 (.int .i64 n)
    have bv := Boxed.new ((w.alloc (.cells #[.int .i64 n] 3)).alloc (.cells #[] 40)) 22 (.slice (some ⟨w.heap.size + 1, 0, none⟩) 0 0)
    rw [World.size_alloc, World.size_alloc] at bv
    have bE := Boxed.new (((w.alloc (.cells #[.int .i64 n] 3)).alloc (.cells #[] 40)).alloc (.cells #[.slice (some ⟨w.heap.size + 1, 0, none⟩) 0 0] 22)) 3 (.int .i64 0)
    rw [World.size_alloc, World.size_alloc, World.size_alloc] at bE
    refine ⟨(((bn.alloc _).alloc _).alloc _).alloc _, (bv.alloc _).alloc _, ((r0.up (up1 _ _)).up (up1 _ _)).up (up1 _ _), rfl, bE.alloc _, hB0, by simp, by simp, fun g hg => ?_⟩
    have hg' : some (w.heap.size + 1) = some g := hg
    simp only [Option.some.injEq] at hg'
    omega
  have bF := Boxed.new ((((w.alloc (.cells #[.int .i64 n] 3)).alloc (.cells #[] 40)).alloc (.cells #[.slice (some ⟨w.heap.size + 1, 0, none⟩) 0 0] 22)).alloc (.cells #[.int .i64 0] 3)) 9 (.string s)
  rw [World.size_alloc, World.size_alloc, World.size_alloc, World.size_alloc] at bF
  refine wpIn_rangeFunc_ownG rfl (by omega) (gf := 30) (lb := #[.pointer (some ⟨w.heap.size + 1 + 1 + 1 + 1, 0, none⟩)]) rfl trivial (enters_of Tryz.func30 (by kernel_rfl) rfl)
    (F.frames_stops2 5 (w.heap.size + 1 + 1 + 1 + 1) (by omega) s hs w HT.out _ hB0 (by simp) bF.cell) F.KeepF.trans (F.KeepF.turn (by simp; omega)) (Below.refl _ _) (fun _ => rfl)
    (JRI n w w.heap.size)
    (fun c pre W => c = .exit 0 ∧ ∃ p x, pre = p ++ [x] ∧ JRI n w w.heap.size p W ∧ rcO n x.1.1 = none)
    (JRI.own n w w.heap.size _ (by simp; omega))
    (fun c pre W W' row hs hg hr => by
      obtain ⟨h1, p, x, h2, h3, h4⟩ := hs
      exact ⟨h1, p, x, h2, JRI.own n w w.heap.size _ (by simp; omega) p W W' row h3 hg hr, h4⟩)
    ⟨_, _, _, _, J0⟩
    (fun x => { tmps := #[.int .i64 n, .string s, .pointer (some ⟨w.heap.size, 0, none⟩), undef, .slice none 0 0, .int .i64 0, .pointer (some ⟨w.heap.size + 1 + 1, 0, none⟩), .pointer (some ⟨w.heap.size + 1 + 1 + 1, 0, none⟩), .string x.1.1, .int .i64 (x.1.2 : Int), undef, undef, .slice (some ⟨w.heap.size + 1, 0, none⟩) 0 0, .string s, .int .i64 (s.size : Int), .bool false, undef, undef, .string s, .func (.func 30) #[] #[.pointer (some ⟨w.heap.size + 1 + 1 + 1 + 1, 0, none⟩)], .string x.1.1, .int .i64 (x.1.2 : Int), undef, undef, undef, undef, undef, undef, undef, undef, undef, undef, undef, undef, undef, undef, undef], defers := [] }) ?assign ?body ?done ?stop
  case assign =>
    intro l x W K hK
    gi_wp2
    exact hK
  case body =>
    rintro l pre x W ⟨a, m, c, qs, J⟩ hlt
    have hm4 : m < 4000 := by have := J.len; omega
    have hxs : x.1.1.size ≤ 1048576 := by have := x.2; omega
    obtain ⟨X, hX⟩ : ∃ X, X = x.1.1 := ⟨_, rfl⟩
    obtain ⟨Y, hY⟩ : ∃ Y : Int, Y = (x.1.2 : Int) := ⟨_, rfl⟩
    have HXX := hideIt hX
    rw [← hX] at hxs ⊢
    rw [← hY]
    have cn := J.hn.cell
    have hWs := J.sz
    cases hr : rcO n X with
    | none =>
      have HJ := hideIt J
      have HR := hideIt (iReadRec_any n X hxs W none (by rw [← hr]; exact rcO_is n X))
      have HRR := hideIt hr
      clear J0 bF hX hY J hr
      gi_wp2_with (refine ⟨trivial, ?_⟩; gi_at_call 13; refine (CallsIn.inRound l (callsIn_wide.2 HR.out)).mono ?_; rintro e w1 ⟨⟨a1, k1, c1, a2, k2, c2, a3, k3, c3, rfl, _⟩, hb1⟩)
      refine ⟨((KeepsOthers.of_grownBy (F.grown_low hb1 none) (fun j o ej _ => by cases ej)).trans (KeepsOthers.alloc _ _)).from _, rfl, pre, x, rfl, ?_, by rw [← HXX.out]; exact HRR.out⟩
      exact JRI.own n w w.heap.size w.heap.size (Nat.le_refl _) pre W _ none ⟨_, _, _, _, HJ.out⟩ (F.grown_low (hb1.alloc hb1.size _) none) (fun r e => by cases e)
    | some r =>
      have HRd := hideIt (rec_round J x X hX Y hY r hr hm4)
      clear J0 bF hX hY J hr
      gi_wp2_with (first
        | (refine ⟨trivial, ?_⟩; gi_at_call 13; refine (CallsIn.inRound l (callsIn_wide.2 HRd.out)).mono ?_; rintro e w1 ⟨q, rfl, hc1, hz1, g', cap', w4, happ, hx1, hx2, hx3, hx4, hko, hkf, hJ⟩; have hz2 : w.heap.size + 1 + 1 < w1.heap.size := by omega)
        | (gi_at_builtin; refine wpListIn_append_lies _ rfl _ _ 22 rfl rfl rfl happ ?_))
      exact ⟨hko.from _, hkf, hJ⟩
  case done =>
    rintro D ys W hD hun ⟨a, m, c, qs, J⟩ hK
    have hc := J.hv.cell
    have hc2 := J.hE.cell
    have HE : Hid (rds n (F.un s).1 = (qs.map RQ.r, F.endOf ys)) := by
      obtain ⟨p0, a0, h1, h2, _⟩ := F.un_at s hs
      have h3 : (p0, a0) = (F.txts ys, F.endOf ys) := by rw [← h1]; exact hun
      simp only [Prod.mk.injEq] at h3
      rw [h3.1, h3.2] at h2
      have h4 := (h2.sum hs).1
      rw [hun]
      show rds n (F.txts ys) = _
      rw [rds_done n _ _ J.ok, ← h4]
    have HJ := hideIt J
    clear J0 bF hB0 J
    gi_wp2
    gi_big_quiet_th_o (fail)
    all_goals
      gi_wp2
      have hK2 : (W.drewN nq).heap[D]? = some (.deferred (some [])) := hK
      refine ⟨by simp, .inl ⟨_, _, rfl, run_takeDeferred hK2, ?_⟩⟩
      refine ⟨.tuple #[.slice a m c, .int .i64 (F.endOf ys : Int)], by simp [results, Tryz.results5, go_sem], ?_⟩
      have kN : Below W.heap.size W (W.drewN nq) := below_drewN (Below.refl _ _) nq
      unfold RrsA
      rw [HE.out]
      exact ⟨_, _, _, qs, rfl, (HJ.out.rs.up kN).keepC (grownBy_putObj' _ D _) (fun r e => by cases e; exact ⟨_, hK2, rfl⟩), rfl, (below_drewN HJ.out.low nq).trans (belowK_b (w := w) (Nat.le_refl _) (W.drewN nq) D _ _ (by simp at hD; omega) hK2 rfl rfl)⟩
  case stop =>
    rintro D cd pre W hD hst ⟨rfl, p, x, rfl, ⟨a, m, c, qs, J⟩, hx⟩ hK
    have HE : Hid (rds n (F.un s).1 = (qs.map RQ.r, F.endOf p)) := by
      obtain ⟨p', x', h1, h2, h3⟩ := hst
      obtain ⟨rfl, h4⟩ := List.append_inj' h1 rfl
      simp only [List.cons.injEq, and_true] at h4
      subst h4
      have h5 := (h2.sum hs).1
      obtain ⟨Q, h6⟩ := ((h2.step h3).sum hs).2
      rw [h6, List.append_assoc]
      show rds n (F.txts p ++ x.1.1 :: Q) = _
      rw [rds_stop n _ _ _ _ J.ok hx, ← h5]
    have hc := J.hv.cell
    have hc2 := J.hE.cell
    have HJ := hideIt J
    clear J0 bF hB0 J
    gi_wp2
    gi_big_quiet_th_o (fail)
    all_goals
      gi_wp2
      have hK2 : (W.drewN nq).heap[D]? = some (.deferred (some [])) := hK
      refine ⟨by simp, .inl ⟨_, _, rfl, run_takeDeferred hK2, ?_⟩⟩
      refine ⟨.tuple #[.slice a m c, .int .i64 (F.endOf p : Int)], by simp [results, Tryz.results5, go_sem], ?_⟩
      have kN : Below W.heap.size W (W.drewN nq) := below_drewN (Below.refl _ _) nq
      unfold RrsA
      rw [HE.out]
      exact ⟨_, _, _, qs, rfl, (HJ.out.rs.up kN).keepC (grownBy_putObj' _ D _) (fun r e => by cases e; exact ⟨_, hK2, rfl⟩), rfl, (below_drewN HJ.out.low nq).trans (belowK_b (w := w) (Nat.le_refl _) (W.drewN nq) D _ _ (by simp at hD; omega) hK2 rfl rfl)⟩
theorem iReadRecs_any (n : Int) (s : ByteArray) (hs : s.size ≤ maxLen) (w : World) (ht : Tab w) : Calls Tryz.prog 5 #[.int .i64 n, .string s] w (RrsA n s w) := by
  by_cases h : s.size ≤ 20000
  · exact iReadRecs_short n s h w ht
  · exact iReadRecs_long n s (by omega) hs w
end Go.Proofs.YtcieanhbipbhgaaGreatDoor
