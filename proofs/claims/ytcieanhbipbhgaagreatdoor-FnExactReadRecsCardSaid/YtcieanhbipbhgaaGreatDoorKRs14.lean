/- The library's contracts at this program, by the shelf's own laying in plain words: each body is held against the body of which its contract was proved. What the program's ReadShort answers. What lies in memory while an answer is read; the program's reader of a flag and of labels. The program's ReadAnswer. The program's reader of records: short texts, questions, answers, orders. -/
import Derived.Shelf.LaysM
import Derived.Shelf.Strconv.Clone
import Derived.Test.YtcieanhbipbhgaaGreatDoorProg
import Derived.Test.YtcieanhbipbhgaaGreatDoorKOr10
import Derived.Lib.Strings
import Derived.WalkSpells
import Derived.Test.YtcieanhbipbhgaaGreatDoorKRp14
import Derived.Test.YtcieanhbipbhgaaGreatDoorKBq14
namespace Go.Proofs
open Go.Shelf
def Tryz.laysM316_ren : Go.Shelf.Ren := ⟨fun | 316 => 95 | n => n, fun | 9 => 9 | 3 => 3 | 4 => 4 | 37 => 86 | 0 => 0 | 127 => 134 | 5 => 5 | n => n, fun | n => n⟩
theorem Tryz.laysM316 : Go.Proofs.LaysM.n316 Tryz.prog Tryz.laysM316_ren := {
  mixed := by kernel_rfl
  f316 := Tryz.func95.trans (congrArg some (by kernel_rfl))
  t0 := Tryz.underlying0
  a0 := Tryz.isAgg0
  z0 := Tryz.sizeOf0
  v0 := Tryz.zeroValue0
  t3 := Tryz.underlying3
  a3 := Tryz.isAgg3
  z3 := Tryz.sizeOf3
  v3 := Tryz.zeroValue3
  t4 := Tryz.underlying4
  a4 := Tryz.isAgg4
  z4 := Tryz.sizeOf4
  v4 := Tryz.zeroValue4
  t9 := Tryz.underlying9
  a9 := Tryz.isAgg9
  z9 := Tryz.sizeOf9
  v9 := Tryz.zeroValue9
  t37 := Tryz.underlying86
  a37 := Tryz.isAgg86
  z37 := Tryz.sizeOf86
  v37 := Tryz.zeroValue86
  t127 := Tryz.underlying134
  a127 := Tryz.isAgg134
  z127 := Tryz.sizeOf134
  v127 := Tryz.zeroValue134
  t5 := Tryz.underlying5
  a5 := Tryz.isAgg5
  z5 := Tryz.sizeOf5
  v5 := Tryz.zeroValue5
  i0 := by kernel_rfl
  i3 := by kernel_rfl
  i4 := by kernel_rfl
  i5 := by kernel_rfl
  i9 := by kernel_rfl
  i37 := by kernel_rfl
  i127 := by kernel_rfl }
open Go.RowKit in
theorem Tryz.stringslite_Clone (s : ByteArray) (w : World) (hlim : s.size ≤ 281474976710656) :
    Calls Tryz.prog 95 #[.string s] w fun e w' => e = .returned (.string s) ∧ Below w.heap.size w w' := Any.stringslite_Clone Tryz.laysM316 s w hlim
end Go.Proofs
namespace Go.Proofs.YtcieanhbipbhgaaGreatDoor
open Go.RowKit Vt

theorem cut_size (s : ByteArray) (j n : Nat) (hs : s.size ≤ 1048576) : (s.extract j (j + n)).size ≤ 1048576 := by
  rw [ByteArray.size_extract]
  omega

theorem clone_any (s : ByteArray) (h : s.size ≤ 1048576) (w : World) :
    Calls Tryz.prog 90 #[.string s] w fun e w' => e = .returned (.string s) ∧ Below w.heap.size w w' := by
  go_enter Tryz.func90, Tryz.ntmps90
  go_wp2_with (go_at_call 95; refine (Tryz.stringslite_Clone s _ (by omega)).mono ?_; rintro e w1 ⟨rfl, hb1⟩)
  go_ret
  exact ⟨rfl, hb1⟩

theorem iReadShort_none (s : ByteArray) (hs : s.size ≤ 1048576) (a : Int) (hr : rvI s a = none) (w : World) :
    Calls Tryz.prog 83 #[.string s, .int .i64 a] w fun e w' => e = .returned (.tuple #[.string ⟨#[]⟩, .int .i64 0, .bool false]) ∧ Below w.heap.size w w' := by
  have H := fun w => iReadVar_any s hs a w
  rw [hr] at H
  unfold rvV at H
  have K : Hid _ := H
  clear H hr
  go_enter Tryz.func83, Tryz.ntmps83
  go_wp2_with (go_at_call 43; refine (K.out _).mono ?_; rintro e w1 ⟨rfl, hw1⟩; subst hw1)
  go_ret3
  exact ⟨rfl, Below.refl _ _⟩

theorem iReadShort_big (s : ByteArray) (hs : s.size ≤ 1048576) (a : Int) (n j : Nat) (hr : rvI s a = some (n, j)) (hb : 20000 < n ∨ s.size < j + n) (w : World) :
    Calls Tryz.prog 83 #[.string s, .int .i64 a] w fun e w' => e = .returned (.tuple #[.string ⟨#[]⟩, .int .i64 0, .bool false]) ∧ Below w.heap.size w w' := by
  have H := fun w => iReadVar_any s hs a w
  have hbd := rvI_some hr
  rw [hr] at H
  unfold rvV at H
  have K : Hid _ := H
  clear H hr
  by_cases h1 : 20000 < n
  · have d1 : decide ((20000 : Int) < (n : Int)) = true := by simp; omega
    clear hb
    go_enter Tryz.func83, Tryz.ntmps83
    go_wp2_with (go_at_call 43; refine (K.out _).mono ?_; rintro e w1 ⟨rfl, hw1⟩; subst hw1)
    go_ret3
    exact ⟨rfl, Below.refl _ _⟩
  · have d1 : decide ((20000 : Int) < (n : Int)) = false := by simp; omega
    have h2 : (s.size : Int) - (j : Int) < (n : Int) := by omega
    have d2 : decide ((s.size : Int) - (j : Int) < (n : Int)) = true := by simp; omega
    clear hb
    go_enter Tryz.func83, Tryz.ntmps83
    go_wp2_with (go_at_call 43; refine (K.out _).mono ?_; rintro e w1 ⟨rfl, hw1⟩; subst hw1)
    go_ret3
    exact ⟨rfl, Below.refl _ _⟩

theorem iReadShort_yes (s : ByteArray) (hs : s.size ≤ 1048576) (a : Int) (n j : Nat) (hr : rvI s a = some (n, j)) (h1 : n ≤ 20000) (h2 : j + n ≤ s.size) (w : World) :
    Calls Tryz.prog 83 #[.string s, .int .i64 a] w fun e w' => e = .returned (.tuple #[.string (s.extract j (j + n)), .int .i64 ((j : Int) + (n : Int)), .bool true]) ∧ Below w.heap.size w w' := by
  have H := fun w => iReadVar_any s hs a w
  have hbd := rvI_some hr
  rw [hr] at H
  unfold rvV at H
  have K : Hid _ := H
  clear H hr
  have d1 : decide ((20000 : Int) < (n : Int)) = false := by simp; omega
  have d2 : decide ((s.size : Int) - (j : Int) < (n : Int)) = false := by simp; omega
  go_enter Tryz.func83, Tryz.ntmps83
  go_wp2_with (go_at_call 43; refine (K.out _).mono ?_; rintro e w1 ⟨rfl, hw1⟩; subst hw1)
  have hz := cut_size s j n hs
  refine (clone_any (s.extract j (j + n)) hz _).mono ?_
  rintro e w2 ⟨rfl, hb2⟩
  go_wp2
  go_ret3
  exact ⟨rfl, hb2⟩

end Go.Proofs.YtcieanhbipbhgaaGreatDoor
namespace Go.Proofs.YtcieanhbipbhgaaGreatDoor
open Go.RowKit Vt

/-- the reader in block G, the answer in block O, the result's box R -/
structure RA (e : Prop) (t : TypeId) (w W : World) (G O R : Nat) (s : ByteArray) (st : Option (List UInt8)) (num : Int) (ok : Bool) (a : Option Addr) (k c : Nat) (a' : Option Addr) (k' c' : Nat) : Prop where
  rd : RdAt e t W G s st
  ob : W.heap[O]? = some (.cells (ac num ok a k c a' k' c') 36 (0, 0))
  rb : W.heap[R]? = some (.cells (ac 0 false none 0 0 none 0 0) 36 (0, 0))
  bel : Below w.heap.size w W
  ge : w.heap.size ≤ G ∧ w.heap.size ≤ O ∧ w.heap.size ≤ R
  ne : G ≠ O ∧ G ≠ R ∧ O ≠ R

section
variable {e : Prop} {t : TypeId} {w W W' : World} {G O R : Nat} {s : ByteArray} {st st' : Option (List UInt8)} {num : Int} {ok : Bool} {a : Option Addr} {k c : Nat} {a' : Option Addr} {k' c' : Nat}
theorem RA.lt (h : RA e t w W G O R s st num ok a k c a' k' c') : G < W.heap.size ∧ O < W.heap.size ∧ R < W.heap.size :=
  ⟨h.rd.lt, (Array.getElem?_eq_some_iff.1 h.ob).1, (Array.getElem?_eq_some_iff.1 h.rb).1⟩
theorem RA.call (h : RA e t w W G O R s st num ok a k c a' k' c') (hr : RdAt e t W' G s st') (hg : W.grownBy W' (some G)) : RA e t w W' G O R s st' num ok a k c a' k' c' :=
  ⟨hr, by rw [hg.block O h.lt.2.1 (by simp; exact Ne.symm h.ne.1)]; exact h.ob, by rw [hg.block R h.lt.2.2 (by simp; exact Ne.symm h.ne.2.1)]; exact h.rb, bel_grown h.bel hg h.ge.1, h.ge, h.ne⟩
theorem RA.cells (h : RA e t w W G O R s st num ok a k c a' k' c') : W.cell? ⟨O, 0, none⟩ = some (.int .i64 num) ∧ W.cell? ⟨O, 1, none⟩ = some (.bool ok) ∧ W.cell? ⟨O, 2, none⟩ = some (.slice a k c) ∧ W.cell? ⟨O, 3, none⟩ = some (.slice a' k' c') :=
  ⟨by rw [cell_of_row W O 0 _ _ _ h.ob]; rfl, by rw [cell_of_row W O 1 _ _ _ h.ob]; rfl, by rw [cell_of_row W O 2 _ _ _ h.ob]; rfl, by rw [cell_of_row W O 3 _ _ _ h.ob]; rfl⟩
theorem RA.cellsR (h : RA e t w W G O R s st num ok a k c a' k' c') : W.cell? ⟨R, 0, none⟩ = some (.int .i64 0) ∧ W.cell? ⟨R, 1, none⟩ = some (.bool false) ∧ W.cell? ⟨R, 2, none⟩ = some (.slice none 0 0) ∧ W.cell? ⟨R, 3, none⟩ = some (.slice none 0 0) :=
  ⟨by rw [cell_of_row W R 0 _ _ _ h.rb]; rfl, by rw [cell_of_row W R 1 _ _ _ h.rb]; rfl, by rw [cell_of_row W R 2 _ _ _ h.rb]; rfl, by rw [cell_of_row W R 3 _ _ _ h.rb]; rfl⟩
theorem RA.frozen (h : RA e t w W G O R s st num ok a k c a' k' c') (j : Nat) : W.frozen? ⟨O, j, none⟩ = false := frozen_of_row W O j _ _ h.ob
theorem RA.frozenR (h : RA e t w W G O R s st num ok a k c a' k' c') (j : Nat) : W.frozen? ⟨R, j, none⟩ = false := frozen_of_row W R j _ _ h.rb
theorem RA.set {num' : Int} {ok' : Bool} {b : Option Addr} {m d : Nat} {b' : Option Addr} {m' d' : Nat} (h : RA e t w W G O R s st num ok a k c a' k' c') (j : Nat) (u : Value) (hc : (ac num ok a k c a' k' c').setIfInBounds j u = ac num' ok' b m d b' m' d') :
    RA e t w (W.setCell ⟨O, j, none⟩ u) G O R s st num' ok' b m d b' m' d' :=
  ⟨h.rd.other (gr_set W O j u) h.ne.1, by rw [heap_setCell_same W O j _ _ u h.ob, hc], by rw [(gr_set W O j u).block R h.lt.2.2 (by simp; exact Ne.symm h.ne.2.2)]; exact h.rb, bel_grown h.bel (gr_set W O j u) h.ge.2.1, h.ge, h.ne⟩
theorem RA.below (h : RA e t w W G O R s st num ok a k c a' k' c') (hb : Below W.heap.size W W') : RA e t w W' G O R s st num ok a k c a' k' c' :=
  ⟨by obtain ⟨p, f, hG, rest⟩ := h.rd; exact ⟨p, f, by rw [hb.block G h.lt.1]; exact hG, rest⟩, by rw [hb.block O h.lt.2.1]; exact h.ob, by rw [hb.block R h.lt.2.2]; exact h.rb, h.bel.trans (hb.mono h.bel.size), h.ge, h.ne⟩
end

/-- an answer, or the answer of nothing -/
def orA : Option AnsV → AnsV
  | none => ⟨0, false, [], []⟩
  | some o => o
/-- what a reader of answers answers: the answer in memory of its own -/
def AnsAns (w w' : World) (e : Ending) (r : Option AnsV) : Prop :=
  ∃ (a : Option Addr) (k c : Nat) (a' : Option Addr) (k' c' : Nat), e = .returned (.tuple #[ansV (orA r).num (orA r).ok a k c a' k' c', .bool r.isSome]) ∧ w'.ownsRow w.heap.size 79 2 (.slice a k c) k (ecells (orA r).es) ∧ w'.ownsRow w.heap.size 3 1 (.slice a' k' c') k' (ic (orA r).ls) ∧ k ≤ 100 ∧ k' ≤ 100 ∧ Below w.heap.size w w'

/-- behind a flag: a byte above 1 has failed -/
def flSt (st : Option (List UInt8)) : Option (List UInt8) := if 1 < (nx pO st).1 then none else (nx pO st).2

set_option maxRecDepth 100000 in
set_option maxHeartbeats 4000000 in
theorem rFlag_any (s : ByteArray) (hs : s.size ≤ 1048576) (w : World) (G : Nat) (st : Option (List UInt8)) (h : RdAt True 115 w G s st) :
    Calls Tryz.prog 78 #[.pointer (some ⟨G, 0, none⟩)] w fun e w' => e = .returned (.bool (decide ((nx pO st).1 = 1))) ∧ RdAt True 115 w' G s (flSt st) ∧ w.grownBy w' (some G) := by
  have HO := hideIt (rOctet_any s hs w G st h)
  clear h
  unfold flSt
  by_cases h1 : 1 < (nx pO st).1
  · rw [if_pos h1]
    have d1 : decide ((1 : Int) < (((nx pO st).1 : Nat) : Int)) = true := by simp; omega
    have HD : Hid (decide ((nx pO st).1 = 1) = false) := by show _ = _; apply decide_eq_false; omega
    have d2 : ((((nx pO st).1 : Nat) : Int) == 1) = false := by simp; omega
    generalize (((nx pO st).1 : Nat) : Int) = x at HO d1 d2
    go_enter Tryz.func78, Tryz.ntmps78
    go_wp2_with (go_at_call 84; refine HO.out.mono ?_; rintro e w1 ⟨rfl, ⟨p, f, hG, hp, hf⟩, hg1⟩; refine Hid.out ?_)
    refine (show ∀ {p : Prop}, p → Hid p from fun h => h) ?_
    have HF := hideIt (rFail_any s w1 G (p : Int) f hG)
    clear hG HO hf
    go_wp2_with (go_at_call 86; refine HF.out.mono ?_; rintro e w2 ⟨rfl, hG2, hg2⟩)
    go_ret
    exact ⟨by rw [HD.out]; rfl, ⟨s.size, true, hG2, Nat.le_refl _, .inr ⟨rfl, rfl, fun _ => rfl⟩⟩, gr_trans hg1 hg2⟩
  · rw [if_neg h1]
    have d1 : decide ((1 : Int) < (((nx pO st).1 : Nat) : Int)) = false := by simp; omega
    have HD : Hid (((((nx pO st).1 : Nat) : Int) == 1) = decide ((nx pO st).1 = 1)) := by show _ = _; rw [Bool.eq_iff_iff]; simp; omega
    generalize (((nx pO st).1 : Nat) : Int) = x at HO d1 HD
    go_enter Tryz.func78, Tryz.ntmps78
    go_wp2_with (go_at_call 84; refine HO.out.mono ?_; rintro e w1 ⟨rfl, hR, hg1⟩)
    go_ret
    exact ⟨by rw [← HD.out]; rfl, hR, hg1⟩

/-- behind k labels -/
def LbSt (st0 : Option (List UInt8)) (k : Nat) (ls : List Int) (st : Option (List UInt8)) : Prop := ls.length = k ∧ LR k st0 ls st
theorem LbSt.start (st0 : Option (List UInt8)) : LbSt st0 0 [] st0 := by
  refine ⟨rfl, ?_⟩
  unfold LR
  cases st0 with
  | none => rfl
  | some L => simp
theorem LbSt.step {st0 : Option (List UInt8)} {k : Nat} {ls : List Int} {st : Option (List UInt8)} (h : LbSt st0 k ls st) : LbSt st0 (k + 1) (ls ++ [(((nx pO st).1 : Nat) : Int)]) (nx pO st).2 := by
  obtain ⟨h1, h2⟩ := h
  refine ⟨by simp [h1], ?_⟩
  unfold LR at h2 ⊢
  cases st0 with
  | none => dsimp only at h2 ⊢; subst h2; rfl
  | some L =>
    dsimp only at h2 ⊢
    split at h2
    · subst h2
      rw [if_pos (by omega)]
      rfl
    · obtain ⟨h3, h4⟩ := h2
      subst h3
      match hM : L.drop k with
      | [] =>
        have := congrArg List.length hM
        simp at this
        rw [if_pos (by omega)]
        rfl
      | c :: r =>
        have hl := congrArg List.length hM
        simp at hl
        rw [if_neg (by omega)]
        have e2 : L.drop (k + 1) = r := by rw [← List.drop_drop, hM]; rfl
        have e1 : L.take (k + 1) = L.take k ++ [c] := by
          have hc : L[k]? = some c := by
            have := congrArg (fun z => z[0]?) hM
            simpa using this
          rw [List.take_add_one, hc]
          rfl
        refine ⟨by rw [e2]; rfl, ?_⟩
        rw [e1, h4, List.map_append]
        rfl

set_option maxRecDepth 100000 in
set_option maxHeartbeats 4000000 in
theorem rLabels_any (n : Nat) (hn : n ≤ 12) (s : ByteArray) (hs : s.size ≤ 1048576) (w : World) (G : Nat) (st : Option (List UInt8)) (h : RdAt True 115 w G s st) :
    Calls Tryz.prog 80 #[.pointer (some ⟨G, 0, none⟩), .int .i64 (n : Int)] w fun e w' => ∃ (a : Option Addr) (ls : List Int) (st' : Option (List UInt8)), e = .returned (.slice a n n) ∧ w'.ownsRow w.heap.size 3 1 (.slice a n n) n (ic ls) ∧ LR n st ls st' ∧ RdAt True 115 w' G s st' ∧ w.grownBy w' (some G) := by
  obtain ⟨i0, hi, hz0, hz1, hz2⟩ := info_parts info3i
  have hGl := h.lt
  have hmk : ∀ u : World, (Instr.makeSlice 34 (.int .i64 (n : Int)) (.int .i64 (n : Int))).run Tryz.prog u =
      .ok (.slice (some ⟨u.heap.size, 0, none⟩) n n) (u.alloc (.cells (madeCells #[.int .i64 0] n) 3)) := fun u => by
    have h := run_make (P := Tryz.prog) u 34 3 i0 _ Tryz.underlying34 hi hz0 .i64 .i64 (n : Int) (n : Int) (by omega) (by omega) (by rw [hz2]; omega) (by omega)
    rw [Int.toNat_natCast] at h
    simpa [hz1, Value.cells] using h
  have HO : Hid (∀ W st, RdAt True 115 W G s st → Calls Tryz.prog 84 #[.pointer (some ⟨G, 0, none⟩)] W fun e w' => e = .returned (.int .i64 (((nx pO st).1 : Nat) : Int)) ∧ RdAt True 115 w' G s (nx pO st).2 ∧ W.grownBy w' (some G)) := fun W st hW => rOctet_any s hs W G st hW
  have HR := hideIt h
  clear h
  go_enter Tryz.func80, Tryz.ntmps80
  go_wp2
  go_loopw [11] (fun i wr => ∃ (j : Nat) (xs : List Value) (ls : List Int) (st1 : Option (List UInt8)), j ≤ n ∧ i = .int .i64 (j : Int) ∧ Hid (xs.take j = ic ls) ∧ Hid (LbSt st j ls st1) ∧ wr.ownsRow w.heap.size 3 1 (.slice (some ⟨w.heap.size, 0, none⟩) n n) n xs ∧ RdAt True 115 wr G s st1 ∧ w.grownBy wr (some G)) (fun i _ => n - (intOf i).toNat)
  case atStart =>
    exact ⟨0, _, [], st, by omega, rfl, by show _ = _; simp [ic], LbSt.start st, World.ownsRow_lit (base := w.heap.size) (e := 3) (size := 1) w (madeCells #[.int .i64 0] n) n (Nat.le_refl _) (by unfold maxLen; omega) (by simp [madeCells]), HR.out.alloc _, World.grownBy_alloc w _ (some G)⟩
  case round =>
    obtain ⟨j, xs, ls, st1, hj, rfl, hx, hE, hown, hR, hg⟩ := hrel
    have hl3 : xs.length = n * 1 := hown.1
    by_cases hlt : j < n
    · have b1 : (0 : Int) ≤ (j : Int) := by omega
      have b2 : (j : Int) < (n : Int) := by omega
      have hgz := hg.size
      go_wp2_with (go_at_call 84; refine (HO.out _ st1 hR).mono ?_; rintro e w3 ⟨rfl, hR3, hg3⟩; refine Hid.out ?_)
      refine (show ∀ {p : Prop}, p → Hid p from fun h => h) ?_
      have hown3 := World.ownsRow.kept hown hg3 (.inr (by simp [Value.ownBlock]; omega))
      have y0 := hown3.frozenAt j
      have x0 : w3.cell? ⟨w.heap.size, j, none⟩ = some (xs[j]'(by omega)) := by rw [hown3.cellAt j (by omega)]; exact List.getElem?_eq_getElem (by omega)
      have HR4 := hideIt (hR3.other (gr_set w3 w.heap.size j (.int .i64 (((nx pO st1).1 : Nat) : Int))) (show G ≠ w.heap.size by omega))
      have HO4 := hideIt (hown3.stored j (.int .i64 (((nx pO st1).1 : Nat) : Int))).1
      have HG4 := hideIt (gr_set_new (j := j) (u := .int .i64 (((nx pO st1).1 : Nat) : Int)) (gr_trans hg hg3) (Nat.le_refl _))
      have HS := hideIt hE.out.step
      clear hown hown3 hR hR3 hg3 hg
      go_wp2
      refine ⟨⟨j + 1, _, ls ++ [(((nx pO st1).1 : Nat) : Int)], _, by omega, by go_num, ?_, HS, HO4.out, HR4.out, HG4.out⟩, by simp [intOf]; omega⟩
      show _ = _
      rw [List.take_add_one, List.take_set_of_le (Nat.le_refl _), hx.out, ic_snoc]
      simp [show j < xs.length by omega]
    · obtain rfl : j = n := by omega
      have HX : Hid (xs = ic ls) := by
        show _ = _
        have := hx.out
        rw [List.take_of_length_le (by omega)] at this
        exact this
      have HOw := hideIt hown
      have HRr := hideIt hR
      have HGg := hideIt hg
      clear hx hown hR hg hl3
      go_wp2
      go_ret
      exact ⟨_, ls, st1, rfl, by rw [← HX.out]; exact HOw.out, hE.out.2, HRr.out, HGg.out⟩
end Go.Proofs.YtcieanhbipbhgaaGreatDoor
namespace Go.Proofs.YtcieanhbipbhgaaGreatDoor
open Go.RowKit Vt

theorem flag_ok {s1 : Option (List UInt8)} {es : List EdgeV} {s3 : Option (List UInt8)} {m : Nat} {ls : List Int} (h : ER (flSt s1) es s3) (h' : LR m s3 ls (some [])) : (nx pO s1).1 ≤ 1 := by
  by_cases h1 : 1 < (nx pO s1).1
  · have e : flSt s1 = none := by unfold flSt; rw [if_pos h1]
    rw [e] at h
    have h3 : s3 = none := h
    rw [h3] at h'
    cases h'
  · omega

theorem own_two {w W : World} {B T S n : Nat} {v : Value} {xs : List Value} (h : w.ownsRow B T S v n xs) (hb : ∀ g, B ≤ g → g < w.heap.size → W.heap[g]? = w.heap[g]?) : W.ownsRow B T S v n xs := by
  refine ⟨h.1, h.2.imp id ?_⟩
  rintro ⟨g, cp, cur, hv, hg, hc, rest⟩
  exact ⟨g, cp, cur, hv, hg, by rw [hb g hg (Array.getElem?_eq_some_iff.1 hc).1]; exact hc, rest⟩

set_option maxRecDepth 100000 in
set_option maxHeartbeats 4000000 in
theorem iReadAnswer_out (n : Int) (s : ByteArray) (h1 : ¬ (1 ≤ n ∧ n ≤ 12)) (w : World) :
    Calls Tryz.prog 71 #[.int .i64 n, .string s] w fun e w' => ∃ r, IsA n s.data.toList r ∧ AnsAns w w' e r := by
  have r1 : decide (1 ≤ n ∧ n ≤ 12) = false := by simpa using h1
  have HV := hideIt vertsOk_any
  have HI : Hid (IsA n s.data.toList none) := IsA.out h1
  go_enter Tryz.func71, Tryz.ntmps71
  go_wp2_with (go_at_call 76; refine (HV.out _ _).mono ?_; rintro e w1 ⟨rfl, rfl⟩)
  refine bodyPost_ret (v := .tuple #[ansV 0 false none 0 0 none 0 0, .bool false]) (by simp [results, Tryz.results71, go_sem]) rfl ⟨none, HI.out, none, 0, 0, none, 0, 0, rfl, ⟨rfl, .inl ⟨rfl, rfl⟩⟩, ⟨rfl, .inl ⟨rfl, rfl⟩⟩, by omega, by omega, ?_⟩
  first | exact bel1 _ _ | exact ((((bel1 _ _).setCell (Nat.le_refl _) _).setCell (Nat.le_refl _) _).setCell (Nat.le_refl _) _).setCell (Nat.le_refl _) _

set_option maxRecDepth 100000 in
set_option maxHeartbeats 4000000 in
theorem iReadAnswer_in (m : Nat) (hm1 : 1 ≤ m) (hm2 : m ≤ 12) (s : ByteArray) (hs : s.size ≤ 1048576) (w : World) :
    Calls Tryz.prog 71 #[.int .i64 (m : Int), .string s] w fun e w' => ∃ r, IsA (m : Int) s.data.toList r ∧ AnsAns w w' e r := by
  have r1 : decide (1 ≤ (m : Int) ∧ (m : Int) ≤ 12) = true := by simp; omega
  have HV := hideIt vertsOk_any
  have HN : Hid (∀ W G st, RdAt True 115 W G s st → Calls Tryz.prog 77 #[.pointer (some ⟨G, 0, none⟩)] W fun e w' => e = .returned (.int .i64 (((nx pN st).1 : Nat) : Int)) ∧ RdAt True 115 w' G s (nx pN st).2 ∧ W.grownBy w' (some G)) := fun W G st h => rNumber_any s hs W G st h
  have HF : Hid (∀ W G st, RdAt True 115 W G s st → Calls Tryz.prog 78 #[.pointer (some ⟨G, 0, none⟩)] W fun e w' => e = .returned (.bool (decide ((nx pO st).1 = 1))) ∧ RdAt True 115 w' G s (flSt st) ∧ W.grownBy w' (some G)) := fun W G st h => rFlag_any s hs W G st h
  have HE : Hid (∀ W G st, RdAt True 115 W G s st → Calls Tryz.prog 79 #[.pointer (some ⟨G, 0, none⟩)] W fun e w' => ∃ v, e = .returned v ∧ EdAns True 115 W w' G s st v 66) := fun W G st h => rEdges_any s hs W G st h
  have HL : Hid (∀ W G st, RdAt True 115 W G s st → Calls Tryz.prog 80 #[.pointer (some ⟨G, 0, none⟩), .int .i64 (m : Int)] W fun e w' => ∃ (a : Option Addr) (ls : List Int) (st' : Option (List UInt8)), e = .returned (.slice a m m) ∧ w'.ownsRow W.heap.size 3 1 (.slice a m m) m (ic ls) ∧ LR m st ls st' ∧ RdAt True 115 w' G s st' ∧ W.grownBy w' (some G)) := fun W G st h => rLabels_any m hm2 s hs W G st h
  have HD : Hid (∀ W G st, RdAt True 115 W G s st → Calls Tryz.prog 81 #[.pointer (some ⟨G, 0, none⟩)] W fun e w' => e = .returned (.bool (endB st)) ∧ RdAt True 115 w' G s st ∧ W.grownBy w' (some G)) := fun W G st h => rEnded_any s W G st h
  have R0 : RA True 115 w (((w.alloc (.cells (ac 0 false none 0 0 none 0 0) 36)).alloc (.cells #[.string s, .int .i64 0, .bool false] 115)).alloc (.cells (ac 0 false none 0 0 none 0 0) 36)) (w.heap.size + 1) (w.heap.size + 2) w.heap.size s (some s.data.toList) 0 false none 0 0 none 0 0 := by
    refine ⟨⟨0, false, ?_, by omega, .inl ⟨rfl, by simp [from_]⟩⟩, ?_, ?_, bel3 w _ _ _, by omega, by omega⟩
    · rw [Below.heap_alloc _ _ _ (by simp)]
      have := heap_alloc_new (w.alloc (.cells (ac 0 false none 0 0 none 0 0) 36)) (.cells #[.string s, .int .i64 0, .bool false] 115)
      simpa using this
    · have := heap_alloc_new ((w.alloc (.cells (ac 0 false none 0 0 none 0 0) 36)).alloc (.cells #[.string s, .int .i64 0, .bool false] 115)) (.cells (ac 0 false none 0 0 none 0 0) 36)
      simpa using this
    · rw [Below.heap_alloc _ _ _ (by simp; omega), Below.heap_alloc _ _ _ (by simp)]
      exact heap_alloc_new w _
  go_enter Tryz.func71, Tryz.ntmps71
  go_wp2_with (first | (go_at_call 76; refine (HV.out _ _).mono ?_; rintro e w1 ⟨rfl, rfl⟩) | (go_at_call 77; refine (HN.out _ _ _ R0.rd).mono ?_; rintro e w1 ⟨rfl, hr1, hg1⟩; refine Hid.out ?_))
  refine (show ∀ {p : Prop}, p → Hid p from fun h => h) ?_
  have R1 := R0.call hr1 hg1
  clear R0 hr1 hg1
  obtain ⟨c0, _, _, _⟩ := R1.cells
  have f0 := R1.frozen 0
  have R2 := R1.set 0 (.int .i64 (((nx pN (some s.data.toList)).1 : Nat) : Int)) rfl
  clear R1
  go_wp2_with (go_at_call 78; refine (HF.out _ _ _ R2.rd).mono ?_; rintro e w3 ⟨rfl, hr3, hg3⟩; refine Hid.out ?_)
  refine (show ∀ {p : Prop}, p → Hid p from fun h => h) ?_
  have R3 := R2.call hr3 hg3
  clear R2 hr3 hg3 c0 f0
  generalize hq2 : decide ((nx pO (nx pN (some s.data.toList)).2).1 = 1) = ok at *
  obtain ⟨_, c1, _, _⟩ := R3.cells
  have f1 := R3.frozen 1
  have R4 := R3.set 1 (.bool ok) rfl
  clear R3
  go_wp2_with (go_at_call 79; refine (HE.out _ _ _ R4.rd).mono ?_; rintro e w5 ⟨v5, rfl, hA5⟩; refine Hid.out ?_)
  refine (show ∀ {p : Prop}, p → Hid p from fun h => h) ?_
  obtain ⟨a, k, c, es, st3, rfl, hk, hby, hown, hER, hr5, hg5⟩ := ed_es hA5
  have R5 := R4.call hr5 hg5
  have hz4 := R4.lt
  have hge4 := R4.bel.size
  clear R4 hr5 hg5 hA5 c1 f1
  obtain ⟨_, _, c2, _⟩ := R5.cells
  have f2 := R5.frozen 2
  have R6 := R5.set 2 (.slice a k c) rfl
  have own6 := own_two (W := w5.setCell ⟨w.heap.size + 2, 2, none⟩ (.slice a k c)) hown (fun g hg _ => heap_setCell_other _ _ _ _ (by intro h; simp at h; have := hz4.2.1; omega))
  generalize (w3.setCell ⟨w.heap.size + 2, 1, none⟩ (.bool ok)).heap.size = B at own6 hz4 hge4
  clear R5 hown
  go_wp2_with (go_at_call 80; refine (HL.out _ _ _ R6.rd).mono ?_; rintro e w7 ⟨a', ls, st4, rfl, hown7, hLR, hr7, hg7⟩; refine Hid.out ?_)
  refine (show ∀ {p : Prop}, p → Hid p from fun h => h) ?_
  have R7 := R6.call hr7 hg7
  have own7 := own_two (W := w7) own6 (fun g hg hlt => hg7.block g hlt (by simp; have := hz4.1; omega))
  have hz6 := R6.lt
  have hge6 := R6.bel.size
  clear R6 hr7 hg7 c2 f2 own6
  obtain ⟨_, _, _, c3⟩ := R7.cells
  have f3 := R7.frozen 3
  have R8 := R7.set 3 (.slice a' m m) rfl
  have own8 := own_two (W := w7.setCell ⟨w.heap.size + 2, 3, none⟩ (.slice a' m m)) own7 (fun g hg _ => heap_setCell_other _ _ _ _ (by intro h; simp at h; have := hz4.2.1; omega))
  have own8' := own_two (W := w7.setCell ⟨w.heap.size + 2, 3, none⟩ (.slice a' m m)) hown7 (fun g hg _ => heap_setCell_other _ _ _ _ (by intro h; simp at h hg; have := hz6.2.1; simp at this; omega))
  have hz6' : w.heap.size + 1 < (w5.setCell ⟨w.heap.size + 2, 2, none⟩ (.slice a k c)).heap.size ∧ w.heap.size + 2 < (w5.setCell ⟨w.heap.size + 2, 2, none⟩ (.slice a k c)).heap.size ∧ w.heap.size < (w5.setCell ⟨w.heap.size + 2, 2, none⟩ (.slice a k c)).heap.size := hz6
  generalize (w5.setCell ⟨w.heap.size + 2, 2, none⟩ (.slice a k c)).heap.size = B' at own8' hz6' hge6
  generalize hq1 : (((nx pN (some s.data.toList)).1 : Nat) : Int) = num at *
  have HCa : Hid (Ca m s.data.toList ⟨num, ok, es, ls⟩ st4) := by
    refine ⟨_, flSt (nx pN (some s.data.toList)).2, st3, st4, hq1.symm, rfl, hq2.symm, ?_, hER, hLR, rfl⟩
    unfold flSt
    by_cases h1 : 1 < (nx pO (nx pN (some s.data.toList)).2).1
    · rw [if_pos h1]; exact .inr ⟨rfl, h1⟩
    · rw [if_neg h1]; exact .inl rfl
  have HFl : Hid (st4 = some [] → (nx pO (nx pN (some s.data.toList)).2).1 ≤ 1) := fun h => by subst h; exact flag_ok hER hLR
  have HO8 := hideIt own8
  have HO8' := hideIt own8'
  clear R7 own7 hown7 own8 own8' hER hLR hq1 hq2 hz6
  go_wp2_with (go_at_call 81; refine (HD.out _ _ _ R8.rd).mono ?_; rintro e w9 ⟨rfl, hr9, hg9⟩; refine Hid.out ?_)
  refine (show ∀ {p : Prop}, p → Hid p from fun h => h) ?_
  have R9 := R8.call hr9 hg9
  have own9 : Hid (w9.ownsRow B 79 2 (.slice a k c) k (ecells es)) := own_two HO8.out (fun g hg hlt => hg9.block g hlt (by simp; have := hz4.1; omega))
  have own9' : Hid (w9.ownsRow B' 3 1 (.slice a' m m) m (ic ls)) := own_two HO8'.out (fun g hg hlt => hg9.block g hlt (by simp; have := hz6'.1; omega))
  clear R8 hr9 hg9 HO8 HO8' c3 f3
  obtain ⟨q0, q1, q2, q3⟩ := R9.cells
  obtain ⟨r0, r1', r2, r3⟩ := R9.cellsR
  have g0 := R9.frozenR 0
  have g1 := R9.frozenR 1
  have g2 := R9.frozenR 2
  have g3 := R9.frozenR 3
  cases hE : endB st4 with
  | false =>
    have HI : Hid (IsA (m : Int) s.data.toList none) := IsA.no rfl HCa.out (.inl (fun h => by rw [(endB_iff st4).2 h] at hE; cases hE))
    have HB := hideIt R9.bel
    clear R9 hE q0 q1 q2 q3
    go_wp2
    refine bodyPost_ret (v := .tuple #[ansV 0 false none 0 0 none 0 0, .bool false]) (by simp [results, Tryz.results71, go_sem, r0, r1', r2, r3]) rfl ⟨none, HI.out, none, 0, 0, none, 0, 0, rfl, ⟨rfl, .inl ⟨rfl, rfl⟩⟩, ⟨rfl, .inl ⟨rfl, rfl⟩⟩, by omega, by omega, ?_⟩
    exact (((HB.out.setCell (Nat.le_refl _) _).setCell (Nat.le_refl _) _).setCell (Nat.le_refl _) _).setCell (Nat.le_refl _) _
  | true =>
    have hE := (endB_iff st4).1 hE
    have hfl := HFl.out hE
    subst hE
    have HOk := hideIt (iAnswerOk_any (m : Int) num ok es ls k a c (by omega) m a' m (by omega) w9 (Es_of_own own9.out) (Is_of_own own9'.out))
    unfold ansV at HOk
    cases hB : aB (m : Int) ⟨num, ok, es, ls⟩ with
    | false =>
      rw [hB] at HOk
      have HI : Hid (IsA (m : Int) s.data.toList none) := IsA.no rfl HCa.out (.inr hB)
      have HR := hideIt R9
      clear R9 hB r0 r1' r2 r3 g0 g1 g2 g3 hfl
      go_wp2_with (go_at_call 82; refine HOk.out.mono ?_; rintro e w10 ⟨rfl, hb10⟩; refine Hid.out ?_)
      refine (show ∀ {p : Prop}, p → Hid p from fun h => h) ?_
      have R10 := HR.out.below hb10
      obtain ⟨r0, r1', r2, r3⟩ := R10.cellsR
      have g0 := R10.frozenR 0
      have g1 := R10.frozenR 1
      have g2 := R10.frozenR 2
      have g3 := R10.frozenR 3
      have HB := hideIt R10.bel
      clear R10 q0 q1 q2 q3 hb10
      go_wp2
      refine bodyPost_ret (v := .tuple #[ansV 0 false none 0 0 none 0 0, .bool false]) (by simp [results, Tryz.results71, go_sem, r0, r1', r2, r3]) rfl ⟨none, HI.out, none, 0, 0, none, 0, 0, rfl, ⟨rfl, .inl ⟨rfl, rfl⟩⟩, ⟨rfl, .inl ⟨rfl, rfl⟩⟩, by omega, by omega, ?_⟩
      exact (((HB.out.setCell (Nat.le_refl _) _).setCell (Nat.le_refl _) _).setCell (Nat.le_refl _) _).setCell (Nat.le_refl _) _
    | true =>
      rw [hB] at HOk
      have HI : Hid (IsA (m : Int) s.data.toList (some ⟨num, ok, es, ls⟩)) := IsA.yes HCa.out hB hfl
      have HR := hideIt R9
      clear R9 hB r0 r1' r2 r3 g0 g1 g2 g3 hfl
      go_wp2_with (go_at_call 82; refine HOk.out.mono ?_; rintro e w10 ⟨rfl, hb10⟩; refine Hid.out ?_)
      refine (show ∀ {p : Prop}, p → Hid p from fun h => h) ?_
      have R10 := HR.out.below hb10
      have own10 : Hid (w10.ownsRow B 79 2 (.slice a k c) k (ecells es)) := own_two own9.out (fun g _ hlt => hb10.block g hlt)
      have own10' : Hid (w10.ownsRow B' 3 1 (.slice a' m m) m (ic ls)) := own_two own9'.out (fun g _ hlt => hb10.block g hlt)
      clear q0 q1 q2 q3
      obtain ⟨q0, q1, q2, q3⟩ := R10.cells
      obtain ⟨r0, r1', r2, r3⟩ := R10.cellsR
      have g0 := R10.frozenR 0
      have g1 := R10.frozenR 1
      have g2 := R10.frozenR 2
      have g3 := R10.frozenR 3
      have HB := hideIt R10.bel
      clear R10 hb10
      go_wp2
      refine bodyPost_ret (v := .tuple #[ansV num ok a k c a' m m, .bool true]) (by simp [results, Tryz.results71, go_sem, r0, r1', r2, r3]) rfl ⟨some ⟨num, ok, es, ls⟩, HI.out, a, k, c, a', m, m, rfl, ?_, ?_, by omega, by omega, ?_⟩
      · refine own_mono (B := B) ?_ hge4
        refine own_two own10.out (fun g hg hlt => ?_)
        have hne : g ≠ w.heap.size := by have := hz4.2.2; omega
        rw [heap_setCell_other _ _ _ _ (by exact hne), heap_setCell_other _ _ _ _ (by exact hne), heap_setCell_other _ _ _ _ (by exact hne), heap_setCell_other _ _ _ _ (by exact hne)]
      · refine own_mono (B := B') ?_ hge6
        refine own_two own10'.out (fun g hg hlt => ?_)
        have hne : g ≠ w.heap.size := by have := hz6'.2.2; omega
        rw [heap_setCell_other _ _ _ _ (by exact hne), heap_setCell_other _ _ _ _ (by exact hne), heap_setCell_other _ _ _ _ (by exact hne), heap_setCell_other _ _ _ _ (by exact hne)]
      · exact (((HB.out.setCell (Nat.le_refl _) _).setCell (Nat.le_refl _) _).setCell (Nat.le_refl _) _).setCell (Nat.le_refl _) _

theorem iReadAnswer_any (n : Int) (s : ByteArray) (hs : s.size ≤ 1048576) (w : World) :
    Calls Tryz.prog 71 #[.int .i64 n, .string s] w fun e w' => ∃ r, IsA n s.data.toList r ∧ AnsAns w w' e r := by
  by_cases h : 1 ≤ n ∧ n ≤ 12
  · obtain ⟨m, rfl⟩ := Int.eq_ofNat_of_zero_le (show 0 ≤ n by omega)
    exact iReadAnswer_in m (by omega) (by omega) s hs w
  · exact iReadAnswer_out n s h w
end Go.Proofs.YtcieanhbipbhgaaGreatDoor
namespace Go.Proofs.YtcieanhbipbhgaaGreatDoor
open Go.RowKit Vt

theorem rvI_at {s : ByteArray} {p : Nat} (hp : p ≤ s.size) : rvI s (p : Int) = rv p (from_ s p) := by
  unfold rvI
  rw [if_pos (by omega), Int.toNat_natCast]
theorem RrAt.below {w w' : World} {G : Nat} {n : Int} {s : ByteArray} {p : Nat} (h : RrAt w G n s p) (hb : Below w.heap.size w w') : RrAt w' G n s p := ⟨by rw [hb.block G h.lt]; exact h.1, h.2⟩
/-- a short text stands at p: k bytes at j -/
def ShOk (s : ByteArray) (p k j : Nat) : Prop := rv p (from_ s p) = some (k, j) ∧ k ≤ 20000 ∧ j + k ≤ s.size
def ShBad (s : ByteArray) (p : Nat) : Prop := rv p (from_ s p) = none ∨ ∃ k j, rv p (from_ s p) = some (k, j) ∧ (20000 < k ∨ s.size < j + k)
theorem sh_cases (s : ByteArray) (p : Nat) : (∃ k j, ShOk s p k j) ∨ ShBad s p := by
  cases hr : rv p (from_ s p) with
  | none => exact .inr (.inl hr)
  | some x =>
    obtain ⟨k, j⟩ := x
    by_cases hk : k ≤ 20000 ∧ j + k ≤ s.size
    · exact .inl ⟨k, j, hr, hk⟩
    · exact .inr (.inr ⟨k, j, hr, by omega⟩)
set_option maxHeartbeats 1000000 in
theorem short_yes (n : Int) (s : ByteArray) (hs : s.size ≤ 1048576) (p k j : Nat) (hk : ShOk s p k j) (G : Nat) (w : World) (h : RrAt w G n s p) :
    Calls Tryz.prog 72 #[.pointer (some ⟨G, 0, none⟩)] w fun e w' => e = .returned (.string (s.extract j (j + k))) ∧ RrAt w' G n s (j + k) ∧ w.grownBy w' (some G) := by
  have HV := hideIt (iReadShort_yes s hs (p : Int) k j (by rw [rvI_at h.2]; exact hk.1) hk.2.1 hk.2.2)
  have HN := hideIt (need_yes G)
  have HH := hideIt h
  have HK := hideIt hk.2.2
  have HC : Hid (∀ u, Below w.heap.size w u → u.cell? ⟨G, 1, none⟩ = some (.string s) ∧ u.cell? ⟨G, 2, none⟩ = some (.int .i64 (p : Int))) := fun u hu => ⟨(h.below hu).c1, (h.below hu).c2⟩
  have hS0 := HC.out _ (Below.refl _ _).drew
  have ew : IntKind.i64.wrap ((j : Int) + (k : Int)) = (j : Int) + (k : Int) := by have := hk.2; rw [IntKind.wrap_i64]; omega
  clear h hk
  go_enter Tryz.func72, Tryz.ntmps72
  go_wp2
  go_region_held3 (fun u => u.cell? ⟨G, 1, none⟩ = some (.string s) ∧ u.cell? ⟨G, 2, none⟩ = some (.int .i64 (p : Int))) (first | assumption)
    ((go_at_call 83; refine (HV.out _).mono ?_; rintro e w1 ⟨rfl, hb1⟩; have hS1 := HC.out _ (bdr hb1)))
  have h1 := HH.out.below (bdr hb1)
  have c2 := h1.c2
  have f2 := h1.fz 2
  have HH1 := hideIt h1
  have HB1 := hideIt (gr_below (bdr hb1) (some G))
  clear h1 hS1 hS0 hb1 HV HC
  go_wp2_with (go_at_call 64; refine (HN.out _).mono ?_; rintro e w2 ⟨rfl, hw1⟩; subst hw1)
  go_ret
  refine ⟨rfl, ?_, gr_trans HB1.out (gr_set _ _ _ _)⟩
  have := HH1.out.set (j + k) HK.out
  rw [Int.natCast_add] at this
  exact this
set_option maxHeartbeats 1000000 in
theorem short_no (n : Int) (s : ByteArray) (hs : s.size ≤ 1048576) (p : Nat) (hk : ShBad s p) (G : Nat) (w : World) (h : RrAt w G n s p) :
    Calls Tryz.prog 72 #[.pointer (some ⟨G, 0, none⟩)] w fun e w' => e = .panicked PV ∧ w.grownBy w' (some G) := by
  have HV : Hid (∀ w, Calls Tryz.prog 83 #[.string s, .int .i64 (p : Int)] w fun e w' => e = .returned (.tuple #[.string ⟨#[]⟩, .int .i64 0, .bool false]) ∧ Below w.heap.size w w') := fun w => by
    rcases hk with hr | ⟨k, j, hr, hb⟩
    · exact iReadShort_none s hs (p : Int) (by rw [rvI_at h.2]; exact hr) w
    · exact iReadShort_big s hs (p : Int) k j (by rw [rvI_at h.2]; exact hr) hb w
  have HN := hideIt (need_no G)
  have HC : Hid (∀ u, Below w.heap.size w u → u.cell? ⟨G, 1, none⟩ = some (.string s) ∧ u.cell? ⟨G, 2, none⟩ = some (.int .i64 (p : Int))) := fun u hu => ⟨(h.below hu).c1, (h.below hu).c2⟩
  have hS0 := HC.out _ (Below.refl _ _).drew
  clear h hk
  go_enter Tryz.func72, Tryz.ntmps72
  go_wp2
  go_region_held3 (fun u => u.cell? ⟨G, 1, none⟩ = some (.string s) ∧ u.cell? ⟨G, 2, none⟩ = some (.int .i64 (p : Int))) (first | assumption)
    ((go_at_call 83; refine (HV.out _).mono ?_; rintro e w1 ⟨rfl, hb1⟩; have hS1 := HC.out _ (bdr hb1)))
  have HB1 := hideIt (gr_below (bdr hb1) (some G))
  clear hS1 hS0 hb1 HV HC
  go_wp2_with (go_at_call 64; refine (HN.out _).mono ?_; rintro e w2 ⟨rfl, hw1⟩; subst hw1)
  exact ⟨rfl, rfl, HB1.out⟩
end Go.Proofs.YtcieanhbipbhgaaGreatDoor
