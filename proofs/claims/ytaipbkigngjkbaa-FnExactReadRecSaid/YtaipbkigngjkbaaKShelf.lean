/- What lies in memory while an answer is read; the program's reader of a flag and of labels. The program's ReadAnswer. The specification's ReadOrder. The specification's ReadAnswer. The program's reader of records: its parts. The library's contracts at this program, by the shelf's own laying in plain words: each body is held against the body of which its contract was proved. -/
import Derived.Test.YtaipbkigngjkbaaKRp14
import Derived.Test.YtaipbkigngjkbaaKBq14
import Derived.Test.YtaipbkigngjkbaaKSOu10
import Derived.Test.YtaipbkigngjkbaaKIntsO10
import Derived.WalkLawsBesides
import Derived.Deep.RegionHeld3
import Derived.Shelf.LaysM
import Derived.Shelf.Strconv.Clone
import Derived.Test.YtaipbkigngjkbaaProg
namespace Go.Proofs.Ytaipbkigngjkbaa
open Go.RowKit Vt

/-- the reader in block G, the answer in block O, the result's box R -/
structure RA (e : Prop) (t : TypeId) (w W : World) (G O R : Nat) (s : ByteArray) (st : Option (List UInt8)) (num : Int) (ok : Bool) (a : Option Addr) (k c : Nat) (a' : Option Addr) (k' c' : Nat) : Prop where
  rd : RdAt e t W G s st
  ob : W.heap[O]? = some (.cells (ac num ok a k c a' k' c') 27 (0, 0))
  rb : W.heap[R]? = some (.cells (ac 0 false none 0 0 none 0 0) 27 (0, 0))
  bel : Below w.heap.size w W
  ge : w.heap.size ≤ G ∧ w.heap.size ≤ O ∧ w.heap.size ≤ R
  ne : G ≠ O ∧ G ≠ R ∧ O ≠ R

section
variable {e : Prop} {t : TypeId} {w W W' : World} {G O R : Nat} {s : ByteArray} {st st' : Option (List UInt8)} {num : Int} {ok : Bool} {a : Option Addr} {k c : Nat} {a' : Option Addr} {k' c' : Nat}
theorem RA.lt (h : RA e t w W G O R s st num ok a k c a' k' c') : G < W.heap.size ∧ O < W.heap.size ∧ R < W.heap.size :=
  ⟨h.rd.lt, (Array.getElem?_eq_some_iff.1 h.ob).1, (Array.getElem?_eq_some_iff.1 h.rb).1⟩
theorem RA.call (h : RA e t w W G O R s st num ok a k c a' k' c') (hr : RdAt e t W' G s st') (hg : W.grownBy W' (some G)) : RA e t w W' G O R s st' num ok a k c a' k' c' :=
  ⟨hr, by rw [hg.block O h.lt.2.1 (by simp; exact Ne.symm h.ne.1)]; exact h.ob, by rw [hg.block R h.lt.2.2 (by simp; exact Ne.symm h.ne.2.1)]; exact h.rb, bel_grown h.bel hg h.ge.1, h.ge, h.ne⟩
theorem RA.cells (h : RA e t w W G O R s st num ok a k c a' k' c') : W.cell? ⟨O, 0, none⟩ = some (.int .i64 num) ∧ W.cell? ⟨O, 1, none⟩ = some (.bool ok) ∧ W.cell? ⟨O, 2, none⟩ = some (.slice a k c) ∧ W.cell? ⟨O, 3, none⟩ = some (.slice a' k' c') :=
  ⟨by rw [cell_of_row W O 0 _ _ _ h.ob]; rfl, by rw [cell_of_row W O 1 _ _ _ h.ob]; rfl, by rw [cell_of_row W O 2 _ _ _ h.ob]; rfl, by rw [cell_of_row W O 3 _ _ _ h.ob]; rfl⟩
theorem RA.cellsR (h : RA e t w W G O R s st num ok a k c a' k' c') : W.cell? ⟨R, 0, none⟩ = some (.int .i64 0) ∧ W.cell? ⟨R, 1, none⟩ = some (.bool false) ∧ W.cell? ⟨R, 2, none⟩ = some (.slice none 0 0) ∧ W.cell? ⟨R, 3, none⟩ = some (.slice none 0 0) :=
  ⟨by rw [cell_of_row W R 0 _ _ _ h.rb]; rfl, by rw [cell_of_row W R 1 _ _ _ h.rb]; rfl, by rw [cell_of_row W R 2 _ _ _ h.rb]; rfl, by rw [cell_of_row W R 3 _ _ _ h.rb]; rfl⟩
theorem RA.frozen (h : RA e t w W G O R s st num ok a k c a' k' c') (j : Nat) : W.frozen? ⟨O, j, none⟩ = false := frozen_of_row W O j _ _ h.ob
theorem RA.frozenR (h : RA e t w W G O R s st num ok a k c a' k' c') (j : Nat) : W.frozen? ⟨R, j, none⟩ = false := frozen_of_row W R j _ _ h.rb
theorem RA.set {num' : Int} {ok' : Bool} {b : Option Addr} {m d : Nat} {b' : Option Addr} {m' d' : Nat} (h : RA e t w W G O R s st num ok a k c a' k' c') (j : Nat) (u : Value) (hc : (ac num ok a k c a' k' c').setIfInBounds j u = ac num' ok' b m d b' m' d') :
    RA e t w (W.setCell ⟨O, j, none⟩ u) G O R s st num' ok' b m d b' m' d' :=
  ⟨h.rd.other (gr_set W O j u) h.ne.1, by rw [heap_setCell_same W O j _ _ u h.ob, hc], by rw [(gr_set W O j u).block R h.lt.2.2 (by simp; exact Ne.symm h.ne.2.2)]; exact h.rb, bel_grown h.bel (gr_set W O j u) h.ge.2.1, h.ge, h.ne⟩
theorem RA.below (h : RA e t w W G O R s st num ok a k c a' k' c') (hb : Below W.heap.size W W') : RA e t w W' G O R s st num ok a k c a' k' c' :=
  ⟨by obtain ⟨p, f, hG, rest⟩ := h.rd; exact ⟨p, f, by rw [hb.block G h.lt.1]; exact hG, rest⟩, by rw [hb.block O h.lt.2.1]; exact h.ob, by rw [hb.block R h.lt.2.2]; exact h.rb, h.bel.trans (hb.mono h.bel.size), h.ge, h.ne⟩
end

/-- an answer, or the answer of nothing -/
def orA : Option AnsV → AnsV
  | none => ⟨0, false, [], []⟩
  | some o => o
/-- what a reader of answers answers: the answer in memory of its own -/
def AnsAns (w w' : World) (e : Ending) (r : Option AnsV) : Prop :=
  ∃ (a : Option Addr) (k c : Nat) (a' : Option Addr) (k' c' : Nat), e = .returned (.tuple #[ansV (orA r).num (orA r).ok a k c a' k' c', .bool r.isSome]) ∧ w'.ownsRow w.heap.size 76 2 (.slice a k c) k (ecells (orA r).es) ∧ w'.ownsRow w.heap.size 3 1 (.slice a' k' c') k' (ic (orA r).ls) ∧ k ≤ 100 ∧ k' ≤ 100 ∧ Below w.heap.size w w'

/-- behind a flag: a byte above 1 has failed -/
def flSt (st : Option (List UInt8)) : Option (List UInt8) := if 1 < (nx pO st).1 then none else (nx pO st).2

set_option maxRecDepth 100000 in
set_option maxHeartbeats 4000000 in
theorem rFlag_any (s : ByteArray) (hs : s.size ≤ 1048576) (w : World) (G : Nat) (st : Option (List UInt8)) (h : RdAt True 95 w G s st) :
    Calls Try.prog 66 #[.pointer (some ⟨G, 0, none⟩)] w fun e w' => e = .returned (.bool (decide ((nx pO st).1 = 1))) ∧ RdAt True 95 w' G s (flSt st) ∧ w.grownBy w' (some G) := by
  have HO := hideIt (rOctet_any s hs w G st h)
  clear h
  unfold flSt
  by_cases h1 : 1 < (nx pO st).1
  · rw [if_pos h1]
    have d1 : decide ((1 : Int) < (((nx pO st).1 : Nat) : Int)) = true := by simp; omega
    have HD : Hid (decide ((nx pO st).1 = 1) = false) := by show _ = _; apply decide_eq_false; omega
    have d2 : ((((nx pO st).1 : Nat) : Int) == 1) = false := by simp; omega
    generalize (((nx pO st).1 : Nat) : Int) = x at HO d1 d2
    go_enter Try.func66, Try.ntmps66
    go_wp2_with (go_at_call 72; refine HO.out.mono ?_; rintro e w1 ⟨rfl, ⟨p, f, hG, hp, hf⟩, hg1⟩; refine Hid.out ?_)
    refine (show ∀ {p : Prop}, p → Hid p from fun h => h) ?_
    have HF := hideIt (rFail_any s w1 G (p : Int) f hG)
    clear hG HO hf
    go_wp2_with (go_at_call 74; refine HF.out.mono ?_; rintro e w2 ⟨rfl, hG2, hg2⟩)
    go_ret
    exact ⟨by rw [HD.out]; rfl, ⟨s.size, true, hG2, Nat.le_refl _, .inr ⟨rfl, rfl, fun _ => rfl⟩⟩, gr_trans hg1 hg2⟩
  · rw [if_neg h1]
    have d1 : decide ((1 : Int) < (((nx pO st).1 : Nat) : Int)) = false := by simp; omega
    have HD : Hid (((((nx pO st).1 : Nat) : Int) == 1) = decide ((nx pO st).1 = 1)) := by show _ = _; rw [Bool.eq_iff_iff]; simp; omega
    generalize (((nx pO st).1 : Nat) : Int) = x at HO d1 HD
    go_enter Try.func66, Try.ntmps66
    go_wp2_with (go_at_call 72; refine HO.out.mono ?_; rintro e w1 ⟨rfl, hR, hg1⟩)
    go_ret
    exact ⟨by rw [← HD.out]; rfl, hR, hg1⟩

/-- behind k labels -/
def LbSt (st0 : Option (List UInt8)) (k : Nat) (ls : List Int) (st : Option (List UInt8)) : Prop := ls.length = k ∧ LR k st0 ls st
theorem LbSt.start (st0 : Option (List UInt8)) : LbSt st0 0 [] st0 := by
  refine ⟨rfl, ?_⟩
  unfold LR
  cases st0 with
  | none => rfl
  | some L => simp
theorem LbSt.step {st0 : Option (List UInt8)} {k : Nat} {ls : List Int} {st : Option (List UInt8)} (h : LbSt st0 k ls st) : LbSt st0 (k + 1) (ls ++ [(((nx pO st).1 : Nat) : Int)]) (nx pO st).2 := by
  obtain ⟨h1, h2⟩ := h
  refine ⟨by simp [h1], ?_⟩
  unfold LR at h2 ⊢
  cases st0 with
  | none => dsimp only at h2 ⊢; subst h2; rfl
  | some L =>
    dsimp only at h2 ⊢
    split at h2
    · subst h2
      rw [if_pos (by omega)]
      rfl
    · obtain ⟨h3, h4⟩ := h2
      subst h3
      match hM : L.drop k with
      | [] =>
        have := congrArg List.length hM
        simp at this
        rw [if_pos (by omega)]
        rfl
      | c :: r =>
        have hl := congrArg List.length hM
        simp at hl
        rw [if_neg (by omega)]
        have e2 : L.drop (k + 1) = r := by rw [← List.drop_drop, hM]; rfl
        have e1 : L.take (k + 1) = L.take k ++ [c] := by
          have hc : L[k]? = some c := by
            have := congrArg (fun z => z[0]?) hM
            simpa using this
          rw [List.take_add_one, hc]
          rfl
        refine ⟨by rw [e2]; rfl, ?_⟩
        rw [e1, h4, List.map_append]
        rfl

set_option maxRecDepth 100000 in
set_option maxHeartbeats 4000000 in
theorem rLabels_any (n : Nat) (hn : n ≤ 12) (s : ByteArray) (hs : s.size ≤ 1048576) (w : World) (G : Nat) (st : Option (List UInt8)) (h : RdAt True 95 w G s st) :
    Calls Try.prog 68 #[.pointer (some ⟨G, 0, none⟩), .int .i64 (n : Int)] w fun e w' => ∃ (a : Option Addr) (ls : List Int) (st' : Option (List UInt8)), e = .returned (.slice a n n) ∧ w'.ownsRow w.heap.size 3 1 (.slice a n n) n (ic ls) ∧ LR n st ls st' ∧ RdAt True 95 w' G s st' ∧ w.grownBy w' (some G) := by
  obtain ⟨i0, hi, hz0, hz1, hz2⟩ := info_parts info3i
  have hGl := h.lt
  have hmk : ∀ u : World, (Instr.makeSlice 25 (.int .i64 (n : Int)) (.int .i64 (n : Int))).run Try.prog u =
      .ok (.slice (some ⟨u.heap.size, 0, none⟩) n n) (u.alloc (.cells (madeCells #[.int .i64 0] n) 3)) := fun u => by
    have h := run_make (P := Try.prog) u 25 3 i0 _ Try.underlying25 hi hz0 .i64 .i64 (n : Int) (n : Int) (by omega) (by omega) (by rw [hz2]; omega) (by omega)
    rw [Int.toNat_natCast] at h
    simpa [hz1, Value.cells] using h
  have HO : Hid (∀ W st, RdAt True 95 W G s st → Calls Try.prog 72 #[.pointer (some ⟨G, 0, none⟩)] W fun e w' => e = .returned (.int .i64 (((nx pO st).1 : Nat) : Int)) ∧ RdAt True 95 w' G s (nx pO st).2 ∧ W.grownBy w' (some G)) := fun W st hW => rOctet_any s hs W G st hW
  have HR := hideIt h
  clear h
  go_enter Try.func68, Try.ntmps68
  go_wp2
  go_loopw [11] (fun i wr => ∃ (j : Nat) (xs : List Value) (ls : List Int) (st1 : Option (List UInt8)), j ≤ n ∧ i = .int .i64 (j : Int) ∧ Hid (xs.take j = ic ls) ∧ Hid (LbSt st j ls st1) ∧ wr.ownsRow w.heap.size 3 1 (.slice (some ⟨w.heap.size, 0, none⟩) n n) n xs ∧ RdAt True 95 wr G s st1 ∧ w.grownBy wr (some G)) (fun i _ => n - (intOf i).toNat)
  case atStart =>
    exact ⟨0, _, [], st, by omega, rfl, by show _ = _; simp [ic], LbSt.start st, World.ownsRow_lit (base := w.heap.size) (e := 3) (size := 1) w (madeCells #[.int .i64 0] n) n (Nat.le_refl _) (by unfold maxLen; omega) (by simp [madeCells]), HR.out.alloc _, World.grownBy_alloc w _ (some G)⟩
  case round =>
    obtain ⟨j, xs, ls, st1, hj, rfl, hx, hE, hown, hR, hg⟩ := hrel
    have hl3 : xs.length = n * 1 := hown.1
    by_cases hlt : j < n
    · have b1 : (0 : Int) ≤ (j : Int) := by omega
      have b2 : (j : Int) < (n : Int) := by omega
      have hgz := hg.size
      go_wp2_with (go_at_call 72; refine (HO.out _ st1 hR).mono ?_; rintro e w3 ⟨rfl, hR3, hg3⟩; refine Hid.out ?_)
      refine (show ∀ {p : Prop}, p → Hid p from fun h => h) ?_
      have hown3 := World.ownsRow.kept hown hg3 (.inr (by simp [Value.ownBlock]; omega))
      have y0 := hown3.frozenAt j
      have x0 : w3.cell? ⟨w.heap.size, j, none⟩ = some (xs[j]'(by omega)) := by rw [hown3.cellAt j (by omega)]; exact List.getElem?_eq_getElem (by omega)
      have HR4 := hideIt (hR3.other (gr_set w3 w.heap.size j (.int .i64 (((nx pO st1).1 : Nat) : Int))) (show G ≠ w.heap.size by omega))
      have HO4 := hideIt (hown3.stored j (.int .i64 (((nx pO st1).1 : Nat) : Int))).1
      have HG4 := hideIt (gr_set_new (j := j) (u := .int .i64 (((nx pO st1).1 : Nat) : Int)) (gr_trans hg hg3) (Nat.le_refl _))
      have HS := hideIt hE.out.step
      clear hown hown3 hR hR3 hg3 hg
      go_wp2
      refine ⟨⟨j + 1, _, ls ++ [(((nx pO st1).1 : Nat) : Int)], _, by omega, by go_num, ?_, HS, HO4.out, HR4.out, HG4.out⟩, by simp [intOf]; omega⟩
      show _ = _
      rw [List.take_add_one, List.take_set_of_le (Nat.le_refl _), hx.out, ic_snoc]
      simp [show j < xs.length by omega]
    · obtain rfl : j = n := by omega
      have HX : Hid (xs = ic ls) := by
        show _ = _
        have := hx.out
        rw [List.take_of_length_le (by omega)] at this
        exact this
      have HOw := hideIt hown
      have HRr := hideIt hR
      have HGg := hideIt hg
      clear hx hown hR hg hl3
      go_wp2
      go_ret
      exact ⟨_, ls, st1, rfl, by rw [← HX.out]; exact HOw.out, hE.out.2, HRr.out, HGg.out⟩
end Go.Proofs.Ytaipbkigngjkbaa
namespace Go.Proofs.Ytaipbkigngjkbaa
open Go.RowKit Vt

theorem flag_ok {s1 : Option (List UInt8)} {es : List EdgeV} {s3 : Option (List UInt8)} {m : Nat} {ls : List Int} (h : ER (flSt s1) es s3) (h' : LR m s3 ls (some [])) : (nx pO s1).1 ≤ 1 := by
  by_cases h1 : 1 < (nx pO s1).1
  · have e : flSt s1 = none := by unfold flSt; rw [if_pos h1]
    rw [e] at h
    have h3 : s3 = none := h
    rw [h3] at h'
    cases h'
  · omega

theorem own_two {w W : World} {B T S n : Nat} {v : Value} {xs : List Value} (h : w.ownsRow B T S v n xs) (hb : ∀ g, B ≤ g → g < w.heap.size → W.heap[g]? = w.heap[g]?) : W.ownsRow B T S v n xs := by
  refine ⟨h.1, h.2.imp id ?_⟩
  rintro ⟨g, cp, cur, hv, hg, hc, rest⟩
  exact ⟨g, cp, cur, hv, hg, by rw [hb g hg (Array.getElem?_eq_some_iff.1 hc).1]; exact hc, rest⟩

set_option maxRecDepth 100000 in
set_option maxHeartbeats 4000000 in
theorem iReadAnswer_out (n : Int) (s : ByteArray) (h1 : ¬ (1 ≤ n ∧ n ≤ 12)) (w : World) :
    Calls Try.prog 59 #[.int .i64 n, .string s] w fun e w' => ∃ r, IsA n s.data.toList r ∧ AnsAns w w' e r := by
  have r1 : decide (1 ≤ n ∧ n ≤ 12) = false := by simpa using h1
  have HV := hideIt vertsOk_any
  have HI : Hid (IsA n s.data.toList none) := IsA.out h1
  go_enter Try.func59, Try.ntmps59
  go_wp2_with (go_at_call 64; refine (HV.out _ _).mono ?_; rintro e w1 ⟨rfl, rfl⟩)
  refine bodyPost_ret (v := .tuple #[ansV 0 false none 0 0 none 0 0, .bool false]) (by simp [results, Try.results59, go_sem]) rfl ⟨none, HI.out, none, 0, 0, none, 0, 0, rfl, ⟨rfl, .inl ⟨rfl, rfl⟩⟩, ⟨rfl, .inl ⟨rfl, rfl⟩⟩, by omega, by omega, ?_⟩
  first | exact bel1 _ _ | exact ((((bel1 _ _).setCell (Nat.le_refl _) _).setCell (Nat.le_refl _) _).setCell (Nat.le_refl _) _).setCell (Nat.le_refl _) _

set_option maxRecDepth 100000 in
set_option maxHeartbeats 4000000 in
theorem iReadAnswer_in (m : Nat) (hm1 : 1 ≤ m) (hm2 : m ≤ 12) (s : ByteArray) (hs : s.size ≤ 1048576) (w : World) :
    Calls Try.prog 59 #[.int .i64 (m : Int), .string s] w fun e w' => ∃ r, IsA (m : Int) s.data.toList r ∧ AnsAns w w' e r := by
  have r1 : decide (1 ≤ (m : Int) ∧ (m : Int) ≤ 12) = true := by simp; omega
  have HV := hideIt vertsOk_any
  have HN : Hid (∀ W G st, RdAt True 95 W G s st → Calls Try.prog 65 #[.pointer (some ⟨G, 0, none⟩)] W fun e w' => e = .returned (.int .i64 (((nx pN st).1 : Nat) : Int)) ∧ RdAt True 95 w' G s (nx pN st).2 ∧ W.grownBy w' (some G)) := fun W G st h => rNumber_any s hs W G st h
  have HF : Hid (∀ W G st, RdAt True 95 W G s st → Calls Try.prog 66 #[.pointer (some ⟨G, 0, none⟩)] W fun e w' => e = .returned (.bool (decide ((nx pO st).1 = 1))) ∧ RdAt True 95 w' G s (flSt st) ∧ W.grownBy w' (some G)) := fun W G st h => rFlag_any s hs W G st h
  have HE : Hid (∀ W G st, RdAt True 95 W G s st → Calls Try.prog 67 #[.pointer (some ⟨G, 0, none⟩)] W fun e w' => ∃ v, e = .returned v ∧ EdAns True 95 W w' G s st v 66) := fun W G st h => rEdges_any s hs W G st h
  have HL : Hid (∀ W G st, RdAt True 95 W G s st → Calls Try.prog 68 #[.pointer (some ⟨G, 0, none⟩), .int .i64 (m : Int)] W fun e w' => ∃ (a : Option Addr) (ls : List Int) (st' : Option (List UInt8)), e = .returned (.slice a m m) ∧ w'.ownsRow W.heap.size 3 1 (.slice a m m) m (ic ls) ∧ LR m st ls st' ∧ RdAt True 95 w' G s st' ∧ W.grownBy w' (some G)) := fun W G st h => rLabels_any m hm2 s hs W G st h
  have HD : Hid (∀ W G st, RdAt True 95 W G s st → Calls Try.prog 69 #[.pointer (some ⟨G, 0, none⟩)] W fun e w' => e = .returned (.bool (endB st)) ∧ RdAt True 95 w' G s st ∧ W.grownBy w' (some G)) := fun W G st h => rEnded_any s W G st h
  have R0 : RA True 95 w (((w.alloc (.cells (ac 0 false none 0 0 none 0 0) 27)).alloc (.cells #[.string s, .int .i64 0, .bool false] 95)).alloc (.cells (ac 0 false none 0 0 none 0 0) 27)) (w.heap.size + 1) (w.heap.size + 2) w.heap.size s (some s.data.toList) 0 false none 0 0 none 0 0 := by
    refine ⟨⟨0, false, ?_, by omega, .inl ⟨rfl, by simp [from_]⟩⟩, ?_, ?_, bel3 w _ _ _, by omega, by omega⟩
    · rw [Below.heap_alloc _ _ _ (by simp)]
      have := heap_alloc_new (w.alloc (.cells (ac 0 false none 0 0 none 0 0) 27)) (.cells #[.string s, .int .i64 0, .bool false] 95)
      simpa using this
    · have := heap_alloc_new ((w.alloc (.cells (ac 0 false none 0 0 none 0 0) 27)).alloc (.cells #[.string s, .int .i64 0, .bool false] 95)) (.cells (ac 0 false none 0 0 none 0 0) 27)
      simpa using this
    · rw [Below.heap_alloc _ _ _ (by simp; omega), Below.heap_alloc _ _ _ (by simp)]
      exact heap_alloc_new w _
  go_enter Try.func59, Try.ntmps59
  go_wp2_with (first | (go_at_call 64; refine (HV.out _ _).mono ?_; rintro e w1 ⟨rfl, rfl⟩) | (go_at_call 65; refine (HN.out _ _ _ R0.rd).mono ?_; rintro e w1 ⟨rfl, hr1, hg1⟩; refine Hid.out ?_))
  refine (show ∀ {p : Prop}, p → Hid p from fun h => h) ?_
  have R1 := R0.call hr1 hg1
  clear R0 hr1 hg1
  obtain ⟨c0, _, _, _⟩ := R1.cells
  have f0 := R1.frozen 0
  have R2 := R1.set 0 (.int .i64 (((nx pN (some s.data.toList)).1 : Nat) : Int)) rfl
  clear R1
  go_wp2_with (go_at_call 66; refine (HF.out _ _ _ R2.rd).mono ?_; rintro e w3 ⟨rfl, hr3, hg3⟩; refine Hid.out ?_)
  refine (show ∀ {p : Prop}, p → Hid p from fun h => h) ?_
  have R3 := R2.call hr3 hg3
  clear R2 hr3 hg3 c0 f0
  generalize hq2 : decide ((nx pO (nx pN (some s.data.toList)).2).1 = 1) = ok at *
  obtain ⟨_, c1, _, _⟩ := R3.cells
  have f1 := R3.frozen 1
  have R4 := R3.set 1 (.bool ok) rfl
  clear R3
  go_wp2_with (go_at_call 67; refine (HE.out _ _ _ R4.rd).mono ?_; rintro e w5 ⟨v5, rfl, hA5⟩; refine Hid.out ?_)
  refine (show ∀ {p : Prop}, p → Hid p from fun h => h) ?_
  obtain ⟨a, k, c, es, st3, rfl, hk, hby, hown, hER, hr5, hg5⟩ := ed_es hA5
  have R5 := R4.call hr5 hg5
  have hz4 := R4.lt
  have hge4 := R4.bel.size
  clear R4 hr5 hg5 hA5 c1 f1
  obtain ⟨_, _, c2, _⟩ := R5.cells
  have f2 := R5.frozen 2
  have R6 := R5.set 2 (.slice a k c) rfl
  have own6 := own_two (W := w5.setCell ⟨w.heap.size + 2, 2, none⟩ (.slice a k c)) hown (fun g hg _ => heap_setCell_other _ _ _ _ (by intro h; simp at h; have := hz4.2.1; omega))
  generalize (w3.setCell ⟨w.heap.size + 2, 1, none⟩ (.bool ok)).heap.size = B at own6 hz4 hge4
  clear R5 hown
  go_wp2_with (go_at_call 68; refine (HL.out _ _ _ R6.rd).mono ?_; rintro e w7 ⟨a', ls, st4, rfl, hown7, hLR, hr7, hg7⟩; refine Hid.out ?_)
  refine (show ∀ {p : Prop}, p → Hid p from fun h => h) ?_
  have R7 := R6.call hr7 hg7
  have own7 := own_two (W := w7) own6 (fun g hg hlt => hg7.block g hlt (by simp; have := hz4.1; omega))
  have hz6 := R6.lt
  have hge6 := R6.bel.size
  clear R6 hr7 hg7 c2 f2 own6
  obtain ⟨_, _, _, c3⟩ := R7.cells
  have f3 := R7.frozen 3
  have R8 := R7.set 3 (.slice a' m m) rfl
  have own8 := own_two (W := w7.setCell ⟨w.heap.size + 2, 3, none⟩ (.slice a' m m)) own7 (fun g hg _ => heap_setCell_other _ _ _ _ (by intro h; simp at h; have := hz4.2.1; omega))
  have own8' := own_two (W := w7.setCell ⟨w.heap.size + 2, 3, none⟩ (.slice a' m m)) hown7 (fun g hg _ => heap_setCell_other _ _ _ _ (by intro h; simp at h hg; have := hz6.2.1; simp at this; omega))
  have hz6' : w.heap.size + 1 < (w5.setCell ⟨w.heap.size + 2, 2, none⟩ (.slice a k c)).heap.size ∧ w.heap.size + 2 < (w5.setCell ⟨w.heap.size + 2, 2, none⟩ (.slice a k c)).heap.size ∧ w.heap.size < (w5.setCell ⟨w.heap.size + 2, 2, none⟩ (.slice a k c)).heap.size := hz6
  generalize (w5.setCell ⟨w.heap.size + 2, 2, none⟩ (.slice a k c)).heap.size = B' at own8' hz6' hge6
  generalize hq1 : (((nx pN (some s.data.toList)).1 : Nat) : Int) = num at *
  have HCa : Hid (Ca m s.data.toList ⟨num, ok, es, ls⟩ st4) := by
    refine ⟨_, flSt (nx pN (some s.data.toList)).2, st3, st4, hq1.symm, rfl, hq2.symm, ?_, hER, hLR, rfl⟩
    unfold flSt
    by_cases h1 : 1 < (nx pO (nx pN (some s.data.toList)).2).1
    · rw [if_pos h1]; exact .inr ⟨rfl, h1⟩
    · rw [if_neg h1]; exact .inl rfl
  have HFl : Hid (st4 = some [] → (nx pO (nx pN (some s.data.toList)).2).1 ≤ 1) := fun h => by subst h; exact flag_ok hER hLR
  have HO8 := hideIt own8
  have HO8' := hideIt own8'
  clear R7 own7 hown7 own8 own8' hER hLR hq1 hq2 hz6
  go_wp2_with (go_at_call 69; refine (HD.out _ _ _ R8.rd).mono ?_; rintro e w9 ⟨rfl, hr9, hg9⟩; refine Hid.out ?_)
  refine (show ∀ {p : Prop}, p → Hid p from fun h => h) ?_
  have R9 := R8.call hr9 hg9
  have own9 : Hid (w9.ownsRow B 76 2 (.slice a k c) k (ecells es)) := own_two HO8.out (fun g hg hlt => hg9.block g hlt (by simp; have := hz4.1; omega))
  have own9' : Hid (w9.ownsRow B' 3 1 (.slice a' m m) m (ic ls)) := own_two HO8'.out (fun g hg hlt => hg9.block g hlt (by simp; have := hz6'.1; omega))
  clear R8 hr9 hg9 HO8 HO8' c3 f3
  obtain ⟨q0, q1, q2, q3⟩ := R9.cells
  obtain ⟨r0, r1', r2, r3⟩ := R9.cellsR
  have g0 := R9.frozenR 0
  have g1 := R9.frozenR 1
  have g2 := R9.frozenR 2
  have g3 := R9.frozenR 3
  cases hE : endB st4 with
  | false =>
    have HI : Hid (IsA (m : Int) s.data.toList none) := IsA.no rfl HCa.out (.inl (fun h => by rw [(endB_iff st4).2 h] at hE; cases hE))
    have HB := hideIt R9.bel
    clear R9 hE q0 q1 q2 q3
    go_wp2
    refine bodyPost_ret (v := .tuple #[ansV 0 false none 0 0 none 0 0, .bool false]) (by simp [results, Try.results59, go_sem, r0, r1', r2, r3]) rfl ⟨none, HI.out, none, 0, 0, none, 0, 0, rfl, ⟨rfl, .inl ⟨rfl, rfl⟩⟩, ⟨rfl, .inl ⟨rfl, rfl⟩⟩, by omega, by omega, ?_⟩
    exact (((HB.out.setCell (Nat.le_refl _) _).setCell (Nat.le_refl _) _).setCell (Nat.le_refl _) _).setCell (Nat.le_refl _) _
  | true =>
    have hE := (endB_iff st4).1 hE
    have hfl := HFl.out hE
    subst hE
    have HOk := hideIt (iAnswerOk_any (m : Int) num ok es ls k a c (by omega) m a' m (by omega) w9 (Es_of_own own9.out) (Is_of_own own9'.out))
    unfold ansV at HOk
    cases hB : aB (m : Int) ⟨num, ok, es, ls⟩ with
    | false =>
      rw [hB] at HOk
      have HI : Hid (IsA (m : Int) s.data.toList none) := IsA.no rfl HCa.out (.inr hB)
      have HR := hideIt R9
      clear R9 hB r0 r1' r2 r3 g0 g1 g2 g3 hfl
      go_wp2_with (go_at_call 70; refine HOk.out.mono ?_; rintro e w10 ⟨rfl, hb10⟩; refine Hid.out ?_)
      refine (show ∀ {p : Prop}, p → Hid p from fun h => h) ?_
      have R10 := HR.out.below hb10
      obtain ⟨r0, r1', r2, r3⟩ := R10.cellsR
      have g0 := R10.frozenR 0
      have g1 := R10.frozenR 1
      have g2 := R10.frozenR 2
      have g3 := R10.frozenR 3
      have HB := hideIt R10.bel
      clear R10 q0 q1 q2 q3 hb10
      go_wp2
      refine bodyPost_ret (v := .tuple #[ansV 0 false none 0 0 none 0 0, .bool false]) (by simp [results, Try.results59, go_sem, r0, r1', r2, r3]) rfl ⟨none, HI.out, none, 0, 0, none, 0, 0, rfl, ⟨rfl, .inl ⟨rfl, rfl⟩⟩, ⟨rfl, .inl ⟨rfl, rfl⟩⟩, by omega, by omega, ?_⟩
      exact (((HB.out.setCell (Nat.le_refl _) _).setCell (Nat.le_refl _) _).setCell (Nat.le_refl _) _).setCell (Nat.le_refl _) _
    | true =>
      rw [hB] at HOk
      have HI : Hid (IsA (m : Int) s.data.toList (some ⟨num, ok, es, ls⟩)) := IsA.yes HCa.out hB hfl
      have HR := hideIt R9
      clear R9 hB r0 r1' r2 r3 g0 g1 g2 g3 hfl
      go_wp2_with (go_at_call 70; refine HOk.out.mono ?_; rintro e w10 ⟨rfl, hb10⟩; refine Hid.out ?_)
      refine (show ∀ {p : Prop}, p → Hid p from fun h => h) ?_
      have R10 := HR.out.below hb10
      have own10 : Hid (w10.ownsRow B 76 2 (.slice a k c) k (ecells es)) := own_two own9.out (fun g _ hlt => hb10.block g hlt)
      have own10' : Hid (w10.ownsRow B' 3 1 (.slice a' m m) m (ic ls)) := own_two own9'.out (fun g _ hlt => hb10.block g hlt)
      clear q0 q1 q2 q3
      obtain ⟨q0, q1, q2, q3⟩ := R10.cells
      obtain ⟨r0, r1', r2, r3⟩ := R10.cellsR
      have g0 := R10.frozenR 0
      have g1 := R10.frozenR 1
      have g2 := R10.frozenR 2
      have g3 := R10.frozenR 3
      have HB := hideIt R10.bel
      clear R10 hb10
      go_wp2
      refine bodyPost_ret (v := .tuple #[ansV num ok a k c a' m m, .bool true]) (by simp [results, Try.results59, go_sem, r0, r1', r2, r3]) rfl ⟨some ⟨num, ok, es, ls⟩, HI.out, a, k, c, a', m, m, rfl, ?_, ?_, by omega, by omega, ?_⟩
      · refine own_mono (B := B) ?_ hge4
        refine own_two own10.out (fun g hg hlt => ?_)
        have hne : g ≠ w.heap.size := by have := hz4.2.2; omega
        rw [heap_setCell_other _ _ _ _ (by exact hne), heap_setCell_other _ _ _ _ (by exact hne), heap_setCell_other _ _ _ _ (by exact hne), heap_setCell_other _ _ _ _ (by exact hne)]
      · refine own_mono (B := B') ?_ hge6
        refine own_two own10'.out (fun g hg hlt => ?_)
        have hne : g ≠ w.heap.size := by have := hz6'.2.2; omega
        rw [heap_setCell_other _ _ _ _ (by exact hne), heap_setCell_other _ _ _ _ (by exact hne), heap_setCell_other _ _ _ _ (by exact hne), heap_setCell_other _ _ _ _ (by exact hne)]
      · exact (((HB.out.setCell (Nat.le_refl _) _).setCell (Nat.le_refl _) _).setCell (Nat.le_refl _) _).setCell (Nat.le_refl _) _

theorem iReadAnswer_any (n : Int) (s : ByteArray) (hs : s.size ≤ 1048576) (w : World) :
    Calls Try.prog 59 #[.int .i64 n, .string s] w fun e w' => ∃ r, IsA n s.data.toList r ∧ AnsAns w w' e r := by
  by_cases h : 1 ≤ n ∧ n ≤ 12
  · obtain ⟨m, rfl⟩ := Int.eq_ofNat_of_zero_le (show 0 ≤ n by omega)
    exact iReadAnswer_in m (by omega) (by omega) s hs w
  · exact iReadAnswer_out n s h w
end Go.Proofs.Ytaipbkigngjkbaa
namespace Go.Proofs.Ytaipbkigngjkbaa
open Go.RowKit Vt

theorem str_neq {L : List UInt8} {s : ByteArray} (h : L ≠ s.data.toList) : ((str L).toList == s.toList) = false := by
  rw [beq_eq_false_iff_ne, Lib.toList_data, Lib.toList_data, str_list]
  exact h
theorem str_eq {L : List UInt8} {s : ByteArray} (h : L = s.data.toList) : str L = s := by
  apply ByteArray.ext
  rw [h]
  simp [str]

set_option maxRecDepth 100000 in
set_option maxHeartbeats 4000000 in
theorem sReadOrder_any (n : Int) (s : ByteArray) (hs : s.size ≤ 1048576) (w : World) :
    Calls Try.prog 13 #[.int .i64 n, .string s] w fun e w' => ∃ r, IsO n s.data.toList r ∧ OrdAns w w' e r := by
  have HN : Hid (∀ W G st, RdAt False 39 W G s st → Calls Try.prog 10 #[.pointer (some ⟨G, 0, none⟩)] W fun e w' => e = .returned (.int .i64 (((nx pN st).1 : Nat) : Int)) ∧ RdAt False 39 w' G s (nx pN st).2 ∧ W.grownBy w' (some G)) := fun W G st h => l09Var_any s hs W G st h
  have HO : Hid (∀ W G st, RdAt False 39 W G s st → Calls Try.prog 9 #[.pointer (some ⟨G, 0, none⟩)] W fun e w' => e = .returned (.int .i64 (((nx pO st).1 : Nat) : Int)) ∧ RdAt False 39 w' G s (nx pO st).2 ∧ W.grownBy w' (some G)) := fun W G st h => l09One_any s hs W G st h
  have HE : Hid (∀ W G st, RdAt False 39 W G s st → Calls Try.prog 24 #[.pointer (some ⟨G, 0, none⟩)] W fun e w' => ∃ v, e = .returned v ∧ EdAns False 39 W w' G s st v 100) := fun W G st h => l09ReadEdges_any s hs W G st h
  have hR0 : RdAt False 39 ((w.alloc (.cells (oc 0 0 none 0 0 0) 29)).alloc (.cells #[.string s, .int .i64 0, .bool false] 39)) (w.heap.size + 1) s (some s.data.toList) := by
    refine ⟨0, false, ?_, by omega, .inl ⟨rfl, by simp [from_]⟩⟩
    have := heap_alloc_new (w.alloc (.cells (oc 0 0 none 0 0 0) 29)) (.cells #[.string s, .int .i64 0, .bool false] 39)
    simpa using this
  have hb0 : ((w.alloc (.cells (oc 0 0 none 0 0 0) 29)).alloc (.cells #[.string s, .int .i64 0, .bool false] 39)).heap[w.heap.size]? = some (.cells (oc 0 0 none 0 0 0) 29 (0, 0)) := by
    rw [Below.heap_alloc _ _ _ (by simp)]
    exact heap_alloc_new w _
  have hB0 : Below w.heap.size w ((w.alloc (.cells (oc 0 0 none 0 0 0) 29)).alloc (.cells #[.string s, .int .i64 0, .bool false] 39)) := ((Below.refl _ _).alloc (Nat.le_refl _) _).alloc (by simp) _
  have HR0 := hideIt hR0
  have Hb0 := hideIt hb0
  have HB0 := hideIt hB0
  clear hR0 hb0 hB0
  go_enter Try.func13, Try.ntmps13
  go_wp2_with (go_at_call 10; refine (HN.out _ _ _ HR0.out).mono ?_; rintro e w1 ⟨rfl, hr1, hg1⟩; refine Hid.out ?_)
  refine (show ∀ {p : Prop}, p → Hid p from fun h => h) ?_
  have z1 := hg1.size
  simp at z1
  have R1 : RO False 39 w (w1.alloc (.cells (oc (((nx pN (some s.data.toList)).1 : Nat) : Int) 0 none 0 0 0) 29)) (w.heap.size + 1) w1.heap.size w.heap.size s (nx pN (some s.data.toList)).2 (((nx pN (some s.data.toList)).1 : Nat) : Int) 0 none 0 0 0 := by
    refine ⟨hr1.alloc _, heap_alloc_new w1 _, ?_, ?_, by omega, by omega⟩
    · rw [Below.heap_alloc _ _ _ (by omega), hg1.block _ (by simp; omega) (by simp)]
      exact Hb0.out
    · exact (bel_grown HB0.out hg1 (by omega)).alloc (by omega) _
  have R2 := R1
  clear R1 hr1 hg1 HR0 Hb0 HB0
  go_wp2_with (go_at_call 9; refine (HO.out _ _ _ R2.rd).mono ?_; rintro e w3 ⟨rfl, hr3, hg3⟩; refine Hid.out ?_)
  refine (show ∀ {p : Prop}, p → Hid p from fun h => h) ?_
  have R3 := R2.call hr3 hg3
  clear R2 hr3 hg3
  obtain ⟨_, c1, _, _⟩ := R3.cells
  have f1 := R3.frozen 1
  have R4 := R3.set 1 (.int .i64 (((nx pO (nx pN (some s.data.toList)).2).1 : Nat) : Int)) rfl
  clear R3
  go_wp2_with (go_at_call 10; refine (HN.out _ _ _ R4.rd).mono ?_; rintro e w5 ⟨rfl, hr5, hg5⟩; refine Hid.out ?_)
  refine (show ∀ {p : Prop}, p → Hid p from fun h => h) ?_
  have R5 := R4.call hr5 hg5
  clear R4 hr5 hg5 c1 f1
  obtain ⟨_, _, _, c3⟩ := R5.cells
  have f3 := R5.frozen 3
  have R6 := R5.set 3 (.int .i64 (((nx pN (nx pO (nx pN (some s.data.toList)).2).2).1 : Nat) : Int)) rfl
  clear R5
  go_wp2_with (go_at_call 24; refine (HE.out _ _ _ R6.rd).mono ?_; rintro e w7 ⟨v7, rfl, hA7⟩; refine Hid.out ?_)
  refine (show ∀ {p : Prop}, p → Hid p from fun h => h) ?_
  obtain ⟨a, k, c, es, st4, rfl, hk, hby, hown, hER, hr7, hg7⟩ := ed_es hA7
  have R7 := R6.call hr7 hg7
  have hz6 := R6.lt
  have hge6 := R6.bel.size
  clear R6 hr7 hg7 hA7 c3 f3
  obtain ⟨_, _, c2, _⟩ := R7.cells
  have f2 := R7.frozen 2
  have R8 := R7.set 2 (.slice a k c) rfl
  have own8 := own_block (W := w7.setCell ⟨w1.heap.size, 2, none⟩ (.slice a k c)) hown (fun g hg _ => heap_setCell_other _ _ _ _ (by intro h; simp at h; have := hz6.2.1; omega))
  clear R7 hown
  generalize hq1 : (((nx pN (some s.data.toList)).1 : Nat) : Int) = num at *
  generalize hq2 : (((nx pO (nx pN (some s.data.toList)).2).1 : Nat) : Int) = op at *
  generalize hq3 : (((nx pN (nx pO (nx pN (some s.data.toList)).2).2).1 : Nat) : Int) = v at *
  have HCh : Hid (Ch s.data.toList ⟨num, op, es, v⟩ st4) := ⟨_, _, _, hq1.symm, rfl, hq2.symm, rfl, hq3.symm, rfl, hER⟩
  clear hq1 hq2 hq3 hER
  generalize (w5.setCell ⟨w1.heap.size, 3, none⟩ (.int .i64 v)).heap.size = B at own8 hz6 hge6
  obtain ⟨q0, q1, q2, q3⟩ := R8.cells
  have HOk := hideIt (sOrderText_any n num op es v k a c (by omega) _ (Es_of_own own8))
  unfold ordV at HOk
  have own8 := hideIt own8
  have HR8 := hideIt R8
  clear R8
  cases hB : oB n ⟨num, op, es, v⟩ with
  | false =>
    rw [otV_no hB] at HOk
    have HI : Hid (IsO n s.data.toList none) := IsO.back HCh.out (.inr (.inl hB))
    clear hB
    cases hst : st4 with
    | none =>
      go_wp2_with (go_at_call 26; refine HOk.out.mono ?_; rintro e w10 ⟨rfl, hb10⟩; refine Hid.out ?_)
      refine (show ∀ {p : Prop}, p → Hid p from fun h => h) ?_
      have R10 := HR8.out.below hb10
      have cf := R10.rd.flag
      rw [hst] at cf
      obtain ⟨r0, r1, r2, r3⟩ := R10.cellsR
      have g0 := R10.frozenR 0
      have g1 := R10.frozenR 1
      have g2 := R10.frozenR 2
      have g3 := R10.frozenR 3
      have HB := hideIt R10.bel
      clear R10 q0 q1 q2 q3 hb10
      go_wp2
      refine bodyPost_ret (v := .tuple #[ordV 0 0 none 0 0 0, .bool false]) (by simp [results, Try.results13, go_sem, r0, r1, r2, r3]) rfl ⟨none, HI.out, none, 0, 0, rfl, ⟨rfl, .inl ⟨rfl, rfl⟩⟩, by omega, ?_⟩
      exact (((HB.out.setCell (Nat.le_refl _) _).setCell (Nat.le_refl _) _).setCell (Nat.le_refl _) _).setCell (Nat.le_refl _) _
    | some M =>
      go_wp2_with (go_at_call 26; refine HOk.out.mono ?_; rintro e w10 ⟨rfl, hb10⟩; refine Hid.out ?_)
      refine (show ∀ {p : Prop}, p → Hid p from fun h => h) ?_
      have R10 := HR8.out.below hb10
      have cf := R10.rd.flag
      rw [hst] at cf
      obtain ⟨r0, r1, r2, r3⟩ := R10.cellsR
      have g0 := R10.frozenR 0
      have g1 := R10.frozenR 1
      have g2 := R10.frozenR 2
      have g3 := R10.frozenR 3
      have HB := hideIt R10.bel
      clear R10 q0 q1 q2 q3 hb10
      go_wp2
      refine bodyPost_ret (v := .tuple #[ordV 0 0 none 0 0 0, .bool false]) (by simp [results, Try.results13, go_sem, r0, r1, r2, r3]) rfl ⟨none, HI.out, none, 0, 0, rfl, ⟨rfl, .inl ⟨rfl, rfl⟩⟩, by omega, ?_⟩
      exact (((HB.out.setCell (Nat.le_refl _) _).setCell (Nat.le_refl _) _).setCell (Nat.le_refl _) _).setCell (Nat.le_refl _) _
  | true =>
    rw [otV_yes hB] at HOk
    cases hst : st4 with
    | none =>
      have HI : Hid (IsO n s.data.toList none) := IsO.back HCh.out (.inl hst)
      clear hB
      go_wp2_with (go_at_call 26; refine HOk.out.mono ?_; rintro e w10 ⟨rfl, hb10⟩; refine Hid.out ?_)
      refine (show ∀ {p : Prop}, p → Hid p from fun h => h) ?_
      have R10 := HR8.out.below hb10
      have cf := R10.rd.flag
      rw [hst] at cf
      obtain ⟨r0, r1, r2, r3⟩ := R10.cellsR
      have g0 := R10.frozenR 0
      have g1 := R10.frozenR 1
      have g2 := R10.frozenR 2
      have g3 := R10.frozenR 3
      have HB := hideIt R10.bel
      clear R10 q0 q1 q2 q3 hb10
      go_wp2
      refine bodyPost_ret (v := .tuple #[ordV 0 0 none 0 0 0, .bool false]) (by simp [results, Try.results13, go_sem, r0, r1, r2, r3]) rfl ⟨none, HI.out, none, 0, 0, rfl, ⟨rfl, .inl ⟨rfl, rfl⟩⟩, by omega, ?_⟩
      exact (((HB.out.setCell (Nat.le_refl _) _).setCell (Nat.le_refl _) _).setCell (Nat.le_refl _) _).setCell (Nat.le_refl _) _
    | some M =>
      by_cases hT : oText ⟨num, op, es, v⟩ = s.data.toList
      · have HI : Hid (IsO n s.data.toList (some ⟨num, op, es, v⟩)) := ⟨hB, hT⟩
        rw [str_eq hT] at HOk
        clear hB hT
        go_wp2_with (go_at_call 26; refine HOk.out.mono ?_; rintro e w10 ⟨rfl, hb10⟩; refine Hid.out ?_)
        refine (show ∀ {p : Prop}, p → Hid p from fun h => h) ?_
        have R10 := HR8.out.below hb10
        have cf := R10.rd.flag
        rw [hst] at cf
        obtain ⟨r0, r1, r2, r3⟩ := R10.cellsR
        have g0 := R10.frozenR 0
        have g1 := R10.frozenR 1
        have g2 := R10.frozenR 2
        have g3 := R10.frozenR 3
        have HB := hideIt R10.bel
        have own10 : Hid (w10.ownsRow B 76 2 (.slice a k c) k (ecells es)) := own_block own8.out (fun g _ hlt => hb10.block g hlt)
        clear q0 q1 q2 q3
        obtain ⟨q0, q1, q2, q3⟩ := R10.cells
        clear R10 hb10
        go_wp2
        refine bodyPost_ret (v := .tuple #[ordV num op a k c v, .bool true]) (by simp [results, Try.results13, go_sem, r0, r1, r2, r3]) rfl ⟨some ⟨num, op, es, v⟩, HI.out, a, k, c, rfl, ?_, by omega, ?_⟩
        · refine own_mono (B := B) ?_ hge6
          refine own_block own10.out (fun g hg hlt => ?_)
          have hne : g ≠ w.heap.size := by have := hz6.2.2; omega
          rw [heap_setCell_other _ _ _ _ (by exact hne), heap_setCell_other _ _ _ _ (by exact hne), heap_setCell_other _ _ _ _ (by exact hne), heap_setCell_other _ _ _ _ (by exact hne)]
        · exact (((HB.out.setCell (Nat.le_refl _) _).setCell (Nat.le_refl _) _).setCell (Nat.le_refl _) _).setCell (Nat.le_refl _) _
      · have HI : Hid (IsO n s.data.toList none) := IsO.back HCh.out (.inr (.inr hT))
        have tq := str_neq hT
        generalize str (oText ⟨num, op, es, v⟩) = S at HOk tq
        clear hB hT
        go_wp2_with (go_at_call 26; refine HOk.out.mono ?_; rintro e w10 ⟨rfl, hb10⟩; refine Hid.out ?_)
        refine (show ∀ {p : Prop}, p → Hid p from fun h => h) ?_
        have R10 := HR8.out.below hb10
        have cf := R10.rd.flag
        rw [hst] at cf
        obtain ⟨r0, r1, r2, r3⟩ := R10.cellsR
        have g0 := R10.frozenR 0
        have g1 := R10.frozenR 1
        have g2 := R10.frozenR 2
        have g3 := R10.frozenR 3
        have HB := hideIt R10.bel
        clear R10 q0 q1 q2 q3 hb10
        go_wp2
        refine bodyPost_ret (v := .tuple #[ordV 0 0 none 0 0 0, .bool false]) (by simp [results, Try.results13, go_sem, r0, r1, r2, r3]) rfl ⟨none, HI.out, none, 0, 0, rfl, ⟨rfl, .inl ⟨rfl, rfl⟩⟩, by omega, ?_⟩
        exact (((HB.out.setCell (Nat.le_refl _) _).setCell (Nat.le_refl _) _).setCell (Nat.le_refl _) _).setCell (Nat.le_refl _) _
end Go.Proofs.Ytaipbkigngjkbaa
namespace Go.Proofs.Ytaipbkigngjkbaa
open Go.RowKit Vt

theorem newsI10 (w : World) (x : Int) : ∀ j u, ([Value.int .i64 x] : List Value)[j]? = some u → (w.alloc (.cells #[.int .i64 x] 3)).cell? ((⟨w.heap.size, 0, none⟩ : Addr).add j) = some u := by
  intro j u hj
  match j, hj with
  | 0, hj => simp at hj; subst hj; simp [Addr.add]

theorem LR_end {st0 : Option (List UInt8)} {m j : Nat} {ls : List Int} {st : Option (List UInt8)} (h : LbSt st0 j ls st) (hj : j ≤ m) (he : st = none ∨ m ≤ j) : LR m st0 ls st := by
  obtain ⟨h1, h2⟩ := h
  by_cases hm : m ≤ j
  · obtain rfl : j = m := by omega
    exact h2
  · have hn : st = none := by
      rcases he with he | he
      · exact he
      · omega
    subst hn
    unfold LR at h2 ⊢
    cases st0 with
    | none => rfl
    | some L =>
      dsimp only at h2 ⊢
      split at h2
      · rw [if_pos (by omega)]
      · simp at h2

/-- what stands in memory while labels are read: the answer in its box, labels and edges in rows of their own -/
def LbMem (w W : World) (G O R : Nat) (s : ByteArray) (st : Option (List UInt8)) (num : Int) (ok : Bool) (a : Option Addr) (k c : Nat) (es : List EdgeV) (B Bl : Nat) (a' : Option Addr) (j c' : Nat) (ls : List Int) : Prop :=
  RA False 39 w W G O R s st num ok a k c a' j c' ∧ W.ownsRow Bl 3 1 (.slice a' j c') j (ic ls) ∧ W.ownsRow B 76 2 (.slice a k c) k (ecells es) ∧ Bl ≤ W.heap.size ∧ ∀ g, (Value.slice a k c).ownBlock = some g → g < Bl

theorem LbMem.call {w W W' : World} {G O R : Nat} {s : ByteArray} {st st' : Option (List UInt8)} {num : Int} {ok : Bool} {a : Option Addr} {k c : Nat} {es : List EdgeV} {B Bl : Nat} {a' : Option Addr} {j c' : Nat} {ls : List Int}
    (h : LbMem w W G O R s st num ok a k c es B Bl a' j c' ls) (hGB : G < B) (hGl : G < Bl) (hr : RdAt False 39 W' G s st') (hg : W.grownBy W' (some G)) : LbMem w W' G O R s st' num ok a k c es B Bl a' j c' ls := by
  obtain ⟨h1, h2, h3, h4, h5⟩ := h
  exact ⟨h1.call hr hg, h2.kept hg (own_ne h2 hGl), h3.kept hg (own_ne h3 hGB), Nat.le_trans h4 hg.size, h5⟩

theorem LbMem.app {w W W' : World} {G O R : Nat} {s : ByteArray} {st : Option (List UInt8)} {num : Int} {ok : Bool} {a : Option Addr} {k c : Nat} {es : List EdgeV} {B Bl : Nat} {a' : Option Addr} {j c' : Nat} {ls : List Int} {x : Int} {g cap : Nat}
    (h : LbMem w W G O R s st num ok a k c es B Bl a' j c' ls) (hl : G < Bl ∧ O < Bl ∧ R < Bl) (hw : w.heap.size ≤ Bl)
    (hown : W'.ownsRow Bl 3 1 (.slice (some ⟨g, 0, none⟩) (j + 1) cap) (j + 1) (ic ls ++ [.int .i64 x])) (hg : (W.alloc (.cells #[.int .i64 x] 3)).grownBy W' (Value.slice a' j c').ownBlock) :
    RA False 39 w W' G O R s st num ok a k c a' j c' ∧ W'.ownsRow Bl 3 1 (.slice (some ⟨g, 0, none⟩) (j + 1) cap) (j + 1) (ic (ls ++ [x])) ∧ W'.ownsRow B 76 2 (.slice a k c) k (ecells es) ∧ Bl ≤ W'.heap.size ∧ ∀ q, (Value.slice a k c).ownBlock = some q → q < Bl := by
  obtain ⟨h1, h2, h3, h4, h5⟩ := h
  have hrow : ∀ q, (Value.slice a' j c').ownBlock = some q → Bl ≤ q := fun q hq => (h2.lt q hq).1
  have hgg : W.grownBy W' (Value.slice a' j c').ownBlock := gr_trans (World.grownBy_alloc W _ _) hg
  have hne : ∀ q, q < Bl → (Value.slice a' j c').ownBlock ≠ some q := fun q hq e => by have := hrow q e; omega
  refine ⟨⟨h1.rd.row hgg (hne G hl.1), by rw [hgg.block O h1.lt.2.1 (Ne.symm (hne O hl.2.1))]; exact h1.ob, by rw [hgg.block R h1.lt.2.2 (Ne.symm (hne R hl.2.2))]; exact h1.rb, h1.bel.grown hgg h1.bel.size (fun q hq => by have := hrow q hq; omega), h1.ge, h1.ne⟩, by rw [ic_snoc]; exact hown, own_kept h3 hgg (fun q hq => fun e => by have := h5 q e; have := hrow q hq; omega), Nat.le_trans h4 hgg.size, h5⟩

theorem LbMem.store {w W : World} {G O R : Nat} {s : ByteArray} {st : Option (List UInt8)} {num : Int} {ok : Bool} {a : Option Addr} {k c : Nat} {es : List EdgeV} {B Bl : Nat} {a' : Option Addr} {j c' : Nat} {b' : Option Addr} {i d' : Nat} {ls : List Int}
    (h : RA False 39 w W G O R s st num ok a k c a' j c' ∧ W.ownsRow Bl 3 1 (.slice b' i d') i (ic ls) ∧ W.ownsRow B 76 2 (.slice a k c) k (ecells es) ∧ Bl ≤ W.heap.size ∧ ∀ q, (Value.slice a k c).ownBlock = some q → q < Bl) (hO : O < Bl) (hB : O < B) :
    LbMem w (W.setCell ⟨O, 3, none⟩ (.slice b' i d')) G O R s st num ok a k c es B Bl b' i d' ls := by
  obtain ⟨h1, h2, h3, h4, h5⟩ := h
  exact ⟨h1.set 3 (.slice b' i d') rfl, h2.kept (gr_set W O 3 _) (own_ne h2 hO), h3.kept (gr_set W O 3 _) (own_ne h3 hB), Nat.le_trans h4 (gr_set W O 3 _).size, h5⟩

set_option maxRecDepth 100000 in
set_option maxHeartbeats 8000000 in
theorem sReadAnswer_any (n : Int) (s : ByteArray) (hs : s.size ≤ 1048576) (w : World) :
    Calls Try.prog 11 #[.int .i64 n, .string s] w fun e w' => ∃ r, IsA n s.data.toList r ∧ AnsAns w w' e r := by
  obtain ⟨i0, hi, hz0, hz1, hz2⟩ := info_parts info3i
  have HN : Hid (∀ W G st, RdAt False 39 W G s st → Calls Try.prog 10 #[.pointer (some ⟨G, 0, none⟩)] W fun e w' => e = .returned (.int .i64 (((nx pN st).1 : Nat) : Int)) ∧ RdAt False 39 w' G s (nx pN st).2 ∧ W.grownBy w' (some G)) := fun W G st h => l09Var_any s hs W G st h
  have HO : Hid (∀ W G st, RdAt False 39 W G s st → Calls Try.prog 9 #[.pointer (some ⟨G, 0, none⟩)] W fun e w' => e = .returned (.int .i64 (((nx pO st).1 : Nat) : Int)) ∧ RdAt False 39 w' G s (nx pO st).2 ∧ W.grownBy w' (some G)) := fun W G st h => l09One_any s hs W G st h
  have HE : Hid (∀ W G st, RdAt False 39 W G s st → Calls Try.prog 24 #[.pointer (some ⟨G, 0, none⟩)] W fun e w' => ∃ v, e = .returned v ∧ EdAns False 39 W w' G s st v 100) := fun W G st h => l09ReadEdges_any s hs W G st h
  have hR0 : RdAt False 39 ((w.alloc (.cells (ac 0 false none 0 0 none 0 0) 27)).alloc (.cells #[.string s, .int .i64 0, .bool false] 39)) (w.heap.size + 1) s (some s.data.toList) := by
    refine ⟨0, false, ?_, by omega, .inl ⟨rfl, by simp [from_]⟩⟩
    have := heap_alloc_new (w.alloc (.cells (ac 0 false none 0 0 none 0 0) 27)) (.cells #[.string s, .int .i64 0, .bool false] 39)
    simpa using this
  have hb0 : ((w.alloc (.cells (ac 0 false none 0 0 none 0 0) 27)).alloc (.cells #[.string s, .int .i64 0, .bool false] 39)).heap[w.heap.size]? = some (.cells (ac 0 false none 0 0 none 0 0) 27 (0, 0)) := by
    rw [Below.heap_alloc _ _ _ (by simp)]
    exact heap_alloc_new w _
  have hB0 : Below w.heap.size w ((w.alloc (.cells (ac 0 false none 0 0 none 0 0) 27)).alloc (.cells #[.string s, .int .i64 0, .bool false] 39)) := ((Below.refl _ _).alloc (Nat.le_refl _) _).alloc (by simp) _
  have HR0 := hideIt hR0
  have Hb0 := hideIt hb0
  have HB0 := hideIt hB0
  clear hR0 hb0 hB0
  go_enter Try.func11, Try.ntmps11
  go_wp2_with (go_at_call 10; refine (HN.out _ _ _ HR0.out).mono ?_; rintro e w1 ⟨rfl, hr1, hg1⟩; refine Hid.out ?_)
  refine (show ∀ {p : Prop}, p → Hid p from fun h => h) ?_
  have z1 := hg1.size
  simp at z1
  have R2 : RA False 39 w (w1.alloc (.cells (ac (((nx pN (some s.data.toList)).1 : Nat) : Int) false none 0 0 none 0 0) 27)) (w.heap.size + 1) w1.heap.size w.heap.size s (nx pN (some s.data.toList)).2 (((nx pN (some s.data.toList)).1 : Nat) : Int) false none 0 0 none 0 0 := by
    refine ⟨hr1.alloc _, heap_alloc_new w1 _, ?_, ?_, by omega, by omega⟩
    · rw [Below.heap_alloc _ _ _ (by omega), hg1.block _ (by simp; omega) (by simp)]
      exact Hb0.out
    · exact (bel_grown HB0.out hg1 (by omega)).alloc (by omega) _
  clear hr1 hg1 HR0 Hb0 HB0
  go_wp2_with (go_at_call 9; refine (HO.out _ _ _ R2.rd).mono ?_; rintro e w3 ⟨rfl, hr3, hg3⟩; refine Hid.out ?_)
  refine (show ∀ {p : Prop}, p → Hid p from fun h => h) ?_
  have R3 := R2.call hr3 hg3
  clear R2 hr3 hg3
  obtain ⟨_, c1, _, _⟩ := R3.cells
  have f1 := R3.frozen 1
  have HD : Hid (((((nx pO (nx pN (some s.data.toList)).2).1 : Nat) : Int) == 1) = decide ((nx pO (nx pN (some s.data.toList)).2).1 = 1)) := by show _ = _; rw [Bool.eq_iff_iff]; simp; omega
  generalize hok : ((((nx pO (nx pN (some s.data.toList)).2).1 : Nat) : Int) == 1) = ok at HD
  have R4 := R3.set 1 (.bool ok) rfl
  clear R3
  go_wp2_with (go_at_call 24; refine (HE.out _ _ _ R4.rd).mono ?_; rintro e w5 ⟨v5, rfl, hA5⟩; refine Hid.out ?_)
  refine (show ∀ {p : Prop}, p → Hid p from fun h => h) ?_
  obtain ⟨a, k, c, es, st3, rfl, hk, hby, hown, hER, hr5, hg5⟩ := ed_es hA5
  have R5 := R4.call hr5 hg5
  have hz4 := R4.lt
  have hge4 := R4.bel.size
  clear R4 hr5 hg5 hA5 c1 f1
  obtain ⟨_, _, c2, _⟩ := R5.cells
  have f2 := R5.frozen 2
  have R6 := R5.set 2 (.slice a k c) rfl
  have own6 := own_two (W := w5.setCell ⟨w1.heap.size, 2, none⟩ (.slice a k c)) hown (fun g hg _ => heap_setCell_other _ _ _ _ (by intro h; simp at h; have := hz4.2.1; omega))
  have hzl := R6.lt
  have hgel := R6.bel.size
  have hrow6 : ∀ g, (Value.slice a k c).ownBlock = some g → g < (w5.setCell ⟨w1.heap.size, 2, none⟩ (.slice a k c)).heap.size := fun g hg => (own6.lt g hg).2
  generalize (w3.setCell ⟨w1.heap.size, 1, none⟩ (.bool ok)).heap.size = B at own6 hz4 hge4
  generalize hq1 : (((nx pN (some s.data.toList)).1 : Nat) : Int) = num at *
  have M6 : LbMem w (w5.setCell ⟨w1.heap.size, 2, none⟩ (.slice a k c)) (w.heap.size + 1) w1.heap.size w.heap.size s st3 num ok a k c es B (w5.setCell ⟨w1.heap.size, 2, none⟩ (.slice a k c)).heap.size none 0 0 [] :=
    ⟨R6, ⟨rfl, .inl ⟨rfl, rfl⟩⟩, own6, Nat.le_refl _, hrow6⟩
  generalize hBl : (w5.setCell ⟨w1.heap.size, 2, none⟩ (.slice a k c)).heap.size = Bl at M6 hzl hgel
  have HCa0 : Hid (∀ (m : Nat) (ls : List Int) (st4 : Option (List UInt8)), LR m st3 ls st4 → Ca m s.data.toList ⟨num, ok, es, ls⟩ st4) := fun m ls st4 hLR =>
    ⟨_, (nx pO (nx pN (some s.data.toList)).2).2, st3, st4, hq1.symm, rfl, by rw [← HD.out, ← hok], .inl rfl, hER, hLR, rfl⟩
  have HM6 := hideIt M6
  clear R5 R6 hown own6 hrow6 M6 hER hq1 hok HD hBl hby
  go_wp2
  go_loopw [8] (fun i wr => ∃ (j : Nat) (ls : List Int) (st1 : Option (List UInt8)) (a' : Option Addr) (c' : Nat), j ≤ 12 ∧ (j = 0 ∨ (j : Int) ≤ n) ∧ i = .int .i64 (j : Int) ∧ Hid (LbSt st3 j ls st1) ∧ LbMem w wr (w.heap.size + 1) w1.heap.size w.heap.size s st1 num ok a k c es B Bl a' j c' ls) (fun i _ => 12 - (intOf i).toNat)
  case atStart => exact ⟨0, [], st3, none, 0, by omega, .inl rfl, rfl, LbSt.start st3, HM6.out⟩
  case round =>
    obtain ⟨j, ls, st1, a', c', hj, hjn, rfl, hS, hM⟩ := hrel
    have cfl := hM.1.rd.flag
    obtain ⟨q0, q1, q2, q3⟩ := hM.1.cells
    have HM := hideIt hM
    by_cases hcont : (j : Int) < n ∧ j < 12 ∧ st1 ≠ none
    · obtain ⟨hc1, hc2, hc3⟩ := hcont
      have e1 : decide ((j : Int) < n) = true := by simpa using hc1
      have e2 : decide ((j : Int) < 12) = true := by simp; omega
      have e3 : st1.isNone = false := by cases st1 with | none => exact absurd rfl hc3 | some _ => rfl
      rw [e3] at cfl
      have HR0 : Hid (RdAt False 39 wr.drew (w.heap.size + 1) s st1) := hM.1.rd
      generalize hxx : (((nx pO st1).1 : Nat) : Int) = xx
      have HO : Hid (∀ W G st, RdAt False 39 W G s st → st = st1 → Calls Try.prog 9 #[.pointer (some ⟨G, 0, none⟩)] W fun e w' => e = .returned (.int .i64 xx) ∧ RdAt False 39 w' G s (nx pO st1).2 ∧ W.grownBy w' (some G)) := fun W G st h e => by subst e; rw [← hxx]; exact HO.out W G st h
      have HS1 : Hid (LbSt st3 (j + 1) (ls ++ [xx]) (nx pO st1).2) := by rw [← hxx]; exact hS.out.step
      have HAf : Hid (∀ W', RdAt False 39 W' (w.heap.size + 1) s (nx pO st1).2 → wr.drew.grownBy W' (some (w.heap.size + 1)) → LbMem w W' (w.heap.size + 1) w1.heap.size w.heap.size s (nx pO st1).2 num ok a k c es B Bl a' j c' ls) := fun W' hr hg => HM.out.call (by have := hz4.1; omega) (by have := hzl.1; omega) hr (gr_trans (gr_drew wr _) hg)
      have HAp : Hid (∀ (W W' : World) (g cap : Nat), LbMem w W (w.heap.size + 1) w1.heap.size w.heap.size s (nx pO st1).2 num ok a k c es B Bl a' j c' ls → W'.ownsRow Bl 3 1 (.slice (some ⟨g, 0, none⟩) (j + 1) cap) (j + 1) (ic ls ++ [.int .i64 xx]) → (W.alloc (.cells #[.int .i64 xx] 3)).grownBy W' (Value.slice a' j c').ownBlock → RA False 39 w W' (w.heap.size + 1) w1.heap.size w.heap.size s (nx pO st1).2 num ok a k c a' j c' ∧ W'.ownsRow Bl 3 1 (.slice (some ⟨g, 0, none⟩) (j + 1) cap) (j + 1) (ic (ls ++ [xx])) ∧ W'.ownsRow B 76 2 (.slice a k c) k (ecells es) ∧ Bl ≤ W'.heap.size ∧ ∀ q, (Value.slice a k c).ownBlock = some q → q < Bl) := fun W W' g cap h1 h2 h3 => h1.app hzl hgel h2 h3
      have HFin : Hid (∀ (W' : World) (g cap : Nat), (RA False 39 w W' (w.heap.size + 1) w1.heap.size w.heap.size s (nx pO st1).2 num ok a k c a' j c' ∧ W'.ownsRow Bl 3 1 (.slice (some ⟨g, 0, none⟩) (j + 1) cap) (j + 1) (ic (ls ++ [xx])) ∧ W'.ownsRow B 76 2 (.slice a k c) k (ecells es) ∧ Bl ≤ W'.heap.size ∧ ∀ q, (Value.slice a k c).ownBlock = some q → q < Bl) → LbMem w (W'.setCell ⟨w1.heap.size, 3, none⟩ (.slice (some ⟨g, 0, none⟩) (j + 1) cap)) (w.heap.size + 1) w1.heap.size w.heap.size s (nx pO st1).2 num ok a k c es B Bl (some ⟨g, 0, none⟩) (j + 1) cap (ls ++ [xx])) := fun W' g cap h => LbMem.store h hzl.2.1 hz4.2.1
      clear hM hxx hS HE HN HCa0 HM
      go_wp2
      refine wp_region_any (by kernel_rfl) ?_
      change wpAny _ _ _ _ _ _ _ (World.drew _)
      refine takeOp (i := 0) (v := ?_) rfl (by kernel_rfl) (by kernel_rfl) (by kernel_rfl) (fun _ _ _ h => h) (by kernel_rfl) ?_ ?_
      rotate_left
      · intro w; go_simp; try with_reducible rfl
      try simp only [Act.put, List.getElem_toArray, List.getElem_cons_zero, List.setIfInBounds_toArray, List.set_cons_zero, List.set_cons_succ]
      refine takeOp (i := 2) (v := ?_) rfl (by kernel_rfl) (by kernel_rfl) (by kernel_rfl) (fun _ _ _ h => h) (by kernel_rfl) ?_ ?_
      rotate_left
      · intro w; go_simp; try with_reducible rfl
      try simp only [Act.put, List.getElem_toArray, List.getElem_cons_succ, List.getElem_cons_zero, List.setIfInBounds_toArray, List.set_cons_zero, List.set_cons_succ]
      refine wpAny_ready (rs := [1, 3]) (by kernel_rfl) (by simp) ?_
      refine AllReady.cons rfl (fun K hK => ?_) (AllReady.cons rfl (fun K hK => ?_) AllReady.nil)
      · go_simp
        refine hK _ _ ?_
        clear hK K
        try simp only [Act.put, List.getElem_toArray, List.getElem_cons_succ, List.getElem_cons_zero, List.setIfInBounds_toArray, List.set_cons_zero, List.set_cons_succ]
        refine wpAny_ready (rs := [3]) (by kernel_rfl) (by simp) ?_
        refine AllReady.cons rfl (fun K hK => ?_) AllReady.nil
        rw [if_pos]
        rotate_left
        · kernel_rfl
        go_wp2_with (go_at_call 9; refine (HO.out wr.drew _ _ HR0.out rfl).mono ?_; rintro e w3 ⟨rfl, hR3, hg3⟩; refine Hid.out ?_)
        refine (show ∀ {p : Prop}, p → Hid p from fun h => h) ?_
        have A3 := HAf.out _ hR3 hg3
        have l3 := A3.1.cells.2.2.2
        have HA3 := hideIt A3
        clear A3 hR3 hg3
        refine hK _ _ ?_
        clear hK K
        try simp only [Act.put, List.getElem_toArray, List.getElem_cons_succ, List.getElem_cons_zero, List.setIfInBounds_toArray, List.set_cons_zero, List.set_cons_succ]
        refine wpAny_ready (rs := [4]) (by kernel_rfl) (by simp) ?_
        refine AllReady.cons rfl (fun K hK => ?_) AllReady.nil
        go_simp
        refine hK _ _ ?_
        clear hK K
        try simp only [Act.put, List.getElem_toArray, List.getElem_cons_succ, List.getElem_cons_zero, List.setIfInBounds_toArray, List.set_cons_zero, List.set_cons_succ]
        refine wpAny_ready (rs := [5]) (by kernel_rfl) (by simp) ?_
        refine AllReady.cons rfl (fun K hK => ?_) AllReady.nil
        refine step_append_lies _ rfl _ _ 25 rfl Bl 3 i0 _ 1 8 Try.underlying25 hi hz0 hz1 hz2 rfl (by decide) _ _ _ rfl (HA3.out.2.1.alloc (.cells #[.int .i64 xx] 3)) ⟨w3.heap.size, 0, none⟩ 1 1 [.int .i64 xx] rfl rfl (newsI10 w3 xx) (by intro u hu; simp at hu; subst hu; rfl) (by omega) (by unfold maxLen; omega) (by omega) (by have := HA3.out.2.2.2.1; simp; omega) (w3.heap.size + 1) (by simp) ?_
        intro ga capa w4 hown4 hg4 hat4 hlt4
        have R4 := HAp.out w3 w4 ga capa HA3.out hown4 hg4
        have y4 := R4.1.frozen 3
        have l5 := R4.1.cells.2.2.2
        have HR4 := hideIt R4
        clear R4 hown4 hg4 hat4
        refine hK _ _ ?_
        clear hK K
        try simp only [Act.put, List.getElem_toArray, List.getElem_cons_succ, List.getElem_cons_zero, List.setIfInBounds_toArray, List.set_cons_zero, List.set_cons_succ]
        refine wpAny_ready (rs := [6]) (by kernel_rfl) (by simp) ?_
        refine AllReady.cons rfl (fun K hK => ?_) AllReady.nil
        go_simp
        refine hK _ _ ?_
        clear hK K
        try simp only [Act.put, List.getElem_toArray, List.getElem_cons_succ, List.getElem_cons_zero, List.setIfInBounds_toArray, List.set_cons_zero, List.set_cons_succ]
        refine wpAny_ready (rs := [7]) (by kernel_rfl) (by simp) ?_
        refine AllReady.cons rfl (fun K hK => ?_) AllReady.nil
        go_simp
        refine hK _ _ ?_
        clear hK K
        try simp only [Act.put, List.getElem_toArray, List.getElem_cons_succ, List.getElem_cons_zero, List.setIfInBounds_toArray, List.set_cons_zero, List.set_cons_succ]
        refine wpAny_done (by kernel_rfl) ?_ _
        go_wp2
        exact ⟨⟨j + 1, ls ++ [xx], _, _, _, by omega, by omega, by go_num, HS1, HFin.out w4 ga capa HR4.out⟩, by simp [intOf]; omega⟩
      · rw [if_pos]
        rotate_left
        · kernel_rfl
        go_wp2_with (go_at_call 9; refine (HO.out wr.drew _ _ HR0.out rfl).mono ?_; rintro e w3 ⟨rfl, hR3, hg3⟩; refine Hid.out ?_)
        refine (show ∀ {p : Prop}, p → Hid p from fun h => h) ?_
        have A3 := HAf.out _ hR3 hg3
        have l3 := A3.1.cells.2.2.2
        have HA3 := hideIt A3
        clear A3 hR3 hg3
        refine hK _ _ ?_
        clear hK K
        try simp only [Act.put, List.getElem_toArray, List.getElem_cons_succ, List.getElem_cons_zero, List.setIfInBounds_toArray, List.set_cons_zero, List.set_cons_succ]
        refine wpAny_ready (rs := [1, 4]) (by kernel_rfl) (by simp) ?_
        refine AllReady.cons rfl (fun K hK => ?_) (AllReady.cons rfl (fun K hK => ?_) AllReady.nil)
        · go_simp
          refine hK _ _ ?_
          clear hK K
          try simp only [Act.put, List.getElem_toArray, List.getElem_cons_succ, List.getElem_cons_zero, List.setIfInBounds_toArray, List.set_cons_zero, List.set_cons_succ]
          refine wpAny_ready (rs := [4]) (by kernel_rfl) (by simp) ?_
          refine AllReady.cons rfl (fun K hK => ?_) AllReady.nil
          go_simp
          refine hK _ _ ?_
          clear hK K
          try simp only [Act.put, List.getElem_toArray, List.getElem_cons_succ, List.getElem_cons_zero, List.setIfInBounds_toArray, List.set_cons_zero, List.set_cons_succ]
          refine wpAny_ready (rs := [5]) (by kernel_rfl) (by simp) ?_
          refine AllReady.cons rfl (fun K hK => ?_) AllReady.nil
          refine step_append_lies _ rfl _ _ 25 rfl Bl 3 i0 _ 1 8 Try.underlying25 hi hz0 hz1 hz2 rfl (by decide) _ _ _ rfl (HA3.out.2.1.alloc (.cells #[.int .i64 xx] 3)) ⟨w3.heap.size, 0, none⟩ 1 1 [.int .i64 xx] rfl rfl (newsI10 w3 xx) (by intro u hu; simp at hu; subst hu; rfl) (by omega) (by unfold maxLen; omega) (by omega) (by have := HA3.out.2.2.2.1; simp; omega) (w3.heap.size + 1) (by simp) ?_
          intro ga capa w4 hown4 hg4 hat4 hlt4
          have R4 := HAp.out w3 w4 ga capa HA3.out hown4 hg4
          have y4 := R4.1.frozen 3
          have l5 := R4.1.cells.2.2.2
          have HR4 := hideIt R4
          clear R4 hown4 hg4 hat4
          refine hK _ _ ?_
          clear hK K
          try simp only [Act.put, List.getElem_toArray, List.getElem_cons_succ, List.getElem_cons_zero, List.setIfInBounds_toArray, List.set_cons_zero, List.set_cons_succ]
          refine wpAny_ready (rs := [6]) (by kernel_rfl) (by simp) ?_
          refine AllReady.cons rfl (fun K hK => ?_) AllReady.nil
          go_simp
          refine hK _ _ ?_
          clear hK K
          try simp only [Act.put, List.getElem_toArray, List.getElem_cons_succ, List.getElem_cons_zero, List.setIfInBounds_toArray, List.set_cons_zero, List.set_cons_succ]
          refine wpAny_ready (rs := [7]) (by kernel_rfl) (by simp) ?_
          refine AllReady.cons rfl (fun K hK => ?_) AllReady.nil
          go_simp
          refine hK _ _ ?_
          clear hK K
          try simp only [Act.put, List.getElem_toArray, List.getElem_cons_succ, List.getElem_cons_zero, List.setIfInBounds_toArray, List.set_cons_zero, List.set_cons_succ]
          refine wpAny_done (by kernel_rfl) ?_ _
          go_wp2
          exact ⟨⟨j + 1, ls ++ [xx], _, _, _, by omega, by omega, by go_num, HS1, HFin.out w4 ga capa HR4.out⟩, by simp [intOf]; omega⟩
        · go_simp
          refine hK _ _ ?_
          clear hK K
          try simp only [Act.put, List.getElem_toArray, List.getElem_cons_succ, List.getElem_cons_zero, List.setIfInBounds_toArray, List.set_cons_zero, List.set_cons_succ]
          have l4 : (w3.alloc (.cells #[.int .i64 xx] 3)).cell? ⟨w1.heap.size, 3, none⟩ = some (.slice a' j c') := by rw [World.cell?_of_block (w := w3) (Below.heap_alloc w3 _ _ HA3.out.1.lt.2.1)]; exact l3
          refine wpAny_ready (rs := [1]) (by kernel_rfl) (by simp) ?_
          refine AllReady.cons rfl (fun K hK => ?_) AllReady.nil
          go_simp
          refine hK _ _ ?_
          clear hK K
          try simp only [Act.put, List.getElem_toArray, List.getElem_cons_succ, List.getElem_cons_zero, List.setIfInBounds_toArray, List.set_cons_zero, List.set_cons_succ]
          refine wpAny_ready (rs := [5]) (by kernel_rfl) (by simp) ?_
          refine AllReady.cons rfl (fun K hK => ?_) AllReady.nil
          refine step_append_lies _ rfl _ _ 25 rfl Bl 3 i0 _ 1 8 Try.underlying25 hi hz0 hz1 hz2 rfl (by decide) _ _ _ rfl (HA3.out.2.1.alloc (.cells #[.int .i64 xx] 3)) ⟨w3.heap.size, 0, none⟩ 1 1 [.int .i64 xx] rfl rfl (newsI10 w3 xx) (by intro u hu; simp at hu; subst hu; rfl) (by omega) (by unfold maxLen; omega) (by omega) (by have := HA3.out.2.2.2.1; simp; omega) (w3.heap.size + 1) (by simp) ?_
          intro ga capa w4 hown4 hg4 hat4 hlt4
          have R4 := HAp.out w3 w4 ga capa HA3.out hown4 hg4
          have y4 := R4.1.frozen 3
          have l5 := R4.1.cells.2.2.2
          have HR4 := hideIt R4
          clear R4 hown4 hg4 hat4
          refine hK _ _ ?_
          clear hK K
          try simp only [Act.put, List.getElem_toArray, List.getElem_cons_succ, List.getElem_cons_zero, List.setIfInBounds_toArray, List.set_cons_zero, List.set_cons_succ]
          refine wpAny_ready (rs := [6]) (by kernel_rfl) (by simp) ?_
          refine AllReady.cons rfl (fun K hK => ?_) AllReady.nil
          go_simp
          refine hK _ _ ?_
          clear hK K
          try simp only [Act.put, List.getElem_toArray, List.getElem_cons_succ, List.getElem_cons_zero, List.setIfInBounds_toArray, List.set_cons_zero, List.set_cons_succ]
          refine wpAny_ready (rs := [7]) (by kernel_rfl) (by simp) ?_
          refine AllReady.cons rfl (fun K hK => ?_) AllReady.nil
          go_simp
          refine hK _ _ ?_
          clear hK K
          try simp only [Act.put, List.getElem_toArray, List.getElem_cons_succ, List.getElem_cons_zero, List.setIfInBounds_toArray, List.set_cons_zero, List.set_cons_succ]
          refine wpAny_done (by kernel_rfl) ?_ _
          go_wp2
          exact ⟨⟨j + 1, ls ++ [xx], _, _, _, by omega, by omega, by go_num, HS1, HFin.out w4 ga capa HR4.out⟩, by simp [intOf]; omega⟩
    · have HCa : Hid (1 ≤ n ∧ n ≤ 12 → Ca n.toNat s.data.toList ⟨num, ok, es, ls⟩ st1) := fun hn => HCa0.out _ _ _ (LR_end hS.out (by omega) (by
        by_cases h1 : st1 = none
        · exact .inl h1
        · right
          by_cases h2 : (j : Int) < n
          · have : ¬ j < 12 := fun h3 => hcont ⟨h2, h3, h1⟩
            omega
          · omega))
      have HOk := hideIt (sAnswerText_any n num ok es ls k a c (by omega) j a' c' (by omega) wr (Es_of_own hM.2.2.1) (Is_of_own hM.2.1))
      unfold ansV at HOk
      have hex : ((j : Int) < n) = False ∨ (((j : Int) < n) = True ∧ ((j : Int) < 12) = False) ∨ (((j : Int) < n) = True ∧ ((j : Int) < 12) = True ∧ st1.isNone = true) := by
        by_cases h2 : (j : Int) < n
        · by_cases h3 : (j : Int) < 12
          · refine .inr (.inr ⟨by simp [h2], by simp [h3], ?_⟩)
            cases hs1 : st1 with
            | none => rfl
            | some M => exact absurd ⟨h2, by omega, by rw [hs1]; simp⟩ hcont
          · exact .inr (.inl ⟨by simp [h2], by simp [h3]⟩)
        · exact .inl (by simp [h2])
      clear hM hcont hS HO HE HN HCa0 HM6
      rcases hex with e1 | ⟨e1, e2⟩ | ⟨e1, e2, e3⟩
      · have d1 : decide ((j : Int) < n) = false := by rw [decide_eq_false_iff_not, e1]; exact id
        clear e1 cfl
        cases hB : aB n ⟨num, ok, es, ls⟩ with
        | false =>
          rw [atV_no hB] at HOk
          have HI : Hid (IsA n s.data.toList none) := by
            by_cases hn : 1 ≤ n ∧ n ≤ 12
            · exact IsA.back (m := n.toNat) (by omega) (HCa.out hn) (.inr (.inl hB))
            · exact IsA.out hn
          clear hB
          cases hst : st1 with
          | none =>
            go_wp2_with (go_at_call 25; refine HOk.out.mono ?_; rintro e w10 ⟨rfl, hb10⟩; refine Hid.out ?_)
            refine (show ∀ {p : Prop}, p → Hid p from fun h => h) ?_
            have R10 := HM.out.1.below hb10
            have cf := R10.rd.flag
            rw [hst] at cf
            obtain ⟨r0, r1, r2, r3⟩ := R10.cellsR
            have g0 := R10.frozenR 0
            have g1 := R10.frozenR 1
            have g2 := R10.frozenR 2
            have g3 := R10.frozenR 3
            have HB := hideIt R10.bel
            clear R10 q0 q1 q2 q3 hb10
            go_wp2
            refine bodyPost_ret (v := .tuple #[ansV 0 false none 0 0 none 0 0, .bool false]) (by simp [results, Try.results11, go_sem, r0, r1, r2, r3]) rfl ⟨none, HI.out, none, 0, 0, none, 0, 0, rfl, ⟨rfl, .inl ⟨rfl, rfl⟩⟩, ⟨rfl, .inl ⟨rfl, rfl⟩⟩, by omega, by omega, ?_⟩
            exact (((HB.out.setCell (Nat.le_refl _) _).setCell (Nat.le_refl _) _).setCell (Nat.le_refl _) _).setCell (Nat.le_refl _) _
          | some M =>
            go_wp2_with (go_at_call 25; refine HOk.out.mono ?_; rintro e w10 ⟨rfl, hb10⟩; refine Hid.out ?_)
            refine (show ∀ {p : Prop}, p → Hid p from fun h => h) ?_
            have R10 := HM.out.1.below hb10
            have cf := R10.rd.flag
            rw [hst] at cf
            obtain ⟨r0, r1, r2, r3⟩ := R10.cellsR
            have g0 := R10.frozenR 0
            have g1 := R10.frozenR 1
            have g2 := R10.frozenR 2
            have g3 := R10.frozenR 3
            have HB := hideIt R10.bel
            clear R10 q0 q1 q2 q3 hb10
            go_wp2
            refine bodyPost_ret (v := .tuple #[ansV 0 false none 0 0 none 0 0, .bool false]) (by simp [results, Try.results11, go_sem, r0, r1, r2, r3]) rfl ⟨none, HI.out, none, 0, 0, none, 0, 0, rfl, ⟨rfl, .inl ⟨rfl, rfl⟩⟩, ⟨rfl, .inl ⟨rfl, rfl⟩⟩, by omega, by omega, ?_⟩
            exact (((HB.out.setCell (Nat.le_refl _) _).setCell (Nat.le_refl _) _).setCell (Nat.le_refl _) _).setCell (Nat.le_refl _) _
        | true =>
          rw [atV_yes hB] at HOk
          have hn := (aB_parts hB).1
          have HC := hideIt (HCa.out hn)
          cases hst : st1 with
          | none =>
            have HI : Hid (IsA n s.data.toList none) := IsA.back (m := n.toNat) (by omega) HC.out (.inl hst)
            clear hB
            go_wp2_with (go_at_call 25; refine HOk.out.mono ?_; rintro e w10 ⟨rfl, hb10⟩; refine Hid.out ?_)
            refine (show ∀ {p : Prop}, p → Hid p from fun h => h) ?_
            have R10 := HM.out.1.below hb10
            have cf := R10.rd.flag
            rw [hst] at cf
            obtain ⟨r0, r1, r2, r3⟩ := R10.cellsR
            have g0 := R10.frozenR 0
            have g1 := R10.frozenR 1
            have g2 := R10.frozenR 2
            have g3 := R10.frozenR 3
            have HB := hideIt R10.bel
            clear R10 q0 q1 q2 q3 hb10
            go_wp2
            refine bodyPost_ret (v := .tuple #[ansV 0 false none 0 0 none 0 0, .bool false]) (by simp [results, Try.results11, go_sem, r0, r1, r2, r3]) rfl ⟨none, HI.out, none, 0, 0, none, 0, 0, rfl, ⟨rfl, .inl ⟨rfl, rfl⟩⟩, ⟨rfl, .inl ⟨rfl, rfl⟩⟩, by omega, by omega, ?_⟩
            exact (((HB.out.setCell (Nat.le_refl _) _).setCell (Nat.le_refl _) _).setCell (Nat.le_refl _) _).setCell (Nat.le_refl _) _
          | some M =>
            by_cases hT : aText ⟨num, ok, es, ls⟩ = s.data.toList
            · have HI : Hid (IsA n s.data.toList (some ⟨num, ok, es, ls⟩)) := ⟨hB, hT⟩
              rw [str_eq hT] at HOk
              clear hB hT
              go_wp2_with (go_at_call 25; refine HOk.out.mono ?_; rintro e w10 ⟨rfl, hb10⟩; refine Hid.out ?_)
              refine (show ∀ {p : Prop}, p → Hid p from fun h => h) ?_
              have R10 := HM.out.1.below hb10
              have cf := R10.rd.flag
              rw [hst] at cf
              obtain ⟨r0, r1, r2, r3⟩ := R10.cellsR
              have g0 := R10.frozenR 0
              have g1 := R10.frozenR 1
              have g2 := R10.frozenR 2
              have g3 := R10.frozenR 3
              have HB := hideIt R10.bel
              have own10 : Hid (w10.ownsRow B 76 2 (.slice a k c) k (ecells es)) := own_up10 HM.out.2.2.1 hb10
              have own10' : Hid (w10.ownsRow Bl 3 1 (.slice a' j c') j (ic ls)) := own_up10 HM.out.2.1 hb10
              clear q0 q1 q2 q3
              obtain ⟨q0, q1, q2, q3⟩ := R10.cells
              clear R10 hb10
              go_wp2
              refine bodyPost_ret (v := .tuple #[ansV num ok a k c a' j c', .bool true]) (by simp [results, Try.results11, go_sem, r0, r1, r2, r3]) rfl ⟨some ⟨num, ok, es, ls⟩, HI.out, a, k, c, a', j, c', rfl, ?_, ?_, by omega, by omega, ?_⟩
              · refine own_mono (B := B) ?_ hge4
                refine own_two own10.out (fun g hg hlt => ?_)
                have hne : g ≠ w.heap.size := by have := hz4.2.2; omega
                rw [heap_setCell_other _ _ _ _ (by exact hne), heap_setCell_other _ _ _ _ (by exact hne), heap_setCell_other _ _ _ _ (by exact hne), heap_setCell_other _ _ _ _ (by exact hne)]
              · refine own_mono (B := Bl) ?_ hgel
                refine own_two own10'.out (fun g hg hlt => ?_)
                have hne : g ≠ w.heap.size := by have := hzl.2.2; omega
                rw [heap_setCell_other _ _ _ _ (by exact hne), heap_setCell_other _ _ _ _ (by exact hne), heap_setCell_other _ _ _ _ (by exact hne), heap_setCell_other _ _ _ _ (by exact hne)]
              · exact (((HB.out.setCell (Nat.le_refl _) _).setCell (Nat.le_refl _) _).setCell (Nat.le_refl _) _).setCell (Nat.le_refl _) _
            · have HI : Hid (IsA n s.data.toList none) := IsA.back (m := n.toNat) (by omega) HC.out (.inr (.inr hT))
              have tq := str_neq hT
              generalize str (aText ⟨num, ok, es, ls⟩) = S at HOk tq
              clear hB hT
              go_wp2_with (go_at_call 25; refine HOk.out.mono ?_; rintro e w10 ⟨rfl, hb10⟩; refine Hid.out ?_)
              refine (show ∀ {p : Prop}, p → Hid p from fun h => h) ?_
              have R10 := HM.out.1.below hb10
              have cf := R10.rd.flag
              rw [hst] at cf
              obtain ⟨r0, r1, r2, r3⟩ := R10.cellsR
              have g0 := R10.frozenR 0
              have g1 := R10.frozenR 1
              have g2 := R10.frozenR 2
              have g3 := R10.frozenR 3
              have HB := hideIt R10.bel
              clear R10 q0 q1 q2 q3 hb10
              go_wp2
              refine bodyPost_ret (v := .tuple #[ansV 0 false none 0 0 none 0 0, .bool false]) (by simp [results, Try.results11, go_sem, r0, r1, r2, r3]) rfl ⟨none, HI.out, none, 0, 0, none, 0, 0, rfl, ⟨rfl, .inl ⟨rfl, rfl⟩⟩, ⟨rfl, .inl ⟨rfl, rfl⟩⟩, by omega, by omega, ?_⟩
              exact (((HB.out.setCell (Nat.le_refl _) _).setCell (Nat.le_refl _) _).setCell (Nat.le_refl _) _).setCell (Nat.le_refl _) _
      · have d1 : decide ((j : Int) < n) = true := by rw [decide_eq_true_eq, e1]; trivial
        have d2 : decide ((j : Int) < 12) = false := by rw [decide_eq_false_iff_not, e2]; exact id
        clear e1 e2 cfl
        cases hB : aB n ⟨num, ok, es, ls⟩ with
        | false =>
          rw [atV_no hB] at HOk
          have HI : Hid (IsA n s.data.toList none) := by
            by_cases hn : 1 ≤ n ∧ n ≤ 12
            · exact IsA.back (m := n.toNat) (by omega) (HCa.out hn) (.inr (.inl hB))
            · exact IsA.out hn
          clear hB
          cases hst : st1 with
          | none =>
            go_wp2_with (go_at_call 25; refine HOk.out.mono ?_; rintro e w10 ⟨rfl, hb10⟩; refine Hid.out ?_)
            refine (show ∀ {p : Prop}, p → Hid p from fun h => h) ?_
            have R10 := HM.out.1.below hb10
            have cf := R10.rd.flag
            rw [hst] at cf
            obtain ⟨r0, r1, r2, r3⟩ := R10.cellsR
            have g0 := R10.frozenR 0
            have g1 := R10.frozenR 1
            have g2 := R10.frozenR 2
            have g3 := R10.frozenR 3
            have HB := hideIt R10.bel
            clear R10 q0 q1 q2 q3 hb10
            go_wp2
            refine bodyPost_ret (v := .tuple #[ansV 0 false none 0 0 none 0 0, .bool false]) (by simp [results, Try.results11, go_sem, r0, r1, r2, r3]) rfl ⟨none, HI.out, none, 0, 0, none, 0, 0, rfl, ⟨rfl, .inl ⟨rfl, rfl⟩⟩, ⟨rfl, .inl ⟨rfl, rfl⟩⟩, by omega, by omega, ?_⟩
            exact (((HB.out.setCell (Nat.le_refl _) _).setCell (Nat.le_refl _) _).setCell (Nat.le_refl _) _).setCell (Nat.le_refl _) _
          | some M =>
            go_wp2_with (go_at_call 25; refine HOk.out.mono ?_; rintro e w10 ⟨rfl, hb10⟩; refine Hid.out ?_)
            refine (show ∀ {p : Prop}, p → Hid p from fun h => h) ?_
            have R10 := HM.out.1.below hb10
            have cf := R10.rd.flag
            rw [hst] at cf
            obtain ⟨r0, r1, r2, r3⟩ := R10.cellsR
            have g0 := R10.frozenR 0
            have g1 := R10.frozenR 1
            have g2 := R10.frozenR 2
            have g3 := R10.frozenR 3
            have HB := hideIt R10.bel
            clear R10 q0 q1 q2 q3 hb10
            go_wp2
            refine bodyPost_ret (v := .tuple #[ansV 0 false none 0 0 none 0 0, .bool false]) (by simp [results, Try.results11, go_sem, r0, r1, r2, r3]) rfl ⟨none, HI.out, none, 0, 0, none, 0, 0, rfl, ⟨rfl, .inl ⟨rfl, rfl⟩⟩, ⟨rfl, .inl ⟨rfl, rfl⟩⟩, by omega, by omega, ?_⟩
            exact (((HB.out.setCell (Nat.le_refl _) _).setCell (Nat.le_refl _) _).setCell (Nat.le_refl _) _).setCell (Nat.le_refl _) _
        | true =>
          rw [atV_yes hB] at HOk
          have hn := (aB_parts hB).1
          have HC := hideIt (HCa.out hn)
          cases hst : st1 with
          | none =>
            have HI : Hid (IsA n s.data.toList none) := IsA.back (m := n.toNat) (by omega) HC.out (.inl hst)
            clear hB
            go_wp2_with (go_at_call 25; refine HOk.out.mono ?_; rintro e w10 ⟨rfl, hb10⟩; refine Hid.out ?_)
            refine (show ∀ {p : Prop}, p → Hid p from fun h => h) ?_
            have R10 := HM.out.1.below hb10
            have cf := R10.rd.flag
            rw [hst] at cf
            obtain ⟨r0, r1, r2, r3⟩ := R10.cellsR
            have g0 := R10.frozenR 0
            have g1 := R10.frozenR 1
            have g2 := R10.frozenR 2
            have g3 := R10.frozenR 3
            have HB := hideIt R10.bel
            clear R10 q0 q1 q2 q3 hb10
            go_wp2
            refine bodyPost_ret (v := .tuple #[ansV 0 false none 0 0 none 0 0, .bool false]) (by simp [results, Try.results11, go_sem, r0, r1, r2, r3]) rfl ⟨none, HI.out, none, 0, 0, none, 0, 0, rfl, ⟨rfl, .inl ⟨rfl, rfl⟩⟩, ⟨rfl, .inl ⟨rfl, rfl⟩⟩, by omega, by omega, ?_⟩
            exact (((HB.out.setCell (Nat.le_refl _) _).setCell (Nat.le_refl _) _).setCell (Nat.le_refl _) _).setCell (Nat.le_refl _) _
          | some M =>
            by_cases hT : aText ⟨num, ok, es, ls⟩ = s.data.toList
            · have HI : Hid (IsA n s.data.toList (some ⟨num, ok, es, ls⟩)) := ⟨hB, hT⟩
              rw [str_eq hT] at HOk
              clear hB hT
              go_wp2_with (go_at_call 25; refine HOk.out.mono ?_; rintro e w10 ⟨rfl, hb10⟩; refine Hid.out ?_)
              refine (show ∀ {p : Prop}, p → Hid p from fun h => h) ?_
              have R10 := HM.out.1.below hb10
              have cf := R10.rd.flag
              rw [hst] at cf
              obtain ⟨r0, r1, r2, r3⟩ := R10.cellsR
              have g0 := R10.frozenR 0
              have g1 := R10.frozenR 1
              have g2 := R10.frozenR 2
              have g3 := R10.frozenR 3
              have HB := hideIt R10.bel
              have own10 : Hid (w10.ownsRow B 76 2 (.slice a k c) k (ecells es)) := own_up10 HM.out.2.2.1 hb10
              have own10' : Hid (w10.ownsRow Bl 3 1 (.slice a' j c') j (ic ls)) := own_up10 HM.out.2.1 hb10
              clear q0 q1 q2 q3
              obtain ⟨q0, q1, q2, q3⟩ := R10.cells
              clear R10 hb10
              go_wp2
              refine bodyPost_ret (v := .tuple #[ansV num ok a k c a' j c', .bool true]) (by simp [results, Try.results11, go_sem, r0, r1, r2, r3]) rfl ⟨some ⟨num, ok, es, ls⟩, HI.out, a, k, c, a', j, c', rfl, ?_, ?_, by omega, by omega, ?_⟩
              · refine own_mono (B := B) ?_ hge4
                refine own_two own10.out (fun g hg hlt => ?_)
                have hne : g ≠ w.heap.size := by have := hz4.2.2; omega
                rw [heap_setCell_other _ _ _ _ (by exact hne), heap_setCell_other _ _ _ _ (by exact hne), heap_setCell_other _ _ _ _ (by exact hne), heap_setCell_other _ _ _ _ (by exact hne)]
              · refine own_mono (B := Bl) ?_ hgel
                refine own_two own10'.out (fun g hg hlt => ?_)
                have hne : g ≠ w.heap.size := by have := hzl.2.2; omega
                rw [heap_setCell_other _ _ _ _ (by exact hne), heap_setCell_other _ _ _ _ (by exact hne), heap_setCell_other _ _ _ _ (by exact hne), heap_setCell_other _ _ _ _ (by exact hne)]
              · exact (((HB.out.setCell (Nat.le_refl _) _).setCell (Nat.le_refl _) _).setCell (Nat.le_refl _) _).setCell (Nat.le_refl _) _
            · have HI : Hid (IsA n s.data.toList none) := IsA.back (m := n.toNat) (by omega) HC.out (.inr (.inr hT))
              have tq := str_neq hT
              generalize str (aText ⟨num, ok, es, ls⟩) = S at HOk tq
              clear hB hT
              go_wp2_with (go_at_call 25; refine HOk.out.mono ?_; rintro e w10 ⟨rfl, hb10⟩; refine Hid.out ?_)
              refine (show ∀ {p : Prop}, p → Hid p from fun h => h) ?_
              have R10 := HM.out.1.below hb10
              have cf := R10.rd.flag
              rw [hst] at cf
              obtain ⟨r0, r1, r2, r3⟩ := R10.cellsR
              have g0 := R10.frozenR 0
              have g1 := R10.frozenR 1
              have g2 := R10.frozenR 2
              have g3 := R10.frozenR 3
              have HB := hideIt R10.bel
              clear R10 q0 q1 q2 q3 hb10
              go_wp2
              refine bodyPost_ret (v := .tuple #[ansV 0 false none 0 0 none 0 0, .bool false]) (by simp [results, Try.results11, go_sem, r0, r1, r2, r3]) rfl ⟨none, HI.out, none, 0, 0, none, 0, 0, rfl, ⟨rfl, .inl ⟨rfl, rfl⟩⟩, ⟨rfl, .inl ⟨rfl, rfl⟩⟩, by omega, by omega, ?_⟩
              exact (((HB.out.setCell (Nat.le_refl _) _).setCell (Nat.le_refl _) _).setCell (Nat.le_refl _) _).setCell (Nat.le_refl _) _
      · have d1 : decide ((j : Int) < n) = true := by rw [decide_eq_true_eq, e1]; trivial
        have d2 : decide ((j : Int) < 12) = true := by rw [decide_eq_true_eq, e2]; trivial
        rw [e3] at cfl
        clear e1 e2
        cases hB : aB n ⟨num, ok, es, ls⟩ with
        | false =>
          rw [atV_no hB] at HOk
          have HI : Hid (IsA n s.data.toList none) := by
            by_cases hn : 1 ≤ n ∧ n ≤ 12
            · exact IsA.back (m := n.toNat) (by omega) (HCa.out hn) (.inr (.inl hB))
            · exact IsA.out hn
          clear hB
          cases hst : st1 with
          | none =>
            go_wp2_with (go_at_call 25; refine HOk.out.mono ?_; rintro e w10 ⟨rfl, hb10⟩; refine Hid.out ?_)
            refine (show ∀ {p : Prop}, p → Hid p from fun h => h) ?_
            have R10 := HM.out.1.below hb10
            have cf := R10.rd.flag
            rw [hst] at cf
            obtain ⟨r0, r1, r2, r3⟩ := R10.cellsR
            have g0 := R10.frozenR 0
            have g1 := R10.frozenR 1
            have g2 := R10.frozenR 2
            have g3 := R10.frozenR 3
            have HB := hideIt R10.bel
            clear R10 q0 q1 q2 q3 hb10
            go_wp2
            refine bodyPost_ret (v := .tuple #[ansV 0 false none 0 0 none 0 0, .bool false]) (by simp [results, Try.results11, go_sem, r0, r1, r2, r3]) rfl ⟨none, HI.out, none, 0, 0, none, 0, 0, rfl, ⟨rfl, .inl ⟨rfl, rfl⟩⟩, ⟨rfl, .inl ⟨rfl, rfl⟩⟩, by omega, by omega, ?_⟩
            exact (((HB.out.setCell (Nat.le_refl _) _).setCell (Nat.le_refl _) _).setCell (Nat.le_refl _) _).setCell (Nat.le_refl _) _
          | some M =>
            go_wp2_with (go_at_call 25; refine HOk.out.mono ?_; rintro e w10 ⟨rfl, hb10⟩; refine Hid.out ?_)
            refine (show ∀ {p : Prop}, p → Hid p from fun h => h) ?_
            have R10 := HM.out.1.below hb10
            have cf := R10.rd.flag
            rw [hst] at cf
            obtain ⟨r0, r1, r2, r3⟩ := R10.cellsR
            have g0 := R10.frozenR 0
            have g1 := R10.frozenR 1
            have g2 := R10.frozenR 2
            have g3 := R10.frozenR 3
            have HB := hideIt R10.bel
            clear R10 q0 q1 q2 q3 hb10
            go_wp2
            refine bodyPost_ret (v := .tuple #[ansV 0 false none 0 0 none 0 0, .bool false]) (by simp [results, Try.results11, go_sem, r0, r1, r2, r3]) rfl ⟨none, HI.out, none, 0, 0, none, 0, 0, rfl, ⟨rfl, .inl ⟨rfl, rfl⟩⟩, ⟨rfl, .inl ⟨rfl, rfl⟩⟩, by omega, by omega, ?_⟩
            exact (((HB.out.setCell (Nat.le_refl _) _).setCell (Nat.le_refl _) _).setCell (Nat.le_refl _) _).setCell (Nat.le_refl _) _
        | true =>
          rw [atV_yes hB] at HOk
          have hn := (aB_parts hB).1
          have HC := hideIt (HCa.out hn)
          cases hst : st1 with
          | none =>
            have HI : Hid (IsA n s.data.toList none) := IsA.back (m := n.toNat) (by omega) HC.out (.inl hst)
            clear hB
            go_wp2_with (go_at_call 25; refine HOk.out.mono ?_; rintro e w10 ⟨rfl, hb10⟩; refine Hid.out ?_)
            refine (show ∀ {p : Prop}, p → Hid p from fun h => h) ?_
            have R10 := HM.out.1.below hb10
            have cf := R10.rd.flag
            rw [hst] at cf
            obtain ⟨r0, r1, r2, r3⟩ := R10.cellsR
            have g0 := R10.frozenR 0
            have g1 := R10.frozenR 1
            have g2 := R10.frozenR 2
            have g3 := R10.frozenR 3
            have HB := hideIt R10.bel
            clear R10 q0 q1 q2 q3 hb10
            go_wp2
            refine bodyPost_ret (v := .tuple #[ansV 0 false none 0 0 none 0 0, .bool false]) (by simp [results, Try.results11, go_sem, r0, r1, r2, r3]) rfl ⟨none, HI.out, none, 0, 0, none, 0, 0, rfl, ⟨rfl, .inl ⟨rfl, rfl⟩⟩, ⟨rfl, .inl ⟨rfl, rfl⟩⟩, by omega, by omega, ?_⟩
            exact (((HB.out.setCell (Nat.le_refl _) _).setCell (Nat.le_refl _) _).setCell (Nat.le_refl _) _).setCell (Nat.le_refl _) _
          | some M =>
            by_cases hT : aText ⟨num, ok, es, ls⟩ = s.data.toList
            · have HI : Hid (IsA n s.data.toList (some ⟨num, ok, es, ls⟩)) := ⟨hB, hT⟩
              rw [str_eq hT] at HOk
              clear hB hT
              go_wp2_with (go_at_call 25; refine HOk.out.mono ?_; rintro e w10 ⟨rfl, hb10⟩; refine Hid.out ?_)
              refine (show ∀ {p : Prop}, p → Hid p from fun h => h) ?_
              have R10 := HM.out.1.below hb10
              have cf := R10.rd.flag
              rw [hst] at cf
              obtain ⟨r0, r1, r2, r3⟩ := R10.cellsR
              have g0 := R10.frozenR 0
              have g1 := R10.frozenR 1
              have g2 := R10.frozenR 2
              have g3 := R10.frozenR 3
              have HB := hideIt R10.bel
              have own10 : Hid (w10.ownsRow B 76 2 (.slice a k c) k (ecells es)) := own_up10 HM.out.2.2.1 hb10
              have own10' : Hid (w10.ownsRow Bl 3 1 (.slice a' j c') j (ic ls)) := own_up10 HM.out.2.1 hb10
              clear q0 q1 q2 q3
              obtain ⟨q0, q1, q2, q3⟩ := R10.cells
              clear R10 hb10
              go_wp2
              refine bodyPost_ret (v := .tuple #[ansV num ok a k c a' j c', .bool true]) (by simp [results, Try.results11, go_sem, r0, r1, r2, r3]) rfl ⟨some ⟨num, ok, es, ls⟩, HI.out, a, k, c, a', j, c', rfl, ?_, ?_, by omega, by omega, ?_⟩
              · refine own_mono (B := B) ?_ hge4
                refine own_two own10.out (fun g hg hlt => ?_)
                have hne : g ≠ w.heap.size := by have := hz4.2.2; omega
                rw [heap_setCell_other _ _ _ _ (by exact hne), heap_setCell_other _ _ _ _ (by exact hne), heap_setCell_other _ _ _ _ (by exact hne), heap_setCell_other _ _ _ _ (by exact hne)]
              · refine own_mono (B := Bl) ?_ hgel
                refine own_two own10'.out (fun g hg hlt => ?_)
                have hne : g ≠ w.heap.size := by have := hzl.2.2; omega
                rw [heap_setCell_other _ _ _ _ (by exact hne), heap_setCell_other _ _ _ _ (by exact hne), heap_setCell_other _ _ _ _ (by exact hne), heap_setCell_other _ _ _ _ (by exact hne)]
              · exact (((HB.out.setCell (Nat.le_refl _) _).setCell (Nat.le_refl _) _).setCell (Nat.le_refl _) _).setCell (Nat.le_refl _) _
            · have HI : Hid (IsA n s.data.toList none) := IsA.back (m := n.toNat) (by omega) HC.out (.inr (.inr hT))
              have tq := str_neq hT
              generalize str (aText ⟨num, ok, es, ls⟩) = S at HOk tq
              clear hB hT
              go_wp2_with (go_at_call 25; refine HOk.out.mono ?_; rintro e w10 ⟨rfl, hb10⟩; refine Hid.out ?_)
              refine (show ∀ {p : Prop}, p → Hid p from fun h => h) ?_
              have R10 := HM.out.1.below hb10
              have cf := R10.rd.flag
              rw [hst] at cf
              obtain ⟨r0, r1, r2, r3⟩ := R10.cellsR
              have g0 := R10.frozenR 0
              have g1 := R10.frozenR 1
              have g2 := R10.frozenR 2
              have g3 := R10.frozenR 3
              have HB := hideIt R10.bel
              clear R10 q0 q1 q2 q3 hb10
              go_wp2
              refine bodyPost_ret (v := .tuple #[ansV 0 false none 0 0 none 0 0, .bool false]) (by simp [results, Try.results11, go_sem, r0, r1, r2, r3]) rfl ⟨none, HI.out, none, 0, 0, none, 0, 0, rfl, ⟨rfl, .inl ⟨rfl, rfl⟩⟩, ⟨rfl, .inl ⟨rfl, rfl⟩⟩, by omega, by omega, ?_⟩
              exact (((HB.out.setCell (Nat.le_refl _) _).setCell (Nat.le_refl _) _).setCell (Nat.le_refl _) _).setCell (Nat.le_refl _) _
end Go.Proofs.Ytaipbkigngjkbaa
namespace Go.Proofs.Ytaipbkigngjkbaa
open Go.RowKit Vt

/-- what a reader of records panics with -/
def PV : List PanicEntry := [{ v := .iface 68 (.agg #[]), recovered := false }]
/-- the reader stands in block G at the place p of the text -/
def RrAt (w : World) (G : Nat) (n : Int) (s : ByteArray) (p : Nat) : Prop := w.heap[G]? = some (.cells #[.int .i64 n, .string s, .int .i64 (p : Int)] 50 (0, 0)) ∧ p ≤ s.size
section
variable {w w' : World} {G : Nat} {n : Int} {s : ByteArray} {p : Nat}
theorem RrAt.lt (h : RrAt w G n s p) : G < w.heap.size := (Array.getElem?_eq_some_iff.1 h.1).1
theorem RrAt.c0 (h : RrAt w G n s p) : w.cell? ⟨G, 0, none⟩ = some (.int .i64 n) := by rw [cell_of_row w G 0 _ _ _ h.1]; rfl
theorem RrAt.c1 (h : RrAt w G n s p) : w.cell? ⟨G, 1, none⟩ = some (.string s) := by rw [cell_of_row w G 1 _ _ _ h.1]; rfl
theorem RrAt.c2 (h : RrAt w G n s p) : w.cell? ⟨G, 2, none⟩ = some (.int .i64 (p : Int)) := by rw [cell_of_row w G 2 _ _ _ h.1]; rfl
theorem RrAt.fz (h : RrAt w G n s p) (j : Nat) : w.frozen? ⟨G, j, none⟩ = false := frozen_of_row w G j _ _ h.1
theorem RrAt.set (h : RrAt w G n s p) (q : Nat) (hq : q ≤ s.size) : RrAt (w.setCell ⟨G, 2, none⟩ (.int .i64 (q : Int))) G n s q := ⟨st2 h.1, hq⟩
theorem RrAt.grown {row : Option Nat} (h : RrAt w G n s p) (hg : w.grownBy w' row) (hne : row ≠ some G) : RrAt w' G n s p := ⟨by rw [hg.block G h.lt (fun e => hne e.symm)]; exact h.1, h.2⟩
end
theorem need_yes (G : Nat) (w : World) : Calls Try.prog 52 #[.pointer (some ⟨G, 0, none⟩), .bool true] w fun e w' => e = .returned (.tuple #[]) ∧ w' = w := by
  go_enter Try.func52, Try.ntmps52
  go_wp2
  refine bodyPost_end (v := .tuple #[]) ?_ rfl ?_
  · simp [results, Try.results52, go_sem]
  exact ⟨rfl, rfl⟩
theorem need_no (G : Nat) (w : World) : Calls Try.prog 52 #[.pointer (some ⟨G, 0, none⟩), .bool false] w fun e w' => e = .panicked PV ∧ w' = w := by
  go_enter Try.func52, Try.ntmps52
  go_wp2
  exact ⟨rfl, rfl, rfl⟩
set_option maxHeartbeats 1000000 in
theorem kind_yes (n : Int) (s : ByteArray) (hs : s.size ≤ 1048576) (p : Nat) (hp : p < s.size) (G : Nat) (w : World) (h : RrAt w G n s p) :
    Calls Try.prog 47 #[.pointer (some ⟨G, 0, none⟩)] w fun e w' => e = .returned (.int .i64 ((s[p]).toNat : Int)) ∧ RrAt w' G n s (p + 1) ∧ w.grownBy w' (some G) := by
  have c1 := h.c1
  have c2 := h.c2
  have f2 := h.fz 2
  have e1 : decide ((p : Int) < (s.size : Int)) = true := by simp; omega
  have b1 : (0 : Int) ≤ (p : Int) := by omega
  have b2 : (p : Int) < (s.size : Int) := by omega
  have wp1 : IntKind.i64.wrap ((p : Int) + 1) = (p : Int) + 1 := by rw [IntKind.wrap_i64]; omega
  have wp2 : IntKind.i64.wrap ((p : Int) + 1 - 1) = (p : Int) := by rw [IntKind.wrap_i64]; omega
  have HN := hideIt (need_yes G)
  have HH := hideIt h
  clear h
  go_enter Try.func47, Try.ntmps47
  go_wp2
  go_region_held3 (fun u => u.cell? ⟨G, 1, none⟩ = some (.string s) ∧ u.cell? ⟨G, 2, none⟩ = some (.int .i64 (p : Int))) (exact ⟨c1, c2⟩)
    ((go_at_call 52; refine (HN.out _).mono ?_; rintro e w1 ⟨rfl, rfl⟩))
  go_wp2
  go_quiet (fail)
  go_wp2
  go_ret
  refine ⟨?_, ⟨st2 HH.out.1, by omega⟩, gr_trans (gr_trans (gr_drew _ _) (gr_set _ _ _ _)) (gr_drews _ _ _)⟩
  have h8 := UInt8.toNat_lt s[p]
  have hw : wrap64 ((s[p]).toNat : Int) = ((s[p]).toNat : Int) := by unfold wrap64; omega
  exact congrArg (fun z => Ending.returned (.int .i64 z)) hw
theorem kind_no (n : Int) (s : ByteArray) (_hs : s.size ≤ 1048576) (G : Nat) (w : World) (h : RrAt w G n s s.size) :
    Calls Try.prog 47 #[.pointer (some ⟨G, 0, none⟩)] w fun e w' => e = .panicked PV ∧ w.grownBy w' (some G) := by
  have c1 := h.c1
  have c2 := h.c2
  have HN := hideIt (need_no G)
  clear h
  go_enter Try.func47, Try.ntmps47
  go_wp2
  refine wp_region_held_drew (S := (fun u => u.cell? ⟨G, 1, none⟩ = some (.string s) ∧ u.cell? ⟨G, 2, none⟩ = some (.int .i64 (s.size : Int)))) (by kernel_rfl) ⟨c1, c2⟩ (fun hHeld => ?_)
  refine wpAnyH_take (i := 0) (v := ?_) rfl (by kernel_rfl) (by kernel_rfl) (by kernel_rfl) (fun _ _ _ h => h) (Or.inl ⟨by rfl, ?_⟩) (by assumption) ?_
  rotate_left
  · intro w hSw; (try dsimp only at hSw); go_simp; try with_reducible rfl
  try simp only [Act.put, List.getElem_toArray, List.getElem_cons_zero, List.setIfInBounds_toArray, List.set_cons_zero, List.set_cons_succ]
  refine wpAnyH_take (i := 1) (v := ?_) rfl (by kernel_rfl) (by kernel_rfl) (by kernel_rfl) (fun _ _ _ h => h) (Or.inl ⟨by rfl, ?_⟩) (by assumption) ?_
  rotate_left
  · intro w hSw; (try dsimp only at hSw); go_simp; try with_reducible rfl
  try simp only [Act.put, List.getElem_toArray, List.getElem_cons_succ, List.getElem_cons_zero, List.setIfInBounds_toArray, List.set_cons_zero, List.set_cons_succ]
  refine wpAnyH_take (i := 2) (v := ?_) rfl (by kernel_rfl) (by kernel_rfl) (by kernel_rfl) (fun _ _ _ h => h) (Or.inl ⟨by rfl, ?_⟩) (by assumption) ?_
  rotate_left
  · intro w hSw; (try dsimp only at hSw); go_simp; try with_reducible rfl
  try simp only [Act.put, List.getElem_toArray, List.getElem_cons_succ, List.getElem_cons_zero, List.setIfInBounds_toArray, List.set_cons_zero, List.set_cons_succ]
  refine wpAnyH_take (i := 3) (v := ?_) rfl (by kernel_rfl) (by kernel_rfl) (by kernel_rfl) (fun _ _ _ h => h) (Or.inl ⟨by rfl, ?_⟩) (by assumption) ?_
  rotate_left
  · intro w hSw; (try dsimp only at hSw); go_simp; try with_reducible rfl
  try simp only [Act.put, List.getElem_toArray, List.getElem_cons_succ, List.getElem_cons_zero, List.setIfInBounds_toArray, List.set_cons_zero, List.set_cons_succ]
  refine wpAnyH_take (i := 4) (v := ?_) rfl (by kernel_rfl) (by kernel_rfl) (by kernel_rfl) (fun _ _ _ h => h) (Or.inl ⟨by rfl, ?_⟩) (by assumption) ?_
  rotate_left
  · intro w hSw; (try dsimp only at hSw); go_simp; try with_reducible rfl
  try simp only [Act.put, List.getElem_toArray, List.getElem_cons_succ, List.getElem_cons_zero, List.setIfInBounds_toArray, List.set_cons_zero, List.set_cons_succ]
  refine wpAnyH_take (i := 5) (v := ?_) rfl (by kernel_rfl) (by kernel_rfl) (by kernel_rfl) (fun _ _ _ h => h) (Or.inl ⟨by rfl, ?_⟩) (by assumption) ?_
  rotate_left
  · intro w hSw; (try dsimp only at hSw); go_simp; try with_reducible rfl
  try simp only [Act.put, List.getElem_toArray, List.getElem_cons_succ, List.getElem_cons_zero, List.setIfInBounds_toArray, List.set_cons_zero, List.set_cons_succ]
  refine wpAnyH_take (i := 6) (v := ?_) rfl (by kernel_rfl) (by kernel_rfl) (by kernel_rfl) (fun _ _ _ h => h) (Or.inl ⟨by rfl, ?_⟩) (by assumption) ?_
  rotate_left
  · intro w hSw; (try dsimp only at hSw); go_simp; try with_reducible rfl
  try simp only [Act.put, List.getElem_toArray, List.getElem_cons_succ, List.getElem_cons_zero, List.setIfInBounds_toArray, List.set_cons_zero, List.set_cons_succ]
  refine wpAnyH_take (i := 7) (v := ?_) rfl (by kernel_rfl) (by kernel_rfl) (by kernel_rfl) (fun _ _ _ h => h) (Or.inl ⟨by rfl, ?_⟩) (by assumption) ?_
  rotate_left
  · intro w hSw; (try dsimp only at hSw); go_simp; try with_reducible rfl
  try simp only [Act.put, List.getElem_toArray, List.getElem_cons_succ, List.getElem_cons_zero, List.setIfInBounds_toArray, List.set_cons_zero, List.set_cons_succ]
  refine wpAnyH_take (i := 8) (v := ?_) rfl (by kernel_rfl) (by kernel_rfl) (by kernel_rfl) (fun _ _ _ h => h) (Or.inl ⟨by rfl, ?_⟩) (by assumption) ?_
  rotate_left
  · intro w hSw; (try dsimp only at hSw); go_simp; try with_reducible rfl
  try simp only [Act.put, List.getElem_toArray, List.getElem_cons_succ, List.getElem_cons_zero, List.setIfInBounds_toArray, List.set_cons_zero, List.set_cons_succ]
  refine wpAnyH_take (i := 9) (v := ?_) rfl (by kernel_rfl) (by kernel_rfl) (by kernel_rfl) (fun _ _ _ h => h) (Or.inl ⟨by rfl, ?_⟩) (by assumption) ?_
  rotate_left
  · intro w hSw; (try dsimp only at hSw); go_simp; try with_reducible rfl
  try simp only [Act.put, List.getElem_toArray, List.getElem_cons_succ, List.getElem_cons_zero, List.setIfInBounds_toArray, List.set_cons_zero, List.set_cons_succ]
  refine wpAnyH_take (i := 10) (v := ?_) rfl (by kernel_rfl) (by kernel_rfl) (by kernel_rfl) (fun _ _ _ h => h) (Or.inl ⟨by rfl, ?_⟩) (by assumption) ?_
  rotate_left
  · intro w hSw; (try dsimp only at hSw); go_simp; try with_reducible rfl
  try simp only [Act.put, List.getElem_toArray, List.getElem_cons_succ, List.getElem_cons_zero, List.setIfInBounds_toArray, List.set_cons_zero, List.set_cons_succ]
  refine wpAnyH_ready (rs := [11]) (by kernel_rfl) (by simp) ?_
  refine AllReadyH.cons rfl (fun K hK => ?_) AllReadyH.nil
  rw [if_pos]
  rotate_left
  · kernel_rfl
  go_wp2_with (go_at_call 52; refine (HN.out _).mono ?_; rintro e w1 ⟨rfl, rfl⟩; refine Hid.out ?_)
  refine (show ∀ {p : Prop}, p → Hid p from fun h => h) ?_
  exact ⟨rfl, rfl, gr_drew _ _⟩
/-- a number of a record is read at p: k, and behind it j -/
def NumOk (s : ByteArray) (p k j : Nat) : Prop := nx pN (some (from_ s p)) = (k, some (from_ s j)) ∧ k ≤ 100000 ∧ j ≤ s.size
/-- no such number stands there -/
def NumBad (s : ByteArray) (p : Nat) : Prop := (nx pN (some (from_ s p))).2 = none ∨ 100000 < (nx pN (some (from_ s p))).1
theorem num_cases (s : ByteArray) (p : Nat) (hp : p ≤ s.size) : (∃ k j, NumOk s p k j ∧ rv p (from_ s p) = some (k, j)) ∨ NumBad s p ∧ (rv p (from_ s p) = none ∨ ∃ k j, rv p (from_ s p) = some (k, j) ∧ 100000 < k) := by
  cases hr : rv p (from_ s p) with
  | none => exact .inr ⟨.inl (by rw [nx_rv_none hr]), .inl rfl⟩
  | some x =>
    obtain ⟨k, j⟩ := x
    obtain ⟨h1, h2, _⟩ := nx_rv_some hp hr
    by_cases hk : k ≤ 100000
    · exact .inl ⟨k, j, ⟨h1, hk, h2⟩, rfl⟩
    · exact .inr ⟨.inr (by rw [h1]; show 100000 < k; omega), .inr ⟨k, j, rfl, by omega⟩⟩
set_option maxHeartbeats 1000000 in
theorem number_yes (n : Int) (s : ByteArray) (hs : s.size ≤ 1048576) (p k j : Nat) (hr : rv p (from_ s p) = some (k, j)) (hk : k ≤ 100000) (hj : j ≤ s.size) (G : Nat) (w : World) (h : RrAt w G n s p) :
    Calls Try.prog 49 #[.pointer (some ⟨G, 0, none⟩)] w fun e w' => e = .returned (.int .i64 (k : Int)) ∧ RrAt w' G n s j ∧ w.grownBy w' (some G) := by
  have c1 := h.c1
  have c2 := h.c2
  have f2 := h.fz 2
  have HV := hideIt (iReadVar_in s hs p h.2)
  rw [hr] at HV
  unfold rvV at HV
  have d1 : decide ((k : Int) ≤ 100000) = true := decide_eq_true (by omega)
  have HN := hideIt (need_yes G)
  have HH := hideIt h
  have HJ := hideIt hj
  clear h hr hj
  go_enter Try.func49, Try.ntmps49
  go_wp2
  go_region_held3 (fun u => u.cell? ⟨G, 1, none⟩ = some (.string s) ∧ u.cell? ⟨G, 2, none⟩ = some (.int .i64 (p : Int))) (exact ⟨c1, c2⟩)
    ((go_at_call 58; refine (HV.out _).mono ?_; rintro e w1 ⟨rfl, rfl⟩))
  go_wp2_with (go_at_call 52; refine (HN.out _).mono ?_; rintro e w1 ⟨rfl, hw1⟩; subst hw1)
  go_ret
  exact ⟨rfl, ⟨st2 HH.out.1, HJ.out⟩, gr_trans (gr_drew _ _) (gr_set _ _ _ _)⟩
set_option maxHeartbeats 1000000 in
theorem number_no (n : Int) (s : ByteArray) (hs : s.size ≤ 1048576) (p : Nat) (hr : rv p (from_ s p) = none ∨ ∃ k j, rv p (from_ s p) = some (k, j) ∧ 100000 < k) (G : Nat) (w : World) (h : RrAt w G n s p) :
    Calls Try.prog 49 #[.pointer (some ⟨G, 0, none⟩)] w fun e w' => e = .panicked PV ∧ w.grownBy w' (some G) := by
  have c1 := h.c1
  have c2 := h.c2
  have HV := hideIt (iReadVar_in s hs p h.2)
  have HN := hideIt (need_no G)
  clear h
  rcases hr with hr | ⟨k, j, hr, hk⟩
  · rw [hr] at HV
    unfold rvV at HV
    clear hr
    go_enter Try.func49, Try.ntmps49
    go_wp2
    go_region_held3 (fun u => u.cell? ⟨G, 1, none⟩ = some (.string s) ∧ u.cell? ⟨G, 2, none⟩ = some (.int .i64 (p : Int))) (exact ⟨c1, c2⟩)
      ((go_at_call 58; refine (HV.out _).mono ?_; rintro e w1 ⟨rfl, rfl⟩))
    go_wp2_with (go_at_call 52; refine (HN.out _).mono ?_; rintro e w1 ⟨rfl, hw1⟩; subst hw1)
    exact ⟨rfl, rfl, gr_drew _ _⟩
  · rw [hr] at HV
    unfold rvV at HV
    clear hr
    have d1 : decide ((k : Int) ≤ 100000) = false := decide_eq_false (by omega)
    go_enter Try.func49, Try.ntmps49
    go_wp2
    go_region_held3 (fun u => u.cell? ⟨G, 1, none⟩ = some (.string s) ∧ u.cell? ⟨G, 2, none⟩ = some (.int .i64 (p : Int))) (exact ⟨c1, c2⟩)
      ((go_at_call 58; refine (HV.out _).mono ?_; rintro e w1 ⟨rfl, rfl⟩))
    go_wp2_with (go_at_call 52; refine (HN.out _).mono ?_; rintro e w1 ⟨rfl, hw1⟩; subst hw1)
    exact ⟨rfl, rfl, gr_drew _ _⟩
end Go.Proofs.Ytaipbkigngjkbaa
namespace Go.Proofs
open Go.Shelf
def Try.laysM316_ren : Go.Shelf.Ren := ⟨fun | 316 => 83 | n => n, fun | 9 => 9 | 3 => 3 | 4 => 4 | 37 => 81 | 0 => 0 | 127 => 116 | 5 => 5 | n => n, fun | n => n⟩
theorem Try.laysM316 : Go.Proofs.LaysM.n316 Try.prog Try.laysM316_ren := {
  mixed := by kernel_rfl
  f316 := Try.func83.trans (congrArg some (by kernel_rfl))
  t0 := Try.underlying0
  a0 := Try.isAgg0
  z0 := Try.sizeOf0
  v0 := Try.zeroValue0
  t3 := Try.underlying3
  a3 := Try.isAgg3
  z3 := Try.sizeOf3
  v3 := Try.zeroValue3
  t4 := Try.underlying4
  a4 := Try.isAgg4
  z4 := Try.sizeOf4
  v4 := Try.zeroValue4
  t9 := Try.underlying9
  a9 := Try.isAgg9
  z9 := Try.sizeOf9
  v9 := Try.zeroValue9
  t37 := Try.underlying81
  a37 := Try.isAgg81
  z37 := Try.sizeOf81
  v37 := Try.zeroValue81
  t127 := Try.underlying116
  a127 := Try.isAgg116
  z127 := Try.sizeOf116
  v127 := Try.zeroValue116
  t5 := Try.underlying5
  a5 := Try.isAgg5
  z5 := Try.sizeOf5
  v5 := Try.zeroValue5
  i0 := by kernel_rfl
  i3 := by kernel_rfl
  i4 := by kernel_rfl
  i5 := by kernel_rfl
  i9 := by kernel_rfl
  i37 := by kernel_rfl
  i127 := by kernel_rfl }
open Go.RowKit in
theorem Try.stringslite_Clone (s : ByteArray) (w : World) (hlim : s.size ≤ 281474976710656) :
    Calls Try.prog 83 #[.string s] w fun e w' => e = .returned (.string s) ∧ Below w.heap.size w w' := Any.stringslite_Clone Try.laysM316 s w hlim
end Go.Proofs
