/- The program's reader of parts: a number, a byte. The program's reader of parts: edges, a flag, labels; whether it has ended. The specification's OrderOk. What lies in memory while an order is read, and what is answered then. What the laws' own functions over orders answer, and where a law stands that looks at fresh memory: orders in ranges of blocks of their own. Lists of ints: how they stand in memory; eqIntS, markIntS, heldIntS; an answer that is a list of ints. -/
import Derived.Test.YtcieanhbipbhgaaGreatDoorKOr10
import Derived.Deep.AppendLies
import Derived.Test.YtcieanhbipbhgaaGreatDoorKMem
namespace Go.Proofs.YtcieanhbipbhgaaGreatDoor
open Go.RowKit Vt

/-- the reader of the text s stands in block G, and st is what is still to be read; e: where it has failed it stands at the end -/
def RdAt (e : Prop) (t : TypeId) (w : World) (G : Nat) (s : ByteArray) (st : Option (List UInt8)) : Prop :=
  ∃ (p : Nat) (f : Bool), w.heap[G]? = some (.cells #[.string s, .int .i64 (p : Int), .bool f] t (0, 0)) ∧ p ≤ s.size ∧ (f = false ∧ st = some (from_ s p) ∨ f = true ∧ st = none ∧ (e → p = s.size))

theorem gr_set (w : World) (G j : Nat) (u : Value) : w.grownBy (w.setCell ⟨G, j, none⟩ u) (some G) :=
  ⟨rfl, rfl, rfl, by simp [World.setCell], fun k _ hk => heap_setCell_other w ⟨G, j, none⟩ k u (fun e => hk (by simp [e]))⟩
theorem gr_trans {a b c : World} {row : Option Nat} (h : a.grownBy b row) (k : b.grownBy c row) : a.grownBy c row :=
  ⟨k.os.trans h.os, k.tape.trans h.tape, k.output.trans h.output, Nat.le_trans h.size k.size, fun i hi hr => (k.block i (Nat.lt_of_lt_of_le hi h.size) hr).trans (h.block i hi hr)⟩
theorem gr_refl (w : World) (row : Option Nat) : w.grownBy w row := ⟨rfl, rfl, rfl, Nat.le_refl _, fun _ _ _ => rfl⟩
theorem gr_drew (w : World) (row : Option Nat) : w.grownBy w.drew row := ⟨rfl, rfl, rfl, Nat.le_refl _, fun _ _ _ => rfl⟩
theorem gr_drews (w : World) (n : Nat) (row : Option Nat) : w.grownBy (w.drewN n) row := ⟨rfl, rfl, rfl, Nat.le_refl _, fun _ _ _ => rfl⟩
theorem gr_below {w w' : World} (h : Below w.heap.size w w') (row : Option Nat) : w.grownBy w' row := ⟨h.os, h.tape, h.output, h.size, fun i hi _ => h.block i hi⟩
theorem st1 {w : World} {G : Nat} {A B C D : Value} {t : TypeId} (h : w.heap[G]? = some (.cells #[A, B, C] t (0, 0))) : (w.setCell ⟨G, 1, none⟩ D).heap[G]? = some (.cells #[A, D, C] t (0, 0)) := by
  rw [heap_setCell_same w G 1 _ t D h]; rfl
theorem st2 {w : World} {G : Nat} {A B C D : Value} {t : TypeId} (h : w.heap[G]? = some (.cells #[A, B, C] t (0, 0))) : (w.setCell ⟨G, 2, none⟩ D).heap[G]? = some (.cells #[A, B, D] t (0, 0)) := by
  rw [heap_setCell_same w G 2 _ t D h]; rfl

theorem from_drop (s : ByteArray) (p k : Nat) : (from_ s p).drop k = from_ s (p + k) := by unfold from_; rw [List.drop_drop]
theorem from_end (s : ByteArray) : from_ s s.size = [] := by unfold from_; exact List.drop_of_length_le (by simp)
theorem from_at_cons (s : ByteArray) (p : Nat) (h : p < s.size) : from_ s p = s[p] :: from_ s (p + 1) := by
  unfold from_
  rw [List.drop_eq_getElem_cons (by simpa using h)]
  rfl

theorem nx_rv_none {s : ByteArray} {p : Nat} (h : rv p (from_ s p) = none) : nx pN (some (from_ s p)) = (0, none) := by
  have : pN (from_ s p) = none := by
    rw [rv_from, Option.map_eq_none_iff] at h
    unfold pN
    rw [h]; rfl
  unfold nx
  dsimp only
  rw [this]
theorem nx_rv_some {s : ByteArray} {p n j : Nat} (hp : p ≤ s.size) (h : rv p (from_ s p) = some (n, j)) : nx pN (some (from_ s p)) = (n, some (from_ s j)) ∧ j ≤ s.size ∧ n ≤ 1000000000 := by
  have hb := rv_some h
  rw [from_length] at hb
  rw [rv_from, Option.map_eq_some_iff] at h
  obtain ⟨⟨m, i⟩, h1, h2⟩ := h
  simp only [Prod.mk.injEq] at h2
  obtain ⟨rfl, rfl⟩ := h2
  refine ⟨nx_of ?_, by omega, hb.1⟩
  unfold pN
  rw [h1]
  simp [from_drop]

theorem nx_none (f : List UInt8 → Option (Nat × List UInt8)) : nx f none = (0, none) := rfl
theorem nx_oct {s : ByteArray} {p : Nat} (h : p < s.size) : nx pO (some (from_ s p)) = ((s[p]).toNat, some (from_ s (p + 1))) := by
  rw [from_at_cons s p h]; rfl
theorem nx_oct_end (s : ByteArray) : nx pO (some (from_ s s.size)) = (0, none) := by rw [from_end]; rfl

theorem rFail_any (s : ByteArray) (w : World) (G : Nat) (x : Int) (y : Bool) (hG : w.heap[G]? = some (.cells #[.string s, .int .i64 x, .bool y] 115 (0, 0))) :
    Calls Tryz.prog 86 #[.pointer (some ⟨G, 0, none⟩)] w fun e w' => e = .returned (.tuple #[]) ∧ w'.heap[G]? = some (.cells #[.string s, .int .i64 (s.size : Int), .bool true] 115 (0, 0)) ∧ w.grownBy w' (some G) := by
  have c0 : w.cell? ⟨G, 0, none⟩ = some (.string s) := by rw [cell_of_row w G 0 _ _ _ hG]; rfl
  have c1 : w.cell? ⟨G, 1, none⟩ = some (.int .i64 x) := by rw [cell_of_row w G 1 _ _ _ hG]; rfl
  have c2 : w.cell? ⟨G, 2, none⟩ = some (.bool y) := by rw [cell_of_row w G 2 _ _ _ hG]; rfl
  have f1 : w.frozen? ⟨G, 1, none⟩ = false := frozen_of_row w G 1 _ _ hG
  have f2 : w.frozen? ⟨G, 2, none⟩ = false := frozen_of_row w G 2 _ _ hG
  have HG := hideIt hG
  clear hG
  go_enter Tryz.func86, Tryz.ntmps86
  go_wp2
  refine bodyPost_end (v := .tuple #[]) ?_ rfl ?_
  · simp [results, Tryz.results86, go_sem]
  exact ⟨rfl, st2 (st1 HG.out), gr_trans (gr_set _ _ _ _) (gr_set _ _ _ _)⟩

set_option maxRecDepth 100000 in
set_option maxHeartbeats 4000000 in
theorem rNumber_any (s : ByteArray) (hs : s.size ≤ 1048576) (w : World) (G : Nat) (st : Option (List UInt8)) (h : RdAt True 115 w G s st) :
    Calls Tryz.prog 77 #[.pointer (some ⟨G, 0, none⟩)] w fun e w' => e = .returned (.int .i64 (((nx pN st).1 : Nat) : Int)) ∧ RdAt True 115 w' G s (nx pN st).2 ∧ w.grownBy w' (some G) := by
  obtain ⟨p, f, hG, hp, hf⟩ := h
  have c0 : w.cell? ⟨G, 0, none⟩ = some (.string s) := by rw [cell_of_row w G 0 _ _ _ hG]; rfl
  have c1 : w.cell? ⟨G, 1, none⟩ = some (.int .i64 (p : Int)) := by rw [cell_of_row w G 1 _ _ _ hG]; rfl
  have f1 : w.frozen? ⟨G, 1, none⟩ = false := frozen_of_row w G 1 _ _ hG
  have HV := hideIt (iReadVar_in s hs p hp)
  have HF := hideIt (fun W => rFail_any s W G (p : Int) f)
  have HG := hideIt hG
  clear hG
  cases hr : rv p (from_ s p) with
  | none =>
    rw [hr] at HV
    have hnx : Hid (nx pN st = (0, none)) := by
      show _ = _
      rcases hf with ⟨_, rfl⟩ | ⟨_, rfl, _⟩
      · exact nx_rv_none hr
      · rfl
    clear hf hr
    unfold rvV at HV
    go_enter Tryz.func77, Tryz.ntmps77
    go_wp2
    go_region_held3 (fun u => u.cell? ⟨G, 0, none⟩ = some (.string s) ∧ u.cell? ⟨G, 1, none⟩ = some (.int .i64 (p : Int))) (exact ⟨c0, c1⟩)
      ((go_at_call 43; refine (HV.out _).mono ?_; rintro e w1 ⟨rfl, rfl⟩))
    go_wp2_with (go_at_call 86; refine (HF.out w.drew HG.out).mono ?_; rintro e w2 ⟨rfl, hg2, hr2⟩)
    go_ret
    rw [hnx.out]
    exact ⟨rfl, ⟨s.size, true, hg2, Nat.le_refl _, .inr ⟨rfl, rfl, fun _ => rfl⟩⟩, gr_trans (gr_drew _ _) hr2⟩
  | some x =>
    obtain ⟨n, j⟩ := x
    rw [hr] at HV
    have hnx : Hid (nx pN st = (n, some (from_ s j)) ∧ j ≤ s.size ∧ f = false) := by
      show _ ∧ _
      rcases hf with ⟨h1, rfl⟩ | ⟨_, rfl, h3⟩
      · have := nx_rv_some hp hr
        exact ⟨this.1, this.2.1, h1⟩
      · have h4 := h3 trivial
        subst h4
        rw [from_end] at hr
        simp [rv] at hr
    clear hf hr
    unfold rvV at HV
    go_enter Tryz.func77, Tryz.ntmps77
    go_wp2
    go_region_held3 (fun u => u.cell? ⟨G, 0, none⟩ = some (.string s) ∧ u.cell? ⟨G, 1, none⟩ = some (.int .i64 (p : Int))) (exact ⟨c0, c1⟩)
      ((go_at_call 43; refine (HV.out _).mono ?_; rintro e w1 ⟨rfl, rfl⟩))
    go_wp2
    go_ret
    rw [hnx.out.1]
    refine ⟨rfl, ⟨j, f, st1 HG.out, hnx.out.2.1, .inl ⟨hnx.out.2.2, rfl⟩⟩, gr_trans (gr_drew _ _) (gr_set _ _ _ _)⟩

set_option maxRecDepth 100000 in
set_option maxHeartbeats 4000000 in
theorem rOctet_any (s : ByteArray) (hs : s.size ≤ 1048576) (w : World) (G : Nat) (st : Option (List UInt8)) (h : RdAt True 115 w G s st) :
    Calls Tryz.prog 84 #[.pointer (some ⟨G, 0, none⟩)] w fun e w' => e = .returned (.int .i64 (((nx pO st).1 : Nat) : Int)) ∧ RdAt True 115 w' G s (nx pO st).2 ∧ w.grownBy w' (some G) := by
  obtain ⟨p, f, hG, hp, hf⟩ := h
  have c0 : w.cell? ⟨G, 0, none⟩ = some (.string s) := by rw [cell_of_row w G 0 _ _ _ hG]; rfl
  have c1 : w.cell? ⟨G, 1, none⟩ = some (.int .i64 (p : Int)) := by rw [cell_of_row w G 1 _ _ _ hG]; rfl
  have f1 : w.frozen? ⟨G, 1, none⟩ = false := frozen_of_row w G 1 _ _ hG
  have HF := hideIt (fun W => rFail_any s W G (p : Int) f)
  have HG := hideIt hG
  clear hG
  by_cases hlt : p < s.size
  · have hnx : Hid (nx pO st = ((s[p]).toNat, some (from_ s (p + 1))) ∧ f = false) := by
      show _ ∧ _
      rcases hf with ⟨h1, rfl⟩ | ⟨_, rfl, h3⟩
      · exact ⟨nx_oct hlt, h1⟩
      · have := h3 trivial
        omega
    have e1 : ((p : Int) == (s.size : Int)) = false := by simp; omega
    have b1 : (0 : Int) ≤ (p : Int) := by omega
    have b2 : (p : Int) < (s.size : Int) := by omega
    have wp1 : IntKind.i64.wrap ((p : Int) + 1) = (p : Int) + 1 := by rw [IntKind.wrap_i64]; omega
    have wp2 : IntKind.i64.wrap ((p : Int) + 1 - 1) = (p : Int) := by rw [IntKind.wrap_i64]; omega
    clear hf
    go_enter Tryz.func84, Tryz.ntmps84
    go_wp2
    go_quiet (fail)
    go_wp2
    go_quiet (fail)
    go_wp2
    go_ret
    rw [hnx.out.1]
    refine ⟨?_, ⟨p + 1, f, ?_, by omega, .inl ⟨hnx.out.2, rfl⟩⟩, ?_⟩
    · have h8 := UInt8.toNat_lt s[p]
      have hw : wrap64 ((s[p]).toNat : Int) = ((s[p]).toNat : Int) := by unfold wrap64; omega
      exact congrArg (fun z => Ending.returned (.int .i64 z)) hw
    · exact st1 HG.out
    · exact gr_trans (gr_trans (gr_drews _ _ _) (gr_set _ _ _ _)) (gr_drews _ _ _)
  · have hnx : Hid (nx pO st = (0, none)) := by
      show _ = _
      rcases hf with ⟨_, rfl⟩ | ⟨_, rfl, _⟩
      · obtain rfl : p = s.size := by omega
        exact nx_oct_end s
      · rfl
    obtain rfl : p = s.size := by omega
    clear hf
    go_enter Tryz.func84, Tryz.ntmps84
    go_wp2
    go_quiet (fail)
    go_wp2_with (go_at_call 86; refine (HF.out (World.drewN w _) HG.out).mono ?_; rintro e w2 ⟨rfl, hg2, hr2⟩)
    go_ret
    rw [hnx.out]
    exact ⟨rfl, ⟨s.size, true, hg2, Nat.le_refl _, .inr ⟨rfl, rfl, fun _ => rfl⟩⟩, gr_trans (gr_drews _ _ _) hr2⟩
end Go.Proofs.YtcieanhbipbhgaaGreatDoor
namespace Go.Proofs.YtcieanhbipbhgaaGreatDoor
open Go.RowKit Vt

/-- behind k edges: the bytes ahead of what is still to be read, or too few of them -/
def EdSt (L : List UInt8) (k : Nat) (es : List EdgeV) (st : Option (List UInt8)) : Prop :=
  es.length = k ∧ EB8 es ∧ (if L.length < 2 * k then st = none else st = some (L.drop (2 * k)) ∧ es = pairs (L.take (2 * k)))

theorem EdSt.start (L : List UInt8) : EdSt L 0 [] (some L) := by
  refine ⟨rfl, (fun e he => by cases he), ?_⟩
  rw [if_neg (by omega)]
  simp [pairs]

theorem pairs_snoc : ∀ (k : Nat) (L : List UInt8) (a b : UInt8) (r : List UInt8), L.length = 2 * k → pairs (L ++ [a, b] ++ r) = pairs L ++ ((a.toNat : Int), (b.toNat : Int)) :: pairs r
  | 0, L, a, b, r, h => by
    obtain rfl : L = [] := List.length_eq_zero_iff.1 (by omega)
    simp [pairs]
  | k + 1, L, a, b, r, h => by
    match L, h with
    | [], h => simp at h
    | [_], h => simp at h; omega
    | x :: y :: M, h =>
      have := pairs_snoc k M a b r (by simp at h; omega)
      simp only [List.cons_append, pairs, this]

/-- one edge more -/
theorem EdSt.step {L : List UInt8} {k : Nat} {es : List EdgeV} {st : Option (List UInt8)} (h : EdSt L k es st) :
    EdSt L (k + 1) (es ++ [((((nx pO st).1 : Nat) : Int), (((nx pO (nx pO st).2).1 : Nat) : Int))]) (nx pO (nx pO st).2).2 := by
  obtain ⟨h1, h2, h3⟩ := h
  refine ⟨by simp [h1], ?_, ?_⟩
  · intro e he
    rcases List.mem_append.1 he with he | he
    · exact h2 e he
    · simp at he
      subst he
      have a1 := nx_pO_le st
      have a2 := nx_pO_le (nx pO st).2
      dsimp only
      omega
  · split at h3
    · subst h3
      rw [if_pos (by omega)]
      rfl
    · obtain ⟨h4, h5⟩ := h3
      subst h4
      match hM : L.drop (2 * k) with
      | [] =>
        have := congrArg List.length hM
        simp at this
        rw [if_pos (by omega)]
        rfl
      | [a] =>
        have := congrArg List.length hM
        simp at this
        rw [if_pos (by omega)]
        rfl
      | a :: b :: r =>
        have hl := congrArg List.length hM
        simp at hl
        rw [if_neg (by omega)]
        have e1 : L.take (2 * (k + 1)) = L.take (2 * k) ++ [a, b] ++ [] := by
          conv => lhs; rw [← List.take_append_drop (2 * k) L, hM]
          rw [List.take_append, List.length_take, show min (2 * k) L.length = 2 * k by omega, show 2 * (k + 1) - 2 * k = 2 by omega, List.take_of_length_le (by simp; omega)]
          simp
        have e2 : L.drop (2 * (k + 1)) = r := by
          rw [show 2 * (k + 1) = 2 * k + 2 by omega, ← List.drop_drop, hM]
          rfl
        refine ⟨?_, ?_⟩
        · rw [e2]; rfl
        · rw [e1, pairs_snoc k _ a b [] (by simp; omega), h5]
          rfl

theorem EdSt.er {st : Option (List UInt8)} {L : List UInt8} {k : Nat} {es : List EdgeV} {st' : Option (List UInt8)} (hn : nx pN st = (k, some L)) (hk : k ≤ 66) (h : EdSt L k es st') : ER st es st' := by
  unfold ER
  rw [hn]
  dsimp only
  rw [if_neg (by omega)]
  exact h.2.2

/-- what edges that were read are -/
structure EdAns (e : Prop) (t : TypeId) (w w' : World) (G : Nat) (s : ByteArray) (st : Option (List UInt8)) (v : Value) (most : Nat) : Prop where
  out : ∃ (a : Option Addr) (n c : Nat) (es : List EdgeV) (st' : Option (List UInt8)), v = .slice a n c ∧ n ≤ most ∧ EB8 es ∧ w'.ownsRow w.heap.size 79 2 (.slice a n c) n (ecells es) ∧ ER st es st' ∧ RdAt e t w' G s st'
  grown : w.grownBy w' (some G)

theorem RdAt.other {e : Prop} {t : TypeId} {w w' : World} {G g : Nat} {s : ByteArray} {st : Option (List UInt8)} (h : RdAt e t w G s st) (hg : w.grownBy w' (some g)) (hne : G ≠ g) : RdAt e t w' G s st := by
  obtain ⟨p, f, hG, rest⟩ := h
  refine ⟨p, f, ?_, rest⟩
  rw [hg.block G (Array.getElem?_eq_some_iff.1 hG).1 (by simp; exact hne)]
  exact hG
theorem RdAt.lt {e : Prop} {t : TypeId} {w : World} {G : Nat} {s : ByteArray} {st : Option (List UInt8)} (h : RdAt e t w G s st) : G < w.heap.size := by
  obtain ⟨p, f, hG, _⟩ := h
  exact (Array.getElem?_eq_some_iff.1 hG).1
theorem RdAt.alloc {e : Prop} {t : TypeId} {w : World} {G : Nat} {s : ByteArray} {st : Option (List UInt8)} (h : RdAt e t w G s st) (o : Obj) : RdAt e t (w.alloc o) G s st := by
  have hl := h.lt
  obtain ⟨p, f, hG, rest⟩ := h
  refine ⟨p, f, ?_, rest⟩
  rw [Below.heap_alloc w o G hl]
  exact hG

/-- a row of its own, and what two stores of the reader's and its own leave: all but the reader's block is as it was -/
theorem gr_set_new {w wr : World} {G g j : Nat} {u : Value} (h : w.grownBy wr (some G)) (hg : w.heap.size ≤ g) : w.grownBy (wr.setCell ⟨g, j, none⟩ u) (some G) := by
  have hs := gr_set wr g j u
  refine ⟨hs.os.trans h.os, hs.tape.trans h.tape, hs.output.trans h.output, Nat.le_trans h.size hs.size, fun i hi hr => ?_⟩
  rw [hs.block i (Nat.lt_of_lt_of_le hi h.size) (by simp; omega)]
  exact h.block i hi hr
theorem gr_alloc {w wr : World} {G : Nat} (h : w.grownBy wr (some G)) (o : Obj) : w.grownBy (wr.alloc o) (some G) :=
  gr_trans h (World.grownBy_alloc wr o (some G))

set_option maxRecDepth 100000 in
set_option maxHeartbeats 4000000 in
theorem rEdges_any (s : ByteArray) (hs : s.size ≤ 1048576) (w : World) (G : Nat) (st : Option (List UInt8)) (h : RdAt True 115 w G s st) :
    Calls Tryz.prog 79 #[.pointer (some ⟨G, 0, none⟩)] w fun e w' => ∃ v, e = .returned v ∧ EdAns True 115 w w' G s st v 66 := by
  obtain ⟨i0, hi, hz0, hz1, hz2⟩ := info_parts infoIE
  have HN := hideIt (rNumber_any s hs w G st h)
  have hle := nx_pN_le st
  cases hn : nx pN st with
  | mk k s1 =>
    rw [hn] at HN hle
    dsimp only at hle HN
    have hGl := h.lt
    clear h
    by_cases hk : 66 < k
    · have d1 : decide ((66 : Int) < (k : Int)) = true := by simp; omega
      have HE : Hid (ER st [] none) := by
        show ER _ _ _
        unfold ER
        rw [hn]
        cases s1 with
        | none => rfl
        | some L => dsimp only; rw [if_pos hk]; exact .inl rfl
      clear hn
      go_enter Tryz.func79, Tryz.ntmps79
      go_wp2_with (go_at_call 77; refine HN.out.mono ?_; rintro e w1 ⟨rfl, ⟨p, f, hG, hp, hf⟩, hg1⟩; refine Hid.out ?_)
      refine (show ∀ {p : Prop}, p → Hid p from fun h => h) ?_
      have HF := hideIt (rFail_any s w1 G (p : Int) f hG)
      clear hG HN
      go_wp2_with (go_at_call 86; refine HF.out.mono ?_; rintro e w2 ⟨rfl, hG2, hg2⟩)
      go_ret
      exact ⟨_, rfl, ⟨⟨none, 0, 0, [], none, rfl, by omega, fun e he => (by cases he), ⟨rfl, .inl ⟨rfl, rfl⟩⟩, HE.out, ⟨s.size, true, hG2, Nat.le_refl _, .inr ⟨rfl, rfl, fun _ => rfl⟩⟩⟩, gr_trans hg1 hg2⟩⟩
    · have d1 : decide ((66 : Int) < (k : Int)) = false := by simp; omega
      have hmk : ∀ u : World, (Instr.makeSlice 33 (.int .i64 (k : Int)) (.int .i64 (k : Int))).run Tryz.prog u =
          .ok (.slice (some ⟨u.heap.size, 0, none⟩) k k) (u.alloc (.cells (madeCells #[.int .i64 0, .int .i64 0] (k * 2)) 79)) := fun u => by
        have h := run_make (P := Tryz.prog) u 33 79 i0 _ Tryz.underlying33 hi hz0 .i64 .i64 (k : Int) (k : Int) (by omega) (by omega) (by rw [hz2]; omega) (by omega)
        rw [Int.toNat_natCast] at h
        simpa [hz1, Value.cells] using h
      have HO : Hid (∀ W st, RdAt True 115 W G s st → Calls Tryz.prog 84 #[.pointer (some ⟨G, 0, none⟩)] W fun e w' => e = .returned (.int .i64 (((nx pO st).1 : Nat) : Int)) ∧ RdAt True 115 w' G s (nx pO st).2 ∧ W.grownBy w' (some G)) := fun W st hW => rOctet_any s hs W G st hW
      obtain ⟨L, hL⟩ : ∃ L : List UInt8, Hid ((s1 = some L ∨ s1 = none ∧ L = []) ∧ (s1 = none → k = 0)) := by
        cases s1 with
        | some L => exact ⟨L, ⟨.inl rfl, fun h => by cases h⟩⟩
        | none =>
          refine ⟨[], ⟨.inr ⟨rfl, rfl⟩, fun _ => ?_⟩⟩
          unfold nx at hn
          split at hn
          · simp at hn; omega
          · split at hn
            · simp at hn; omega
            · simp at hn
      have HH := hideIt hn
      clear hn
      go_enter Tryz.func79, Tryz.ntmps79
      go_wp2_with (go_at_call 77; refine HN.out.mono ?_; rintro e w1 ⟨rfl, hR, hg1⟩; refine Hid.out ?_)
      refine (show ∀ {p : Prop}, p → Hid p from fun h => h) ?_
      have hz := hg1.size
      have HR := hideIt hR
      clear HN hR
      go_wp2
      go_loopw [16] (fun i wr => ∃ (j : Nat) (xs : List Value) (es : List EdgeV) (st : Option (List UInt8)), j ≤ k ∧ i = .int .i64 (j : Int) ∧ Hid (xs.take (j * 2) = ecells es) ∧ Hid (s1 = none ∧ es = [] ∧ st = none ∨ s1 = some L ∧ EdSt L j es st) ∧ wr.ownsRow w.heap.size 79 2 (.slice (some ⟨w1.heap.size, 0, none⟩) k k) k xs ∧ RdAt True 115 wr G s st ∧ w.grownBy wr (some G)) (fun i _ => k - (intOf i).toNat)
      case atStart =>
        refine ⟨0, _, [], s1, by omega, rfl, by show _ = _; simp [ecells], ?_, own_mono (World.ownsRow_lit (base := w1.heap.size) (e := 79) (size := 2) w1 (madeCells #[.int .i64 0, .int .i64 0] (k * 2)) k (Nat.le_refl _) (by unfold maxLen; omega) (by simp [madeCells])) hz, HR.out.alloc _, gr_alloc hg1 _⟩
        show _ ∨ _
        rcases hL.out.1 with rfl | ⟨rfl, rfl⟩
        · exact .inr ⟨rfl, EdSt.start L⟩
        · exact .inl ⟨rfl, rfl, rfl⟩
      case round =>
        obtain ⟨j, xs, es, st1, hj, rfl, hx, hE, hown, hR, hg⟩ := hrel
        by_cases hlt : j < k
        · have b1 : (0 : Int) ≤ (j : Int) := by omega
          have b2 : (j : Int) < (k : Int) := by omega
          have hgz := hg.size
          have hne : G ≠ w1.heap.size := by omega
          go_wp2_with (go_at_call 84; refine (HO.out _ st1 hR).mono ?_; rintro e w3 ⟨rfl, hR3, hg3⟩; refine Hid.out ?_)
          refine (show ∀ {p : Prop}, p → Hid p from fun h => h) ?_
          have hown3 := World.ownsRow.kept hown hg3 (.inr (by simp [Value.ownBlock]; omega))
          have hl3 : xs.length = k * 2 := hown3.1
          have y0 := hown3.frozenAt (j * 2)
          have x0 : w3.cell? ⟨w1.heap.size, j * 2, none⟩ = some (xs[j * 2]'(by omega)) := by rw [hown3.cellAt (j * 2) (by omega)]; exact List.getElem?_eq_getElem (by omega)
          have hR4 := (hR3.other (gr_set w3 w1.heap.size (j * 2) (.int .i64 (((nx pO st1).1 : Nat) : Int))) hne)
          have hown4 := (hown3.stored (j * 2) (.int .i64 (((nx pO st1).1 : Nat) : Int))).1
          have hg4 := gr_set_new (j := j * 2) (u := .int .i64 (((nx pO st1).1 : Nat) : Int)) (gr_trans hg hg3) hz
          clear hown hown3 hR hR3 hg3 hg
          go_wp2_with (go_at_call 84; refine (HO.out _ _ hR4).mono ?_; rintro e w5 ⟨rfl, hR5, hg5⟩; refine Hid.out ?_)
          refine (show ∀ {p : Prop}, p → Hid p from fun h => h) ?_
          have hown5 := World.ownsRow.kept hown4 hg5 (.inr (by simp [Value.ownBlock]; omega))
          have y1 := hown5.frozenAt (j * 2 + 1)
          have x1 : w5.cell? ⟨w1.heap.size, j * 2 + 1, none⟩ = some (xs[j * 2 + 1]'(by omega)) := by
            rw [hown5.cellAt (j * 2 + 1) (by omega), List.getElem?_set_ne (by omega)]
            exact List.getElem?_eq_getElem (by omega)
          have HR6 := hideIt (hR5.other (gr_set w5 w1.heap.size (j * 2 + 1) (.int .i64 (((nx pO (nx pO st1).2).1 : Nat) : Int))) hne)
          have HO6 := hideIt (hown5.stored (j * 2 + 1) (.int .i64 (((nx pO (nx pO st1).2).1 : Nat) : Int))).1
          have HG6 := hideIt (gr_set_new (j := j * 2 + 1) (u := .int .i64 (((nx pO (nx pO st1).2).1 : Nat) : Int)) (gr_trans hg4 hg5) hz)
          clear hown4 hown5 hR4 hR5 hg5 hg4 x0 y0
          go_wp2
          refine ⟨⟨j + 1, _, es ++ [((((nx pO st1).1 : Nat) : Int), (((nx pO (nx pO st1).2).1 : Nat) : Int))], _, by omega, by go_num, ?_, ?_, HO6.out, HR6.out, HG6.out⟩, by simp [intOf]; omega⟩
          · show _ = _
            rw [show (j + 1) * 2 = j * 2 + 2 by omega, take_set2 _ _ _ _ (by omega), hx.out, ecells_snoc]
          · show _ ∨ _
            rcases hE.out with ⟨h1, _, _⟩ | ⟨h1, h2⟩
            · have := hL.out.2 h1
              omega
            · exact .inr ⟨h1, h2.step⟩
        · have hl3 : xs.length = k * 2 := hown.1
          have HX : Hid (xs = ecells es) := by
            show _ = _
            have := hx.out
            rw [List.take_of_length_le (by omega)] at this
            exact this
          obtain rfl : j = k := by omega
          have HOw := hideIt hown
          have HRr := hideIt hR
          have HGg := hideIt hg
          clear hx hown hR hg hl3
          go_wp2
          go_ret
          refine ⟨_, rfl, ⟨⟨_, _, _, es, st1, rfl, by omega, ?_, by rw [← HX.out]; exact HOw.out, ?_, HRr.out⟩, HGg.out⟩⟩
          · rcases hE.out with ⟨_, rfl, _⟩ | ⟨_, h2⟩
            · exact fun e he => by cases he
            · exact h2.2.1
          · rcases hE.out with ⟨h1, rfl, rfl⟩ | ⟨h1, h2⟩
            · unfold ER
              rw [HH.out, h1]
            · exact EdSt.er (by rw [HH.out, h1]) (by omega) h2
end Go.Proofs.YtcieanhbipbhgaaGreatDoor
namespace Go.Proofs.YtcieanhbipbhgaaGreatDoor
open Go.RowKit Vt

/-- an order as a value -/
abbrev ordV (num op : Int) (a : Option Addr) (k c : Nat) (v : Int) : Value := .agg #[.int .i64 num, .int .i64 op, .slice a k c, .int .i64 v]

theorem oB_n {n : Int} {o : OrdV} (h : ¬ (1 ≤ n ∧ n ≤ 12)) : oB n o = false := by unfold oB; rw [decide_eq_false h]; rfl
theorem oB_num {n : Int} {o : OrdV} (h : ¬ (1 ≤ o.num ∧ o.num ≤ 100000)) : oB n o = false := by unfold oB; rw [decide_eq_false h]; simp
theorem oB_es {n : Int} {o : OrdV} (h : eOk n o.es = false) : oB n o = false := by unfold oB; rw [h]; simp
theorem oB_op {n : Int} {o : OrdV} (h1 : 1 ≤ n ∧ n ≤ 12) (h2 : 1 ≤ o.num ∧ o.num ≤ 100000) (h3 : eOk n o.es = true) : oB n o = decide (OpOk n o) := by unfold oB; rw [h3, decide_eq_true h1, decide_eq_true h2]; rfl
theorem oB_not {n : Int} {o : OrdV} (h : ¬ OpOk n o) : oB n o = false := by unfold oB; rw [decide_eq_false h]; simp

theorem bel1 (w : World) (o : Obj) : Below w.heap.size w (w.alloc o) := (Below.refl _ _).alloc (Nat.le_refl _) _
theorem rett {b c : Bool} (h : b = c) : Ending.returned (.bool b) = Ending.returned (.bool c) := by rw [h]

set_option maxRecDepth 100000 in
set_option maxHeartbeats 4000000 in
theorem sOrderOk_any (n num op : Int) (es : List EdgeV) (v : Int) (k : Nat) (a : Option Addr) (c : Nat) (hk : k ≤ 1048576) (w : World) (h : Es w w.heap.size a k es) :
    Calls Tryz.prog 55 #[.int .i64 n, ordV num op a k c v] w fun e w' => e = .returned (.bool (oB n ⟨num, op, es, v⟩)) ∧ Below w.heap.size w w' := by
  unfold ordV
  have hlen : es.length = k := h.1
  have HI := hideIt l01In_any
  have HT : Hid (Calls Tryz.prog 66 #[.int .i64 n, .slice a k c] (w.alloc (.cells #[.int .i64 num, .int .i64 op, .slice a k c, .int .i64 v] 38)) fun e w' => e = .returned (.bool (eOk n es)) ∧ Below w.heap.size w w' ∧
      w'.cell? ⟨w.heap.size, 1, none⟩ = some (.int .i64 op) ∧ w'.cell? ⟨w.heap.size, 2, none⟩ = some (.slice a k c) ∧ w'.cell? ⟨w.heap.size, 3, none⟩ = some (.int .i64 v)) :=
    (l05Edges_any n es k a c hk (w.alloc (.cells #[.int .i64 num, .int .i64 op, .slice a k c, .int .i64 v] 38)) ((h.alloc (Nat.le_refl _) _).mono (by simp))).mono fun _ _ ⟨he, hb⟩ =>
      ⟨he, (bel1 _ _).trans (hb.mono (by simp)), by rw [hb.cell (by simp)]; simp, by rw [hb.cell (by simp)]; simp, by rw [hb.cell (by simp)]; simp⟩
  have B0 : Hid (Below w.heap.size w (w.alloc (.cells #[.int .i64 num, .int .i64 op, .slice a k c, .int .i64 v] 38))) := (Below.refl _ _).alloc (Nat.le_refl _) _
  clear h
  by_cases h1 : 1 ≤ n ∧ n ≤ 12
  · have r1 : decide (1 ≤ n ∧ n ≤ 12) = true := by simpa using h1
    by_cases h2 : 1 ≤ num ∧ num ≤ 100000
    · have r2 : decide (1 ≤ num ∧ num ≤ 100000) = true := by simpa using h2
      by_cases h3 : 1 ≤ op ∧ op ≤ 4
      · have r3 : decide (1 ≤ op ∧ op ≤ 4) = true := by simpa using h3
        cases hE : eOk n es with
        | true =>
          rw [hE] at HT
          have HB := hideIt (oB_op (o := ⟨num, op, es, v⟩) h1 h2 hE)
          rcases (show op = 3 ∨ op = 4 ∨ op = 1 ∨ op = 2 by omega) with rfl | rfl | rfl | rfl
          · by_cases h0 : k = 0
            · subst h0
              go_enter Tryz.func55, Tryz.ntmps55
              go_wp2_with (first | (go_at_call 26; refine (HI.out _ _ _ _).mono ?_; rintro e w1 ⟨rfl, rfl⟩) | (go_at_call 66; refine HT.out.mono ?_; rintro e w2 ⟨rfl, hb2, q1, q2, q3⟩))
              go_ret
              exact ⟨rett (by rw [HB.out, ← Bool.decide_and]; apply decide_eq_decide.2; unfold OpOk; dsimp only; omega), hb2⟩
            · have e0 : ((k : Int) == 0) = false := by simp; omega
              go_enter Tryz.func55, Tryz.ntmps55
              go_wp2_with (first | (go_at_call 26; refine (HI.out _ _ _ _).mono ?_; rintro e w1 ⟨rfl, rfl⟩) | (go_at_call 66; refine HT.out.mono ?_; rintro e w2 ⟨rfl, hb2, q1, q2, q3⟩))
              go_ret
              exact ⟨rett (by rw [HB.out]; symm; apply decide_eq_false; unfold OpOk; dsimp only; omega), hb2⟩
          · by_cases h0 : 0 < k
            · have e0 : decide (0 < (k : Int)) = true := by simp; omega
              by_cases hv : v = 0
              · subst hv
                go_enter Tryz.func55, Tryz.ntmps55
                go_wp2_with (first | (go_at_call 26; refine (HI.out _ _ _ _).mono ?_; rintro e w1 ⟨rfl, rfl⟩) | (go_at_call 66; refine HT.out.mono ?_; rintro e w2 ⟨rfl, hb2, q1, q2, q3⟩))
                go_ret
                exact ⟨rett (by rw [HB.out]; symm; apply decide_eq_true; unfold OpOk; dsimp only; omega), hb2⟩
              · have e1 : (v == 0) = false := by simpa using hv
                go_enter Tryz.func55, Tryz.ntmps55
                go_wp2_with (first | (go_at_call 26; refine (HI.out _ _ _ _).mono ?_; rintro e w1 ⟨rfl, rfl⟩) | (go_at_call 66; refine HT.out.mono ?_; rintro e w2 ⟨rfl, hb2, q1, q2, q3⟩))
                go_ret
                exact ⟨rett (by rw [HB.out]; symm; apply decide_eq_false; unfold OpOk; dsimp only; omega), hb2⟩
            · have e0 : decide (0 < (k : Int)) = false := by simp; omega
              go_enter Tryz.func55, Tryz.ntmps55
              go_wp2_with (first | (go_at_call 26; refine (HI.out _ _ _ _).mono ?_; rintro e w1 ⟨rfl, rfl⟩) | (go_at_call 66; refine HT.out.mono ?_; rintro e w2 ⟨rfl, hb2, q1, q2, q3⟩))
              go_ret
              exact ⟨rett (by rw [HB.out]; symm; apply decide_eq_false; unfold OpOk; dsimp only; omega), hb2⟩
          · by_cases h0 : k = 1
            · subst h0
              by_cases hv : v = 0
              · subst hv
                go_enter Tryz.func55, Tryz.ntmps55
                go_wp2_with (first | (go_at_call 26; refine (HI.out _ _ _ _).mono ?_; rintro e w1 ⟨rfl, rfl⟩) | (go_at_call 66; refine HT.out.mono ?_; rintro e w2 ⟨rfl, hb2, q1, q2, q3⟩))
                go_ret
                exact ⟨rett (by rw [HB.out]; symm; apply decide_eq_true; unfold OpOk; dsimp only; omega), hb2⟩
              · have e1 : (v == 0) = false := by simpa using hv
                go_enter Tryz.func55, Tryz.ntmps55
                go_wp2_with (first | (go_at_call 26; refine (HI.out _ _ _ _).mono ?_; rintro e w1 ⟨rfl, rfl⟩) | (go_at_call 66; refine HT.out.mono ?_; rintro e w2 ⟨rfl, hb2, q1, q2, q3⟩))
                go_ret
                exact ⟨rett (by rw [HB.out]; symm; apply decide_eq_false; unfold OpOk; dsimp only; omega), hb2⟩
            · have e0 : ((k : Int) == 1) = false := by simp; omega
              go_enter Tryz.func55, Tryz.ntmps55
              go_wp2_with (first | (go_at_call 26; refine (HI.out _ _ _ _).mono ?_; rintro e w1 ⟨rfl, rfl⟩) | (go_at_call 66; refine HT.out.mono ?_; rintro e w2 ⟨rfl, hb2, q1, q2, q3⟩))
              go_ret
              exact ⟨rett (by rw [HB.out]; symm; apply decide_eq_false; unfold OpOk; dsimp only; omega), hb2⟩
          · by_cases h0 : k = 1
            · subst h0
              by_cases hv : v = 0
              · subst hv
                go_enter Tryz.func55, Tryz.ntmps55
                go_wp2_with (first | (go_at_call 26; refine (HI.out _ _ _ _).mono ?_; rintro e w1 ⟨rfl, rfl⟩) | (go_at_call 66; refine HT.out.mono ?_; rintro e w2 ⟨rfl, hb2, q1, q2, q3⟩))
                go_ret
                exact ⟨rett (by rw [HB.out]; symm; apply decide_eq_true; unfold OpOk; dsimp only; omega), hb2⟩
              · have e1 : (v == 0) = false := by simpa using hv
                go_enter Tryz.func55, Tryz.ntmps55
                go_wp2_with (first | (go_at_call 26; refine (HI.out _ _ _ _).mono ?_; rintro e w1 ⟨rfl, rfl⟩) | (go_at_call 66; refine HT.out.mono ?_; rintro e w2 ⟨rfl, hb2, q1, q2, q3⟩))
                go_ret
                exact ⟨rett (by rw [HB.out]; symm; apply decide_eq_false; unfold OpOk; dsimp only; omega), hb2⟩
            · have e0 : ((k : Int) == 1) = false := by simp; omega
              go_enter Tryz.func55, Tryz.ntmps55
              go_wp2_with (first | (go_at_call 26; refine (HI.out _ _ _ _).mono ?_; rintro e w1 ⟨rfl, rfl⟩) | (go_at_call 66; refine HT.out.mono ?_; rintro e w2 ⟨rfl, hb2, q1, q2, q3⟩))
              go_ret
              exact ⟨rett (by rw [HB.out]; symm; apply decide_eq_false; unfold OpOk; dsimp only; omega), hb2⟩
        | false =>
          rw [hE] at HT
          have HB := hideIt (oB_es (o := ⟨num, op, es, v⟩) hE)
          go_enter Tryz.func55, Tryz.ntmps55
          go_wp2_with (first | (go_at_call 26; refine (HI.out _ _ _ _).mono ?_; rintro e w1 ⟨rfl, rfl⟩) | (go_at_call 66; refine HT.out.mono ?_; rintro e w2 ⟨rfl, hb2, q1, q2, q3⟩))
          go_ret
          exact ⟨rett HB.out.symm, hb2⟩
      · have r3 : decide (1 ≤ op ∧ op ≤ 4) = false := by simpa using h3
        have HB := hideIt (oB_not (n := n) (o := ⟨num, op, es, v⟩) (by unfold OpOk; dsimp only; omega))
        clear HT
        go_enter Tryz.func55, Tryz.ntmps55
        go_wp2_with (go_at_call 26; refine (HI.out _ _ _ _).mono ?_; rintro e w1 ⟨rfl, rfl⟩)
        go_ret
        exact ⟨rett HB.out.symm, B0.out⟩
    · have r2 : decide (1 ≤ num ∧ num ≤ 100000) = false := by simpa using h2
      have HB := hideIt (oB_num (n := n) (o := ⟨num, op, es, v⟩) h2)
      clear HT
      go_enter Tryz.func55, Tryz.ntmps55
      go_wp2_with (go_at_call 26; refine (HI.out _ _ _ _).mono ?_; rintro e w1 ⟨rfl, rfl⟩)
      go_ret
      exact ⟨rett HB.out.symm, B0.out⟩
  · have r1 : decide (1 ≤ n ∧ n ≤ 12) = false := by simpa using h1
    have HB := hideIt (oB_n (o := ⟨num, op, es, v⟩) h1)
    clear HT
    go_enter Tryz.func55, Tryz.ntmps55
    go_wp2_with (go_at_call 26; refine (HI.out _ _ _ _).mono ?_; rintro e w1 ⟨rfl, rfl⟩)
    go_ret
    exact ⟨rett HB.out.symm, B0.out⟩
end Go.Proofs.YtcieanhbipbhgaaGreatDoor
namespace Go.Proofs.YtcieanhbipbhgaaGreatDoor
open Go.RowKit Vt

/-- whether all was read -/
def endB : Option (List UInt8) → Bool
  | none => false
  | some L => L.isEmpty
theorem endB_iff (st : Option (List UInt8)) : endB st = true ↔ st = some [] := by
  cases st with
  | none => simp [endB]
  | some L => cases L <;> simp [endB]

/-- the cells of an order -/
abbrev oc (num op : Int) (a : Option Addr) (k c : Nat) (v : Int) : Array Value := #[.int .i64 num, .int .i64 op, .slice a k c, .int .i64 v]

/-- the reader in block G, the order in block O, the answer's box R -/
structure RO (e : Prop) (t : TypeId) (w W : World) (G O R : Nat) (s : ByteArray) (st : Option (List UInt8)) (num op : Int) (a : Option Addr) (k c : Nat) (v : Int) : Prop where
  rd : RdAt e t W G s st
  ob : W.heap[O]? = some (.cells (oc num op a k c v) 38 (0, 0))
  rb : W.heap[R]? = some (.cells (oc 0 0 none 0 0 0) 38 (0, 0))
  bel : Below w.heap.size w W
  ge : w.heap.size ≤ G ∧ w.heap.size ≤ O ∧ w.heap.size ≤ R
  ne : G ≠ O ∧ G ≠ R ∧ O ≠ R

section
variable {e : Prop} {t : TypeId} {w W W' : World} {G O R : Nat} {s : ByteArray} {st st' : Option (List UInt8)} {num op : Int} {a : Option Addr} {k c : Nat} {v : Int}

theorem bel_grown {w W W' : World} {G : Nat} (h : Below w.heap.size w W) (hg : W.grownBy W' (some G)) (hG : w.heap.size ≤ G) : Below w.heap.size w W' :=
  h.grown hg (h.size) (fun q hq => by simp at hq; omega)

theorem RO.lt (h : RO e t w W G O R s st num op a k c v) : G < W.heap.size ∧ O < W.heap.size ∧ R < W.heap.size :=
  ⟨h.rd.lt, (Array.getElem?_eq_some_iff.1 h.ob).1, (Array.getElem?_eq_some_iff.1 h.rb).1⟩

theorem RO.call (h : RO e t w W G O R s st num op a k c v) (hr : RdAt e t W' G s st') (hg : W.grownBy W' (some G)) : RO e t w W' G O R s st' num op a k c v :=
  ⟨hr, by rw [hg.block O h.lt.2.1 (by simp; exact Ne.symm h.ne.1)]; exact h.ob, by rw [hg.block R h.lt.2.2 (by simp; exact Ne.symm h.ne.2.1)]; exact h.rb, bel_grown h.bel hg h.ge.1, h.ge, h.ne⟩

theorem RO.cells (h : RO e t w W G O R s st num op a k c v) : W.cell? ⟨O, 0, none⟩ = some (.int .i64 num) ∧ W.cell? ⟨O, 1, none⟩ = some (.int .i64 op) ∧ W.cell? ⟨O, 2, none⟩ = some (.slice a k c) ∧ W.cell? ⟨O, 3, none⟩ = some (.int .i64 v) :=
  ⟨by rw [cell_of_row W O 0 _ _ _ h.ob]; rfl, by rw [cell_of_row W O 1 _ _ _ h.ob]; rfl, by rw [cell_of_row W O 2 _ _ _ h.ob]; rfl, by rw [cell_of_row W O 3 _ _ _ h.ob]; rfl⟩
theorem RO.cellsR (h : RO e t w W G O R s st num op a k c v) : W.cell? ⟨R, 0, none⟩ = some (.int .i64 0) ∧ W.cell? ⟨R, 1, none⟩ = some (.int .i64 0) ∧ W.cell? ⟨R, 2, none⟩ = some (.slice none 0 0) ∧ W.cell? ⟨R, 3, none⟩ = some (.int .i64 0) :=
  ⟨by rw [cell_of_row W R 0 _ _ _ h.rb]; rfl, by rw [cell_of_row W R 1 _ _ _ h.rb]; rfl, by rw [cell_of_row W R 2 _ _ _ h.rb]; rfl, by rw [cell_of_row W R 3 _ _ _ h.rb]; rfl⟩
theorem RO.frozen (h : RO e t w W G O R s st num op a k c v) (j : Nat) : W.frozen? ⟨O, j, none⟩ = false := frozen_of_row W O j _ _ h.ob
theorem RO.frozenR (h : RO e t w W G O R s st num op a k c v) (j : Nat) : W.frozen? ⟨R, j, none⟩ = false := frozen_of_row W R j _ _ h.rb

theorem RO.set {num' op' : Int} {a' : Option Addr} {k' c' : Nat} {v' : Int} (h : RO e t w W G O R s st num op a k c v) (j : Nat) (u : Value) (hc : (oc num op a k c v).setIfInBounds j u = oc num' op' a' k' c' v') :
    RO e t w (W.setCell ⟨O, j, none⟩ u) G O R s st num' op' a' k' c' v' :=
  ⟨h.rd.other (gr_set W O j u) h.ne.1, by rw [heap_setCell_same W O j _ _ u h.ob, hc], by rw [(gr_set W O j u).block R h.lt.2.2 (by simp; exact Ne.symm h.ne.2.2)]; exact h.rb, bel_grown h.bel (gr_set W O j u) h.ge.2.1, h.ge, h.ne⟩

theorem RO.below (h : RO e t w W G O R s st num op a k c v) (hb : Below W.heap.size W W') : RO e t w W' G O R s st num op a k c v :=
  ⟨by obtain ⟨p, f, hG, rest⟩ := h.rd; exact ⟨p, f, by rw [hb.block G h.lt.1]; exact hG, rest⟩, by rw [hb.block O h.lt.2.1]; exact h.ob, by rw [hb.block R h.lt.2.2]; exact h.rb, h.bel.trans (hb.mono h.bel.size), h.ge, h.ne⟩
end

/-- an order, or the order of nothing -/
def orO : Option OrdV → OrdV
  | none => ⟨0, 0, [], 0⟩
  | some o => o
/-- what a reader of orders answers: the order in memory of its own -/
def OrdAns (w w' : World) (e : Ending) (r : Option OrdV) : Prop :=
  ∃ (a : Option Addr) (k c : Nat), e = .returned (.tuple #[ordV (orO r).num (orO r).op a k c (orO r).v, .bool r.isSome]) ∧ w'.ownsRow w.heap.size 79 2 (.slice a k c) k (ecells (orO r).es) ∧ k ≤ 100 ∧ Below w.heap.size w w'

set_option maxRecDepth 100000 in
set_option maxHeartbeats 4000000 in
theorem rEnded_any (s : ByteArray) (w : World) (G : Nat) (st : Option (List UInt8)) (h : RdAt True 115 w G s st) :
    Calls Tryz.prog 81 #[.pointer (some ⟨G, 0, none⟩)] w fun e w' => e = .returned (.bool (endB st)) ∧ RdAt True 115 w' G s st ∧ w.grownBy w' (some G) := by
  obtain ⟨p, f, hG, hp, hf⟩ := h
  have c0 : w.cell? ⟨G, 0, none⟩ = some (.string s) := by rw [cell_of_row w G 0 _ _ _ hG]; rfl
  have c1 : w.cell? ⟨G, 1, none⟩ = some (.int .i64 (p : Int)) := by rw [cell_of_row w G 1 _ _ _ hG]; rfl
  have c2 : w.cell? ⟨G, 2, none⟩ = some (.bool f) := by rw [cell_of_row w G 2 _ _ _ hG]; rfl
  have HG := hideIt hG
  have HF := hideIt hf
  clear hG
  cases hff : f with
  | true =>
    rw [hff] at c2
    have HS : Hid (st = none) := by
      show _ = _
      rcases hf with ⟨h1, _⟩ | ⟨_, h2, _⟩
      · rw [hff] at h1; cases h1
      · exact h2
    clear hf
    go_enter Tryz.func81, Tryz.ntmps81
    go_wp2
    go_quiet (fail)
    go_wp2
    go_ret
    exact ⟨by rw [HS.out]; rfl, ⟨p, f, HG.out, hp, HF.out⟩, gr_drews _ _ _⟩
  | false =>
    rw [hff] at c2
    have HS : Hid (st = some (from_ s p)) := by
      show _ = _
      rcases hf with ⟨_, h2⟩ | ⟨h1, _, _⟩
      · exact h2
      · rw [hff] at h1; cases h1
    clear hf
    go_enter Tryz.func81, Tryz.ntmps81
    go_wp2
    go_quiet (fail)
    go_wp2
    go_ret
    refine ⟨?_, ⟨p, f, HG.out, hp, HF.out⟩, gr_drews _ _ _⟩
    rw [HS.out]
    refine rett (c := endB (some (from_ s p))) ?_
    have hlen := from_length s p
    by_cases hq : p = s.size
    · subst hq
      rw [from_end]
      simp [endB]
    · have : from_ s p ≠ [] := fun h => by rw [h] at hlen; simp at hlen; omega
      cases hc : from_ s p with
      | nil => exact absurd hc this
      | cons x y => simp [endB]; omega
end Go.Proofs.YtcieanhbipbhgaaGreatDoor
namespace Go.Proofs.YtcieanhbipbhgaaGreatDoor
open Go.RowKit Vt

theorem bel3 (w : World) (o p q : Obj) : Below w.heap.size w (((w.alloc o).alloc p).alloc q) := ((bel1 _ _).alloc (by simp) _).alloc (by simp; omega) _

theorem eqOrder_same (num op v : Int) (fs : List EdgeV) (n : Nat) (a a' : Option Addr) (c c' : Nat) (hn : n ≤ 1048576) (w : World) (h : Es w w.heap.size a n fs) (h' : Es w w.heap.size a' n fs) :
    Calls Tryz.prog 35 #[ordV num op a n c v, ordV num op a' n c' v] w fun e w' => e = .returned (.bool true) ∧ Below w.heap.size w w' := by
  unfold ordV
  have up : ∀ {x : Option Addr}, Es w w.heap.size x n fs → Es ((w.alloc (.cells #[.int .i64 num, .int .i64 op, .slice a n c, .int .i64 v] 38)).alloc (.cells #[.int .i64 num, .int .i64 op, .slice a' n c', .int .i64 v] 38)) ((w.alloc (.cells #[.int .i64 num, .int .i64 op, .slice a n c, .int .i64 v] 38)).alloc (.cells #[.int .i64 num, .int .i64 op, .slice a' n c', .int .i64 v] 38)).heap.size x n fs :=
    fun hx => ((hx.alloc (Nat.le_refl _) _).alloc (by simp) _).mono (by simp; omega)
  have HT := hideIt (eqEdgeS_same fs n a a' c c' hn _ (up h) (up h'))
  clear up h h'
  go_enter Tryz.func35, Tryz.ntmps35
  go_wp2_with (go_at_call 49; refine HT.out.mono ?_; rintro e w1 ⟨rfl, hb1⟩; refine Hid.out ?_)
  refine (show ∀ {p : Prop}, p → Hid p from fun h => h) ?_
  obtain ⟨hc, hf⟩ := bcell hb1
  have hb := (((Below.refl _ _).alloc (Nat.le_refl _) _).alloc (by simp) _).trans (hb1.mono (by simp; omega))
  have HB := hideIt hb
  have q0 : w1.cell? ⟨w.heap.size, 3, none⟩ = some (.int .i64 v) := by rw [hc _ _ (by simp; omega)]; simp
  have q1 : w1.cell? ⟨w.heap.size + 1, 3, none⟩ = some (.int .i64 v) := by rw [hc _ _ (by simp)]; simp
  clear hb hc hf hb1 HT
  go_wp2
  go_ret
  exact ⟨rfl, HB.out⟩

/-- what lies outside lo .. hi has not turned -/
structure Rng (lo hi : Nat) (u v : World) : Prop where
  os : v.os = u.os
  tape : v.tape = u.tape
  output : v.output = u.output
  size : u.heap.size ≤ v.heap.size
  block : ∀ k, k < u.heap.size → (k < lo ∨ hi ≤ k) → v.heap[k]? = u.heap[k]?
theorem Rng.of_below {u v : World} {lo hi : Nat} (h : Below u.heap.size u v) : Rng lo hi u v := ⟨h.os, h.tape, h.output, h.size, fun k hk _ => h.block k hk⟩
theorem Rng.of_grown {u v : World} {lo hi g : Nat} (h : u.grownBy v (some g)) (h1 : lo ≤ g) (h2 : g < hi) : Rng lo hi u v :=
  ⟨h.os, h.tape, h.output, h.size, fun k hk ho => h.block k hk (by simp; omega)⟩
theorem Rng.below {u v : World} {lo hi B : Nat} (h : Rng lo hi u v) (h1 : B ≤ lo) (h2 : B ≤ u.heap.size) : Below B u v := ⟨h.os, h.tape, h.output, h.size, fun k hk => h.block k (by omega) (.inl (by omega))⟩

/-- an order that is ours: its box and its edges lie in blocks lo .. hi -/
structure OBox (u : World) (lo hi b : Nat) (num op v : Int) (a : Option Addr) (m c : Nat) (gs : List EdgeV) : Prop where
  box : u.heap[b]? = some (.cells (oc num op a m c v) 38 (0, 0))
  own : u.ownsRow lo 79 2 (.slice a m c) m (ecells gs)
  least : lo ≤ b
  most : b < hi
  row : ∀ g, (Value.slice a m c).ownBlock = some g → g < b
  there : hi ≤ u.heap.size

section
variable {u v : World} {lo hi b l2 h2 : Nat} {num op x : Int} {a : Option Addr} {m c : Nat} {gs : List EdgeV}
theorem OBox.len (h : OBox u lo hi b num op x a m c gs) : gs.length = m := by
  have := h.own.1; rw [ecells_length] at this; omega
theorem OBox.es (h : OBox u lo hi b num op x a m c gs) : Es u u.heap.size a m gs := Es_of_own h.own
theorem OBox.rng (h : OBox u lo hi b num op x a m c gs) (hr : Rng l2 h2 u v) (ho : hi ≤ l2 ∨ h2 ≤ lo) : OBox v lo hi b num op x a m c gs := by
  have hth := h.there
  have hb := h.least
  have hb' := h.most
  have g1 : ∀ k, lo ≤ k → k < hi → v.heap[k]? = u.heap[k]? := fun k h3 h4 => hr.block k (by omega) (by omega)
  refine ⟨?_, ?_, hb, hb', h.row, Nat.le_trans hth hr.size⟩
  · rw [g1 b hb hb']; exact h.box
  · refine ⟨h.own.1, ?_⟩
    rcases h.own.2 with h3 | ⟨g, cap, cur, hv, hg, hcur, hrest⟩
    · exact .inl h3
    · refine .inr ⟨g, cap, cur, hv, hg, ?_, hrest⟩
      rw [g1 g hg (by have := h.row g (by rw [hv]; rfl); omega)]
      exact hcur
theorem OBox.up (h : OBox u lo hi b num op x a m c gs) (hb : Below u.heap.size u v) : OBox v lo hi b num op x a m c gs :=
  h.rng (l2 := hi) (h2 := hi) (Rng.of_below hb) (.inl (Nat.le_refl _))
theorem OBox.cells (h : OBox u lo hi b num op x a m c gs) : u.cell? ⟨b, 0, none⟩ = some (.int .i64 num) ∧ u.cell? ⟨b, 1, none⟩ = some (.int .i64 op) ∧ u.cell? ⟨b, 2, none⟩ = some (.slice a m c) ∧ u.cell? ⟨b, 3, none⟩ = some (.int .i64 x) :=
  ⟨by rw [cell_of_row u b 0 _ _ _ h.box]; rfl, by rw [cell_of_row u b 1 _ _ _ h.box]; rfl, by rw [cell_of_row u b 2 _ _ _ h.box]; rfl, by rw [cell_of_row u b 3 _ _ _ h.box]; rfl⟩
theorem OBox.laid (hl : lo ≤ u.heap.size) (ho : u.ownsRow lo 79 2 (.slice a m c) m (ecells gs)) :
    OBox (u.alloc (.cells (oc num op a m c x) 38)) lo (u.heap.size + 1) u.heap.size num op x a m c gs :=
  ⟨heap_alloc_new u _, ho.alloc _, hl, by omega, fun g hg => (ho.lt g hg).2, by simp⟩
theorem OBox.eq {lo' hi' b' : Nat} {a' : Option Addr} {m' c' : Nat} (h : OBox u lo hi b num op x a m c gs) (h' : OBox u lo' hi' b' num op x a' m' c' gs) (hm : m ≤ 1048576) :
    Calls Tryz.prog 35 #[ordV num op a m c x, ordV num op a' m' c' x] u fun e v => e = .returned (.bool true) ∧ Below u.heap.size u v := by
  have e : m' = m := by rw [← h.len, ← h'.len]
  subst e
  exact eqOrder_same num op x gs m' a a' c c' hm u h.es h'.es
end
end Go.Proofs.YtcieanhbipbhgaaGreatDoor
namespace Go.Proofs.YtcieanhbipbhgaaGreatDoor
open Go.RowKit

/-- a list of ints stands in memory below B -/
def Is (w : World) (B : Nat) (a : Option Addr) (n : Nat) (ls : List Int) : Prop :=
  ls.length = n ∧ (n = 0 ∨ ∃ b off, a = some ⟨b, off, none⟩ ∧ b < B ∧ ∀ (j : Nat) (x : Int), ls[j]? = some x → w.cell? ⟨b, off + j, none⟩ = some (.int .i64 x))
theorem Is.below {w w' : World} {B C : Nat} {a : Option Addr} {n : Nat} {ls : List Int} (h : Is w B a n ls) (hb : Below C w w') (hB : B ≤ C) : Is w' B a n ls := by
  refine ⟨h.1, h.2.imp id ?_⟩
  rintro ⟨b, off, h1, h2, h3⟩
  exact ⟨b, off, h1, h2, fun j x hx => by rw [hb.cell (p := ⟨b, _, none⟩) (by show b < _; omega)]; exact h3 j x hx⟩
theorem Is.mono {w : World} {B C : Nat} {a : Option Addr} {n : Nat} {ls : List Int} (h : Is w B a n ls) (hB : B ≤ C) : Is w C a n ls := by
  refine ⟨h.1, h.2.imp id ?_⟩
  rintro ⟨b, off, h1, h2, h3⟩
  exact ⟨b, off, h1, by omega, h3⟩
theorem Is.up {w w' : World} {a : Option Addr} {n : Nat} {ls : List Int} (h : Is w w.heap.size a n ls) (hb : Below w.heap.size w w') : Is w' w'.heap.size a n ls :=
  (h.below hb (Nat.le_refl _)).mono hb.size
def ic (ls : List Int) : List Value := ls.map fun x => Value.int .i64 x
theorem ic_len (ls : List Int) : (ic ls).length = ls.length := by simp [ic]
theorem ic_snoc (ls : List Int) (x : Int) : ic (ls ++ [x]) = ic ls ++ [.int .i64 x] := by simp [ic]
theorem ic_at {ls : List Int} {j : Nat} {x : Int} (h : ls[j]? = some x) : (ic ls)[j]? = some (.int .i64 x) := by rw [ic, List.getElem?_map, h]; rfl
theorem Is_of_own {w : World} {B n c : Nat} {a : Option Addr} {ls : List Int} (h : w.ownsRow B 3 1 (.slice a n c) n (ic ls)) : Is w w.heap.size a n ls := by
  have hl := h.1
  rw [ic_len] at hl
  refine ⟨by omega, ?_⟩
  rcases h.2 with ⟨hv, h0⟩ | ⟨g, cap, cur, hv, hrest⟩
  · exact .inl h0
  · simp at hv
    obtain ⟨rfl, rfl⟩ := hv
    refine .inr ⟨g, 0, rfl, (h.lt g rfl).2, fun j x hx => ?_⟩
    have hj : j < ls.length := (List.getElem?_eq_some_iff.1 hx).1
    rw [Nat.zero_add, h.cellAt j (by omega)]
    exact ic_at hx
theorem info3i : (Tryz.prog.info? 3).map (fun i => (i.zero, i.size, i.bytes)) = some (some (.int .i64 0), 1, 8) := by kernel_rfl

set_option maxHeartbeats 1000000 in
theorem eqIntS_same (ls : List Int) (n : Nat) (a a' : Option Addr) (c c' : Nat) (hn : n ≤ 1048576) (w : World) (h : Is w w.heap.size a n ls) (h' : Is w w.heap.size a' n ls) :
    Calls Tryz.prog 50 #[.slice a n c, .slice a' n c'] w fun e w' => e = .returned (.bool true) ∧ Below w.heap.size w w' := by
  obtain ⟨hlen, hrow⟩ := h
  obtain ⟨_, hrow'⟩ := h'
  have HR := hideIt hrow
  have HR' := hideIt hrow'
  clear hrow hrow'
  have dn : ((n : Int) != (n : Int)) = false := by simp
  go_enter Tryz.func50, Tryz.ntmps50
  go_wp2
  go_loopw [5] (fun i wr => ∃ (k : Nat), k ≤ n ∧ i = .int .i64 (k : Int) ∧ Below w.heap.size w wr) (fun i _ => n - (intOf i).toNat)
  case atStart => exact ⟨0, by omega, rfl, Below.refl _ _⟩
  case round =>
    obtain ⟨k, hk, rfl, hb⟩ := hrel
    by_cases hlt : k < n
    · rcases HR.out with hz | ⟨b, off, rfl, hbl, hc⟩
      · omega
      · rcases HR'.out with hz | ⟨b', off', rfl, hbl', hc'⟩
        · omega
        · obtain ⟨f, hf⟩ : ∃ f, ls[k]? = some f := ⟨ls[k]'(by omega), List.getElem?_eq_getElem (by omega)⟩
          have e0 : wr.cell? ⟨b, off + k, none⟩ = some (.int .i64 f) := by rw [hb.cell hbl]; exact hc k f hf
          have e1 : wr.cell? ⟨b', off' + k, none⟩ = some (.int .i64 f) := by rw [hb.cell hbl']; exact hc' k f hf
          have b1 : (0 : Int) ≤ (k : Int) := by omega
          have b2 : (k : Int) < (n : Int) := by omega
          have d1 : (f != f) = false := by simp
          clear hc hc' hf
          go_wp2
          go_quiet (fail)
          go_wp2
          exact ⟨⟨k + 1, by omega, by go_num, below_drewN hb _⟩, by simp [intOf]; omega⟩
    · go_wp2
      go_ret
      exact ⟨rfl, hb⟩

/-- n marks from k0 on -/
def imarks (k0 n : Nat) : List Int := (List.range n).map fun (t : Nat) => (k0 : Int) + (t : Int)
theorem imarks_snoc (k0 n : Nat) : imarks k0 (n + 1) = imarks k0 n ++ [(k0 : Int) + (n : Int)] := by simp [imarks, List.range_succ]
theorem imarks_at (k0 n j : Nat) (h : j < n) : (imarks k0 n)[j]? = some ((k0 : Int) + (j : Int)) := by simp [imarks, h]

theorem markIntS_zero (a : Option Addr) (c : Nat) (k0 : Int) (w : World) :
    Calls Tryz.prog 16 #[.slice a 0 c, .int .i64 k0] w fun e w' => e = .returned (.int .i64 k0) ∧ w' = w := by
  go_enter Tryz.func16, Tryz.ntmps16
  go_wp2
  refine wp_loop_rounds 1 ?_
  rw [rounds_succ]
  go_wp2
  go_ret
  exact ⟨rfl, rfl⟩

set_option maxHeartbeats 1000000 in
theorem markIntS_any (base g c n k0 : Nat) (xs0 : List Value) (hn : n ≤ 1048576) (hk1 : k0 ≤ 10000000) (w : World) (h : w.ownsRow base 3 1 (.slice (some ⟨g, 0, none⟩) n c) n xs0) :
    Calls Tryz.prog 16 #[.slice (some ⟨g, 0, none⟩) n c, .int .i64 (k0 : Int)] w fun e w' => e = .returned (.int .i64 ((k0 : Int) + (n : Int))) ∧ w'.ownsRow base 3 1 (.slice (some ⟨g, 0, none⟩) n c) n (ic (imarks k0 n)) ∧ w.grownBy w' (some g) := by
  have H0 := hideIt h
  clear h
  go_enter Tryz.func16, Tryz.ntmps16
  go_wp2
  go_loopw [1, 5] (fun q i wr => ∃ (k : Nat) (xs : List Value), k ≤ n ∧ i = .int .i64 (k : Int) ∧ q = .int .i64 ((k0 : Int) + (k : Int)) ∧ Hid (xs.take k = ic (imarks k0 k)) ∧ wr.ownsRow base 3 1 (.slice (some ⟨g, 0, none⟩) n c) n xs ∧ w.grownBy wr (some g)) (fun _ i _ => n - (intOf i).toNat)
  case atStart => exact ⟨0, xs0, by omega, rfl, by simp, by show _ = _; simp [ic, imarks], H0.out, ⟨rfl, rfl, rfl, Nat.le_refl _, fun _ _ _ => rfl⟩⟩
  case round =>
    obtain ⟨k, xs, hk, rfl, rfl, hx, hown, hg⟩ := hrel
    have hl3 : xs.length = n * 1 := hown.1
    by_cases hlt : k < n
    · have b1 : (0 : Int) ≤ (k : Int) := by omega
      have b2 : (k : Int) < (n : Int) := by omega
      have f0 := hown.frozenAt k
      obtain ⟨y0, x0⟩ : ∃ y, wr.cell? ⟨g, k, none⟩ = some y := ⟨_, by rw [hown.cellAt k (by omega)]; exact List.getElem?_eq_getElem (by omega)⟩
      have hst := hown.stored k (.int .i64 ((k0 : Int) + (k : Int)))
      have HO2 := hideIt hst.1
      have HG2 := hideIt (grown_trans hg hst.2)
      have HX : Hid ((xs.set k (.int .i64 ((k0 : Int) + (k : Int)))).take (k + 1) = ic (imarks k0 (k + 1))) := by
        show _ = _
        rw [List.take_add_one, List.take_set_of_le (Nat.le_refl _), hx.out, imarks_snoc, ic_snoc]
        simp [show k < xs.length by omega]
      clear hst hx hown hg
      go_wp2
      exact ⟨⟨k + 1, _, by omega, by go_num, by go_num, HX, HO2.out, HG2.out⟩, by simp [intOf]; omega⟩
    · obtain rfl : k = n := by omega
      have HX : Hid (xs = ic (imarks k0 k)) := by
        show _ = _
        have := hx.out
        rw [List.take_of_length_le (by omega)] at this
        exact this
      have HO := hideIt hown
      clear hx hown
      go_wp2
      go_ret
      exact ⟨rfl, by rw [← HX.out]; exact HO.out, hg⟩

set_option maxHeartbeats 1000000 in
theorem heldIntS_any (n k0 : Nat) (a : Option Addr) (c : Nat) (hn : n ≤ 1048576) (hk1 : k0 ≤ 10000000) (w : World) (h : Is w w.heap.size a n (imarks k0 n)) :
    Calls Tryz.prog 18 #[.slice a n c, .int .i64 (k0 : Int)] w fun e w' => e = .returned (.int .i64 ((k0 : Int) + (n : Int))) ∧ w' = w := by
  obtain ⟨_, hrow⟩ := h
  have HR := hideIt hrow
  clear hrow
  go_enter Tryz.func18, Tryz.ntmps18
  go_wp2
  go_loopw [1, 5] (fun kk i wr => ∃ j : Nat, j ≤ n ∧ i = .int .i64 (j : Int) ∧ kk = .int .i64 ((k0 : Int) + (j : Int)) ∧ wr = w) (fun _ i _ => n - (intOf i).toNat)
  case atStart => exact ⟨0, by omega, rfl, by simp, rfl⟩
  case round =>
    obtain ⟨j, hj, rfl, rfl, hw⟩ := hrel
    have hw' := hw.symm
    subst hw'
    clear hw
    by_cases hlt : j < n
    · rcases HR.out with hz | ⟨b, off, rfl, hbl, hc⟩
      · omega
      · have c0 := hc j _ (imarks_at k0 n j hlt)
        have b1 : (0 : Int) ≤ (j : Int) := by omega
        have b2 : (j : Int) < (n : Int) := by omega
        have d1 : ((k0 : Int) + (j : Int) != (k0 : Int) + (j : Int)) = false := by simp
        clear hc
        go_wp2
        exact ⟨⟨j + 1, by omega, by go_num, by go_num, by first | trivial | rfl⟩, by simp [intOf]; omega⟩
    · obtain rfl : j = n := by omega
      go_wp2
      go_ret
      exact ⟨rfl, rfl⟩

/-- the answer of Around, Labels: a list of the answer's own -/
def IAns (w : World) (ls : List Int) (e : Ending) (w' : World) : Prop :=
  ∃ a m c, e = .returned (.slice a m c) ∧ w'.ownsRow w.heap.size 3 1 (.slice a m c) m (ic ls) ∧ Below w.heap.size w w'

/-- a list that is ours, in blocks lo .. hi -/
structure RBox (u : World) (lo hi : Nat) (a : Option Addr) (m c : Nat) (ls : List Int) : Prop where
  own : u.ownsRow lo 3 1 (.slice a m c) m (ic ls)
  row : ∀ g, (Value.slice a m c).ownBlock = some g → g < hi
  there : hi ≤ u.heap.size
theorem RBox.rng {u v : World} {lo hi l2 h2 : Nat} {a : Option Addr} {m c : Nat} {ls : List Int} (h : RBox u lo hi a m c ls) (hr : Rng l2 h2 u v) (ho : hi ≤ l2 ∨ h2 ≤ lo) : RBox v lo hi a m c ls := by
  have hth := h.there
  refine ⟨⟨h.own.1, ?_⟩, h.row, Nat.le_trans hth hr.size⟩
  rcases h.own.2 with h3 | ⟨g, cap, cur, hv, hg, hcur, hrest⟩
  · exact .inl h3
  · have hgh := h.row g (by rw [hv]; rfl)
    refine .inr ⟨g, cap, cur, hv, hg, ?_, hrest⟩
    rw [hr.block g (by omega) (by omega)]
    exact hcur
theorem RBox.up {u v : World} {lo hi : Nat} {a : Option Addr} {m c : Nat} {ls : List Int} (h : RBox u lo hi a m c ls) (hb : Below u.heap.size u v) : RBox v lo hi a m c ls :=
  h.rng (l2 := hi) (h2 := hi) (Rng.of_below hb) (.inl (Nat.le_refl _))
theorem RBox.is {u : World} {lo hi : Nat} {a : Option Addr} {m c : Nat} {ls : List Int} (h : RBox u lo hi a m c ls) : Is u u.heap.size a m ls := Is_of_own h.own
theorem RBox.len {u : World} {lo hi : Nat} {a : Option Addr} {m c : Nat} {ls : List Int} (h : RBox u lo hi a m c ls) : ls.length = m := by
  have := h.own.1; rw [ic_len] at this; omega
theorem RBox.laid {u : World} {lo : Nat} {a : Option Addr} {m c : Nat} {ls : List Int} (ho : u.ownsRow lo 3 1 (.slice a m c) m (ic ls)) : RBox u lo u.heap.size a m c ls :=
  ⟨ho, fun g hg => (ho.lt g hg).2, Nat.le_refl _⟩
theorem eqRB {u : World} {lo hi lo' hi' : Nat} {a a' : Option Addr} {m c m' c' : Nat} {ls : List Int} (h : RBox u lo hi a m c ls) (h' : RBox u lo' hi' a' m' c' ls) (hm : m ≤ 1048576) :
    Calls Tryz.prog 50 #[.slice a m c, .slice a' m' c'] u fun e v => e = .returned (.bool true) ∧ Below u.heap.size u v := by
  have e : m' = m := by rw [← h.len, ← h'.len]
  subst e
  exact eqIntS_same ls m' a a' c c' hm u h.is h'.is
theorem markRB {u : World} {lo hi : Nat} {a : Option Addr} {m c : Nat} {ls : List Int} (h : RBox u lo hi a m c ls) (k0 : Nat) (hm : m ≤ 1048576) (h1 : k0 ≤ 10000000) :
    Calls Tryz.prog 16 #[.slice a m c, .int .i64 (k0 : Int)] u fun e v => e = .returned (.int .i64 ((k0 : Int) + (m : Int))) ∧ RBox v lo hi a m c (imarks k0 m) ∧ Rng lo hi u v := by
  have hth := h.there
  rcases h.own.2 with ⟨hv, hm0⟩ | ⟨g, cap, cur, hv, hg, hcur, hrest⟩
  · subst hm0
    refine (markIntS_zero a c (k0 : Int) u).mono fun e v ⟨he, hb⟩ => ⟨by rw [he]; simp, ?_, by rw [hb]; exact Rng.of_below (Below.refl _ _)⟩
    have hg0 : ls = [] := List.length_eq_zero_iff.1 h.len
    subst hg0
    rw [hb]
    exact h
  · have hv' := hv
    simp at hv'
    obtain ⟨rfl, rfl⟩ := hv'
    have hgh := h.row g rfl
    refine (markIntS_any lo g c m k0 _ hm h1 u h.own).mono fun e v ⟨he, ho, hgr⟩ => ⟨he, ⟨ho, h.row, Nat.le_trans hth hgr.size⟩, Rng.of_grown hgr hg hgh⟩
theorem heldRB {u : World} {lo hi : Nat} {a : Option Addr} {m c : Nat} (k0 : Nat) (h : RBox u lo hi a m c (imarks k0 m)) (hm : m ≤ 1048576) (h1 : k0 ≤ 10000000) :
    Calls Tryz.prog 18 #[.slice a m c, .int .i64 (k0 : Int)] u fun e v => e = .returned (.int .i64 ((k0 : Int) + (m : Int))) ∧ v = u :=
  heldIntS_any m k0 a c hm h1 u h.is
end Go.Proofs.YtcieanhbipbhgaaGreatDoor
