/- The specification's ReadAnswer. The program's AnswerText. Orders and answers in boxes; what is read twice is the same. -/
import Derived.Test.YtkhhagjcmbbdpaaKIRa10
import Derived.Test.YtkhhagjcmbbdpaaKSRo10
import Derived.Test.YtkhhagjcmbbdpaaKLab10
namespace Go.Proofs.Ytkhhagjcmbbdpaa
open Go.RowKit Vt

theorem newsI10 (w : World) (x : Int) : ∀ j u, ([Value.int .i64 x] : List Value)[j]? = some u → (w.alloc (.cells #[.int .i64 x] 3)).cell? ((⟨w.heap.size, 0, none⟩ : Addr).add j) = some u := by
  intro j u hj
  match j, hj with
  | 0, hj => simp at hj; subst hj; simp [Addr.add]

theorem LR_end {st0 : Option (List UInt8)} {m j : Nat} {ls : List Int} {st : Option (List UInt8)} (h : LbSt st0 j ls st) (hj : j ≤ m) (he : st = none ∨ m ≤ j) : LR m st0 ls st := by
  obtain ⟨h1, h2⟩ := h
  by_cases hm : m ≤ j
  · obtain rfl : j = m := by omega
    exact h2
  · have hn : st = none := by
      rcases he with he | he
      · exact he
      · omega
    subst hn
    unfold LR at h2 ⊢
    cases st0 with
    | none => rfl
    | some L =>
      dsimp only at h2 ⊢
      split at h2
      · rw [if_pos (by omega)]
      · simp at h2

/-- what stands in memory while labels are read: the answer in its box, labels and edges in rows of their own -/
def LbMem (w W : World) (G O R : Nat) (s : ByteArray) (st : Option (List UInt8)) (num : Int) (ok : Bool) (a : Option Addr) (k c : Nat) (es : List EdgeV) (B Bl : Nat) (a' : Option Addr) (j c' : Nat) (ls : List Int) : Prop :=
  RA False 90 w W G O R s st num ok a k c a' j c' ∧ W.ownsRow Bl 3 1 (.slice a' j c') j (ic ls) ∧ W.ownsRow B 78 2 (.slice a k c) k (ecells es) ∧ Bl ≤ W.heap.size ∧ ∀ g, (Value.slice a k c).ownBlock = some g → g < Bl

theorem LbMem.call {w W W' : World} {G O R : Nat} {s : ByteArray} {st st' : Option (List UInt8)} {num : Int} {ok : Bool} {a : Option Addr} {k c : Nat} {es : List EdgeV} {B Bl : Nat} {a' : Option Addr} {j c' : Nat} {ls : List Int}
    (h : LbMem w W G O R s st num ok a k c es B Bl a' j c' ls) (hGB : G < B) (hGl : G < Bl) (hr : RdAt False 90 W' G s st') (hg : W.grownBy W' (some G)) : LbMem w W' G O R s st' num ok a k c es B Bl a' j c' ls := by
  obtain ⟨h1, h2, h3, h4, h5⟩ := h
  exact ⟨h1.call hr hg, h2.kept hg (own_ne h2 hGl), h3.kept hg (own_ne h3 hGB), Nat.le_trans h4 hg.size, h5⟩

theorem LbMem.app {w W W' : World} {G O R : Nat} {s : ByteArray} {st : Option (List UInt8)} {num : Int} {ok : Bool} {a : Option Addr} {k c : Nat} {es : List EdgeV} {B Bl : Nat} {a' : Option Addr} {j c' : Nat} {ls : List Int} {x : Int} {g cap : Nat}
    (h : LbMem w W G O R s st num ok a k c es B Bl a' j c' ls) (hl : G < Bl ∧ O < Bl ∧ R < Bl) (hw : w.heap.size ≤ Bl)
    (hown : W'.ownsRow Bl 3 1 (.slice (some ⟨g, 0, none⟩) (j + 1) cap) (j + 1) (ic ls ++ [.int .i64 x])) (hg : (W.alloc (.cells #[.int .i64 x] 3)).grownBy W' (Value.slice a' j c').ownBlock) :
    RA False 90 w W' G O R s st num ok a k c a' j c' ∧ W'.ownsRow Bl 3 1 (.slice (some ⟨g, 0, none⟩) (j + 1) cap) (j + 1) (ic (ls ++ [x])) ∧ W'.ownsRow B 78 2 (.slice a k c) k (ecells es) ∧ Bl ≤ W'.heap.size ∧ ∀ q, (Value.slice a k c).ownBlock = some q → q < Bl := by
  obtain ⟨h1, h2, h3, h4, h5⟩ := h
  have hrow : ∀ q, (Value.slice a' j c').ownBlock = some q → Bl ≤ q := fun q hq => (h2.lt q hq).1
  have hgg : W.grownBy W' (Value.slice a' j c').ownBlock := gr_trans (World.grownBy_alloc W _ _) hg
  have hne : ∀ q, q < Bl → (Value.slice a' j c').ownBlock ≠ some q := fun q hq e => by have := hrow q e; omega
  refine ⟨⟨h1.rd.row hgg (hne G hl.1), by rw [hgg.block O h1.lt.2.1 (Ne.symm (hne O hl.2.1))]; exact h1.ob, by rw [hgg.block R h1.lt.2.2 (Ne.symm (hne R hl.2.2))]; exact h1.rb, h1.bel.grown hgg h1.bel.size (fun q hq => by have := hrow q hq; omega), h1.ge, h1.ne⟩, by rw [ic_snoc]; exact hown, own_kept h3 hgg (fun q hq => fun e => by have := h5 q e; have := hrow q hq; omega), Nat.le_trans h4 hgg.size, h5⟩

theorem LbMem.store {w W : World} {G O R : Nat} {s : ByteArray} {st : Option (List UInt8)} {num : Int} {ok : Bool} {a : Option Addr} {k c : Nat} {es : List EdgeV} {B Bl : Nat} {a' : Option Addr} {j c' : Nat} {b' : Option Addr} {i d' : Nat} {ls : List Int}
    (h : RA False 90 w W G O R s st num ok a k c a' j c' ∧ W.ownsRow Bl 3 1 (.slice b' i d') i (ic ls) ∧ W.ownsRow B 78 2 (.slice a k c) k (ecells es) ∧ Bl ≤ W.heap.size ∧ ∀ q, (Value.slice a k c).ownBlock = some q → q < Bl) (hO : O < Bl) (hB : O < B) :
    LbMem w (W.setCell ⟨O, 3, none⟩ (.slice b' i d')) G O R s st num ok a k c es B Bl b' i d' ls := by
  obtain ⟨h1, h2, h3, h4, h5⟩ := h
  exact ⟨h1.set 3 (.slice b' i d') rfl, h2.kept (gr_set W O 3 _) (own_ne h2 hO), h3.kept (gr_set W O 3 _) (own_ne h3 hB), Nat.le_trans h4 (gr_set W O 3 _).size, h5⟩

set_option maxRecDepth 100000 in
set_option maxHeartbeats 8000000 in
theorem sReadAnswer_any (n : Int) (s : ByteArray) (hs : s.size ≤ 1048576) (w : World) :
    Calls Try.prog 26 #[.int .i64 n, .string s] w fun e w' => ∃ r, IsA n s.data.toList r ∧ AnsAns w w' e r := by
  obtain ⟨i0, hi, hz0, hz1, hz2⟩ := info_parts info3i
  have HN : Hid (∀ W G st, RdAt False 90 W G s st → Calls Try.prog 63 #[.pointer (some ⟨G, 0, none⟩)] W fun e w' => e = .returned (.int .i64 (((nx pN st).1 : Nat) : Int)) ∧ RdAt False 90 w' G s (nx pN st).2 ∧ W.grownBy w' (some G)) := fun W G st h => l09Var_any s hs W G st h
  have HO : Hid (∀ W G st, RdAt False 90 W G s st → Calls Try.prog 64 #[.pointer (some ⟨G, 0, none⟩)] W fun e w' => e = .returned (.int .i64 (((nx pO st).1 : Nat) : Int)) ∧ RdAt False 90 w' G s (nx pO st).2 ∧ W.grownBy w' (some G)) := fun W G st h => l09One_any s hs W G st h
  have HE : Hid (∀ W G st, RdAt False 90 W G s st → Calls Try.prog 65 #[.pointer (some ⟨G, 0, none⟩)] W fun e w' => ∃ v, e = .returned v ∧ EdAns False 90 W w' G s st v 100) := fun W G st h => l09ReadEdges_any s hs W G st h
  have hR0 : RdAt False 90 ((w.alloc (.cells (ac 0 false none 0 0 none 0 0) 37)).alloc (.cells #[.string s, .int .i64 0, .bool false] 90)) (w.heap.size + 1) s (some s.data.toList) := by
    refine ⟨0, false, ?_, by omega, .inl ⟨rfl, by simp [from_]⟩⟩
    have := heap_alloc_new (w.alloc (.cells (ac 0 false none 0 0 none 0 0) 37)) (.cells #[.string s, .int .i64 0, .bool false] 90)
    simpa using this
  have hb0 : ((w.alloc (.cells (ac 0 false none 0 0 none 0 0) 37)).alloc (.cells #[.string s, .int .i64 0, .bool false] 90)).heap[w.heap.size]? = some (.cells (ac 0 false none 0 0 none 0 0) 37 (0, 0)) := by
    rw [Below.heap_alloc _ _ _ (by simp)]
    exact heap_alloc_new w _
  have hB0 : Below w.heap.size w ((w.alloc (.cells (ac 0 false none 0 0 none 0 0) 37)).alloc (.cells #[.string s, .int .i64 0, .bool false] 90)) := ((Below.refl _ _).alloc (Nat.le_refl _) _).alloc (by simp) _
  have HR0 := hideIt hR0
  have Hb0 := hideIt hb0
  have HB0 := hideIt hB0
  clear hR0 hb0 hB0
  go_enter Try.func26, Try.ntmps26
  go_wp2_with (go_at_call 63; refine (HN.out _ _ _ HR0.out).mono ?_; rintro e w1 ⟨rfl, hr1, hg1⟩; refine Hid.out ?_)
  refine (show ∀ {p : Prop}, p → Hid p from fun h => h) ?_
  have z1 := hg1.size
  simp at z1
  have R2 : RA False 90 w (w1.alloc (.cells (ac (((nx pN (some s.data.toList)).1 : Nat) : Int) false none 0 0 none 0 0) 37)) (w.heap.size + 1) w1.heap.size w.heap.size s (nx pN (some s.data.toList)).2 (((nx pN (some s.data.toList)).1 : Nat) : Int) false none 0 0 none 0 0 := by
    refine ⟨hr1.alloc _, heap_alloc_new w1 _, ?_, ?_, by omega, by omega⟩
    · rw [Below.heap_alloc _ _ _ (by omega), hg1.block _ (by simp; omega) (by simp)]
      exact Hb0.out
    · exact (bel_grown HB0.out hg1 (by omega)).alloc (by omega) _
  clear hr1 hg1 HR0 Hb0 HB0
  go_wp2_with (go_at_call 64; refine (HO.out _ _ _ R2.rd).mono ?_; rintro e w3 ⟨rfl, hr3, hg3⟩; refine Hid.out ?_)
  refine (show ∀ {p : Prop}, p → Hid p from fun h => h) ?_
  have R3 := R2.call hr3 hg3
  clear R2 hr3 hg3
  obtain ⟨_, c1, _, _⟩ := R3.cells
  have f1 := R3.frozen 1
  have HD : Hid (((((nx pO (nx pN (some s.data.toList)).2).1 : Nat) : Int) == 1) = decide ((nx pO (nx pN (some s.data.toList)).2).1 = 1)) := by show _ = _; rw [Bool.eq_iff_iff]; simp; omega
  generalize hok : ((((nx pO (nx pN (some s.data.toList)).2).1 : Nat) : Int) == 1) = ok at HD
  have R4 := R3.set 1 (.bool ok) rfl
  clear R3
  go_wp2_with (go_at_call 65; refine (HE.out _ _ _ R4.rd).mono ?_; rintro e w5 ⟨v5, rfl, hA5⟩; refine Hid.out ?_)
  refine (show ∀ {p : Prop}, p → Hid p from fun h => h) ?_
  obtain ⟨a, k, c, es, st3, rfl, hk, hby, hown, hER, hr5, hg5⟩ := ed_es hA5
  have R5 := R4.call hr5 hg5
  have hz4 := R4.lt
  have hge4 := R4.bel.size
  clear R4 hr5 hg5 hA5 c1 f1
  obtain ⟨_, _, c2, _⟩ := R5.cells
  have f2 := R5.frozen 2
  have R6 := R5.set 2 (.slice a k c) rfl
  have own6 := own_two (W := w5.setCell ⟨w1.heap.size, 2, none⟩ (.slice a k c)) hown (fun g hg _ => heap_setCell_other _ _ _ _ (by intro h; simp at h; have := hz4.2.1; omega))
  have hzl := R6.lt
  have hgel := R6.bel.size
  have hrow6 : ∀ g, (Value.slice a k c).ownBlock = some g → g < (w5.setCell ⟨w1.heap.size, 2, none⟩ (.slice a k c)).heap.size := fun g hg => (own6.lt g hg).2
  generalize (w3.setCell ⟨w1.heap.size, 1, none⟩ (.bool ok)).heap.size = B at own6 hz4 hge4
  generalize hq1 : (((nx pN (some s.data.toList)).1 : Nat) : Int) = num at *
  have M6 : LbMem w (w5.setCell ⟨w1.heap.size, 2, none⟩ (.slice a k c)) (w.heap.size + 1) w1.heap.size w.heap.size s st3 num ok a k c es B (w5.setCell ⟨w1.heap.size, 2, none⟩ (.slice a k c)).heap.size none 0 0 [] :=
    ⟨R6, ⟨rfl, .inl ⟨rfl, rfl⟩⟩, own6, Nat.le_refl _, hrow6⟩
  generalize hBl : (w5.setCell ⟨w1.heap.size, 2, none⟩ (.slice a k c)).heap.size = Bl at M6 hzl hgel
  have HCa0 : Hid (∀ (m : Nat) (ls : List Int) (st4 : Option (List UInt8)), LR m st3 ls st4 → Ca m s.data.toList ⟨num, ok, es, ls⟩ st4) := fun m ls st4 hLR =>
    ⟨_, (nx pO (nx pN (some s.data.toList)).2).2, st3, st4, hq1.symm, rfl, by rw [← HD.out, ← hok], .inl rfl, hER, hLR, rfl⟩
  have HM6 := hideIt M6
  clear R5 R6 hown own6 hrow6 M6 hER hq1 hok HD hBl hby
  go_wp2
  go_loopw [8] (fun i wr => ∃ (j : Nat) (ls : List Int) (st1 : Option (List UInt8)) (a' : Option Addr) (c' : Nat), j ≤ 12 ∧ (j = 0 ∨ (j : Int) ≤ n) ∧ i = .int .i64 (j : Int) ∧ Hid (LbSt st3 j ls st1) ∧ LbMem w wr (w.heap.size + 1) w1.heap.size w.heap.size s st1 num ok a k c es B Bl a' j c' ls) (fun i _ => 12 - (intOf i).toNat)
  case atStart => exact ⟨0, [], st3, none, 0, by omega, .inl rfl, rfl, LbSt.start st3, HM6.out⟩
  case round =>
    obtain ⟨j, ls, st1, a', c', hj, hjn, rfl, hS, hM⟩ := hrel
    have cfl := hM.1.rd.flag
    obtain ⟨q0, q1, q2, q3⟩ := hM.1.cells
    have HM := hideIt hM
    by_cases hcont : (j : Int) < n ∧ j < 12 ∧ st1 ≠ none
    · obtain ⟨hc1, hc2, hc3⟩ := hcont
      have e1 : decide ((j : Int) < n) = true := by simpa using hc1
      have e2 : decide ((j : Int) < 12) = true := by simp; omega
      have e3 : st1.isNone = false := by cases st1 with | none => exact absurd rfl hc3 | some _ => rfl
      rw [e3] at cfl
      have HR0 : Hid (RdAt False 90 wr.drew (w.heap.size + 1) s st1) := hM.1.rd
      generalize hxx : (((nx pO st1).1 : Nat) : Int) = xx
      have HO : Hid (∀ W G st, RdAt False 90 W G s st → st = st1 → Calls Try.prog 64 #[.pointer (some ⟨G, 0, none⟩)] W fun e w' => e = .returned (.int .i64 xx) ∧ RdAt False 90 w' G s (nx pO st1).2 ∧ W.grownBy w' (some G)) := fun W G st h e => by subst e; rw [← hxx]; exact HO.out W G st h
      have HS1 : Hid (LbSt st3 (j + 1) (ls ++ [xx]) (nx pO st1).2) := by rw [← hxx]; exact hS.out.step
      have HAf : Hid (∀ W', RdAt False 90 W' (w.heap.size + 1) s (nx pO st1).2 → wr.drew.grownBy W' (some (w.heap.size + 1)) → LbMem w W' (w.heap.size + 1) w1.heap.size w.heap.size s (nx pO st1).2 num ok a k c es B Bl a' j c' ls) := fun W' hr hg => HM.out.call (by have := hz4.1; omega) (by have := hzl.1; omega) hr (gr_trans (gr_drew wr _) hg)
      have HAp : Hid (∀ (W W' : World) (g cap : Nat), LbMem w W (w.heap.size + 1) w1.heap.size w.heap.size s (nx pO st1).2 num ok a k c es B Bl a' j c' ls → W'.ownsRow Bl 3 1 (.slice (some ⟨g, 0, none⟩) (j + 1) cap) (j + 1) (ic ls ++ [.int .i64 xx]) → (W.alloc (.cells #[.int .i64 xx] 3)).grownBy W' (Value.slice a' j c').ownBlock → RA False 90 w W' (w.heap.size + 1) w1.heap.size w.heap.size s (nx pO st1).2 num ok a k c a' j c' ∧ W'.ownsRow Bl 3 1 (.slice (some ⟨g, 0, none⟩) (j + 1) cap) (j + 1) (ic (ls ++ [xx])) ∧ W'.ownsRow B 78 2 (.slice a k c) k (ecells es) ∧ Bl ≤ W'.heap.size ∧ ∀ q, (Value.slice a k c).ownBlock = some q → q < Bl) := fun W W' g cap h1 h2 h3 => h1.app hzl hgel h2 h3
      have HFin : Hid (∀ (W' : World) (g cap : Nat), (RA False 90 w W' (w.heap.size + 1) w1.heap.size w.heap.size s (nx pO st1).2 num ok a k c a' j c' ∧ W'.ownsRow Bl 3 1 (.slice (some ⟨g, 0, none⟩) (j + 1) cap) (j + 1) (ic (ls ++ [xx])) ∧ W'.ownsRow B 78 2 (.slice a k c) k (ecells es) ∧ Bl ≤ W'.heap.size ∧ ∀ q, (Value.slice a k c).ownBlock = some q → q < Bl) → LbMem w (W'.setCell ⟨w1.heap.size, 3, none⟩ (.slice (some ⟨g, 0, none⟩) (j + 1) cap)) (w.heap.size + 1) w1.heap.size w.heap.size s (nx pO st1).2 num ok a k c es B Bl (some ⟨g, 0, none⟩) (j + 1) cap (ls ++ [xx])) := fun W' g cap h => LbMem.store h hzl.2.1 hz4.2.1
      clear hM hxx hS HE HN HCa0 HM
      go_wp2
      refine wp_region_any (by kernel_rfl) ?_
      change wpAny _ _ _ _ _ _ _ (World.drew _)
      refine takeOp (i := 0) (v := ?_) rfl (by kernel_rfl) (by kernel_rfl) (by kernel_rfl) (fun _ _ _ h => h) (by kernel_rfl) ?_ ?_
      rotate_left
      · intro w; go_simp; try with_reducible rfl
      try simp only [Act.put, List.getElem_toArray, List.getElem_cons_zero, List.setIfInBounds_toArray, List.set_cons_zero, List.set_cons_succ]
      refine takeOp (i := 2) (v := ?_) rfl (by kernel_rfl) (by kernel_rfl) (by kernel_rfl) (fun _ _ _ h => h) (by kernel_rfl) ?_ ?_
      rotate_left
      · intro w; go_simp; try with_reducible rfl
      try simp only [Act.put, List.getElem_toArray, List.getElem_cons_succ, List.getElem_cons_zero, List.setIfInBounds_toArray, List.set_cons_zero, List.set_cons_succ]
      refine wpAny_ready (rs := [1, 3]) (by kernel_rfl) (by simp) ?_
      refine AllReady.cons rfl (fun K hK => ?_) (AllReady.cons rfl (fun K hK => ?_) AllReady.nil)
      · go_simp
        refine hK _ _ ?_
        clear hK K
        try simp only [Act.put, List.getElem_toArray, List.getElem_cons_succ, List.getElem_cons_zero, List.setIfInBounds_toArray, List.set_cons_zero, List.set_cons_succ]
        refine wpAny_ready (rs := [3]) (by kernel_rfl) (by simp) ?_
        refine AllReady.cons rfl (fun K hK => ?_) AllReady.nil
        rw [if_pos]
        rotate_left
        · kernel_rfl
        go_wp2_with (go_at_call 64; refine (HO.out wr.drew _ _ HR0.out rfl).mono ?_; rintro e w3 ⟨rfl, hR3, hg3⟩; refine Hid.out ?_)
        refine (show ∀ {p : Prop}, p → Hid p from fun h => h) ?_
        have A3 := HAf.out _ hR3 hg3
        have l3 := A3.1.cells.2.2.2
        have HA3 := hideIt A3
        clear A3 hR3 hg3
        refine hK _ _ ?_
        clear hK K
        try simp only [Act.put, List.getElem_toArray, List.getElem_cons_succ, List.getElem_cons_zero, List.setIfInBounds_toArray, List.set_cons_zero, List.set_cons_succ]
        refine wpAny_ready (rs := [4]) (by kernel_rfl) (by simp) ?_
        refine AllReady.cons rfl (fun K hK => ?_) AllReady.nil
        go_simp
        refine hK _ _ ?_
        clear hK K
        try simp only [Act.put, List.getElem_toArray, List.getElem_cons_succ, List.getElem_cons_zero, List.setIfInBounds_toArray, List.set_cons_zero, List.set_cons_succ]
        refine wpAny_ready (rs := [5]) (by kernel_rfl) (by simp) ?_
        refine AllReady.cons rfl (fun K hK => ?_) AllReady.nil
        refine step_append_lies _ rfl _ _ 35 rfl Bl 3 i0 _ 1 8 Try.underlying35 hi hz0 hz1 hz2 rfl (by decide) _ _ _ rfl (HA3.out.2.1.alloc (.cells #[.int .i64 xx] 3)) ⟨w3.heap.size, 0, none⟩ 1 1 [.int .i64 xx] rfl rfl (newsI10 w3 xx) (by intro u hu; simp at hu; subst hu; rfl) (by omega) (by unfold maxLen; omega) (by omega) (by have := HA3.out.2.2.2.1; simp; omega) (w3.heap.size + 1) (by simp) ?_
        intro ga capa w4 hown4 hg4 hat4 hlt4
        have R4 := HAp.out w3 w4 ga capa HA3.out hown4 hg4
        have y4 := R4.1.frozen 3
        have l5 := R4.1.cells.2.2.2
        have HR4 := hideIt R4
        clear R4 hown4 hg4 hat4
        refine hK _ _ ?_
        clear hK K
        try simp only [Act.put, List.getElem_toArray, List.getElem_cons_succ, List.getElem_cons_zero, List.setIfInBounds_toArray, List.set_cons_zero, List.set_cons_succ]
        refine wpAny_ready (rs := [6]) (by kernel_rfl) (by simp) ?_
        refine AllReady.cons rfl (fun K hK => ?_) AllReady.nil
        go_simp
        refine hK _ _ ?_
        clear hK K
        try simp only [Act.put, List.getElem_toArray, List.getElem_cons_succ, List.getElem_cons_zero, List.setIfInBounds_toArray, List.set_cons_zero, List.set_cons_succ]
        refine wpAny_ready (rs := [7]) (by kernel_rfl) (by simp) ?_
        refine AllReady.cons rfl (fun K hK => ?_) AllReady.nil
        go_simp
        refine hK _ _ ?_
        clear hK K
        try simp only [Act.put, List.getElem_toArray, List.getElem_cons_succ, List.getElem_cons_zero, List.setIfInBounds_toArray, List.set_cons_zero, List.set_cons_succ]
        refine wpAny_done (by kernel_rfl) ?_ _
        go_wp2
        exact ⟨⟨j + 1, ls ++ [xx], _, _, _, by omega, by omega, by go_num, HS1, HFin.out w4 ga capa HR4.out⟩, by simp [intOf]; omega⟩
      · rw [if_pos]
        rotate_left
        · kernel_rfl
        go_wp2_with (go_at_call 64; refine (HO.out wr.drew _ _ HR0.out rfl).mono ?_; rintro e w3 ⟨rfl, hR3, hg3⟩; refine Hid.out ?_)
        refine (show ∀ {p : Prop}, p → Hid p from fun h => h) ?_
        have A3 := HAf.out _ hR3 hg3
        have l3 := A3.1.cells.2.2.2
        have HA3 := hideIt A3
        clear A3 hR3 hg3
        refine hK _ _ ?_
        clear hK K
        try simp only [Act.put, List.getElem_toArray, List.getElem_cons_succ, List.getElem_cons_zero, List.setIfInBounds_toArray, List.set_cons_zero, List.set_cons_succ]
        refine wpAny_ready (rs := [1, 4]) (by kernel_rfl) (by simp) ?_
        refine AllReady.cons rfl (fun K hK => ?_) (AllReady.cons rfl (fun K hK => ?_) AllReady.nil)
        · go_simp
          refine hK _ _ ?_
          clear hK K
          try simp only [Act.put, List.getElem_toArray, List.getElem_cons_succ, List.getElem_cons_zero, List.setIfInBounds_toArray, List.set_cons_zero, List.set_cons_succ]
          refine wpAny_ready (rs := [4]) (by kernel_rfl) (by simp) ?_
          refine AllReady.cons rfl (fun K hK => ?_) AllReady.nil
          go_simp
          refine hK _ _ ?_
          clear hK K
          try simp only [Act.put, List.getElem_toArray, List.getElem_cons_succ, List.getElem_cons_zero, List.setIfInBounds_toArray, List.set_cons_zero, List.set_cons_succ]
          refine wpAny_ready (rs := [5]) (by kernel_rfl) (by simp) ?_
          refine AllReady.cons rfl (fun K hK => ?_) AllReady.nil
          refine step_append_lies _ rfl _ _ 35 rfl Bl 3 i0 _ 1 8 Try.underlying35 hi hz0 hz1 hz2 rfl (by decide) _ _ _ rfl (HA3.out.2.1.alloc (.cells #[.int .i64 xx] 3)) ⟨w3.heap.size, 0, none⟩ 1 1 [.int .i64 xx] rfl rfl (newsI10 w3 xx) (by intro u hu; simp at hu; subst hu; rfl) (by omega) (by unfold maxLen; omega) (by omega) (by have := HA3.out.2.2.2.1; simp; omega) (w3.heap.size + 1) (by simp) ?_
          intro ga capa w4 hown4 hg4 hat4 hlt4
          have R4 := HAp.out w3 w4 ga capa HA3.out hown4 hg4
          have y4 := R4.1.frozen 3
          have l5 := R4.1.cells.2.2.2
          have HR4 := hideIt R4
          clear R4 hown4 hg4 hat4
          refine hK _ _ ?_
          clear hK K
          try simp only [Act.put, List.getElem_toArray, List.getElem_cons_succ, List.getElem_cons_zero, List.setIfInBounds_toArray, List.set_cons_zero, List.set_cons_succ]
          refine wpAny_ready (rs := [6]) (by kernel_rfl) (by simp) ?_
          refine AllReady.cons rfl (fun K hK => ?_) AllReady.nil
          go_simp
          refine hK _ _ ?_
          clear hK K
          try simp only [Act.put, List.getElem_toArray, List.getElem_cons_succ, List.getElem_cons_zero, List.setIfInBounds_toArray, List.set_cons_zero, List.set_cons_succ]
          refine wpAny_ready (rs := [7]) (by kernel_rfl) (by simp) ?_
          refine AllReady.cons rfl (fun K hK => ?_) AllReady.nil
          go_simp
          refine hK _ _ ?_
          clear hK K
          try simp only [Act.put, List.getElem_toArray, List.getElem_cons_succ, List.getElem_cons_zero, List.setIfInBounds_toArray, List.set_cons_zero, List.set_cons_succ]
          refine wpAny_done (by kernel_rfl) ?_ _
          go_wp2
          exact ⟨⟨j + 1, ls ++ [xx], _, _, _, by omega, by omega, by go_num, HS1, HFin.out w4 ga capa HR4.out⟩, by simp [intOf]; omega⟩
        · go_simp
          refine hK _ _ ?_
          clear hK K
          try simp only [Act.put, List.getElem_toArray, List.getElem_cons_succ, List.getElem_cons_zero, List.setIfInBounds_toArray, List.set_cons_zero, List.set_cons_succ]
          have l4 : (w3.alloc (.cells #[.int .i64 xx] 3)).cell? ⟨w1.heap.size, 3, none⟩ = some (.slice a' j c') := by rw [World.cell?_of_block (w := w3) (Below.heap_alloc w3 _ _ HA3.out.1.lt.2.1)]; exact l3
          refine wpAny_ready (rs := [1]) (by kernel_rfl) (by simp) ?_
          refine AllReady.cons rfl (fun K hK => ?_) AllReady.nil
          go_simp
          refine hK _ _ ?_
          clear hK K
          try simp only [Act.put, List.getElem_toArray, List.getElem_cons_succ, List.getElem_cons_zero, List.setIfInBounds_toArray, List.set_cons_zero, List.set_cons_succ]
          refine wpAny_ready (rs := [5]) (by kernel_rfl) (by simp) ?_
          refine AllReady.cons rfl (fun K hK => ?_) AllReady.nil
          refine step_append_lies _ rfl _ _ 35 rfl Bl 3 i0 _ 1 8 Try.underlying35 hi hz0 hz1 hz2 rfl (by decide) _ _ _ rfl (HA3.out.2.1.alloc (.cells #[.int .i64 xx] 3)) ⟨w3.heap.size, 0, none⟩ 1 1 [.int .i64 xx] rfl rfl (newsI10 w3 xx) (by intro u hu; simp at hu; subst hu; rfl) (by omega) (by unfold maxLen; omega) (by omega) (by have := HA3.out.2.2.2.1; simp; omega) (w3.heap.size + 1) (by simp) ?_
          intro ga capa w4 hown4 hg4 hat4 hlt4
          have R4 := HAp.out w3 w4 ga capa HA3.out hown4 hg4
          have y4 := R4.1.frozen 3
          have l5 := R4.1.cells.2.2.2
          have HR4 := hideIt R4
          clear R4 hown4 hg4 hat4
          refine hK _ _ ?_
          clear hK K
          try simp only [Act.put, List.getElem_toArray, List.getElem_cons_succ, List.getElem_cons_zero, List.setIfInBounds_toArray, List.set_cons_zero, List.set_cons_succ]
          refine wpAny_ready (rs := [6]) (by kernel_rfl) (by simp) ?_
          refine AllReady.cons rfl (fun K hK => ?_) AllReady.nil
          go_simp
          refine hK _ _ ?_
          clear hK K
          try simp only [Act.put, List.getElem_toArray, List.getElem_cons_succ, List.getElem_cons_zero, List.setIfInBounds_toArray, List.set_cons_zero, List.set_cons_succ]
          refine wpAny_ready (rs := [7]) (by kernel_rfl) (by simp) ?_
          refine AllReady.cons rfl (fun K hK => ?_) AllReady.nil
          go_simp
          refine hK _ _ ?_
          clear hK K
          try simp only [Act.put, List.getElem_toArray, List.getElem_cons_succ, List.getElem_cons_zero, List.setIfInBounds_toArray, List.set_cons_zero, List.set_cons_succ]
          refine wpAny_done (by kernel_rfl) ?_ _
          go_wp2
          exact ⟨⟨j + 1, ls ++ [xx], _, _, _, by omega, by omega, by go_num, HS1, HFin.out w4 ga capa HR4.out⟩, by simp [intOf]; omega⟩
    · have HCa : Hid (1 ≤ n ∧ n ≤ 12 → Ca n.toNat s.data.toList ⟨num, ok, es, ls⟩ st1) := fun hn => HCa0.out _ _ _ (LR_end hS.out (by omega) (by
        by_cases h1 : st1 = none
        · exact .inl h1
        · right
          by_cases h2 : (j : Int) < n
          · have : ¬ j < 12 := fun h3 => hcont ⟨h2, h3, h1⟩
            omega
          · omega))
      have HOk := hideIt (sAnswerText_any n num ok es ls k a c (by omega) j a' c' (by omega) wr (Es_of_own hM.2.2.1) (Is_of_own hM.2.1))
      unfold ansV at HOk
      have hex : ((j : Int) < n) = False ∨ (((j : Int) < n) = True ∧ ((j : Int) < 12) = False) ∨ (((j : Int) < n) = True ∧ ((j : Int) < 12) = True ∧ st1.isNone = true) := by
        by_cases h2 : (j : Int) < n
        · by_cases h3 : (j : Int) < 12
          · refine .inr (.inr ⟨by simp [h2], by simp [h3], ?_⟩)
            cases hs1 : st1 with
            | none => rfl
            | some M => exact absurd ⟨h2, by omega, by rw [hs1]; simp⟩ hcont
          · exact .inr (.inl ⟨by simp [h2], by simp [h3]⟩)
        · exact .inl (by simp [h2])
      clear hM hcont hS HO HE HN HCa0 HM6
      rcases hex with e1 | ⟨e1, e2⟩ | ⟨e1, e2, e3⟩
      · have d1 : decide ((j : Int) < n) = false := by rw [decide_eq_false_iff_not, e1]; exact id
        clear e1 cfl
        cases hB : aB n ⟨num, ok, es, ls⟩ with
        | false =>
          rw [atV_no hB] at HOk
          have HI : Hid (IsA n s.data.toList none) := by
            by_cases hn : 1 ≤ n ∧ n ≤ 12
            · exact IsA.back (m := n.toNat) (by omega) (HCa.out hn) (.inr (.inl hB))
            · exact IsA.out hn
          clear hB
          cases hst : st1 with
          | none =>
            go_wp2_with (go_at_call 36; refine HOk.out.mono ?_; rintro e w10 ⟨rfl, hb10⟩; refine Hid.out ?_)
            refine (show ∀ {p : Prop}, p → Hid p from fun h => h) ?_
            have R10 := HM.out.1.below hb10
            have cf := R10.rd.flag
            rw [hst] at cf
            obtain ⟨r0, r1, r2, r3⟩ := R10.cellsR
            have g0 := R10.frozenR 0
            have g1 := R10.frozenR 1
            have g2 := R10.frozenR 2
            have g3 := R10.frozenR 3
            have HB := hideIt R10.bel
            clear R10 q0 q1 q2 q3 hb10
            go_wp2
            refine bodyPost_ret (v := .tuple #[ansV 0 false none 0 0 none 0 0, .bool false]) (by simp [results, Try.results26, go_sem, r0, r1, r2, r3]) rfl ⟨none, HI.out, none, 0, 0, none, 0, 0, rfl, ⟨rfl, .inl ⟨rfl, rfl⟩⟩, ⟨rfl, .inl ⟨rfl, rfl⟩⟩, by omega, by omega, ?_⟩
            exact (((HB.out.setCell (Nat.le_refl _) _).setCell (Nat.le_refl _) _).setCell (Nat.le_refl _) _).setCell (Nat.le_refl _) _
          | some M =>
            go_wp2_with (go_at_call 36; refine HOk.out.mono ?_; rintro e w10 ⟨rfl, hb10⟩; refine Hid.out ?_)
            refine (show ∀ {p : Prop}, p → Hid p from fun h => h) ?_
            have R10 := HM.out.1.below hb10
            have cf := R10.rd.flag
            rw [hst] at cf
            obtain ⟨r0, r1, r2, r3⟩ := R10.cellsR
            have g0 := R10.frozenR 0
            have g1 := R10.frozenR 1
            have g2 := R10.frozenR 2
            have g3 := R10.frozenR 3
            have HB := hideIt R10.bel
            clear R10 q0 q1 q2 q3 hb10
            go_wp2
            refine bodyPost_ret (v := .tuple #[ansV 0 false none 0 0 none 0 0, .bool false]) (by simp [results, Try.results26, go_sem, r0, r1, r2, r3]) rfl ⟨none, HI.out, none, 0, 0, none, 0, 0, rfl, ⟨rfl, .inl ⟨rfl, rfl⟩⟩, ⟨rfl, .inl ⟨rfl, rfl⟩⟩, by omega, by omega, ?_⟩
            exact (((HB.out.setCell (Nat.le_refl _) _).setCell (Nat.le_refl _) _).setCell (Nat.le_refl _) _).setCell (Nat.le_refl _) _
        | true =>
          rw [atV_yes hB] at HOk
          have hn := (aB_parts hB).1
          have HC := hideIt (HCa.out hn)
          cases hst : st1 with
          | none =>
            have HI : Hid (IsA n s.data.toList none) := IsA.back (m := n.toNat) (by omega) HC.out (.inl hst)
            clear hB
            go_wp2_with (go_at_call 36; refine HOk.out.mono ?_; rintro e w10 ⟨rfl, hb10⟩; refine Hid.out ?_)
            refine (show ∀ {p : Prop}, p → Hid p from fun h => h) ?_
            have R10 := HM.out.1.below hb10
            have cf := R10.rd.flag
            rw [hst] at cf
            obtain ⟨r0, r1, r2, r3⟩ := R10.cellsR
            have g0 := R10.frozenR 0
            have g1 := R10.frozenR 1
            have g2 := R10.frozenR 2
            have g3 := R10.frozenR 3
            have HB := hideIt R10.bel
            clear R10 q0 q1 q2 q3 hb10
            go_wp2
            refine bodyPost_ret (v := .tuple #[ansV 0 false none 0 0 none 0 0, .bool false]) (by simp [results, Try.results26, go_sem, r0, r1, r2, r3]) rfl ⟨none, HI.out, none, 0, 0, none, 0, 0, rfl, ⟨rfl, .inl ⟨rfl, rfl⟩⟩, ⟨rfl, .inl ⟨rfl, rfl⟩⟩, by omega, by omega, ?_⟩
            exact (((HB.out.setCell (Nat.le_refl _) _).setCell (Nat.le_refl _) _).setCell (Nat.le_refl _) _).setCell (Nat.le_refl _) _
          | some M =>
            by_cases hT : aText ⟨num, ok, es, ls⟩ = s.data.toList
            · have HI : Hid (IsA n s.data.toList (some ⟨num, ok, es, ls⟩)) := ⟨hB, hT⟩
              rw [str_eq hT] at HOk
              clear hB hT
              go_wp2_with (go_at_call 36; refine HOk.out.mono ?_; rintro e w10 ⟨rfl, hb10⟩; refine Hid.out ?_)
              refine (show ∀ {p : Prop}, p → Hid p from fun h => h) ?_
              have R10 := HM.out.1.below hb10
              have cf := R10.rd.flag
              rw [hst] at cf
              obtain ⟨r0, r1, r2, r3⟩ := R10.cellsR
              have g0 := R10.frozenR 0
              have g1 := R10.frozenR 1
              have g2 := R10.frozenR 2
              have g3 := R10.frozenR 3
              have HB := hideIt R10.bel
              have own10 : Hid (w10.ownsRow B 78 2 (.slice a k c) k (ecells es)) := own_up10 HM.out.2.2.1 hb10
              have own10' : Hid (w10.ownsRow Bl 3 1 (.slice a' j c') j (ic ls)) := own_up10 HM.out.2.1 hb10
              clear q0 q1 q2 q3
              obtain ⟨q0, q1, q2, q3⟩ := R10.cells
              clear R10 hb10
              go_wp2
              refine bodyPost_ret (v := .tuple #[ansV num ok a k c a' j c', .bool true]) (by simp [results, Try.results26, go_sem, r0, r1, r2, r3]) rfl ⟨some ⟨num, ok, es, ls⟩, HI.out, a, k, c, a', j, c', rfl, ?_, ?_, by omega, by omega, ?_⟩
              · refine own_mono (B := B) ?_ hge4
                refine own_two own10.out (fun g hg hlt => ?_)
                have hne : g ≠ w.heap.size := by have := hz4.2.2; omega
                rw [heap_setCell_other _ _ _ _ (by exact hne), heap_setCell_other _ _ _ _ (by exact hne), heap_setCell_other _ _ _ _ (by exact hne), heap_setCell_other _ _ _ _ (by exact hne)]
              · refine own_mono (B := Bl) ?_ hgel
                refine own_two own10'.out (fun g hg hlt => ?_)
                have hne : g ≠ w.heap.size := by have := hzl.2.2; omega
                rw [heap_setCell_other _ _ _ _ (by exact hne), heap_setCell_other _ _ _ _ (by exact hne), heap_setCell_other _ _ _ _ (by exact hne), heap_setCell_other _ _ _ _ (by exact hne)]
              · exact (((HB.out.setCell (Nat.le_refl _) _).setCell (Nat.le_refl _) _).setCell (Nat.le_refl _) _).setCell (Nat.le_refl _) _
            · have HI : Hid (IsA n s.data.toList none) := IsA.back (m := n.toNat) (by omega) HC.out (.inr (.inr hT))
              have tq := str_neq hT
              generalize str (aText ⟨num, ok, es, ls⟩) = S at HOk tq
              clear hB hT
              go_wp2_with (go_at_call 36; refine HOk.out.mono ?_; rintro e w10 ⟨rfl, hb10⟩; refine Hid.out ?_)
              refine (show ∀ {p : Prop}, p → Hid p from fun h => h) ?_
              have R10 := HM.out.1.below hb10
              have cf := R10.rd.flag
              rw [hst] at cf
              obtain ⟨r0, r1, r2, r3⟩ := R10.cellsR
              have g0 := R10.frozenR 0
              have g1 := R10.frozenR 1
              have g2 := R10.frozenR 2
              have g3 := R10.frozenR 3
              have HB := hideIt R10.bel
              clear R10 q0 q1 q2 q3 hb10
              go_wp2
              refine bodyPost_ret (v := .tuple #[ansV 0 false none 0 0 none 0 0, .bool false]) (by simp [results, Try.results26, go_sem, r0, r1, r2, r3]) rfl ⟨none, HI.out, none, 0, 0, none, 0, 0, rfl, ⟨rfl, .inl ⟨rfl, rfl⟩⟩, ⟨rfl, .inl ⟨rfl, rfl⟩⟩, by omega, by omega, ?_⟩
              exact (((HB.out.setCell (Nat.le_refl _) _).setCell (Nat.le_refl _) _).setCell (Nat.le_refl _) _).setCell (Nat.le_refl _) _
      · have d1 : decide ((j : Int) < n) = true := by rw [decide_eq_true_eq, e1]; trivial
        have d2 : decide ((j : Int) < 12) = false := by rw [decide_eq_false_iff_not, e2]; exact id
        clear e1 e2 cfl
        cases hB : aB n ⟨num, ok, es, ls⟩ with
        | false =>
          rw [atV_no hB] at HOk
          have HI : Hid (IsA n s.data.toList none) := by
            by_cases hn : 1 ≤ n ∧ n ≤ 12
            · exact IsA.back (m := n.toNat) (by omega) (HCa.out hn) (.inr (.inl hB))
            · exact IsA.out hn
          clear hB
          cases hst : st1 with
          | none =>
            go_wp2_with (go_at_call 36; refine HOk.out.mono ?_; rintro e w10 ⟨rfl, hb10⟩; refine Hid.out ?_)
            refine (show ∀ {p : Prop}, p → Hid p from fun h => h) ?_
            have R10 := HM.out.1.below hb10
            have cf := R10.rd.flag
            rw [hst] at cf
            obtain ⟨r0, r1, r2, r3⟩ := R10.cellsR
            have g0 := R10.frozenR 0
            have g1 := R10.frozenR 1
            have g2 := R10.frozenR 2
            have g3 := R10.frozenR 3
            have HB := hideIt R10.bel
            clear R10 q0 q1 q2 q3 hb10
            go_wp2
            refine bodyPost_ret (v := .tuple #[ansV 0 false none 0 0 none 0 0, .bool false]) (by simp [results, Try.results26, go_sem, r0, r1, r2, r3]) rfl ⟨none, HI.out, none, 0, 0, none, 0, 0, rfl, ⟨rfl, .inl ⟨rfl, rfl⟩⟩, ⟨rfl, .inl ⟨rfl, rfl⟩⟩, by omega, by omega, ?_⟩
            exact (((HB.out.setCell (Nat.le_refl _) _).setCell (Nat.le_refl _) _).setCell (Nat.le_refl _) _).setCell (Nat.le_refl _) _
          | some M =>
            go_wp2_with (go_at_call 36; refine HOk.out.mono ?_; rintro e w10 ⟨rfl, hb10⟩; refine Hid.out ?_)
            refine (show ∀ {p : Prop}, p → Hid p from fun h => h) ?_
            have R10 := HM.out.1.below hb10
            have cf := R10.rd.flag
            rw [hst] at cf
            obtain ⟨r0, r1, r2, r3⟩ := R10.cellsR
            have g0 := R10.frozenR 0
            have g1 := R10.frozenR 1
            have g2 := R10.frozenR 2
            have g3 := R10.frozenR 3
            have HB := hideIt R10.bel
            clear R10 q0 q1 q2 q3 hb10
            go_wp2
            refine bodyPost_ret (v := .tuple #[ansV 0 false none 0 0 none 0 0, .bool false]) (by simp [results, Try.results26, go_sem, r0, r1, r2, r3]) rfl ⟨none, HI.out, none, 0, 0, none, 0, 0, rfl, ⟨rfl, .inl ⟨rfl, rfl⟩⟩, ⟨rfl, .inl ⟨rfl, rfl⟩⟩, by omega, by omega, ?_⟩
            exact (((HB.out.setCell (Nat.le_refl _) _).setCell (Nat.le_refl _) _).setCell (Nat.le_refl _) _).setCell (Nat.le_refl _) _
        | true =>
          rw [atV_yes hB] at HOk
          have hn := (aB_parts hB).1
          have HC := hideIt (HCa.out hn)
          cases hst : st1 with
          | none =>
            have HI : Hid (IsA n s.data.toList none) := IsA.back (m := n.toNat) (by omega) HC.out (.inl hst)
            clear hB
            go_wp2_with (go_at_call 36; refine HOk.out.mono ?_; rintro e w10 ⟨rfl, hb10⟩; refine Hid.out ?_)
            refine (show ∀ {p : Prop}, p → Hid p from fun h => h) ?_
            have R10 := HM.out.1.below hb10
            have cf := R10.rd.flag
            rw [hst] at cf
            obtain ⟨r0, r1, r2, r3⟩ := R10.cellsR
            have g0 := R10.frozenR 0
            have g1 := R10.frozenR 1
            have g2 := R10.frozenR 2
            have g3 := R10.frozenR 3
            have HB := hideIt R10.bel
            clear R10 q0 q1 q2 q3 hb10
            go_wp2
            refine bodyPost_ret (v := .tuple #[ansV 0 false none 0 0 none 0 0, .bool false]) (by simp [results, Try.results26, go_sem, r0, r1, r2, r3]) rfl ⟨none, HI.out, none, 0, 0, none, 0, 0, rfl, ⟨rfl, .inl ⟨rfl, rfl⟩⟩, ⟨rfl, .inl ⟨rfl, rfl⟩⟩, by omega, by omega, ?_⟩
            exact (((HB.out.setCell (Nat.le_refl _) _).setCell (Nat.le_refl _) _).setCell (Nat.le_refl _) _).setCell (Nat.le_refl _) _
          | some M =>
            by_cases hT : aText ⟨num, ok, es, ls⟩ = s.data.toList
            · have HI : Hid (IsA n s.data.toList (some ⟨num, ok, es, ls⟩)) := ⟨hB, hT⟩
              rw [str_eq hT] at HOk
              clear hB hT
              go_wp2_with (go_at_call 36; refine HOk.out.mono ?_; rintro e w10 ⟨rfl, hb10⟩; refine Hid.out ?_)
              refine (show ∀ {p : Prop}, p → Hid p from fun h => h) ?_
              have R10 := HM.out.1.below hb10
              have cf := R10.rd.flag
              rw [hst] at cf
              obtain ⟨r0, r1, r2, r3⟩ := R10.cellsR
              have g0 := R10.frozenR 0
              have g1 := R10.frozenR 1
              have g2 := R10.frozenR 2
              have g3 := R10.frozenR 3
              have HB := hideIt R10.bel
              have own10 : Hid (w10.ownsRow B 78 2 (.slice a k c) k (ecells es)) := own_up10 HM.out.2.2.1 hb10
              have own10' : Hid (w10.ownsRow Bl 3 1 (.slice a' j c') j (ic ls)) := own_up10 HM.out.2.1 hb10
              clear q0 q1 q2 q3
              obtain ⟨q0, q1, q2, q3⟩ := R10.cells
              clear R10 hb10
              go_wp2
              refine bodyPost_ret (v := .tuple #[ansV num ok a k c a' j c', .bool true]) (by simp [results, Try.results26, go_sem, r0, r1, r2, r3]) rfl ⟨some ⟨num, ok, es, ls⟩, HI.out, a, k, c, a', j, c', rfl, ?_, ?_, by omega, by omega, ?_⟩
              · refine own_mono (B := B) ?_ hge4
                refine own_two own10.out (fun g hg hlt => ?_)
                have hne : g ≠ w.heap.size := by have := hz4.2.2; omega
                rw [heap_setCell_other _ _ _ _ (by exact hne), heap_setCell_other _ _ _ _ (by exact hne), heap_setCell_other _ _ _ _ (by exact hne), heap_setCell_other _ _ _ _ (by exact hne)]
              · refine own_mono (B := Bl) ?_ hgel
                refine own_two own10'.out (fun g hg hlt => ?_)
                have hne : g ≠ w.heap.size := by have := hzl.2.2; omega
                rw [heap_setCell_other _ _ _ _ (by exact hne), heap_setCell_other _ _ _ _ (by exact hne), heap_setCell_other _ _ _ _ (by exact hne), heap_setCell_other _ _ _ _ (by exact hne)]
              · exact (((HB.out.setCell (Nat.le_refl _) _).setCell (Nat.le_refl _) _).setCell (Nat.le_refl _) _).setCell (Nat.le_refl _) _
            · have HI : Hid (IsA n s.data.toList none) := IsA.back (m := n.toNat) (by omega) HC.out (.inr (.inr hT))
              have tq := str_neq hT
              generalize str (aText ⟨num, ok, es, ls⟩) = S at HOk tq
              clear hB hT
              go_wp2_with (go_at_call 36; refine HOk.out.mono ?_; rintro e w10 ⟨rfl, hb10⟩; refine Hid.out ?_)
              refine (show ∀ {p : Prop}, p → Hid p from fun h => h) ?_
              have R10 := HM.out.1.below hb10
              have cf := R10.rd.flag
              rw [hst] at cf
              obtain ⟨r0, r1, r2, r3⟩ := R10.cellsR
              have g0 := R10.frozenR 0
              have g1 := R10.frozenR 1
              have g2 := R10.frozenR 2
              have g3 := R10.frozenR 3
              have HB := hideIt R10.bel
              clear R10 q0 q1 q2 q3 hb10
              go_wp2
              refine bodyPost_ret (v := .tuple #[ansV 0 false none 0 0 none 0 0, .bool false]) (by simp [results, Try.results26, go_sem, r0, r1, r2, r3]) rfl ⟨none, HI.out, none, 0, 0, none, 0, 0, rfl, ⟨rfl, .inl ⟨rfl, rfl⟩⟩, ⟨rfl, .inl ⟨rfl, rfl⟩⟩, by omega, by omega, ?_⟩
              exact (((HB.out.setCell (Nat.le_refl _) _).setCell (Nat.le_refl _) _).setCell (Nat.le_refl _) _).setCell (Nat.le_refl _) _
      · have d1 : decide ((j : Int) < n) = true := by rw [decide_eq_true_eq, e1]; trivial
        have d2 : decide ((j : Int) < 12) = true := by rw [decide_eq_true_eq, e2]; trivial
        rw [e3] at cfl
        clear e1 e2
        cases hB : aB n ⟨num, ok, es, ls⟩ with
        | false =>
          rw [atV_no hB] at HOk
          have HI : Hid (IsA n s.data.toList none) := by
            by_cases hn : 1 ≤ n ∧ n ≤ 12
            · exact IsA.back (m := n.toNat) (by omega) (HCa.out hn) (.inr (.inl hB))
            · exact IsA.out hn
          clear hB
          cases hst : st1 with
          | none =>
            go_wp2_with (go_at_call 36; refine HOk.out.mono ?_; rintro e w10 ⟨rfl, hb10⟩; refine Hid.out ?_)
            refine (show ∀ {p : Prop}, p → Hid p from fun h => h) ?_
            have R10 := HM.out.1.below hb10
            have cf := R10.rd.flag
            rw [hst] at cf
            obtain ⟨r0, r1, r2, r3⟩ := R10.cellsR
            have g0 := R10.frozenR 0
            have g1 := R10.frozenR 1
            have g2 := R10.frozenR 2
            have g3 := R10.frozenR 3
            have HB := hideIt R10.bel
            clear R10 q0 q1 q2 q3 hb10
            go_wp2
            refine bodyPost_ret (v := .tuple #[ansV 0 false none 0 0 none 0 0, .bool false]) (by simp [results, Try.results26, go_sem, r0, r1, r2, r3]) rfl ⟨none, HI.out, none, 0, 0, none, 0, 0, rfl, ⟨rfl, .inl ⟨rfl, rfl⟩⟩, ⟨rfl, .inl ⟨rfl, rfl⟩⟩, by omega, by omega, ?_⟩
            exact (((HB.out.setCell (Nat.le_refl _) _).setCell (Nat.le_refl _) _).setCell (Nat.le_refl _) _).setCell (Nat.le_refl _) _
          | some M =>
            go_wp2_with (go_at_call 36; refine HOk.out.mono ?_; rintro e w10 ⟨rfl, hb10⟩; refine Hid.out ?_)
            refine (show ∀ {p : Prop}, p → Hid p from fun h => h) ?_
            have R10 := HM.out.1.below hb10
            have cf := R10.rd.flag
            rw [hst] at cf
            obtain ⟨r0, r1, r2, r3⟩ := R10.cellsR
            have g0 := R10.frozenR 0
            have g1 := R10.frozenR 1
            have g2 := R10.frozenR 2
            have g3 := R10.frozenR 3
            have HB := hideIt R10.bel
            clear R10 q0 q1 q2 q3 hb10
            go_wp2
            refine bodyPost_ret (v := .tuple #[ansV 0 false none 0 0 none 0 0, .bool false]) (by simp [results, Try.results26, go_sem, r0, r1, r2, r3]) rfl ⟨none, HI.out, none, 0, 0, none, 0, 0, rfl, ⟨rfl, .inl ⟨rfl, rfl⟩⟩, ⟨rfl, .inl ⟨rfl, rfl⟩⟩, by omega, by omega, ?_⟩
            exact (((HB.out.setCell (Nat.le_refl _) _).setCell (Nat.le_refl _) _).setCell (Nat.le_refl _) _).setCell (Nat.le_refl _) _
        | true =>
          rw [atV_yes hB] at HOk
          have hn := (aB_parts hB).1
          have HC := hideIt (HCa.out hn)
          cases hst : st1 with
          | none =>
            have HI : Hid (IsA n s.data.toList none) := IsA.back (m := n.toNat) (by omega) HC.out (.inl hst)
            clear hB
            go_wp2_with (go_at_call 36; refine HOk.out.mono ?_; rintro e w10 ⟨rfl, hb10⟩; refine Hid.out ?_)
            refine (show ∀ {p : Prop}, p → Hid p from fun h => h) ?_
            have R10 := HM.out.1.below hb10
            have cf := R10.rd.flag
            rw [hst] at cf
            obtain ⟨r0, r1, r2, r3⟩ := R10.cellsR
            have g0 := R10.frozenR 0
            have g1 := R10.frozenR 1
            have g2 := R10.frozenR 2
            have g3 := R10.frozenR 3
            have HB := hideIt R10.bel
            clear R10 q0 q1 q2 q3 hb10
            go_wp2
            refine bodyPost_ret (v := .tuple #[ansV 0 false none 0 0 none 0 0, .bool false]) (by simp [results, Try.results26, go_sem, r0, r1, r2, r3]) rfl ⟨none, HI.out, none, 0, 0, none, 0, 0, rfl, ⟨rfl, .inl ⟨rfl, rfl⟩⟩, ⟨rfl, .inl ⟨rfl, rfl⟩⟩, by omega, by omega, ?_⟩
            exact (((HB.out.setCell (Nat.le_refl _) _).setCell (Nat.le_refl _) _).setCell (Nat.le_refl _) _).setCell (Nat.le_refl _) _
          | some M =>
            by_cases hT : aText ⟨num, ok, es, ls⟩ = s.data.toList
            · have HI : Hid (IsA n s.data.toList (some ⟨num, ok, es, ls⟩)) := ⟨hB, hT⟩
              rw [str_eq hT] at HOk
              clear hB hT
              go_wp2_with (go_at_call 36; refine HOk.out.mono ?_; rintro e w10 ⟨rfl, hb10⟩; refine Hid.out ?_)
              refine (show ∀ {p : Prop}, p → Hid p from fun h => h) ?_
              have R10 := HM.out.1.below hb10
              have cf := R10.rd.flag
              rw [hst] at cf
              obtain ⟨r0, r1, r2, r3⟩ := R10.cellsR
              have g0 := R10.frozenR 0
              have g1 := R10.frozenR 1
              have g2 := R10.frozenR 2
              have g3 := R10.frozenR 3
              have HB := hideIt R10.bel
              have own10 : Hid (w10.ownsRow B 78 2 (.slice a k c) k (ecells es)) := own_up10 HM.out.2.2.1 hb10
              have own10' : Hid (w10.ownsRow Bl 3 1 (.slice a' j c') j (ic ls)) := own_up10 HM.out.2.1 hb10
              clear q0 q1 q2 q3
              obtain ⟨q0, q1, q2, q3⟩ := R10.cells
              clear R10 hb10
              go_wp2
              refine bodyPost_ret (v := .tuple #[ansV num ok a k c a' j c', .bool true]) (by simp [results, Try.results26, go_sem, r0, r1, r2, r3]) rfl ⟨some ⟨num, ok, es, ls⟩, HI.out, a, k, c, a', j, c', rfl, ?_, ?_, by omega, by omega, ?_⟩
              · refine own_mono (B := B) ?_ hge4
                refine own_two own10.out (fun g hg hlt => ?_)
                have hne : g ≠ w.heap.size := by have := hz4.2.2; omega
                rw [heap_setCell_other _ _ _ _ (by exact hne), heap_setCell_other _ _ _ _ (by exact hne), heap_setCell_other _ _ _ _ (by exact hne), heap_setCell_other _ _ _ _ (by exact hne)]
              · refine own_mono (B := Bl) ?_ hgel
                refine own_two own10'.out (fun g hg hlt => ?_)
                have hne : g ≠ w.heap.size := by have := hzl.2.2; omega
                rw [heap_setCell_other _ _ _ _ (by exact hne), heap_setCell_other _ _ _ _ (by exact hne), heap_setCell_other _ _ _ _ (by exact hne), heap_setCell_other _ _ _ _ (by exact hne)]
              · exact (((HB.out.setCell (Nat.le_refl _) _).setCell (Nat.le_refl _) _).setCell (Nat.le_refl _) _).setCell (Nat.le_refl _) _
            · have HI : Hid (IsA n s.data.toList none) := IsA.back (m := n.toNat) (by omega) HC.out (.inr (.inr hT))
              have tq := str_neq hT
              generalize str (aText ⟨num, ok, es, ls⟩) = S at HOk tq
              clear hB hT
              go_wp2_with (go_at_call 36; refine HOk.out.mono ?_; rintro e w10 ⟨rfl, hb10⟩; refine Hid.out ?_)
              refine (show ∀ {p : Prop}, p → Hid p from fun h => h) ?_
              have R10 := HM.out.1.below hb10
              have cf := R10.rd.flag
              rw [hst] at cf
              obtain ⟨r0, r1, r2, r3⟩ := R10.cellsR
              have g0 := R10.frozenR 0
              have g1 := R10.frozenR 1
              have g2 := R10.frozenR 2
              have g3 := R10.frozenR 3
              have HB := hideIt R10.bel
              clear R10 q0 q1 q2 q3 hb10
              go_wp2
              refine bodyPost_ret (v := .tuple #[ansV 0 false none 0 0 none 0 0, .bool false]) (by simp [results, Try.results26, go_sem, r0, r1, r2, r3]) rfl ⟨none, HI.out, none, 0, 0, none, 0, 0, rfl, ⟨rfl, .inl ⟨rfl, rfl⟩⟩, ⟨rfl, .inl ⟨rfl, rfl⟩⟩, by omega, by omega, ?_⟩
              exact (((HB.out.setCell (Nat.le_refl _) _).setCell (Nat.le_refl _) _).setCell (Nat.le_refl _) _).setCell (Nat.le_refl _) _
end Go.Proofs.Ytkhhagjcmbbdpaa
namespace Go.Proofs.Ytkhhagjcmbbdpaa
open Go.RowKit Vt

theorem new_here (w : World) (x : Value) : (w.alloc (.cells #[x] 5)).cell? ⟨w.heap.size, 0, none⟩ = some x ∧ w.heap.size < (w.alloc (.cells #[x] 5)).heap.size := ⟨by simp, by simp⟩

set_option maxRecDepth 100000 in
set_option maxHeartbeats 4000000 in
theorem iAnswerText_no (n num : Int) (ok : Bool) (es : List EdgeV) (ls : List Int) (k : Nat) (a : Option Addr) (c : Nat) (hk : k ≤ 1048576) (k' : Nat) (a' : Option Addr) (c' : Nat) (hk' : k' ≤ 1048576) (w : World) (h : Es w w.heap.size a k es) (h' : Is w w.heap.size a' k' ls) (hB : aB n ⟨num, ok, es, ls⟩ = false) :
    Calls Try.prog 18 #[.int .i64 n, ansV num ok a k c a' k' c'] w fun e w' => e = .returned (.tuple #[.string ⟨#[]⟩, .bool false]) ∧ Below w.heap.size w w' := by
  have HO := hideIt (iAnswerOk_any n num ok es ls k a c hk k' a' c' hk' (w.alloc (.cells #[.int .i64 num, .bool ok, .slice a k c, .slice a' k' c'] 37)) ((h.alloc (Nat.le_refl _) _).mono (by simp)) (h'.alloc _))
  rw [hB] at HO
  unfold ansV at HO ⊢
  clear h h' hB
  go_enter Try.func18, Try.ntmps18
  go_wp2_with (go_at_call 21; refine HO.out.mono ?_; rintro e w1 ⟨rfl, hb⟩)
  go_ret2
  exact ⟨rfl, (bel1 _ _).trans (hb.mono (by simp))⟩

set_option maxRecDepth 100000 in
set_option maxHeartbeats 8000000 in
theorem iAnswerText_yes (n num : Int) (ok : Bool) (es : List EdgeV) (ls : List Int) (k : Nat) (a : Option Addr) (c : Nat) (hk : k ≤ 1048576) (k' : Nat) (a' : Option Addr) (c' : Nat) (hk' : k' ≤ 1048576) (w : World) (h : Es w w.heap.size a k es) (h' : Is w w.heap.size a' k' ls) (hB : aB n ⟨num, ok, es, ls⟩ = true) :
    Calls Try.prog 18 #[.int .i64 n, ansV num ok a k c a' k' c'] w fun e w' => e = .returned (.tuple #[.string (str (aText ⟨num, ok, es, ls⟩)), .bool true]) ∧ Below w.heap.size w w' := by
  obtain ⟨i0, hi, hz0, hz1, hz2⟩ := info_parts info5
  obtain ⟨p0, p1, p2, p3⟩ := aB_parts hB
  dsimp only at p1 p2 p3
  obtain ⟨p4, p5⟩ := lB_bytes p0.2 p3
  have hk3 : (k' : Int) = n := by rw [← h'.1]; exact p4
  have HO : Hid (Calls Try.prog 21 #[.int .i64 n, ansV num ok a k c a' k' c'] (w.alloc (.cells #[.int .i64 num, .bool ok, .slice a k c, .slice a' k' c'] 37)) fun e w' => e = .returned (.bool true) ∧ Below w.heap.size w w' ∧
      w'.cell? ⟨w.heap.size, 0, none⟩ = some (.int .i64 num) ∧ w'.cell? ⟨w.heap.size, 1, none⟩ = some (.bool ok) ∧ w'.cell? ⟨w.heap.size, 2, none⟩ = some (.slice a k c) ∧ w'.cell? ⟨w.heap.size, 3, none⟩ = some (.slice a' k' c') ∧ w.heap.size < w'.heap.size) :=
    (iAnswerOk_any n num ok es ls k a c hk k' a' c' hk' (w.alloc (.cells #[.int .i64 num, .bool ok, .slice a k c, .slice a' k' c'] 37)) ((h.alloc (Nat.le_refl _) _).mono (by simp)) (h'.alloc _)).mono fun _ _ ⟨he, hb⟩ =>
      ⟨by rw [he, hB], (bel1 _ _).trans (hb.mono (by simp)), by rw [hb.cell (by simp)]; simp, by rw [hb.cell (by simp)]; simp, by rw [hb.cell (by simp)]; simp, by rw [hb.cell (by simp)]; simp, by have := hb.size; simp at this; omega⟩
  have HN := hideIt (numberText_any num num.toNat (by omega) (by omega))
  have HE : Hid (∀ W, Below w.heap.size w W → Calls Try.prog 52 #[.slice a k c] W fun e w' => e = .returned (.string (str (et es))) ∧ Below W.heap.size W w') := fun W hW => edgesText_any es k a c (by have := h.1; omega) p2.1 W (h.up hW)
  have hl1 := vt_le5 num.toNat (by omega)
  have hl3 := et_len (es := es) (by omega)
  have hl4 : ls.length ≤ 12 := by omega
  have A1 : ∀ wx, (Op.stringOp .add (str (vt num.toNat)) (str [okb ok])).run Try.prog wx = .ok (.string (str (vt num.toNat ++ [okb ok]))) wx := str_add _ _ (by simp; omega)
  have A2 : ∀ wx, (Op.stringOp .add (str (vt num.toNat ++ [okb ok])) (str (et es))).run Try.prog wx = .ok (.string (str (vt num.toNat ++ [okb ok] ++ et es))) wx := str_add _ _ (by simp; omega)
  have A3 : ∀ wx, (Op.stringOp .add (str (vt num.toNat ++ [okb ok] ++ et es)) (str (ls.map ob))).run Try.prog wx = .ok (.string (str (vt num.toNat ++ [okb ok] ++ et es ++ ls.map ob))) wx := str_add _ _ (by simp; omega)
  have FN : Hid (str (vt num.toNat ++ [okb ok] ++ et es ++ ls.map ob) = str (aText ⟨num, ok, es, ls⟩)) := by show _ = _; unfold aText; simp [okb]
  generalize str (vt num.toNat ++ [okb ok] ++ et es ++ ls.map ob) = s3 at A3 FN
  generalize str (vt num.toNat ++ [okb ok] ++ et es) = s2 at A2 A3
  generalize str (vt num.toNat ++ [okb ok]) = s1 at A1 A2
  generalize hsL : str (ls.map ob) = sL at A3
  obtain ⟨sd, hsd⟩ : ∃ sd : Int, Hid (((okb ok).toNat : Int) = sd) := ⟨_, rfl⟩
  have CV : ∀ (g : Nat) (W : World), W.cell? ⟨g, 0, none⟩ = some (.int .u8 sd) → (convert 22 9 (.slice (some ⟨g, 0, none⟩) 1 1)).run Try.prog W = .ok (.string (str [okb ok])) W := fun g W hW => conv_g g (okb ok) sd hsd.out W hW
  have H' := hideIt h'
  have HP5 := hideIt p5
  have HSL := hideIt hsL
  unfold ansV at HO ⊢
  subst hk3
  generalize str [okb ok] = sB at A1 CV
  clear h h' hB hl1 hl3 p2 p3 p4 p5 hsL
  cases ok with
  | false =>
    obtain rfl : sd = 0 := hsd.out.symm
    go_enter Try.func18, Try.ntmps18
    go_wp2_with (go_at_call 21; refine HO.out.mono ?_; rintro e w1 ⟨rfl, hb1, q0, q1, q2, q3, z1⟩; refine Hid.out ?_)
    refine (show ∀ {p : Prop}, p → Hid p from fun h => h) ?_
    have KC : Hid (∀ W, Below w1.heap.size w1 W → (W.cell? ⟨w.heap.size, 0, none⟩ = some (.int .i64 num) ∧ W.cell? ⟨w.heap.size, 1, none⟩ = some (.bool false) ∧ W.cell? ⟨w.heap.size, 2, none⟩ = some (.slice a k c) ∧ W.cell? ⟨w.heap.size, 3, none⟩ = some (.slice a' k' c'))) := fun W hW =>
      ⟨by rw [hW.cell z1]; exact q0, by rw [hW.cell z1]; exact q1, by rw [hW.cell z1]; exact q2, by rw [hW.cell z1]; exact q3⟩
    have Z1 : Hid (∀ W, Below w1.heap.size w1 W → Below w.heap.size w W) := fun W hW => hb1.trans (hW.mono hb1.size)
    clear HO
    go_wp2
    go_loopw [7, 20] (fun v i wr => ∃ (j : Nat), j ≤ k' ∧ i = .int .i64 (j : Int) ∧ Hid (¬ v = .slice none 0 0) ∧ Hid (wr.ownsRow w1.heap.size 5 1 v j (bv ((ls.take j).map ob))) ∧ Below w1.heap.size w1 wr) (fun _ i _ => k' - (intOf i).toNat)
    case atStart =>
      exact ⟨0, by omega, rfl, by show ¬ _; simp, World.ownsRow_made (base := w1.heap.size) w1 #[] 0 (Nat.le_refl _) (by unfold maxLen; omega) rfl, (Below.refl _ _).alloc (Nat.le_refl _) _⟩
    case round =>
      obtain ⟨j, hj, rfl, hv, hO, hb⟩ := hrel
      by_cases hlt : j < k'
      · have h9 := H'.out
        rcases h9.2 with hz | ⟨b, off, rfl, hbl, hc⟩
        · omega
        · obtain ⟨x, hx⟩ : ∃ x, ls[j]? = some x := ⟨ls[j]'(by have := h9.1; omega), List.getElem?_eq_getElem (by have := h9.1; omega)⟩
          have c0 : wr.cell? ⟨b, off + j, none⟩ = some (.int .i64 x) := by rw [(Z1.out _ hb).cell hbl]; exact hc j x hx
          obtain ⟨x1, x2⟩ := HP5.out x (List.mem_of_getElem? hx)
          obtain ⟨k0, k1, k2, k3⟩ := KC.out _ hb
          have b1 : (0 : Int) ≤ (j : Int) := by omega
          have b2 : (j : Int) < (k' : Int) := by omega
          have HTk := hideIt (take_snocF ls j x hx)
          have hsz := hb.size
          clear hc hx h9
          go_wp2_with (at_builtin; refine wpList_append_own _ rfl _ _ 22 rfl w1.heap.size 5 i0 (.int .u8 0) 1 1 Try.underlying22 hi hz0 hz1 hz2 rfl (by decide) _ _ _ rfl (hO.out.alloc _) ⟨wr.heap.size, 0, none⟩ 1 1 [Value.int .u8 x] rfl rfl (one_new _ _ _) (by intro u hu; simp at hu; subst hu; rfl) (by unfold maxLen; omega) (by omega) (by simp; omega) ?_)
          intro v1 w2 hown1 hg1 hn1
          have hb1' := below_app hb (Nat.le_refl _) hO.out hg1
          have HO1 : Hid (w2.ownsRow w1.heap.size 5 1 v1 (j + 1) (bv ((ls.take (j + 1)).map ob))) := by
            show World.ownsRow _ _ _ _ _ _ _
            rw [HTk.out, List.map_append, List.map_cons, List.map_nil, ← bv_snoc _ _ x (ob_back ⟨x1, x2⟩), List.map_take]
            exact hown1
          have HN1 : Hid (¬ v1 = .slice none 0 0) := hn1
          clear hown1 hg1 hO hn1
          go_wp2
          go_roundw
          case rel => exact ⟨j + 1, by omega, by go_num, HN1, HO1, hb1'⟩
          case measure => simp [intOf]; omega
      · have hO1 := hO.out
        rw [List.take_of_length_le (by have := H'.out.1; omega)] at hO1
        obtain ⟨g, cap, rfl, _⟩ := conv_own hO1 hv.out
        have hjl : (ls.map ob).length = j := by have := hO1.1; rw [bv_len] at this; omega
        rw [hjl] at hO1
        generalize hv1 : Value.slice (some ⟨g, 0, none⟩) (ls.map ob).length cap = v1 at *
        have HKS : Hid (∀ u, Below wr.heap.size wr u → ((u.cell? ⟨w.heap.size, 0, none⟩ = some (.int .i64 num) ∧ u.cell? ⟨w.heap.size, 1, none⟩ = some (.bool false) ∧ u.cell? ⟨w.heap.size, 2, none⟩ = some (.slice a k c) ∧ u.cell? ⟨w.heap.size, 3, none⟩ = some (.slice a' k' c')) ∧ (convert 22 9 v1).run Try.prog u = .ok (.string sL) u)) := fun u hu =>
          ⟨KC.out _ (hb.trans (hu.mono hb.size)), by
            rw [← hv1, ← HSL.out]
            have h8 := World.ownsRow.kept hO1 (grown_of_below hu none) (.inr (by simp [Value.ownBlock]))
            rw [hjl]
            exact conv_at h8⟩
        have Z2 : Hid (∀ W, Below wr.heap.size wr W → Below w.heap.size w W) := fun W hW => Z1.out _ (hb.trans (hW.mono hb.size))
        have B0 : Below wr.heap.size wr wr.drew := (Below.refl _ _).drew
        clear hO hO1 hv hv1 hjl
        go_wp2
        refine wp_region_held_drew (S := (fun u => Below wr.heap.size wr u ∧ ((u.cell? ⟨w.heap.size, 0, none⟩ = some (.int .i64 num) ∧ u.cell? ⟨w.heap.size, 1, none⟩ = some (.bool false) ∧ u.cell? ⟨w.heap.size, 2, none⟩ = some (.slice a k c) ∧ u.cell? ⟨w.heap.size, 3, none⟩ = some (.slice a' k' c')) ∧ (convert 22 9 v1).run Try.prog u = .ok (.string sL) u))) (by kernel_rfl) ⟨B0, HKS.out _ B0⟩ (fun hHeld => ?_)
        refine wpAnyH_take (i := 0) (v := ?_) rfl (by kernel_rfl) (by kernel_rfl) (by kernel_rfl) (fun _ _ _ h => h) (Or.inl ⟨by kernel_rfl, ?_⟩) (by assumption) ?_
        rotate_left
        · intro w hSw; (try dsimp only at hSw); go_simp; try with_reducible rfl
        try simp only [Act.put, List.getElem_toArray, List.getElem_cons_zero, List.setIfInBounds_toArray, List.set_cons_zero, List.set_cons_succ]
        refine wpAnyH_take (i := 1) (v := ?_) rfl (by kernel_rfl) (by kernel_rfl) (by kernel_rfl) (fun _ _ _ h => h) (Or.inl ⟨by kernel_rfl, ?_⟩) (by assumption) ?_
        rotate_left
        · intro w hSw; (try dsimp only at hSw); go_simp; try with_reducible rfl
        try simp only [Act.put, List.getElem_toArray, List.getElem_cons_succ, List.getElem_cons_zero, List.setIfInBounds_toArray, List.set_cons_zero, List.set_cons_succ]
        refine wpAnyH_take (i := 3) (v := ?_) rfl (by kernel_rfl) (by kernel_rfl) (by kernel_rfl) (fun _ _ _ h => h) (Or.inl ⟨by kernel_rfl, ?_⟩) (by assumption) ?_
        rotate_left
        · intro w hSw; (try dsimp only at hSw); go_simp; try with_reducible rfl
        try simp only [Act.put, List.getElem_toArray, List.getElem_cons_succ, List.getElem_cons_zero, List.setIfInBounds_toArray, List.set_cons_zero, List.set_cons_succ]
        refine wpAnyH_take (i := 7) (v := ?_) rfl (by kernel_rfl) (by kernel_rfl) (by kernel_rfl) (fun _ _ _ h => h) (Or.inl ⟨by kernel_rfl, ?_⟩) (by assumption) ?_
        rotate_left
        · intro w hSw; (try dsimp only at hSw); go_simp; try with_reducible rfl
        try simp only [Act.put, List.getElem_toArray, List.getElem_cons_succ, List.getElem_cons_zero, List.setIfInBounds_toArray, List.set_cons_zero, List.set_cons_succ]
        refine wpAnyH_take (i := 8) (v := ?_) rfl (by kernel_rfl) (by kernel_rfl) (by kernel_rfl) (fun _ _ _ h => h) (Or.inl ⟨by kernel_rfl, ?_⟩) (by assumption) ?_
        rotate_left
        · intro w hSw; (try dsimp only at hSw); go_simp; try with_reducible rfl
        try simp only [Act.put, List.getElem_toArray, List.getElem_cons_succ, List.getElem_cons_zero, List.setIfInBounds_toArray, List.set_cons_zero, List.set_cons_succ]
        refine wpAnyH_take (i := 11) (v := ?_) rfl (by kernel_rfl) (by kernel_rfl) (by kernel_rfl) (fun _ _ _ h => h) (Or.inl ⟨by kernel_rfl, ?_⟩) (by assumption) ?_
        rotate_left
        · intro w hSw; (try dsimp only at hSw); go_simp; try with_reducible rfl
        try simp only [Act.put, List.getElem_toArray, List.getElem_cons_succ, List.getElem_cons_zero, List.setIfInBounds_toArray, List.set_cons_zero, List.set_cons_succ]
        refine wpAnyH_take (i := 12) (v := ?_) rfl (by kernel_rfl) (by kernel_rfl) (by kernel_rfl) (fun _ _ _ h => h) (Or.inl ⟨by kernel_rfl, ?_⟩) (by assumption) ?_
        rotate_left
        · intro w hSw; (try dsimp only at hSw); go_simp; try with_reducible rfl
        try simp only [Act.put, List.getElem_toArray, List.getElem_cons_succ, List.getElem_cons_zero, List.setIfInBounds_toArray, List.set_cons_zero, List.set_cons_succ]
        refine wpAnyH_ready (rs := [2, 4]) (by kernel_rfl) (by simp) ?_
        refine AllReadyH.cons rfl (fun K hK => ?_) (AllReadyH.cons rfl (fun K hK => ?_) AllReadyH.nil)
        · rw [if_pos]
          rotate_left
          · kernel_rfl
          go_wp2_with (go_at_call 40; refine (HN.out _).mono ?_; rintro e wa ⟨rfl, hba⟩; have Ba := B0.trans (hba.mono B0.size); refine Hid.out ?_)
          refine (show ∀ {p : Prop}, p → Hid p from fun h => h) ?_
          refine hK.out _ _ ⟨Ba, HKS.out _ Ba⟩ (fun hHeld => ?_)
          clear hK K
          try simp only [Act.put, List.getElem_toArray, List.getElem_cons_succ, List.getElem_cons_zero, List.setIfInBounds_toArray, List.set_cons_zero, List.set_cons_succ]
          refine wpAnyH_ready (rs := [4, 9]) (by kernel_rfl) (by simp) ?_
          refine AllReadyH.cons rfl (fun K hK => ?_) (AllReadyH.cons rfl (fun K hK => ?_) AllReadyH.nil)
          · go_simp
            have Bn1 := Ba.alloc Ba.size (.cells #[.int .u8 0] 5)
            have qn := new_here wa (.int .u8 0)
            refine hK.out _ _ ⟨Bn1, HKS.out _ Bn1⟩ (fun hHeld => ?_)
            clear hK K
            try simp only [Act.put, List.getElem_toArray, List.getElem_cons_succ, List.getElem_cons_zero, List.setIfInBounds_toArray, List.set_cons_zero, List.set_cons_succ]
            refine wpAnyH_ready (rs := [5, 9]) (by kernel_rfl) (by simp) ?_
            refine AllReadyH.cons rfl (fun K hK => ?_) (AllReadyH.cons rfl (fun K hK => ?_) AllReadyH.nil)
            · have qn1 := qn.1
              have cvn := CV _ _ qn1
              go_simp
              refine hK.out _ _ (by assumption) (fun hHeld => ?_)
              clear hK K
              try simp only [Act.put, List.getElem_toArray, List.getElem_cons_succ, List.getElem_cons_zero, List.setIfInBounds_toArray, List.set_cons_zero, List.set_cons_succ]
              refine wpAnyH_take (i := 6) (v := ?_) rfl (by kernel_rfl) (by kernel_rfl) (by kernel_rfl) (fun _ _ _ h => h) (Or.inl ⟨by kernel_rfl, ?_⟩) (by assumption) ?_
              rotate_left
              · intro w hSw; (try dsimp only at hSw); go_simp; try with_reducible rfl
              try simp only [Act.put, List.getElem_toArray, List.getElem_cons_succ, List.getElem_cons_zero, List.setIfInBounds_toArray, List.set_cons_zero, List.set_cons_succ]
              refine wpAnyH_ready (rs := [9]) (by kernel_rfl) (by simp) ?_
              refine AllReadyH.cons rfl (fun K hK => ?_) AllReadyH.nil
              rw [if_pos]
              rotate_left
              · kernel_rfl
              go_wp2_with (go_at_call 52; refine (HE.out _ (Z2.out _ Bn1)).mono ?_; rintro e wb ⟨rfl, hbb⟩; have Bb := Bn1.trans (hbb.mono Bn1.size); refine Hid.out ?_)
              refine (show ∀ {p : Prop}, p → Hid p from fun h => h) ?_
              refine hK.out _ _ ⟨Bb, HKS.out _ Bb⟩ (fun hHeld => ?_)
              clear hK K
              try simp only [Act.put, List.getElem_toArray, List.getElem_cons_succ, List.getElem_cons_zero, List.setIfInBounds_toArray, List.set_cons_zero, List.set_cons_succ]
              refine wpAnyH_take (i := 10) (v := ?_) rfl (by kernel_rfl) (by kernel_rfl) (by kernel_rfl) (fun _ _ _ h => h) (Or.inl ⟨by kernel_rfl, ?_⟩) (by assumption) ?_
              rotate_left
              · intro w hSw; (try dsimp only at hSw); go_simp; try with_reducible rfl
              try simp only [Act.put, List.getElem_toArray, List.getElem_cons_succ, List.getElem_cons_zero, List.setIfInBounds_toArray, List.set_cons_zero, List.set_cons_succ]
              refine wpAnyH_take (i := 13) (v := ?_) rfl (by kernel_rfl) (by kernel_rfl) (by kernel_rfl) (fun _ _ _ h => h) (Or.inl ⟨by kernel_rfl, ?_⟩) (by assumption) ?_
              rotate_left
              · intro w hSw; (try dsimp only at hSw); go_simp; try with_reducible rfl
              try simp only [Act.put, List.getElem_toArray, List.getElem_cons_succ, List.getElem_cons_zero, List.setIfInBounds_toArray, List.set_cons_zero, List.set_cons_succ]
              refine wpAnyH_ready (rs := [14]) (by kernel_rfl) (by simp) ?_
              refine AllReadyH.cons rfl (fun K hK => ?_) AllReadyH.nil
              go_simp
              refine hK.out _ _ (by assumption) (fun hHeld => ?_)
              clear hK K
              try simp only [Act.put, List.getElem_toArray, List.getElem_cons_succ, List.getElem_cons_zero, List.setIfInBounds_toArray, List.set_cons_zero, List.set_cons_succ]
              refine wpAnyH_ready (rs := [15]) (by kernel_rfl) (by simp) ?_
              refine AllReadyH.cons rfl (fun K hK => ?_) AllReadyH.nil
              go_simp
              refine hK.out _ _ (by assumption) (fun hHeld => ?_)
              clear hK K
              try simp only [Act.put, List.getElem_toArray, List.getElem_cons_succ, List.getElem_cons_zero, List.setIfInBounds_toArray, List.set_cons_zero, List.set_cons_succ]
              refine wpAnyH_done (by kernel_rfl) ?_ _
              go_wp2
              go_ret2
              exact ⟨by rw [← FN.out]; rfl, Z2.out _ Bb⟩
            · rw [if_pos]
              rotate_left
              · kernel_rfl
              go_wp2_with (go_at_call 52; refine (HE.out _ (Z2.out _ Bn1)).mono ?_; rintro e wb ⟨rfl, hbb⟩; have Bb := Bn1.trans (hbb.mono Bn1.size); have qn := old_then qn hbb; refine Hid.out ?_)
              refine (show ∀ {p : Prop}, p → Hid p from fun h => h) ?_
              refine hK.out _ _ ⟨Bb, HKS.out _ Bb⟩ (fun hHeld => ?_)
              clear hK K
              try simp only [Act.put, List.getElem_toArray, List.getElem_cons_succ, List.getElem_cons_zero, List.setIfInBounds_toArray, List.set_cons_zero, List.set_cons_succ]
              refine wpAnyH_ready (rs := [5]) (by kernel_rfl) (by simp) ?_
              refine AllReadyH.cons rfl (fun K hK => ?_) AllReadyH.nil
              have qn1 := qn.1
              have cvn := CV _ _ qn1
              go_simp
              refine hK.out _ _ (by assumption) (fun hHeld => ?_)
              clear hK K
              try simp only [Act.put, List.getElem_toArray, List.getElem_cons_succ, List.getElem_cons_zero, List.setIfInBounds_toArray, List.set_cons_zero, List.set_cons_succ]
              refine wpAnyH_take (i := 6) (v := ?_) rfl (by kernel_rfl) (by kernel_rfl) (by kernel_rfl) (fun _ _ _ h => h) (Or.inl ⟨by kernel_rfl, ?_⟩) (by assumption) ?_
              rotate_left
              · intro w hSw; (try dsimp only at hSw); go_simp; try with_reducible rfl
              try simp only [Act.put, List.getElem_toArray, List.getElem_cons_succ, List.getElem_cons_zero, List.setIfInBounds_toArray, List.set_cons_zero, List.set_cons_succ]
              refine wpAnyH_take (i := 10) (v := ?_) rfl (by kernel_rfl) (by kernel_rfl) (by kernel_rfl) (fun _ _ _ h => h) (Or.inl ⟨by kernel_rfl, ?_⟩) (by assumption) ?_
              rotate_left
              · intro w hSw; (try dsimp only at hSw); go_simp; try with_reducible rfl
              try simp only [Act.put, List.getElem_toArray, List.getElem_cons_succ, List.getElem_cons_zero, List.setIfInBounds_toArray, List.set_cons_zero, List.set_cons_succ]
              refine wpAnyH_take (i := 13) (v := ?_) rfl (by kernel_rfl) (by kernel_rfl) (by kernel_rfl) (fun _ _ _ h => h) (Or.inl ⟨by kernel_rfl, ?_⟩) (by assumption) ?_
              rotate_left
              · intro w hSw; (try dsimp only at hSw); go_simp; try with_reducible rfl
              try simp only [Act.put, List.getElem_toArray, List.getElem_cons_succ, List.getElem_cons_zero, List.setIfInBounds_toArray, List.set_cons_zero, List.set_cons_succ]
              refine wpAnyH_ready (rs := [14]) (by kernel_rfl) (by simp) ?_
              refine AllReadyH.cons rfl (fun K hK => ?_) AllReadyH.nil
              go_simp
              refine hK.out _ _ (by assumption) (fun hHeld => ?_)
              clear hK K
              try simp only [Act.put, List.getElem_toArray, List.getElem_cons_succ, List.getElem_cons_zero, List.setIfInBounds_toArray, List.set_cons_zero, List.set_cons_succ]
              refine wpAnyH_ready (rs := [15]) (by kernel_rfl) (by simp) ?_
              refine AllReadyH.cons rfl (fun K hK => ?_) AllReadyH.nil
              go_simp
              refine hK.out _ _ (by assumption) (fun hHeld => ?_)
              clear hK K
              try simp only [Act.put, List.getElem_toArray, List.getElem_cons_succ, List.getElem_cons_zero, List.setIfInBounds_toArray, List.set_cons_zero, List.set_cons_succ]
              refine wpAnyH_done (by kernel_rfl) ?_ _
              go_wp2
              go_ret2
              exact ⟨by rw [← FN.out]; rfl, Z2.out _ Bb⟩
          · rw [if_pos]
            rotate_left
            · kernel_rfl
            go_wp2_with (go_at_call 52; refine (HE.out _ (Z2.out _ Ba)).mono ?_; rintro e wb ⟨rfl, hbb⟩; have Bb := Ba.trans (hbb.mono Ba.size); refine Hid.out ?_)
            refine (show ∀ {p : Prop}, p → Hid p from fun h => h) ?_
            refine hK.out _ _ ⟨Bb, HKS.out _ Bb⟩ (fun hHeld => ?_)
            clear hK K
            try simp only [Act.put, List.getElem_toArray, List.getElem_cons_succ, List.getElem_cons_zero, List.setIfInBounds_toArray, List.set_cons_zero, List.set_cons_succ]
            refine wpAnyH_ready (rs := [4]) (by kernel_rfl) (by simp) ?_
            refine AllReadyH.cons rfl (fun K hK => ?_) AllReadyH.nil
            go_simp
            have Bn2 := Bb.alloc Bb.size (.cells #[.int .u8 0] 5)
            have qn := new_here wb (.int .u8 0)
            refine hK.out _ _ ⟨Bn2, HKS.out _ Bn2⟩ (fun hHeld => ?_)
            clear hK K
            try simp only [Act.put, List.getElem_toArray, List.getElem_cons_succ, List.getElem_cons_zero, List.setIfInBounds_toArray, List.set_cons_zero, List.set_cons_succ]
            refine wpAnyH_ready (rs := [5]) (by kernel_rfl) (by simp) ?_
            refine AllReadyH.cons rfl (fun K hK => ?_) AllReadyH.nil
            have qn1 := qn.1
            have cvn := CV _ _ qn1
            go_simp
            refine hK.out _ _ (by assumption) (fun hHeld => ?_)
            clear hK K
            try simp only [Act.put, List.getElem_toArray, List.getElem_cons_succ, List.getElem_cons_zero, List.setIfInBounds_toArray, List.set_cons_zero, List.set_cons_succ]
            refine wpAnyH_take (i := 6) (v := ?_) rfl (by kernel_rfl) (by kernel_rfl) (by kernel_rfl) (fun _ _ _ h => h) (Or.inl ⟨by kernel_rfl, ?_⟩) (by assumption) ?_
            rotate_left
            · intro w hSw; (try dsimp only at hSw); go_simp; try with_reducible rfl
            try simp only [Act.put, List.getElem_toArray, List.getElem_cons_succ, List.getElem_cons_zero, List.setIfInBounds_toArray, List.set_cons_zero, List.set_cons_succ]
            refine wpAnyH_take (i := 10) (v := ?_) rfl (by kernel_rfl) (by kernel_rfl) (by kernel_rfl) (fun _ _ _ h => h) (Or.inl ⟨by kernel_rfl, ?_⟩) (by assumption) ?_
            rotate_left
            · intro w hSw; (try dsimp only at hSw); go_simp; try with_reducible rfl
            try simp only [Act.put, List.getElem_toArray, List.getElem_cons_succ, List.getElem_cons_zero, List.setIfInBounds_toArray, List.set_cons_zero, List.set_cons_succ]
            refine wpAnyH_take (i := 13) (v := ?_) rfl (by kernel_rfl) (by kernel_rfl) (by kernel_rfl) (fun _ _ _ h => h) (Or.inl ⟨by kernel_rfl, ?_⟩) (by assumption) ?_
            rotate_left
            · intro w hSw; (try dsimp only at hSw); go_simp; try with_reducible rfl
            try simp only [Act.put, List.getElem_toArray, List.getElem_cons_succ, List.getElem_cons_zero, List.setIfInBounds_toArray, List.set_cons_zero, List.set_cons_succ]
            refine wpAnyH_ready (rs := [14]) (by kernel_rfl) (by simp) ?_
            refine AllReadyH.cons rfl (fun K hK => ?_) AllReadyH.nil
            go_simp
            refine hK.out _ _ (by assumption) (fun hHeld => ?_)
            clear hK K
            try simp only [Act.put, List.getElem_toArray, List.getElem_cons_succ, List.getElem_cons_zero, List.setIfInBounds_toArray, List.set_cons_zero, List.set_cons_succ]
            refine wpAnyH_ready (rs := [15]) (by kernel_rfl) (by simp) ?_
            refine AllReadyH.cons rfl (fun K hK => ?_) AllReadyH.nil
            go_simp
            refine hK.out _ _ (by assumption) (fun hHeld => ?_)
            clear hK K
            try simp only [Act.put, List.getElem_toArray, List.getElem_cons_succ, List.getElem_cons_zero, List.setIfInBounds_toArray, List.set_cons_zero, List.set_cons_succ]
            refine wpAnyH_done (by kernel_rfl) ?_ _
            go_wp2
            go_ret2
            exact ⟨by rw [← FN.out]; rfl, Z2.out _ Bn2⟩
        · go_simp
          have Bn0 := B0.alloc B0.size (.cells #[.int .u8 0] 5)
          have qn : (wr.drew.alloc (.cells #[.int .u8 0] 5)).cell? ⟨wr.heap.size, 0, none⟩ = some (.int .u8 0) ∧ wr.heap.size < (wr.drew.alloc (.cells #[.int .u8 0] 5)).heap.size := new_here wr.drew (.int .u8 0)
          refine hK.out _ _ ⟨Bn0, HKS.out _ Bn0⟩ (fun hHeld => ?_)
          clear hK K
          try simp only [Act.put, List.getElem_toArray, List.getElem_cons_succ, List.getElem_cons_zero, List.setIfInBounds_toArray, List.set_cons_zero, List.set_cons_succ]
          refine wpAnyH_ready (rs := [2, 5]) (by kernel_rfl) (by simp) ?_
          refine AllReadyH.cons rfl (fun K hK => ?_) (AllReadyH.cons rfl (fun K hK => ?_) AllReadyH.nil)
          · rw [if_pos]
            rotate_left
            · kernel_rfl
            go_wp2_with (go_at_call 40; refine (HN.out _).mono ?_; rintro e wa ⟨rfl, hba⟩; have Ba := Bn0.trans (hba.mono Bn0.size); have qn := old_then qn hba; refine Hid.out ?_)
            refine (show ∀ {p : Prop}, p → Hid p from fun h => h) ?_
            refine hK.out _ _ ⟨Ba, HKS.out _ Ba⟩ (fun hHeld => ?_)
            clear hK K
            try simp only [Act.put, List.getElem_toArray, List.getElem_cons_succ, List.getElem_cons_zero, List.setIfInBounds_toArray, List.set_cons_zero, List.set_cons_succ]
            refine wpAnyH_ready (rs := [5, 9]) (by kernel_rfl) (by simp) ?_
            refine AllReadyH.cons rfl (fun K hK => ?_) (AllReadyH.cons rfl (fun K hK => ?_) AllReadyH.nil)
            · have qn1 := qn.1
              have cvn := CV _ _ qn1
              go_simp
              refine hK.out _ _ (by assumption) (fun hHeld => ?_)
              clear hK K
              try simp only [Act.put, List.getElem_toArray, List.getElem_cons_succ, List.getElem_cons_zero, List.setIfInBounds_toArray, List.set_cons_zero, List.set_cons_succ]
              refine wpAnyH_take (i := 6) (v := ?_) rfl (by kernel_rfl) (by kernel_rfl) (by kernel_rfl) (fun _ _ _ h => h) (Or.inl ⟨by kernel_rfl, ?_⟩) (by assumption) ?_
              rotate_left
              · intro w hSw; (try dsimp only at hSw); go_simp; try with_reducible rfl
              try simp only [Act.put, List.getElem_toArray, List.getElem_cons_succ, List.getElem_cons_zero, List.setIfInBounds_toArray, List.set_cons_zero, List.set_cons_succ]
              refine wpAnyH_ready (rs := [9]) (by kernel_rfl) (by simp) ?_
              refine AllReadyH.cons rfl (fun K hK => ?_) AllReadyH.nil
              rw [if_pos]
              rotate_left
              · kernel_rfl
              go_wp2_with (go_at_call 52; refine (HE.out _ (Z2.out _ Ba)).mono ?_; rintro e wb ⟨rfl, hbb⟩; have Bb := Ba.trans (hbb.mono Ba.size); refine Hid.out ?_)
              refine (show ∀ {p : Prop}, p → Hid p from fun h => h) ?_
              refine hK.out _ _ ⟨Bb, HKS.out _ Bb⟩ (fun hHeld => ?_)
              clear hK K
              try simp only [Act.put, List.getElem_toArray, List.getElem_cons_succ, List.getElem_cons_zero, List.setIfInBounds_toArray, List.set_cons_zero, List.set_cons_succ]
              refine wpAnyH_take (i := 10) (v := ?_) rfl (by kernel_rfl) (by kernel_rfl) (by kernel_rfl) (fun _ _ _ h => h) (Or.inl ⟨by kernel_rfl, ?_⟩) (by assumption) ?_
              rotate_left
              · intro w hSw; (try dsimp only at hSw); go_simp; try with_reducible rfl
              try simp only [Act.put, List.getElem_toArray, List.getElem_cons_succ, List.getElem_cons_zero, List.setIfInBounds_toArray, List.set_cons_zero, List.set_cons_succ]
              refine wpAnyH_take (i := 13) (v := ?_) rfl (by kernel_rfl) (by kernel_rfl) (by kernel_rfl) (fun _ _ _ h => h) (Or.inl ⟨by kernel_rfl, ?_⟩) (by assumption) ?_
              rotate_left
              · intro w hSw; (try dsimp only at hSw); go_simp; try with_reducible rfl
              try simp only [Act.put, List.getElem_toArray, List.getElem_cons_succ, List.getElem_cons_zero, List.setIfInBounds_toArray, List.set_cons_zero, List.set_cons_succ]
              refine wpAnyH_ready (rs := [14]) (by kernel_rfl) (by simp) ?_
              refine AllReadyH.cons rfl (fun K hK => ?_) AllReadyH.nil
              go_simp
              refine hK.out _ _ (by assumption) (fun hHeld => ?_)
              clear hK K
              try simp only [Act.put, List.getElem_toArray, List.getElem_cons_succ, List.getElem_cons_zero, List.setIfInBounds_toArray, List.set_cons_zero, List.set_cons_succ]
              refine wpAnyH_ready (rs := [15]) (by kernel_rfl) (by simp) ?_
              refine AllReadyH.cons rfl (fun K hK => ?_) AllReadyH.nil
              go_simp
              refine hK.out _ _ (by assumption) (fun hHeld => ?_)
              clear hK K
              try simp only [Act.put, List.getElem_toArray, List.getElem_cons_succ, List.getElem_cons_zero, List.setIfInBounds_toArray, List.set_cons_zero, List.set_cons_succ]
              refine wpAnyH_done (by kernel_rfl) ?_ _
              go_wp2
              go_ret2
              exact ⟨by rw [← FN.out]; rfl, Z2.out _ Bb⟩
            · rw [if_pos]
              rotate_left
              · kernel_rfl
              go_wp2_with (go_at_call 52; refine (HE.out _ (Z2.out _ Ba)).mono ?_; rintro e wb ⟨rfl, hbb⟩; have Bb := Ba.trans (hbb.mono Ba.size); have qn := old_then qn hbb; refine Hid.out ?_)
              refine (show ∀ {p : Prop}, p → Hid p from fun h => h) ?_
              refine hK.out _ _ ⟨Bb, HKS.out _ Bb⟩ (fun hHeld => ?_)
              clear hK K
              try simp only [Act.put, List.getElem_toArray, List.getElem_cons_succ, List.getElem_cons_zero, List.setIfInBounds_toArray, List.set_cons_zero, List.set_cons_succ]
              refine wpAnyH_ready (rs := [5]) (by kernel_rfl) (by simp) ?_
              refine AllReadyH.cons rfl (fun K hK => ?_) AllReadyH.nil
              have qn1 := qn.1
              have cvn := CV _ _ qn1
              go_simp
              refine hK.out _ _ (by assumption) (fun hHeld => ?_)
              clear hK K
              try simp only [Act.put, List.getElem_toArray, List.getElem_cons_succ, List.getElem_cons_zero, List.setIfInBounds_toArray, List.set_cons_zero, List.set_cons_succ]
              refine wpAnyH_take (i := 6) (v := ?_) rfl (by kernel_rfl) (by kernel_rfl) (by kernel_rfl) (fun _ _ _ h => h) (Or.inl ⟨by kernel_rfl, ?_⟩) (by assumption) ?_
              rotate_left
              · intro w hSw; (try dsimp only at hSw); go_simp; try with_reducible rfl
              try simp only [Act.put, List.getElem_toArray, List.getElem_cons_succ, List.getElem_cons_zero, List.setIfInBounds_toArray, List.set_cons_zero, List.set_cons_succ]
              refine wpAnyH_take (i := 10) (v := ?_) rfl (by kernel_rfl) (by kernel_rfl) (by kernel_rfl) (fun _ _ _ h => h) (Or.inl ⟨by kernel_rfl, ?_⟩) (by assumption) ?_
              rotate_left
              · intro w hSw; (try dsimp only at hSw); go_simp; try with_reducible rfl
              try simp only [Act.put, List.getElem_toArray, List.getElem_cons_succ, List.getElem_cons_zero, List.setIfInBounds_toArray, List.set_cons_zero, List.set_cons_succ]
              refine wpAnyH_take (i := 13) (v := ?_) rfl (by kernel_rfl) (by kernel_rfl) (by kernel_rfl) (fun _ _ _ h => h) (Or.inl ⟨by kernel_rfl, ?_⟩) (by assumption) ?_
              rotate_left
              · intro w hSw; (try dsimp only at hSw); go_simp; try with_reducible rfl
              try simp only [Act.put, List.getElem_toArray, List.getElem_cons_succ, List.getElem_cons_zero, List.setIfInBounds_toArray, List.set_cons_zero, List.set_cons_succ]
              refine wpAnyH_ready (rs := [14]) (by kernel_rfl) (by simp) ?_
              refine AllReadyH.cons rfl (fun K hK => ?_) AllReadyH.nil
              go_simp
              refine hK.out _ _ (by assumption) (fun hHeld => ?_)
              clear hK K
              try simp only [Act.put, List.getElem_toArray, List.getElem_cons_succ, List.getElem_cons_zero, List.setIfInBounds_toArray, List.set_cons_zero, List.set_cons_succ]
              refine wpAnyH_ready (rs := [15]) (by kernel_rfl) (by simp) ?_
              refine AllReadyH.cons rfl (fun K hK => ?_) AllReadyH.nil
              go_simp
              refine hK.out _ _ (by assumption) (fun hHeld => ?_)
              clear hK K
              try simp only [Act.put, List.getElem_toArray, List.getElem_cons_succ, List.getElem_cons_zero, List.setIfInBounds_toArray, List.set_cons_zero, List.set_cons_succ]
              refine wpAnyH_done (by kernel_rfl) ?_ _
              go_wp2
              go_ret2
              exact ⟨by rw [← FN.out]; rfl, Z2.out _ Bb⟩
          · have qn1 := qn.1
            have cvn := CV _ _ qn1
            go_simp
            refine hK.out _ _ (by assumption) (fun hHeld => ?_)
            clear hK K
            try simp only [Act.put, List.getElem_toArray, List.getElem_cons_succ, List.getElem_cons_zero, List.setIfInBounds_toArray, List.set_cons_zero, List.set_cons_succ]
            refine wpAnyH_ready (rs := [2]) (by kernel_rfl) (by simp) ?_
            refine AllReadyH.cons rfl (fun K hK => ?_) AllReadyH.nil
            rw [if_pos]
            rotate_left
            · kernel_rfl
            go_wp2_with (go_at_call 40; refine (HN.out _).mono ?_; rintro e wa ⟨rfl, hba⟩; have Ba := Bn0.trans (hba.mono Bn0.size); refine Hid.out ?_)
            refine (show ∀ {p : Prop}, p → Hid p from fun h => h) ?_
            refine hK.out _ _ ⟨Ba, HKS.out _ Ba⟩ (fun hHeld => ?_)
            clear hK K
            try simp only [Act.put, List.getElem_toArray, List.getElem_cons_succ, List.getElem_cons_zero, List.setIfInBounds_toArray, List.set_cons_zero, List.set_cons_succ]
            refine wpAnyH_take (i := 6) (v := ?_) rfl (by kernel_rfl) (by kernel_rfl) (by kernel_rfl) (fun _ _ _ h => h) (Or.inl ⟨by kernel_rfl, ?_⟩) (by assumption) ?_
            rotate_left
            · intro w hSw; (try dsimp only at hSw); go_simp; try with_reducible rfl
            try simp only [Act.put, List.getElem_toArray, List.getElem_cons_succ, List.getElem_cons_zero, List.setIfInBounds_toArray, List.set_cons_zero, List.set_cons_succ]
            refine wpAnyH_ready (rs := [9]) (by kernel_rfl) (by simp) ?_
            refine AllReadyH.cons rfl (fun K hK => ?_) AllReadyH.nil
            rw [if_pos]
            rotate_left
            · kernel_rfl
            go_wp2_with (go_at_call 52; refine (HE.out _ (Z2.out _ Ba)).mono ?_; rintro e wb ⟨rfl, hbb⟩; have Bb := Ba.trans (hbb.mono Ba.size); refine Hid.out ?_)
            refine (show ∀ {p : Prop}, p → Hid p from fun h => h) ?_
            refine hK.out _ _ ⟨Bb, HKS.out _ Bb⟩ (fun hHeld => ?_)
            clear hK K
            try simp only [Act.put, List.getElem_toArray, List.getElem_cons_succ, List.getElem_cons_zero, List.setIfInBounds_toArray, List.set_cons_zero, List.set_cons_succ]
            refine wpAnyH_take (i := 10) (v := ?_) rfl (by kernel_rfl) (by kernel_rfl) (by kernel_rfl) (fun _ _ _ h => h) (Or.inl ⟨by kernel_rfl, ?_⟩) (by assumption) ?_
            rotate_left
            · intro w hSw; (try dsimp only at hSw); go_simp; try with_reducible rfl
            try simp only [Act.put, List.getElem_toArray, List.getElem_cons_succ, List.getElem_cons_zero, List.setIfInBounds_toArray, List.set_cons_zero, List.set_cons_succ]
            refine wpAnyH_take (i := 13) (v := ?_) rfl (by kernel_rfl) (by kernel_rfl) (by kernel_rfl) (fun _ _ _ h => h) (Or.inl ⟨by kernel_rfl, ?_⟩) (by assumption) ?_
            rotate_left
            · intro w hSw; (try dsimp only at hSw); go_simp; try with_reducible rfl
            try simp only [Act.put, List.getElem_toArray, List.getElem_cons_succ, List.getElem_cons_zero, List.setIfInBounds_toArray, List.set_cons_zero, List.set_cons_succ]
            refine wpAnyH_ready (rs := [14]) (by kernel_rfl) (by simp) ?_
            refine AllReadyH.cons rfl (fun K hK => ?_) AllReadyH.nil
            go_simp
            refine hK.out _ _ (by assumption) (fun hHeld => ?_)
            clear hK K
            try simp only [Act.put, List.getElem_toArray, List.getElem_cons_succ, List.getElem_cons_zero, List.setIfInBounds_toArray, List.set_cons_zero, List.set_cons_succ]
            refine wpAnyH_ready (rs := [15]) (by kernel_rfl) (by simp) ?_
            refine AllReadyH.cons rfl (fun K hK => ?_) AllReadyH.nil
            go_simp
            refine hK.out _ _ (by assumption) (fun hHeld => ?_)
            clear hK K
            try simp only [Act.put, List.getElem_toArray, List.getElem_cons_succ, List.getElem_cons_zero, List.setIfInBounds_toArray, List.set_cons_zero, List.set_cons_succ]
            refine wpAnyH_done (by kernel_rfl) ?_ _
            go_wp2
            go_ret2
            exact ⟨by rw [← FN.out]; rfl, Z2.out _ Bb⟩
  | true =>
    obtain rfl : sd = 1 := hsd.out.symm
    go_enter Try.func18, Try.ntmps18
    go_wp2_with (go_at_call 21; refine HO.out.mono ?_; rintro e w1 ⟨rfl, hb1, q0, q1, q2, q3, z1⟩; refine Hid.out ?_)
    refine (show ∀ {p : Prop}, p → Hid p from fun h => h) ?_
    have KC : Hid (∀ W, Below w1.heap.size w1 W → (W.cell? ⟨w.heap.size, 0, none⟩ = some (.int .i64 num) ∧ W.cell? ⟨w.heap.size, 1, none⟩ = some (.bool true) ∧ W.cell? ⟨w.heap.size, 2, none⟩ = some (.slice a k c) ∧ W.cell? ⟨w.heap.size, 3, none⟩ = some (.slice a' k' c'))) := fun W hW =>
      ⟨by rw [hW.cell z1]; exact q0, by rw [hW.cell z1]; exact q1, by rw [hW.cell z1]; exact q2, by rw [hW.cell z1]; exact q3⟩
    have Z1 : Hid (∀ W, Below w1.heap.size w1 W → Below w.heap.size w W) := fun W hW => hb1.trans (hW.mono hb1.size)
    clear HO
    go_wp2
    go_loopw [7, 20] (fun v i wr => ∃ (j : Nat), j ≤ k' ∧ i = .int .i64 (j : Int) ∧ Hid (¬ v = .slice none 0 0) ∧ Hid (wr.ownsRow w1.heap.size 5 1 v j (bv ((ls.take j).map ob))) ∧ Below w1.heap.size w1 wr) (fun _ i _ => k' - (intOf i).toNat)
    case atStart =>
      exact ⟨0, by omega, rfl, by show ¬ _; simp, World.ownsRow_made (base := w1.heap.size) w1 #[] 0 (Nat.le_refl _) (by unfold maxLen; omega) rfl, (Below.refl _ _).alloc (Nat.le_refl _) _⟩
    case round =>
      obtain ⟨j, hj, rfl, hv, hO, hb⟩ := hrel
      by_cases hlt : j < k'
      · have h9 := H'.out
        rcases h9.2 with hz | ⟨b, off, rfl, hbl, hc⟩
        · omega
        · obtain ⟨x, hx⟩ : ∃ x, ls[j]? = some x := ⟨ls[j]'(by have := h9.1; omega), List.getElem?_eq_getElem (by have := h9.1; omega)⟩
          have c0 : wr.cell? ⟨b, off + j, none⟩ = some (.int .i64 x) := by rw [(Z1.out _ hb).cell hbl]; exact hc j x hx
          obtain ⟨x1, x2⟩ := HP5.out x (List.mem_of_getElem? hx)
          obtain ⟨k0, k1, k2, k3⟩ := KC.out _ hb
          have b1 : (0 : Int) ≤ (j : Int) := by omega
          have b2 : (j : Int) < (k' : Int) := by omega
          have HTk := hideIt (take_snocF ls j x hx)
          have hsz := hb.size
          clear hc hx h9
          go_wp2_with (at_builtin; refine wpList_append_own _ rfl _ _ 22 rfl w1.heap.size 5 i0 (.int .u8 0) 1 1 Try.underlying22 hi hz0 hz1 hz2 rfl (by decide) _ _ _ rfl (hO.out.alloc _) ⟨wr.heap.size, 0, none⟩ 1 1 [Value.int .u8 x] rfl rfl (one_new _ _ _) (by intro u hu; simp at hu; subst hu; rfl) (by unfold maxLen; omega) (by omega) (by simp; omega) ?_)
          intro v1 w2 hown1 hg1 hn1
          have hb1' := below_app hb (Nat.le_refl _) hO.out hg1
          have HO1 : Hid (w2.ownsRow w1.heap.size 5 1 v1 (j + 1) (bv ((ls.take (j + 1)).map ob))) := by
            show World.ownsRow _ _ _ _ _ _ _
            rw [HTk.out, List.map_append, List.map_cons, List.map_nil, ← bv_snoc _ _ x (ob_back ⟨x1, x2⟩), List.map_take]
            exact hown1
          have HN1 : Hid (¬ v1 = .slice none 0 0) := hn1
          clear hown1 hg1 hO hn1
          go_wp2
          go_roundw
          case rel => exact ⟨j + 1, by omega, by go_num, HN1, HO1, hb1'⟩
          case measure => simp [intOf]; omega
      · have hO1 := hO.out
        rw [List.take_of_length_le (by have := H'.out.1; omega)] at hO1
        obtain ⟨g, cap, rfl, _⟩ := conv_own hO1 hv.out
        have hjl : (ls.map ob).length = j := by have := hO1.1; rw [bv_len] at this; omega
        rw [hjl] at hO1
        generalize hv1 : Value.slice (some ⟨g, 0, none⟩) (ls.map ob).length cap = v1 at *
        have HKS : Hid (∀ u, Below wr.heap.size wr u → ((u.cell? ⟨w.heap.size, 0, none⟩ = some (.int .i64 num) ∧ u.cell? ⟨w.heap.size, 1, none⟩ = some (.bool true) ∧ u.cell? ⟨w.heap.size, 2, none⟩ = some (.slice a k c) ∧ u.cell? ⟨w.heap.size, 3, none⟩ = some (.slice a' k' c')) ∧ (convert 22 9 v1).run Try.prog u = .ok (.string sL) u)) := fun u hu =>
          ⟨KC.out _ (hb.trans (hu.mono hb.size)), by
            rw [← hv1, ← HSL.out]
            have h8 := World.ownsRow.kept hO1 (grown_of_below hu none) (.inr (by simp [Value.ownBlock]))
            rw [hjl]
            exact conv_at h8⟩
        have Z2 : Hid (∀ W, Below wr.heap.size wr W → Below w.heap.size w W) := fun W hW => Z1.out _ (hb.trans (hW.mono hb.size))
        have B0 : Below wr.heap.size wr wr.drew := (Below.refl _ _).drew
        clear hO hO1 hv hv1 hjl
        go_wp2
        refine wp_region_held_drew (S := (fun u => Below wr.heap.size wr u ∧ ((u.cell? ⟨w.heap.size, 0, none⟩ = some (.int .i64 num) ∧ u.cell? ⟨w.heap.size, 1, none⟩ = some (.bool true) ∧ u.cell? ⟨w.heap.size, 2, none⟩ = some (.slice a k c) ∧ u.cell? ⟨w.heap.size, 3, none⟩ = some (.slice a' k' c')) ∧ (convert 22 9 v1).run Try.prog u = .ok (.string sL) u))) (by kernel_rfl) ⟨B0, HKS.out _ B0⟩ (fun hHeld => ?_)
        refine wpAnyH_take (i := 0) (v := ?_) rfl (by kernel_rfl) (by kernel_rfl) (by kernel_rfl) (fun _ _ _ h => h) (Or.inl ⟨by kernel_rfl, ?_⟩) (by assumption) ?_
        rotate_left
        · intro w hSw; (try dsimp only at hSw); go_simp; try with_reducible rfl
        try simp only [Act.put, List.getElem_toArray, List.getElem_cons_zero, List.setIfInBounds_toArray, List.set_cons_zero, List.set_cons_succ]
        refine wpAnyH_take (i := 1) (v := ?_) rfl (by kernel_rfl) (by kernel_rfl) (by kernel_rfl) (fun _ _ _ h => h) (Or.inl ⟨by kernel_rfl, ?_⟩) (by assumption) ?_
        rotate_left
        · intro w hSw; (try dsimp only at hSw); go_simp; try with_reducible rfl
        try simp only [Act.put, List.getElem_toArray, List.getElem_cons_succ, List.getElem_cons_zero, List.setIfInBounds_toArray, List.set_cons_zero, List.set_cons_succ]
        refine wpAnyH_take (i := 3) (v := ?_) rfl (by kernel_rfl) (by kernel_rfl) (by kernel_rfl) (fun _ _ _ h => h) (Or.inl ⟨by kernel_rfl, ?_⟩) (by assumption) ?_
        rotate_left
        · intro w hSw; (try dsimp only at hSw); go_simp; try with_reducible rfl
        try simp only [Act.put, List.getElem_toArray, List.getElem_cons_succ, List.getElem_cons_zero, List.setIfInBounds_toArray, List.set_cons_zero, List.set_cons_succ]
        refine wpAnyH_take (i := 7) (v := ?_) rfl (by kernel_rfl) (by kernel_rfl) (by kernel_rfl) (fun _ _ _ h => h) (Or.inl ⟨by kernel_rfl, ?_⟩) (by assumption) ?_
        rotate_left
        · intro w hSw; (try dsimp only at hSw); go_simp; try with_reducible rfl
        try simp only [Act.put, List.getElem_toArray, List.getElem_cons_succ, List.getElem_cons_zero, List.setIfInBounds_toArray, List.set_cons_zero, List.set_cons_succ]
        refine wpAnyH_take (i := 8) (v := ?_) rfl (by kernel_rfl) (by kernel_rfl) (by kernel_rfl) (fun _ _ _ h => h) (Or.inl ⟨by kernel_rfl, ?_⟩) (by assumption) ?_
        rotate_left
        · intro w hSw; (try dsimp only at hSw); go_simp; try with_reducible rfl
        try simp only [Act.put, List.getElem_toArray, List.getElem_cons_succ, List.getElem_cons_zero, List.setIfInBounds_toArray, List.set_cons_zero, List.set_cons_succ]
        refine wpAnyH_take (i := 11) (v := ?_) rfl (by kernel_rfl) (by kernel_rfl) (by kernel_rfl) (fun _ _ _ h => h) (Or.inl ⟨by kernel_rfl, ?_⟩) (by assumption) ?_
        rotate_left
        · intro w hSw; (try dsimp only at hSw); go_simp; try with_reducible rfl
        try simp only [Act.put, List.getElem_toArray, List.getElem_cons_succ, List.getElem_cons_zero, List.setIfInBounds_toArray, List.set_cons_zero, List.set_cons_succ]
        refine wpAnyH_take (i := 12) (v := ?_) rfl (by kernel_rfl) (by kernel_rfl) (by kernel_rfl) (fun _ _ _ h => h) (Or.inl ⟨by kernel_rfl, ?_⟩) (by assumption) ?_
        rotate_left
        · intro w hSw; (try dsimp only at hSw); go_simp; try with_reducible rfl
        try simp only [Act.put, List.getElem_toArray, List.getElem_cons_succ, List.getElem_cons_zero, List.setIfInBounds_toArray, List.set_cons_zero, List.set_cons_succ]
        refine wpAnyH_ready (rs := [2, 4]) (by kernel_rfl) (by simp) ?_
        refine AllReadyH.cons rfl (fun K hK => ?_) (AllReadyH.cons rfl (fun K hK => ?_) AllReadyH.nil)
        · rw [if_pos]
          rotate_left
          · kernel_rfl
          go_wp2_with (go_at_call 40; refine (HN.out _).mono ?_; rintro e wa ⟨rfl, hba⟩; have Ba := B0.trans (hba.mono B0.size); refine Hid.out ?_)
          refine (show ∀ {p : Prop}, p → Hid p from fun h => h) ?_
          refine hK.out _ _ ⟨Ba, HKS.out _ Ba⟩ (fun hHeld => ?_)
          clear hK K
          try simp only [Act.put, List.getElem_toArray, List.getElem_cons_succ, List.getElem_cons_zero, List.setIfInBounds_toArray, List.set_cons_zero, List.set_cons_succ]
          refine wpAnyH_ready (rs := [4, 9]) (by kernel_rfl) (by simp) ?_
          refine AllReadyH.cons rfl (fun K hK => ?_) (AllReadyH.cons rfl (fun K hK => ?_) AllReadyH.nil)
          · go_simp
            have Bn1 := Ba.alloc Ba.size (.cells #[.int .u8 1] 5)
            have qn := new_here wa (.int .u8 1)
            refine hK.out _ _ ⟨Bn1, HKS.out _ Bn1⟩ (fun hHeld => ?_)
            clear hK K
            try simp only [Act.put, List.getElem_toArray, List.getElem_cons_succ, List.getElem_cons_zero, List.setIfInBounds_toArray, List.set_cons_zero, List.set_cons_succ]
            refine wpAnyH_ready (rs := [5, 9]) (by kernel_rfl) (by simp) ?_
            refine AllReadyH.cons rfl (fun K hK => ?_) (AllReadyH.cons rfl (fun K hK => ?_) AllReadyH.nil)
            · have qn1 := qn.1
              have cvn := CV _ _ qn1
              go_simp
              refine hK.out _ _ (by assumption) (fun hHeld => ?_)
              clear hK K
              try simp only [Act.put, List.getElem_toArray, List.getElem_cons_succ, List.getElem_cons_zero, List.setIfInBounds_toArray, List.set_cons_zero, List.set_cons_succ]
              refine wpAnyH_take (i := 6) (v := ?_) rfl (by kernel_rfl) (by kernel_rfl) (by kernel_rfl) (fun _ _ _ h => h) (Or.inl ⟨by kernel_rfl, ?_⟩) (by assumption) ?_
              rotate_left
              · intro w hSw; (try dsimp only at hSw); go_simp; try with_reducible rfl
              try simp only [Act.put, List.getElem_toArray, List.getElem_cons_succ, List.getElem_cons_zero, List.setIfInBounds_toArray, List.set_cons_zero, List.set_cons_succ]
              refine wpAnyH_ready (rs := [9]) (by kernel_rfl) (by simp) ?_
              refine AllReadyH.cons rfl (fun K hK => ?_) AllReadyH.nil
              rw [if_pos]
              rotate_left
              · kernel_rfl
              go_wp2_with (go_at_call 52; refine (HE.out _ (Z2.out _ Bn1)).mono ?_; rintro e wb ⟨rfl, hbb⟩; have Bb := Bn1.trans (hbb.mono Bn1.size); refine Hid.out ?_)
              refine (show ∀ {p : Prop}, p → Hid p from fun h => h) ?_
              refine hK.out _ _ ⟨Bb, HKS.out _ Bb⟩ (fun hHeld => ?_)
              clear hK K
              try simp only [Act.put, List.getElem_toArray, List.getElem_cons_succ, List.getElem_cons_zero, List.setIfInBounds_toArray, List.set_cons_zero, List.set_cons_succ]
              refine wpAnyH_take (i := 10) (v := ?_) rfl (by kernel_rfl) (by kernel_rfl) (by kernel_rfl) (fun _ _ _ h => h) (Or.inl ⟨by kernel_rfl, ?_⟩) (by assumption) ?_
              rotate_left
              · intro w hSw; (try dsimp only at hSw); go_simp; try with_reducible rfl
              try simp only [Act.put, List.getElem_toArray, List.getElem_cons_succ, List.getElem_cons_zero, List.setIfInBounds_toArray, List.set_cons_zero, List.set_cons_succ]
              refine wpAnyH_take (i := 13) (v := ?_) rfl (by kernel_rfl) (by kernel_rfl) (by kernel_rfl) (fun _ _ _ h => h) (Or.inl ⟨by kernel_rfl, ?_⟩) (by assumption) ?_
              rotate_left
              · intro w hSw; (try dsimp only at hSw); go_simp; try with_reducible rfl
              try simp only [Act.put, List.getElem_toArray, List.getElem_cons_succ, List.getElem_cons_zero, List.setIfInBounds_toArray, List.set_cons_zero, List.set_cons_succ]
              refine wpAnyH_ready (rs := [14]) (by kernel_rfl) (by simp) ?_
              refine AllReadyH.cons rfl (fun K hK => ?_) AllReadyH.nil
              go_simp
              refine hK.out _ _ (by assumption) (fun hHeld => ?_)
              clear hK K
              try simp only [Act.put, List.getElem_toArray, List.getElem_cons_succ, List.getElem_cons_zero, List.setIfInBounds_toArray, List.set_cons_zero, List.set_cons_succ]
              refine wpAnyH_ready (rs := [15]) (by kernel_rfl) (by simp) ?_
              refine AllReadyH.cons rfl (fun K hK => ?_) AllReadyH.nil
              go_simp
              refine hK.out _ _ (by assumption) (fun hHeld => ?_)
              clear hK K
              try simp only [Act.put, List.getElem_toArray, List.getElem_cons_succ, List.getElem_cons_zero, List.setIfInBounds_toArray, List.set_cons_zero, List.set_cons_succ]
              refine wpAnyH_done (by kernel_rfl) ?_ _
              go_wp2
              go_ret2
              exact ⟨by rw [← FN.out]; rfl, Z2.out _ Bb⟩
            · rw [if_pos]
              rotate_left
              · kernel_rfl
              go_wp2_with (go_at_call 52; refine (HE.out _ (Z2.out _ Bn1)).mono ?_; rintro e wb ⟨rfl, hbb⟩; have Bb := Bn1.trans (hbb.mono Bn1.size); have qn := old_then qn hbb; refine Hid.out ?_)
              refine (show ∀ {p : Prop}, p → Hid p from fun h => h) ?_
              refine hK.out _ _ ⟨Bb, HKS.out _ Bb⟩ (fun hHeld => ?_)
              clear hK K
              try simp only [Act.put, List.getElem_toArray, List.getElem_cons_succ, List.getElem_cons_zero, List.setIfInBounds_toArray, List.set_cons_zero, List.set_cons_succ]
              refine wpAnyH_ready (rs := [5]) (by kernel_rfl) (by simp) ?_
              refine AllReadyH.cons rfl (fun K hK => ?_) AllReadyH.nil
              have qn1 := qn.1
              have cvn := CV _ _ qn1
              go_simp
              refine hK.out _ _ (by assumption) (fun hHeld => ?_)
              clear hK K
              try simp only [Act.put, List.getElem_toArray, List.getElem_cons_succ, List.getElem_cons_zero, List.setIfInBounds_toArray, List.set_cons_zero, List.set_cons_succ]
              refine wpAnyH_take (i := 6) (v := ?_) rfl (by kernel_rfl) (by kernel_rfl) (by kernel_rfl) (fun _ _ _ h => h) (Or.inl ⟨by kernel_rfl, ?_⟩) (by assumption) ?_
              rotate_left
              · intro w hSw; (try dsimp only at hSw); go_simp; try with_reducible rfl
              try simp only [Act.put, List.getElem_toArray, List.getElem_cons_succ, List.getElem_cons_zero, List.setIfInBounds_toArray, List.set_cons_zero, List.set_cons_succ]
              refine wpAnyH_take (i := 10) (v := ?_) rfl (by kernel_rfl) (by kernel_rfl) (by kernel_rfl) (fun _ _ _ h => h) (Or.inl ⟨by kernel_rfl, ?_⟩) (by assumption) ?_
              rotate_left
              · intro w hSw; (try dsimp only at hSw); go_simp; try with_reducible rfl
              try simp only [Act.put, List.getElem_toArray, List.getElem_cons_succ, List.getElem_cons_zero, List.setIfInBounds_toArray, List.set_cons_zero, List.set_cons_succ]
              refine wpAnyH_take (i := 13) (v := ?_) rfl (by kernel_rfl) (by kernel_rfl) (by kernel_rfl) (fun _ _ _ h => h) (Or.inl ⟨by kernel_rfl, ?_⟩) (by assumption) ?_
              rotate_left
              · intro w hSw; (try dsimp only at hSw); go_simp; try with_reducible rfl
              try simp only [Act.put, List.getElem_toArray, List.getElem_cons_succ, List.getElem_cons_zero, List.setIfInBounds_toArray, List.set_cons_zero, List.set_cons_succ]
              refine wpAnyH_ready (rs := [14]) (by kernel_rfl) (by simp) ?_
              refine AllReadyH.cons rfl (fun K hK => ?_) AllReadyH.nil
              go_simp
              refine hK.out _ _ (by assumption) (fun hHeld => ?_)
              clear hK K
              try simp only [Act.put, List.getElem_toArray, List.getElem_cons_succ, List.getElem_cons_zero, List.setIfInBounds_toArray, List.set_cons_zero, List.set_cons_succ]
              refine wpAnyH_ready (rs := [15]) (by kernel_rfl) (by simp) ?_
              refine AllReadyH.cons rfl (fun K hK => ?_) AllReadyH.nil
              go_simp
              refine hK.out _ _ (by assumption) (fun hHeld => ?_)
              clear hK K
              try simp only [Act.put, List.getElem_toArray, List.getElem_cons_succ, List.getElem_cons_zero, List.setIfInBounds_toArray, List.set_cons_zero, List.set_cons_succ]
              refine wpAnyH_done (by kernel_rfl) ?_ _
              go_wp2
              go_ret2
              exact ⟨by rw [← FN.out]; rfl, Z2.out _ Bb⟩
          · rw [if_pos]
            rotate_left
            · kernel_rfl
            go_wp2_with (go_at_call 52; refine (HE.out _ (Z2.out _ Ba)).mono ?_; rintro e wb ⟨rfl, hbb⟩; have Bb := Ba.trans (hbb.mono Ba.size); refine Hid.out ?_)
            refine (show ∀ {p : Prop}, p → Hid p from fun h => h) ?_
            refine hK.out _ _ ⟨Bb, HKS.out _ Bb⟩ (fun hHeld => ?_)
            clear hK K
            try simp only [Act.put, List.getElem_toArray, List.getElem_cons_succ, List.getElem_cons_zero, List.setIfInBounds_toArray, List.set_cons_zero, List.set_cons_succ]
            refine wpAnyH_ready (rs := [4]) (by kernel_rfl) (by simp) ?_
            refine AllReadyH.cons rfl (fun K hK => ?_) AllReadyH.nil
            go_simp
            have Bn2 := Bb.alloc Bb.size (.cells #[.int .u8 1] 5)
            have qn := new_here wb (.int .u8 1)
            refine hK.out _ _ ⟨Bn2, HKS.out _ Bn2⟩ (fun hHeld => ?_)
            clear hK K
            try simp only [Act.put, List.getElem_toArray, List.getElem_cons_succ, List.getElem_cons_zero, List.setIfInBounds_toArray, List.set_cons_zero, List.set_cons_succ]
            refine wpAnyH_ready (rs := [5]) (by kernel_rfl) (by simp) ?_
            refine AllReadyH.cons rfl (fun K hK => ?_) AllReadyH.nil
            have qn1 := qn.1
            have cvn := CV _ _ qn1
            go_simp
            refine hK.out _ _ (by assumption) (fun hHeld => ?_)
            clear hK K
            try simp only [Act.put, List.getElem_toArray, List.getElem_cons_succ, List.getElem_cons_zero, List.setIfInBounds_toArray, List.set_cons_zero, List.set_cons_succ]
            refine wpAnyH_take (i := 6) (v := ?_) rfl (by kernel_rfl) (by kernel_rfl) (by kernel_rfl) (fun _ _ _ h => h) (Or.inl ⟨by kernel_rfl, ?_⟩) (by assumption) ?_
            rotate_left
            · intro w hSw; (try dsimp only at hSw); go_simp; try with_reducible rfl
            try simp only [Act.put, List.getElem_toArray, List.getElem_cons_succ, List.getElem_cons_zero, List.setIfInBounds_toArray, List.set_cons_zero, List.set_cons_succ]
            refine wpAnyH_take (i := 10) (v := ?_) rfl (by kernel_rfl) (by kernel_rfl) (by kernel_rfl) (fun _ _ _ h => h) (Or.inl ⟨by kernel_rfl, ?_⟩) (by assumption) ?_
            rotate_left
            · intro w hSw; (try dsimp only at hSw); go_simp; try with_reducible rfl
            try simp only [Act.put, List.getElem_toArray, List.getElem_cons_succ, List.getElem_cons_zero, List.setIfInBounds_toArray, List.set_cons_zero, List.set_cons_succ]
            refine wpAnyH_take (i := 13) (v := ?_) rfl (by kernel_rfl) (by kernel_rfl) (by kernel_rfl) (fun _ _ _ h => h) (Or.inl ⟨by kernel_rfl, ?_⟩) (by assumption) ?_
            rotate_left
            · intro w hSw; (try dsimp only at hSw); go_simp; try with_reducible rfl
            try simp only [Act.put, List.getElem_toArray, List.getElem_cons_succ, List.getElem_cons_zero, List.setIfInBounds_toArray, List.set_cons_zero, List.set_cons_succ]
            refine wpAnyH_ready (rs := [14]) (by kernel_rfl) (by simp) ?_
            refine AllReadyH.cons rfl (fun K hK => ?_) AllReadyH.nil
            go_simp
            refine hK.out _ _ (by assumption) (fun hHeld => ?_)
            clear hK K
            try simp only [Act.put, List.getElem_toArray, List.getElem_cons_succ, List.getElem_cons_zero, List.setIfInBounds_toArray, List.set_cons_zero, List.set_cons_succ]
            refine wpAnyH_ready (rs := [15]) (by kernel_rfl) (by simp) ?_
            refine AllReadyH.cons rfl (fun K hK => ?_) AllReadyH.nil
            go_simp
            refine hK.out _ _ (by assumption) (fun hHeld => ?_)
            clear hK K
            try simp only [Act.put, List.getElem_toArray, List.getElem_cons_succ, List.getElem_cons_zero, List.setIfInBounds_toArray, List.set_cons_zero, List.set_cons_succ]
            refine wpAnyH_done (by kernel_rfl) ?_ _
            go_wp2
            go_ret2
            exact ⟨by rw [← FN.out]; rfl, Z2.out _ Bn2⟩
        · go_simp
          have Bn0 := B0.alloc B0.size (.cells #[.int .u8 1] 5)
          have qn : (wr.drew.alloc (.cells #[.int .u8 1] 5)).cell? ⟨wr.heap.size, 0, none⟩ = some (.int .u8 1) ∧ wr.heap.size < (wr.drew.alloc (.cells #[.int .u8 1] 5)).heap.size := new_here wr.drew (.int .u8 1)
          refine hK.out _ _ ⟨Bn0, HKS.out _ Bn0⟩ (fun hHeld => ?_)
          clear hK K
          try simp only [Act.put, List.getElem_toArray, List.getElem_cons_succ, List.getElem_cons_zero, List.setIfInBounds_toArray, List.set_cons_zero, List.set_cons_succ]
          refine wpAnyH_ready (rs := [2, 5]) (by kernel_rfl) (by simp) ?_
          refine AllReadyH.cons rfl (fun K hK => ?_) (AllReadyH.cons rfl (fun K hK => ?_) AllReadyH.nil)
          · rw [if_pos]
            rotate_left
            · kernel_rfl
            go_wp2_with (go_at_call 40; refine (HN.out _).mono ?_; rintro e wa ⟨rfl, hba⟩; have Ba := Bn0.trans (hba.mono Bn0.size); have qn := old_then qn hba; refine Hid.out ?_)
            refine (show ∀ {p : Prop}, p → Hid p from fun h => h) ?_
            refine hK.out _ _ ⟨Ba, HKS.out _ Ba⟩ (fun hHeld => ?_)
            clear hK K
            try simp only [Act.put, List.getElem_toArray, List.getElem_cons_succ, List.getElem_cons_zero, List.setIfInBounds_toArray, List.set_cons_zero, List.set_cons_succ]
            refine wpAnyH_ready (rs := [5, 9]) (by kernel_rfl) (by simp) ?_
            refine AllReadyH.cons rfl (fun K hK => ?_) (AllReadyH.cons rfl (fun K hK => ?_) AllReadyH.nil)
            · have qn1 := qn.1
              have cvn := CV _ _ qn1
              go_simp
              refine hK.out _ _ (by assumption) (fun hHeld => ?_)
              clear hK K
              try simp only [Act.put, List.getElem_toArray, List.getElem_cons_succ, List.getElem_cons_zero, List.setIfInBounds_toArray, List.set_cons_zero, List.set_cons_succ]
              refine wpAnyH_take (i := 6) (v := ?_) rfl (by kernel_rfl) (by kernel_rfl) (by kernel_rfl) (fun _ _ _ h => h) (Or.inl ⟨by kernel_rfl, ?_⟩) (by assumption) ?_
              rotate_left
              · intro w hSw; (try dsimp only at hSw); go_simp; try with_reducible rfl
              try simp only [Act.put, List.getElem_toArray, List.getElem_cons_succ, List.getElem_cons_zero, List.setIfInBounds_toArray, List.set_cons_zero, List.set_cons_succ]
              refine wpAnyH_ready (rs := [9]) (by kernel_rfl) (by simp) ?_
              refine AllReadyH.cons rfl (fun K hK => ?_) AllReadyH.nil
              rw [if_pos]
              rotate_left
              · kernel_rfl
              go_wp2_with (go_at_call 52; refine (HE.out _ (Z2.out _ Ba)).mono ?_; rintro e wb ⟨rfl, hbb⟩; have Bb := Ba.trans (hbb.mono Ba.size); refine Hid.out ?_)
              refine (show ∀ {p : Prop}, p → Hid p from fun h => h) ?_
              refine hK.out _ _ ⟨Bb, HKS.out _ Bb⟩ (fun hHeld => ?_)
              clear hK K
              try simp only [Act.put, List.getElem_toArray, List.getElem_cons_succ, List.getElem_cons_zero, List.setIfInBounds_toArray, List.set_cons_zero, List.set_cons_succ]
              refine wpAnyH_take (i := 10) (v := ?_) rfl (by kernel_rfl) (by kernel_rfl) (by kernel_rfl) (fun _ _ _ h => h) (Or.inl ⟨by kernel_rfl, ?_⟩) (by assumption) ?_
              rotate_left
              · intro w hSw; (try dsimp only at hSw); go_simp; try with_reducible rfl
              try simp only [Act.put, List.getElem_toArray, List.getElem_cons_succ, List.getElem_cons_zero, List.setIfInBounds_toArray, List.set_cons_zero, List.set_cons_succ]
              refine wpAnyH_take (i := 13) (v := ?_) rfl (by kernel_rfl) (by kernel_rfl) (by kernel_rfl) (fun _ _ _ h => h) (Or.inl ⟨by kernel_rfl, ?_⟩) (by assumption) ?_
              rotate_left
              · intro w hSw; (try dsimp only at hSw); go_simp; try with_reducible rfl
              try simp only [Act.put, List.getElem_toArray, List.getElem_cons_succ, List.getElem_cons_zero, List.setIfInBounds_toArray, List.set_cons_zero, List.set_cons_succ]
              refine wpAnyH_ready (rs := [14]) (by kernel_rfl) (by simp) ?_
              refine AllReadyH.cons rfl (fun K hK => ?_) AllReadyH.nil
              go_simp
              refine hK.out _ _ (by assumption) (fun hHeld => ?_)
              clear hK K
              try simp only [Act.put, List.getElem_toArray, List.getElem_cons_succ, List.getElem_cons_zero, List.setIfInBounds_toArray, List.set_cons_zero, List.set_cons_succ]
              refine wpAnyH_ready (rs := [15]) (by kernel_rfl) (by simp) ?_
              refine AllReadyH.cons rfl (fun K hK => ?_) AllReadyH.nil
              go_simp
              refine hK.out _ _ (by assumption) (fun hHeld => ?_)
              clear hK K
              try simp only [Act.put, List.getElem_toArray, List.getElem_cons_succ, List.getElem_cons_zero, List.setIfInBounds_toArray, List.set_cons_zero, List.set_cons_succ]
              refine wpAnyH_done (by kernel_rfl) ?_ _
              go_wp2
              go_ret2
              exact ⟨by rw [← FN.out]; rfl, Z2.out _ Bb⟩
            · rw [if_pos]
              rotate_left
              · kernel_rfl
              go_wp2_with (go_at_call 52; refine (HE.out _ (Z2.out _ Ba)).mono ?_; rintro e wb ⟨rfl, hbb⟩; have Bb := Ba.trans (hbb.mono Ba.size); have qn := old_then qn hbb; refine Hid.out ?_)
              refine (show ∀ {p : Prop}, p → Hid p from fun h => h) ?_
              refine hK.out _ _ ⟨Bb, HKS.out _ Bb⟩ (fun hHeld => ?_)
              clear hK K
              try simp only [Act.put, List.getElem_toArray, List.getElem_cons_succ, List.getElem_cons_zero, List.setIfInBounds_toArray, List.set_cons_zero, List.set_cons_succ]
              refine wpAnyH_ready (rs := [5]) (by kernel_rfl) (by simp) ?_
              refine AllReadyH.cons rfl (fun K hK => ?_) AllReadyH.nil
              have qn1 := qn.1
              have cvn := CV _ _ qn1
              go_simp
              refine hK.out _ _ (by assumption) (fun hHeld => ?_)
              clear hK K
              try simp only [Act.put, List.getElem_toArray, List.getElem_cons_succ, List.getElem_cons_zero, List.setIfInBounds_toArray, List.set_cons_zero, List.set_cons_succ]
              refine wpAnyH_take (i := 6) (v := ?_) rfl (by kernel_rfl) (by kernel_rfl) (by kernel_rfl) (fun _ _ _ h => h) (Or.inl ⟨by kernel_rfl, ?_⟩) (by assumption) ?_
              rotate_left
              · intro w hSw; (try dsimp only at hSw); go_simp; try with_reducible rfl
              try simp only [Act.put, List.getElem_toArray, List.getElem_cons_succ, List.getElem_cons_zero, List.setIfInBounds_toArray, List.set_cons_zero, List.set_cons_succ]
              refine wpAnyH_take (i := 10) (v := ?_) rfl (by kernel_rfl) (by kernel_rfl) (by kernel_rfl) (fun _ _ _ h => h) (Or.inl ⟨by kernel_rfl, ?_⟩) (by assumption) ?_
              rotate_left
              · intro w hSw; (try dsimp only at hSw); go_simp; try with_reducible rfl
              try simp only [Act.put, List.getElem_toArray, List.getElem_cons_succ, List.getElem_cons_zero, List.setIfInBounds_toArray, List.set_cons_zero, List.set_cons_succ]
              refine wpAnyH_take (i := 13) (v := ?_) rfl (by kernel_rfl) (by kernel_rfl) (by kernel_rfl) (fun _ _ _ h => h) (Or.inl ⟨by kernel_rfl, ?_⟩) (by assumption) ?_
              rotate_left
              · intro w hSw; (try dsimp only at hSw); go_simp; try with_reducible rfl
              try simp only [Act.put, List.getElem_toArray, List.getElem_cons_succ, List.getElem_cons_zero, List.setIfInBounds_toArray, List.set_cons_zero, List.set_cons_succ]
              refine wpAnyH_ready (rs := [14]) (by kernel_rfl) (by simp) ?_
              refine AllReadyH.cons rfl (fun K hK => ?_) AllReadyH.nil
              go_simp
              refine hK.out _ _ (by assumption) (fun hHeld => ?_)
              clear hK K
              try simp only [Act.put, List.getElem_toArray, List.getElem_cons_succ, List.getElem_cons_zero, List.setIfInBounds_toArray, List.set_cons_zero, List.set_cons_succ]
              refine wpAnyH_ready (rs := [15]) (by kernel_rfl) (by simp) ?_
              refine AllReadyH.cons rfl (fun K hK => ?_) AllReadyH.nil
              go_simp
              refine hK.out _ _ (by assumption) (fun hHeld => ?_)
              clear hK K
              try simp only [Act.put, List.getElem_toArray, List.getElem_cons_succ, List.getElem_cons_zero, List.setIfInBounds_toArray, List.set_cons_zero, List.set_cons_succ]
              refine wpAnyH_done (by kernel_rfl) ?_ _
              go_wp2
              go_ret2
              exact ⟨by rw [← FN.out]; rfl, Z2.out _ Bb⟩
          · have qn1 := qn.1
            have cvn := CV _ _ qn1
            go_simp
            refine hK.out _ _ (by assumption) (fun hHeld => ?_)
            clear hK K
            try simp only [Act.put, List.getElem_toArray, List.getElem_cons_succ, List.getElem_cons_zero, List.setIfInBounds_toArray, List.set_cons_zero, List.set_cons_succ]
            refine wpAnyH_ready (rs := [2]) (by kernel_rfl) (by simp) ?_
            refine AllReadyH.cons rfl (fun K hK => ?_) AllReadyH.nil
            rw [if_pos]
            rotate_left
            · kernel_rfl
            go_wp2_with (go_at_call 40; refine (HN.out _).mono ?_; rintro e wa ⟨rfl, hba⟩; have Ba := Bn0.trans (hba.mono Bn0.size); refine Hid.out ?_)
            refine (show ∀ {p : Prop}, p → Hid p from fun h => h) ?_
            refine hK.out _ _ ⟨Ba, HKS.out _ Ba⟩ (fun hHeld => ?_)
            clear hK K
            try simp only [Act.put, List.getElem_toArray, List.getElem_cons_succ, List.getElem_cons_zero, List.setIfInBounds_toArray, List.set_cons_zero, List.set_cons_succ]
            refine wpAnyH_take (i := 6) (v := ?_) rfl (by kernel_rfl) (by kernel_rfl) (by kernel_rfl) (fun _ _ _ h => h) (Or.inl ⟨by kernel_rfl, ?_⟩) (by assumption) ?_
            rotate_left
            · intro w hSw; (try dsimp only at hSw); go_simp; try with_reducible rfl
            try simp only [Act.put, List.getElem_toArray, List.getElem_cons_succ, List.getElem_cons_zero, List.setIfInBounds_toArray, List.set_cons_zero, List.set_cons_succ]
            refine wpAnyH_ready (rs := [9]) (by kernel_rfl) (by simp) ?_
            refine AllReadyH.cons rfl (fun K hK => ?_) AllReadyH.nil
            rw [if_pos]
            rotate_left
            · kernel_rfl
            go_wp2_with (go_at_call 52; refine (HE.out _ (Z2.out _ Ba)).mono ?_; rintro e wb ⟨rfl, hbb⟩; have Bb := Ba.trans (hbb.mono Ba.size); refine Hid.out ?_)
            refine (show ∀ {p : Prop}, p → Hid p from fun h => h) ?_
            refine hK.out _ _ ⟨Bb, HKS.out _ Bb⟩ (fun hHeld => ?_)
            clear hK K
            try simp only [Act.put, List.getElem_toArray, List.getElem_cons_succ, List.getElem_cons_zero, List.setIfInBounds_toArray, List.set_cons_zero, List.set_cons_succ]
            refine wpAnyH_take (i := 10) (v := ?_) rfl (by kernel_rfl) (by kernel_rfl) (by kernel_rfl) (fun _ _ _ h => h) (Or.inl ⟨by kernel_rfl, ?_⟩) (by assumption) ?_
            rotate_left
            · intro w hSw; (try dsimp only at hSw); go_simp; try with_reducible rfl
            try simp only [Act.put, List.getElem_toArray, List.getElem_cons_succ, List.getElem_cons_zero, List.setIfInBounds_toArray, List.set_cons_zero, List.set_cons_succ]
            refine wpAnyH_take (i := 13) (v := ?_) rfl (by kernel_rfl) (by kernel_rfl) (by kernel_rfl) (fun _ _ _ h => h) (Or.inl ⟨by kernel_rfl, ?_⟩) (by assumption) ?_
            rotate_left
            · intro w hSw; (try dsimp only at hSw); go_simp; try with_reducible rfl
            try simp only [Act.put, List.getElem_toArray, List.getElem_cons_succ, List.getElem_cons_zero, List.setIfInBounds_toArray, List.set_cons_zero, List.set_cons_succ]
            refine wpAnyH_ready (rs := [14]) (by kernel_rfl) (by simp) ?_
            refine AllReadyH.cons rfl (fun K hK => ?_) AllReadyH.nil
            go_simp
            refine hK.out _ _ (by assumption) (fun hHeld => ?_)
            clear hK K
            try simp only [Act.put, List.getElem_toArray, List.getElem_cons_succ, List.getElem_cons_zero, List.setIfInBounds_toArray, List.set_cons_zero, List.set_cons_succ]
            refine wpAnyH_ready (rs := [15]) (by kernel_rfl) (by simp) ?_
            refine AllReadyH.cons rfl (fun K hK => ?_) AllReadyH.nil
            go_simp
            refine hK.out _ _ (by assumption) (fun hHeld => ?_)
            clear hK K
            try simp only [Act.put, List.getElem_toArray, List.getElem_cons_succ, List.getElem_cons_zero, List.setIfInBounds_toArray, List.set_cons_zero, List.set_cons_succ]
            refine wpAnyH_done (by kernel_rfl) ?_ _
            go_wp2
            go_ret2
            exact ⟨by rw [← FN.out]; rfl, Z2.out _ Bb⟩

theorem iAnswerText_any (n num : Int) (ok : Bool) (es : List EdgeV) (ls : List Int) (k : Nat) (a : Option Addr) (c : Nat) (hk : k ≤ 1048576) (k' : Nat) (a' : Option Addr) (c' : Nat) (hk' : k' ≤ 1048576) (w : World) (h : Es w w.heap.size a k es) (h' : Is w w.heap.size a' k' ls) :
    Calls Try.prog 18 #[.int .i64 n, ansV num ok a k c a' k' c'] w fun e w' => e = .returned (atV n ⟨num, ok, es, ls⟩) ∧ Below w.heap.size w w' := by
  cases hB : aB n ⟨num, ok, es, ls⟩ with
  | false => rw [atV_no hB]; exact iAnswerText_no n num ok es ls k a c hk k' a' c' hk' w h h' hB
  | true => rw [atV_yes hB]; exact iAnswerText_yes n num ok es ls k a c hk k' a' c' hk' w h h' hB
end Go.Proofs.Ytkhhagjcmbbdpaa
namespace Go.Proofs.Ytkhhagjcmbbdpaa
open Go.RowKit Vt

/-- an order in a box, below -/
structure BO (u : World) (X : Nat) (num op : Int) (a : Option Addr) (k c : Nat) (v : Int) (es : List EdgeV) : Prop where
  c0 : u.cell? ⟨X, 0, none⟩ = some (.int .i64 num)
  c1 : u.cell? ⟨X, 1, none⟩ = some (.int .i64 op)
  c2 : u.cell? ⟨X, 2, none⟩ = some (.slice a k c)
  c3 : u.cell? ⟨X, 3, none⟩ = some (.int .i64 v)
  row : Es u u.heap.size a k es
  lt : X < u.heap.size
theorem BO.up {u v : World} {X : Nat} {num op : Int} {a : Option Addr} {k c : Nat} {z : Int} {es : List EdgeV} (h : BO u X num op a k c z es) (hb : Below u.heap.size u v) : BO v X num op a k c z es :=
  ⟨by rw [hb.cell h.lt]; exact h.c0, by rw [hb.cell h.lt]; exact h.c1, by rw [hb.cell h.lt]; exact h.c2, by rw [hb.cell h.lt]; exact h.c3, h.row.up hb, Nat.lt_of_lt_of_le h.lt hb.size⟩
theorem BO.laid {u : World} {B : Nat} {num op : Int} {a : Option Addr} {k c : Nat} {z : Int} {es : List EdgeV} (h : u.ownsRow B 78 2 (.slice a k c) k (ecells es)) : BO (u.alloc (.cells #[.int .i64 num, .int .i64 op, .slice a k c, .int .i64 z] 26)) u.heap.size num op a k c z es :=
  ⟨by simp, by simp, by simp, by simp, (Es_of_own h).up (bel1 _ _), by simp⟩
theorem BO.len {u : World} {X : Nat} {num op : Int} {a : Option Addr} {k c : Nat} {z : Int} {es : List EdgeV} (h : BO u X num op a k c z es) : es.length = k := h.row.1

/-- an answer in a box, below -/
structure BA (u : World) (X : Nat) (num : Int) (ok : Bool) (a : Option Addr) (k c : Nat) (b : Option Addr) (m d : Nat) (es : List EdgeV) (ls : List Int) : Prop where
  c0 : u.cell? ⟨X, 0, none⟩ = some (.int .i64 num)
  c1 : u.cell? ⟨X, 1, none⟩ = some (.bool ok)
  c2 : u.cell? ⟨X, 2, none⟩ = some (.slice a k c)
  c3 : u.cell? ⟨X, 3, none⟩ = some (.slice b m d)
  row : Es u u.heap.size a k es
  row2 : Is u u.heap.size b m ls
  lt : X < u.heap.size
theorem BA.up {u v : World} {X : Nat} {num : Int} {ok : Bool} {a : Option Addr} {k c : Nat} {b : Option Addr} {m d : Nat} {es : List EdgeV} {ls : List Int} (h : BA u X num ok a k c b m d es ls) (hb : Below u.heap.size u v) : BA v X num ok a k c b m d es ls :=
  ⟨by rw [hb.cell h.lt]; exact h.c0, by rw [hb.cell h.lt]; exact h.c1, by rw [hb.cell h.lt]; exact h.c2, by rw [hb.cell h.lt]; exact h.c3, h.row.up hb, h.row2.up hb, Nat.lt_of_lt_of_le h.lt hb.size⟩
theorem BA.laid {u : World} {B : Nat} {num : Int} {ok : Bool} {a : Option Addr} {k c : Nat} {b : Option Addr} {m d : Nat} {es : List EdgeV} {ls : List Int} (h : u.ownsRow B 78 2 (.slice a k c) k (ecells es)) (h2 : Is u u.heap.size b m ls) : BA (u.alloc (.cells #[.int .i64 num, .bool ok, .slice a k c, .slice b m d] 37)) u.heap.size num ok a k c b m d es ls :=
  ⟨by simp, by simp, by simp, by simp, (Es_of_own h).up (bel1 _ _), h2.up (bel1 _ _), by simp⟩

/-- the order back: what is read of a right order's text -/
theorem IsO.of {n : Int} {o : OrdV} {r : Option OrdV} (h : IsO n (str (oText o)).data.toList r) (hB : oB n o = true) : r = some o := by
  rw [str_list] at h
  exact h.uniq (r' := some o) ⟨hB, rfl⟩
theorem IsA.of {n : Int} {o : AnsV} {r : Option AnsV} (h : IsA n (str (aText o)).data.toList r) (hB : aB n o = true) : r = some o := by
  rw [str_list] at h
  exact h.uniq (r' := some o) ⟨hB, rfl⟩

/-- the text of what was read: the text that was read -/
theorem otV_read {n : Int} {u : ByteArray} {r : Option OrdV} (h : IsO n u.data.toList r) : ∃ S b, otV n (orO r) = .tuple #[.string S, .bool b] ∧ (r.isSome = true → S = u) := by
  cases r with
  | none => obtain ⟨S, b, h1, _⟩ := otV_small n (orO none); exact ⟨S, b, h1, fun h => by simp at h⟩
  | some o => exact ⟨_, _, otV_yes h.1, fun _ => str_eq h.2⟩
theorem atV_read {n : Int} {u : ByteArray} {r : Option AnsV} (h : IsA n u.data.toList r) : ∃ S b, atV n (orA r) = .tuple #[.string S, .bool b] ∧ (r.isSome = true → S = u) := by
  cases r with
  | none => obtain ⟨S, b, h1, _⟩ := atV_small n (orA none); exact ⟨S, b, h1, fun h => by simp at h⟩
  | some o => exact ⟨_, _, atV_yes h.1, fun _ => str_eq h.2⟩

theorem oText_small {n : Int} {o : OrdV} (h : oB n o = true) : (str (oText o)).size ≤ 300 := by
  obtain ⟨S, b, h1, h2⟩ := otV_small n o
  rw [otV_yes h] at h1
  simp at h1
  rw [h1.1]; exact h2
theorem aText_small {n : Int} {o : AnsV} (h : aB n o = true) : (str (aText o)).size ≤ 300 := by
  obtain ⟨S, b, h1, h2⟩ := atV_small n o
  rw [atV_yes h] at h1
  simp at h1
  rw [h1.1]; exact h2
end Go.Proofs.Ytkhhagjcmbbdpaa
