/- The walk of FnExactOrderText. Lists of ints: how they stand in memory; eqIntS, markIntS, heldIntS; an answer that is a list of ints. When an answer is right, on both sides. AnswerOk on both sides. The program's ReadOrder. What the laws' own functions over answers answer; answers in ranges of blocks of their own. -/
import Derived.Test.YtkhhagjcmbbdpaaKRow10
import Derived.Test.YtkhhagjcmbbdpaaKSOu10
import Derived.Test.YtkhhagjcmbbdpaaKICmo10
namespace Go.Proofs.Ytkhhagjcmbbdpaa
open Go.RowKit Vt

/-- the world behind the law's boxes -/
def lwOrderText (w : World) (num op x : Int) (a : Option Addr) (m c : Nat) : World := w.alloc (.cells #[.int .i64 num, .int .i64 op, .slice a m c, .int .i64 x] 49)
set_option maxRecDepth 100000 in
set_option maxHeartbeats 4000000 in
theorem fnExactOrderText.walk (n : Int) (_hn : (Lit.int .i64 n).wf = true) (num op x : Int) (fs : List EdgeV) (m : Nat) (a : Option Addr) (c : Nat) (hm : m ≤ maxLen) (w : World) (h : Es w w.heap.size a m fs) :
    Calls Try.prog 6 #[.int .i64 n, .agg #[.int .i64 num, .int .i64 op, .slice a m c, .int .i64 x]] w fun e w' => e = .returned (.bool true) ∧ Below w.heap.size w w' := by
  have bel : Below w.heap.size w (lwOrderText w num op x a m c) := (Below.refl _ _).alloc (Nat.le_refl _) _
  have hsz : (lwOrderText w num op x a m c).heap.size = w.heap.size + 1 := by simp [lwOrderText]
  have fA : Es (lwOrderText w num op x a m c) (lwOrderText w num op x a m c).heap.size a m fs := (h.below bel (Nat.le_refl _)).mono (by omega)
  have q0 : (lwOrderText w num op x a m c).cell? ⟨w.heap.size, 0, none⟩ = some (.int .i64 num) := by simp [lwOrderText, go_sem]
  have q1 : (lwOrderText w num op x a m c).cell? ⟨w.heap.size, 1, none⟩ = some (.int .i64 op) := by simp [lwOrderText, go_sem]
  have q2 : (lwOrderText w num op x a m c).cell? ⟨w.heap.size, 2, none⟩ = some (.slice a m c) := by simp [lwOrderText, go_sem]
  have q3 : (lwOrderText w num op x a m c).cell? ⟨w.heap.size, 3, none⟩ = some (.int .i64 x) := by simp [lwOrderText, go_sem]
  have HZ : Hid (∀ u, Good (lwOrderText w num op x a m c) u → Below w.heap.size w u) := fun u hu => bel.trans (Below.mono hu (by omega))
  have HK : Hid (∀ u, Good (lwOrderText w num op x a m c) u → (u.cell? ⟨w.heap.size, 0, none⟩ = some (.int .i64 num) ∧ u.cell? ⟨w.heap.size, 1, none⟩ = some (.int .i64 op) ∧ u.cell? ⟨w.heap.size, 2, none⟩ = some (.slice a m c) ∧ u.cell? ⟨w.heap.size, 3, none⟩ = some (.int .i64 x))) := fun u hu =>
    ⟨by rw [hu.cell (by omega)]; exact q0, by rw [hu.cell (by omega)]; exact q1, by rw [hu.cell (by omega)]; exact q2, by rw [hu.cell (by omega)]; exact q3⟩
  have HSZ : Hid (∀ u, Good (lwOrderText w num op x a m c) u → Calls Try.prog 27 #[.agg #[.int .i64 num, .int .i64 op, .slice a m c, .int .i64 x], .int .i64 1048576] u fun e v => e = .returned (.int .i64 (if m ≤ 1048576 then 1048576 - (m : Int) else -1)) ∧ Good (lwOrderText w num op x a m c) v) := fun u hu =>
    (szOrder_any num op x m a c hm u).mono fun _ _ ⟨he, hb⟩ => ⟨he, hu.up hb⟩
  by_cases g : m ≤ 1048576
  · rw [if_pos g] at HSZ
    have HT : Hid (∀ u, Good (lwOrderText w num op x a m c) u → Calls Try.prog 28 #[.agg #[.int .i64 num, .int .i64 op, .slice a m c, .int .i64 x]] u fun e v => ∃ g, e = .returned (.agg #[.int .i64 num, .int .i64 op, .slice (some ⟨g, 0, none⟩) m m, .int .i64 x]) ∧ Es v v.heap.size (some ⟨g, 0, none⟩) m fs ∧ Good (lwOrderText w num op x a m c) v ∧ u.heap.size ≤ v.heap.size ∧ Below u.heap.size u v) := fun u hu =>
      (toOrder_any num op x fs m a c g u (hu.es fA)).mono fun _ _ ⟨g, he, ho, hb⟩ => ⟨g, he, Es_of_own ho, hu.up hb, hb.size, hb⟩
    have HS : Hid (∀ u b, Good (lwOrderText w num op x a m c) u → Es u u.heap.size (some ⟨b, 0, none⟩) m fs → Calls Try.prog 33 #[.int .i64 n, .agg #[.int .i64 num, .int .i64 op, .slice (some ⟨b, 0, none⟩) m m, .int .i64 x]] u fun e v => e = .returned (otV n ⟨num, op, fs, x⟩) ∧ Good (lwOrderText w num op x a m c) v) := fun u b hu hf =>
      (sOrderText_any n num op fs x m _ m g u hf).mono fun _ _ ⟨he, hb⟩ => ⟨he, hu.up hb⟩
    have HI : Hid (∀ u b, Good (lwOrderText w num op x a m c) u → Es u u.heap.size (some ⟨b, 0, none⟩) m fs → Calls Try.prog 12 #[.int .i64 n, .agg #[.int .i64 num, .int .i64 op, .slice (some ⟨b, 0, none⟩) m m, .int .i64 x]] u fun e v => e = .returned (otV n ⟨num, op, fs, x⟩) ∧ Below u.heap.size u v) := fun u b hu hf =>
      (iOrderText_any n num op fs x m _ m g u hf)
    have d1 : decide (1048576 - (m : Int) < 0) = false := decide_eq_false (by omega)
    have S1 := Good.refl (lwOrderText w num op x a m c)
    have ZL : Hid (w.heap.size < (lwOrderText w num op x a m c).heap.size) := by show _ < _; omega
    clear bel fA h hsz q0 q1 q2 q3
    obtain ⟨S, r, hV⟩ : ∃ S r, otV n ⟨num, op, fs, x⟩ = .tuple #[.string S, .bool r] := by
      unfold otV
      split
      · exact ⟨_, _, rfl⟩
      · exact ⟨_, _, rfl⟩
    rw [hV] at HS HI
    clear hV
    have dr : (r != r) = false := by simp
    have ds : (S.toList == S.toList) = true := by simp
    go_enter Try.func6, Try.ntmps6
    go_wp2_with (go_at_call 27; refine (HSZ.out _ S1).mono ?_; rintro e w2 ⟨rfl, S2⟩; refine Hid.out ?_)
    refine (show ∀ {p : Prop}, p → Hid p from fun h => h) ?_
    obtain ⟨k0, k1, k2, k3⟩ := HK.out _ S2
    go_wp2_with (go_at_call 28; refine (HT.out _ S2).mono ?_; rintro e w3 ⟨g3, rfl, f3, S3, z3, b3⟩; refine Hid.out ?_)
    refine (show ∀ {p : Prop}, p → Hid p from fun h => h) ?_
    clear k0 k1 k2 k3
    go_wp2_with (go_at_call 33; refine (HS.out _ g3 S3 f3).mono ?_; rintro e w4 ⟨rfl, S4⟩; refine Hid.out ?_)
    refine (show ∀ {p : Prop}, p → Hid p from fun h => h) ?_
    obtain ⟨k0, k1, k2, k3⟩ := HK.out _ S4
    clear f3 z3 b3 S3
    go_wp2_with (go_at_call 28; refine (HT.out _ S4).mono ?_; rintro e w5 ⟨g5, rfl, f5, S5, z5, b5⟩; refine Hid.out ?_)
    refine (show ∀ {p : Prop}, p → Hid p from fun h => h) ?_
    clear k0 k1 k2 k3
    have S6 : Good (lwOrderText w num op x a m c) (w5.alloc (.cells #[.int .i64 num, .int .i64 op, .slice (some ⟨g5, 0, none⟩) m m, .int .i64 x] 26)) := S5.alloc _
    have f6 : Es (w5.alloc (.cells #[.int .i64 num, .int .i64 op, .slice (some ⟨g5, 0, none⟩) m m, .int .i64 x] 26)) (w5.alloc (.cells #[.int .i64 num, .int .i64 op, .slice (some ⟨g5, 0, none⟩) m m, .int .i64 x] 26)).heap.size (some ⟨g5, 0, none⟩) m fs := (f5.alloc (Nat.le_refl _) _).mono (by simp)
    go_wp2_with (go_at_call 12; refine (HI.out _ g5 S6 f6).mono ?_; rintro e w7 ⟨rfl, b7⟩; refine Hid.out ?_)
    refine (show ∀ {p : Prop}, p → Hid p from fun h => h) ?_
    have S7 : Good (lwOrderText w num op x a m c) w7 := S6.up b7
    have x0 : w7.cell? ⟨w5.heap.size, 0, none⟩ = some (.int .i64 num) := by rw [b7.cell (by simp)]; simp
    have x1 : w7.cell? ⟨w5.heap.size, 1, none⟩ = some (.int .i64 op) := by rw [b7.cell (by simp)]; simp
    have x2 : w7.cell? ⟨w5.heap.size, 2, none⟩ = some (.slice (some ⟨g5, 0, none⟩) m m) := by rw [b7.cell (by simp)]; simp
    have x3 : w7.cell? ⟨w5.heap.size, 3, none⟩ = some (.int .i64 x) := by rw [b7.cell (by simp)]; simp
    have z7 : w5.heap.size < w7.heap.size := by have := b7.size; simp at this; omega
    have y7 : w.heap.size < w7.heap.size := Nat.lt_of_lt_of_le ZL.out S7.size
    obtain ⟨k0, k1, k2, k3⟩ := HK.out _ S7
    have f7 := hideIt (f6.up b7)
    have S8 : Good w7 w7.drew := (Good.refl w7).drew
    have HT8 : Hid (∀ u, Good w7 u → Calls Try.prog 28 #[.agg #[.int .i64 num, .int .i64 op, .slice a m c, .int .i64 x]] u fun e v => ∃ g, e = .returned (.agg #[.int .i64 num, .int .i64 op, .slice (some ⟨g, 0, none⟩) m m, .int .i64 x]) ∧ Es v v.heap.size (some ⟨g, 0, none⟩) m fs ∧ Good w7 v) := fun u hu =>
      (HT.out u (S7.up hu)).mono fun _ _ ⟨g, he, hf, _, _, hb⟩ => ⟨g, he, hf, hu.up hb⟩
    have HE8 : Hid (∀ u g', Good w7 u → Es u u.heap.size (some ⟨g', 0, none⟩) m fs → Calls Try.prog 29 #[.agg #[.int .i64 num, .int .i64 op, .slice (some ⟨g5, 0, none⟩) m m, .int .i64 x], .agg #[.int .i64 num, .int .i64 op, .slice (some ⟨g', 0, none⟩) m m, .int .i64 x]] u fun e v => e = .returned (.bool true) ∧ Good w7 v) := fun u g' hu hf =>
      (eqOrder_same num op x fs m _ _ m m g u (hu.es f7.out) hf).mono fun _ _ ⟨he, hb⟩ => ⟨he, hu.up hb⟩
    have HK8 : Hid (∀ u, Good w7 u → (u.cell? ⟨w.heap.size, 0, none⟩ = some (.int .i64 num) ∧ u.cell? ⟨w.heap.size, 1, none⟩ = some (.int .i64 op) ∧ u.cell? ⟨w.heap.size, 2, none⟩ = some (.slice a m c) ∧ u.cell? ⟨w.heap.size, 3, none⟩ = some (.int .i64 x)) ∧ (u.cell? ⟨w5.heap.size, 0, none⟩ = some (.int .i64 num) ∧ u.cell? ⟨w5.heap.size, 1, none⟩ = some (.int .i64 op) ∧ u.cell? ⟨w5.heap.size, 2, none⟩ = some (.slice (some ⟨g5, 0, none⟩) m m) ∧ u.cell? ⟨w5.heap.size, 3, none⟩ = some (.int .i64 x))) := fun u hu =>
      ⟨⟨by rw [hu.cell y7]; exact k0, by rw [hu.cell y7]; exact k1, by rw [hu.cell y7]; exact k2, by rw [hu.cell y7]; exact k3⟩, by rw [hu.cell z7]; exact x0, by rw [hu.cell z7]; exact x1, by rw [hu.cell z7]; exact x2, by rw [hu.cell z7]; exact x3⟩
    have S7z := hideIt (HZ.out _ S7)
    have y8 := hideIt (show w.heap.size ≤ w7.heap.size by omega)
    clear f5 f6 b5 b7 z5 S6 S5 S4 S2 S1
    go_wp2
    go_region_held3 (fun u => Good w7 u ∧ (u.cell? ⟨w.heap.size, 0, none⟩ = some (.int .i64 num) ∧ u.cell? ⟨w.heap.size, 1, none⟩ = some (.int .i64 op) ∧ u.cell? ⟨w.heap.size, 2, none⟩ = some (.slice a m c) ∧ u.cell? ⟨w.heap.size, 3, none⟩ = some (.int .i64 x)) ∧ (u.cell? ⟨w5.heap.size, 0, none⟩ = some (.int .i64 num) ∧ u.cell? ⟨w5.heap.size, 1, none⟩ = some (.int .i64 op) ∧ u.cell? ⟨w5.heap.size, 2, none⟩ = some (.slice (some ⟨g5, 0, none⟩) m m) ∧ u.cell? ⟨w5.heap.size, 3, none⟩ = some (.int .i64 x)))
      (first | exact ⟨S10, HK8.out _ S10⟩ | exact ⟨S9, HK8.out _ S9⟩ | exact ⟨S8, HK8.out _ S8⟩)
      (first | (go_at_call 28; refine (HT8.out _ S8).mono ?_; rintro e w9 ⟨g9, rfl, f9, S9⟩) | (go_at_call 29; refine (HE8.out _ _ S9 f9).mono ?_; rintro e w10 ⟨rfl, S10⟩))
    all_goals
      go_wp2
      go_ret
      exact ⟨rfl, S7z.out.trans (Below.mono S10 y8.out)⟩
  · rw [if_neg g] at HSZ
    have S1 := Good.refl (lwOrderText w num op x a m c)
    clear bel fA h hsz q0 q1 q2 q3
    go_enter Try.func6, Try.ntmps6
    go_wp2_with (go_at_call 27; refine (HSZ.out _ S1).mono ?_; rintro e w2 ⟨rfl, S2⟩; refine Hid.out ?_)
    refine (show ∀ {p : Prop}, p → Hid p from fun h => h) ?_
    go_wp2
    go_ret
    exact ⟨rfl, HZ.out _ S2⟩
end Go.Proofs.Ytkhhagjcmbbdpaa
namespace Go.Proofs.Ytkhhagjcmbbdpaa
open Go.RowKit

/-- a list of ints stands in memory below B -/
def Is (w : World) (B : Nat) (a : Option Addr) (n : Nat) (ls : List Int) : Prop :=
  ls.length = n ∧ (n = 0 ∨ ∃ b off, a = some ⟨b, off, none⟩ ∧ b < B ∧ ∀ (j : Nat) (x : Int), ls[j]? = some x → w.cell? ⟨b, off + j, none⟩ = some (.int .i64 x))
theorem Is.below {w w' : World} {B C : Nat} {a : Option Addr} {n : Nat} {ls : List Int} (h : Is w B a n ls) (hb : Below C w w') (hB : B ≤ C) : Is w' B a n ls := by
  refine ⟨h.1, h.2.imp id ?_⟩
  rintro ⟨b, off, h1, h2, h3⟩
  exact ⟨b, off, h1, h2, fun j x hx => by rw [hb.cell (p := ⟨b, _, none⟩) (by show b < _; omega)]; exact h3 j x hx⟩
theorem Is.mono {w : World} {B C : Nat} {a : Option Addr} {n : Nat} {ls : List Int} (h : Is w B a n ls) (hB : B ≤ C) : Is w C a n ls := by
  refine ⟨h.1, h.2.imp id ?_⟩
  rintro ⟨b, off, h1, h2, h3⟩
  exact ⟨b, off, h1, by omega, h3⟩
theorem Is.up {w w' : World} {a : Option Addr} {n : Nat} {ls : List Int} (h : Is w w.heap.size a n ls) (hb : Below w.heap.size w w') : Is w' w'.heap.size a n ls :=
  (h.below hb (Nat.le_refl _)).mono hb.size
def ic (ls : List Int) : List Value := ls.map fun x => Value.int .i64 x
theorem ic_len (ls : List Int) : (ic ls).length = ls.length := by simp [ic]
theorem ic_snoc (ls : List Int) (x : Int) : ic (ls ++ [x]) = ic ls ++ [.int .i64 x] := by simp [ic]
theorem ic_at {ls : List Int} {j : Nat} {x : Int} (h : ls[j]? = some x) : (ic ls)[j]? = some (.int .i64 x) := by rw [ic, List.getElem?_map, h]; rfl
theorem Is_of_own {w : World} {B n c : Nat} {a : Option Addr} {ls : List Int} (h : w.ownsRow B 3 1 (.slice a n c) n (ic ls)) : Is w w.heap.size a n ls := by
  have hl := h.1
  rw [ic_len] at hl
  refine ⟨by omega, ?_⟩
  rcases h.2 with ⟨hv, h0⟩ | ⟨g, cap, cur, hv, hrest⟩
  · exact .inl h0
  · simp at hv
    obtain ⟨rfl, rfl⟩ := hv
    refine .inr ⟨g, 0, rfl, (h.lt g rfl).2, fun j x hx => ?_⟩
    have hj : j < ls.length := (List.getElem?_eq_some_iff.1 hx).1
    rw [Nat.zero_add, h.cellAt j (by omega)]
    exact ic_at hx
theorem info3i : (Try.prog.info? 3).map (fun i => (i.zero, i.size, i.bytes)) = some (some (.int .i64 0), 1, 8) := by kernel_rfl

set_option maxHeartbeats 1000000 in
theorem eqIntS_same (ls : List Int) (n : Nat) (a a' : Option Addr) (c c' : Nat) (hn : n ≤ 1048576) (w : World) (h : Is w w.heap.size a n ls) (h' : Is w w.heap.size a' n ls) :
    Calls Try.prog 74 #[.slice a n c, .slice a' n c'] w fun e w' => e = .returned (.bool true) ∧ Below w.heap.size w w' := by
  obtain ⟨hlen, hrow⟩ := h
  obtain ⟨_, hrow'⟩ := h'
  have HR := hideIt hrow
  have HR' := hideIt hrow'
  clear hrow hrow'
  have dn : ((n : Int) != (n : Int)) = false := by simp
  go_enter Try.func74, Try.ntmps74
  go_wp2
  go_loopw [5] (fun i wr => ∃ (k : Nat), k ≤ n ∧ i = .int .i64 (k : Int) ∧ Below w.heap.size w wr) (fun i _ => n - (intOf i).toNat)
  case atStart => exact ⟨0, by omega, rfl, Below.refl _ _⟩
  case round =>
    obtain ⟨k, hk, rfl, hb⟩ := hrel
    by_cases hlt : k < n
    · rcases HR.out with hz | ⟨b, off, rfl, hbl, hc⟩
      · omega
      · rcases HR'.out with hz | ⟨b', off', rfl, hbl', hc'⟩
        · omega
        · obtain ⟨f, hf⟩ : ∃ f, ls[k]? = some f := ⟨ls[k]'(by omega), List.getElem?_eq_getElem (by omega)⟩
          have e0 : wr.cell? ⟨b, off + k, none⟩ = some (.int .i64 f) := by rw [hb.cell hbl]; exact hc k f hf
          have e1 : wr.cell? ⟨b', off' + k, none⟩ = some (.int .i64 f) := by rw [hb.cell hbl']; exact hc' k f hf
          have b1 : (0 : Int) ≤ (k : Int) := by omega
          have b2 : (k : Int) < (n : Int) := by omega
          have d1 : (f != f) = false := by simp
          clear hc hc' hf
          go_wp2
          go_quiet (fail)
          go_wp2
          exact ⟨⟨k + 1, by omega, by go_num, below_drewN hb _⟩, by simp [intOf]; omega⟩
    · go_wp2
      go_ret
      exact ⟨rfl, hb⟩

/-- n marks from k0 on -/
def imarks (k0 n : Nat) : List Int := (List.range n).map fun (t : Nat) => (k0 : Int) + (t : Int)
theorem imarks_snoc (k0 n : Nat) : imarks k0 (n + 1) = imarks k0 n ++ [(k0 : Int) + (n : Int)] := by simp [imarks, List.range_succ]
theorem imarks_at (k0 n j : Nat) (h : j < n) : (imarks k0 n)[j]? = some ((k0 : Int) + (j : Int)) := by simp [imarks, h]

theorem markIntS_zero (a : Option Addr) (c : Nat) (k0 : Int) (w : World) :
    Calls Try.prog 81 #[.slice a 0 c, .int .i64 k0] w fun e w' => e = .returned (.int .i64 k0) ∧ w' = w := by
  go_enter Try.func81, Try.ntmps81
  go_wp2
  refine wp_loop_rounds 1 ?_
  rw [rounds_succ]
  go_wp2
  go_ret
  exact ⟨rfl, rfl⟩

set_option maxHeartbeats 1000000 in
theorem markIntS_any (base g c n k0 : Nat) (xs0 : List Value) (hn : n ≤ 1048576) (hk1 : k0 ≤ 10000000) (w : World) (h : w.ownsRow base 3 1 (.slice (some ⟨g, 0, none⟩) n c) n xs0) :
    Calls Try.prog 81 #[.slice (some ⟨g, 0, none⟩) n c, .int .i64 (k0 : Int)] w fun e w' => e = .returned (.int .i64 ((k0 : Int) + (n : Int))) ∧ w'.ownsRow base 3 1 (.slice (some ⟨g, 0, none⟩) n c) n (ic (imarks k0 n)) ∧ w.grownBy w' (some g) := by
  have H0 := hideIt h
  clear h
  go_enter Try.func81, Try.ntmps81
  go_wp2
  go_loopw [1, 5] (fun q i wr => ∃ (k : Nat) (xs : List Value), k ≤ n ∧ i = .int .i64 (k : Int) ∧ q = .int .i64 ((k0 : Int) + (k : Int)) ∧ Hid (xs.take k = ic (imarks k0 k)) ∧ wr.ownsRow base 3 1 (.slice (some ⟨g, 0, none⟩) n c) n xs ∧ w.grownBy wr (some g)) (fun _ i _ => n - (intOf i).toNat)
  case atStart => exact ⟨0, xs0, by omega, rfl, by simp, by show _ = _; simp [ic, imarks], H0.out, ⟨rfl, rfl, rfl, Nat.le_refl _, fun _ _ _ => rfl⟩⟩
  case round =>
    obtain ⟨k, xs, hk, rfl, rfl, hx, hown, hg⟩ := hrel
    have hl3 : xs.length = n * 1 := hown.1
    by_cases hlt : k < n
    · have b1 : (0 : Int) ≤ (k : Int) := by omega
      have b2 : (k : Int) < (n : Int) := by omega
      have f0 := hown.frozenAt k
      obtain ⟨y0, x0⟩ : ∃ y, wr.cell? ⟨g, k, none⟩ = some y := ⟨_, by rw [hown.cellAt k (by omega)]; exact List.getElem?_eq_getElem (by omega)⟩
      have hst := hown.stored k (.int .i64 ((k0 : Int) + (k : Int)))
      have HO2 := hideIt hst.1
      have HG2 := hideIt (grown_trans hg hst.2)
      have HX : Hid ((xs.set k (.int .i64 ((k0 : Int) + (k : Int)))).take (k + 1) = ic (imarks k0 (k + 1))) := by
        show _ = _
        rw [List.take_add_one, List.take_set_of_le (Nat.le_refl _), hx.out, imarks_snoc, ic_snoc]
        simp [show k < xs.length by omega]
      clear hst hx hown hg
      go_wp2
      exact ⟨⟨k + 1, _, by omega, by go_num, by go_num, HX, HO2.out, HG2.out⟩, by simp [intOf]; omega⟩
    · obtain rfl : k = n := by omega
      have HX : Hid (xs = ic (imarks k0 k)) := by
        show _ = _
        have := hx.out
        rw [List.take_of_length_le (by omega)] at this
        exact this
      have HO := hideIt hown
      clear hx hown
      go_wp2
      go_ret
      exact ⟨rfl, by rw [← HX.out]; exact HO.out, hg⟩

set_option maxHeartbeats 1000000 in
theorem heldIntS_any (n k0 : Nat) (a : Option Addr) (c : Nat) (hn : n ≤ 1048576) (hk1 : k0 ≤ 10000000) (w : World) (h : Is w w.heap.size a n (imarks k0 n)) :
    Calls Try.prog 82 #[.slice a n c, .int .i64 (k0 : Int)] w fun e w' => e = .returned (.int .i64 ((k0 : Int) + (n : Int))) ∧ w' = w := by
  obtain ⟨_, hrow⟩ := h
  have HR := hideIt hrow
  clear hrow
  go_enter Try.func82, Try.ntmps82
  go_wp2
  go_loopw [1, 5] (fun kk i wr => ∃ j : Nat, j ≤ n ∧ i = .int .i64 (j : Int) ∧ kk = .int .i64 ((k0 : Int) + (j : Int)) ∧ wr = w) (fun _ i _ => n - (intOf i).toNat)
  case atStart => exact ⟨0, by omega, rfl, by simp, rfl⟩
  case round =>
    obtain ⟨j, hj, rfl, rfl, hw⟩ := hrel
    have hw' := hw.symm
    subst hw'
    clear hw
    by_cases hlt : j < n
    · rcases HR.out with hz | ⟨b, off, rfl, hbl, hc⟩
      · omega
      · have c0 := hc j _ (imarks_at k0 n j hlt)
        have b1 : (0 : Int) ≤ (j : Int) := by omega
        have b2 : (j : Int) < (n : Int) := by omega
        have d1 : ((k0 : Int) + (j : Int) != (k0 : Int) + (j : Int)) = false := by simp
        clear hc
        go_wp2
        exact ⟨⟨j + 1, by omega, by go_num, by go_num, by first | trivial | rfl⟩, by simp [intOf]; omega⟩
    · obtain rfl : j = n := by omega
      go_wp2
      go_ret
      exact ⟨rfl, rfl⟩

/-- the answer of Around, Labels: a list of the answer's own -/
def IAns (w : World) (ls : List Int) (e : Ending) (w' : World) : Prop :=
  ∃ a m c, e = .returned (.slice a m c) ∧ w'.ownsRow w.heap.size 3 1 (.slice a m c) m (ic ls) ∧ Below w.heap.size w w'

/-- a list that is ours, in blocks lo .. hi -/
structure RBox (u : World) (lo hi : Nat) (a : Option Addr) (m c : Nat) (ls : List Int) : Prop where
  own : u.ownsRow lo 3 1 (.slice a m c) m (ic ls)
  row : ∀ g, (Value.slice a m c).ownBlock = some g → g < hi
  there : hi ≤ u.heap.size
theorem RBox.rng {u v : World} {lo hi l2 h2 : Nat} {a : Option Addr} {m c : Nat} {ls : List Int} (h : RBox u lo hi a m c ls) (hr : Rng l2 h2 u v) (ho : hi ≤ l2 ∨ h2 ≤ lo) : RBox v lo hi a m c ls := by
  have hth := h.there
  refine ⟨⟨h.own.1, ?_⟩, h.row, Nat.le_trans hth hr.size⟩
  rcases h.own.2 with h3 | ⟨g, cap, cur, hv, hg, hcur, hrest⟩
  · exact .inl h3
  · have hgh := h.row g (by rw [hv]; rfl)
    refine .inr ⟨g, cap, cur, hv, hg, ?_, hrest⟩
    rw [hr.block g (by omega) (by omega)]
    exact hcur
theorem RBox.up {u v : World} {lo hi : Nat} {a : Option Addr} {m c : Nat} {ls : List Int} (h : RBox u lo hi a m c ls) (hb : Below u.heap.size u v) : RBox v lo hi a m c ls :=
  h.rng (l2 := hi) (h2 := hi) (Rng.of_below hb) (.inl (Nat.le_refl _))
theorem RBox.is {u : World} {lo hi : Nat} {a : Option Addr} {m c : Nat} {ls : List Int} (h : RBox u lo hi a m c ls) : Is u u.heap.size a m ls := Is_of_own h.own
theorem RBox.len {u : World} {lo hi : Nat} {a : Option Addr} {m c : Nat} {ls : List Int} (h : RBox u lo hi a m c ls) : ls.length = m := by
  have := h.own.1; rw [ic_len] at this; omega
theorem RBox.laid {u : World} {lo : Nat} {a : Option Addr} {m c : Nat} {ls : List Int} (ho : u.ownsRow lo 3 1 (.slice a m c) m (ic ls)) : RBox u lo u.heap.size a m c ls :=
  ⟨ho, fun g hg => (ho.lt g hg).2, Nat.le_refl _⟩
theorem eqRB {u : World} {lo hi lo' hi' : Nat} {a a' : Option Addr} {m c m' c' : Nat} {ls : List Int} (h : RBox u lo hi a m c ls) (h' : RBox u lo' hi' a' m' c' ls) (hm : m ≤ 1048576) :
    Calls Try.prog 74 #[.slice a m c, .slice a' m' c'] u fun e v => e = .returned (.bool true) ∧ Below u.heap.size u v := by
  have e : m' = m := by rw [← h.len, ← h'.len]
  subst e
  exact eqIntS_same ls m' a a' c c' hm u h.is h'.is
theorem markRB {u : World} {lo hi : Nat} {a : Option Addr} {m c : Nat} {ls : List Int} (h : RBox u lo hi a m c ls) (k0 : Nat) (hm : m ≤ 1048576) (h1 : k0 ≤ 10000000) :
    Calls Try.prog 81 #[.slice a m c, .int .i64 (k0 : Int)] u fun e v => e = .returned (.int .i64 ((k0 : Int) + (m : Int))) ∧ RBox v lo hi a m c (imarks k0 m) ∧ Rng lo hi u v := by
  have hth := h.there
  rcases h.own.2 with ⟨hv, hm0⟩ | ⟨g, cap, cur, hv, hg, hcur, hrest⟩
  · subst hm0
    refine (markIntS_zero a c (k0 : Int) u).mono fun e v ⟨he, hb⟩ => ⟨by rw [he]; simp, ?_, by rw [hb]; exact Rng.of_below (Below.refl _ _)⟩
    have hg0 : ls = [] := List.length_eq_zero_iff.1 h.len
    subst hg0
    rw [hb]
    exact h
  · have hv' := hv
    simp at hv'
    obtain ⟨rfl, rfl⟩ := hv'
    have hgh := h.row g rfl
    refine (markIntS_any lo g c m k0 _ hm h1 u h.own).mono fun e v ⟨he, ho, hgr⟩ => ⟨he, ⟨ho, h.row, Nat.le_trans hth hgr.size⟩, Rng.of_grown hgr hg hgh⟩
theorem heldRB {u : World} {lo hi : Nat} {a : Option Addr} {m c : Nat} (k0 : Nat) (h : RBox u lo hi a m c (imarks k0 m)) (hm : m ≤ 1048576) (h1 : k0 ≤ 10000000) :
    Calls Try.prog 82 #[.slice a m c, .int .i64 (k0 : Int)] u fun e v => e = .returned (.int .i64 ((k0 : Int) + (m : Int))) ∧ v = u :=
  heldIntS_any m k0 a c hm h1 u h.is
set_option maxHeartbeats 1000000 in
theorem toIntS_any (ls : List Int) (n : Nat) (a : Option Addr) (cap : Nat) (hn : n ≤ 1048576) (w : World) (h : Is w w.heap.size a n ls) :
    Calls Try.prog 73 #[.slice a n cap] w fun e w' => ∃ g, e = .returned (.slice (some ⟨g, 0, none⟩) n n) ∧ w'.ownsRow w.heap.size 3 1 (.slice (some ⟨g, 0, none⟩) n n) n (ic ls) ∧ Below w.heap.size w w' := by
  obtain ⟨i0, hi, hz0, hz1, hz2⟩ := info_parts info3i
  obtain ⟨hlen, hrow⟩ := h
  have hmk : ∀ u : World, (Instr.makeSlice 35 (.int .i64 (n : Int)) (.int .i64 (n : Int))).run Try.prog u =
      .ok (.slice (some ⟨u.heap.size, 0, none⟩) n n) (u.alloc (.cells (madeCells #[.int .i64 0] n) 3)) := fun u => by
    have h := run_make (P := Try.prog) u 35 3 i0 _ Try.underlying35 hi hz0 .i64 .i64 (n : Int) (n : Int) (by omega) (by omega) (by rw [hz2]; omega) (by omega)
    rw [Int.toNat_natCast] at h
    simpa [hz1, Value.cells] using h
  have HR := hideIt hrow
  clear hrow
  go_enter Try.func73, Try.ntmps73
  go_wp2
  go_loopw [4] (fun i wr => ∃ (k : Nat) (xs : List Value), k ≤ n ∧ i = .int .i64 (k : Int) ∧ Hid (xs.take k = ic (ls.take k)) ∧ wr.ownsRow w.heap.size 3 1 (.slice (some ⟨w.heap.size, 0, none⟩) n n) n xs ∧ Below w.heap.size w wr)
    (fun i _ => n - (intOf i).toNat)
  case atStart => exact ⟨0, _, by omega, rfl, by show _ = _; simp [ic], World.ownsRow_lit (base := w.heap.size) (e := 3) (size := 1) w (madeCells #[.int .i64 0] n) n (Nat.le_refl _) (by unfold maxLen; omega) (by simp [madeCells]), (Below.refl _ _).alloc (Nat.le_refl _) _⟩
  case round =>
    obtain ⟨k, xs, hk, rfl, hx, hown, hb⟩ := hrel
    have hl3 : xs.length = n * 1 := hown.1
    by_cases hlt : k < n
    · rcases HR.out with hz | ⟨b, off, rfl, hbl, hc⟩
      · omega
      · obtain ⟨f, hf⟩ : ∃ f, ls[k]? = some f := ⟨ls[k]'(by omega), List.getElem?_eq_getElem (by omega)⟩
        have e0 : wr.cell? ⟨b, off + k, none⟩ = some (.int .i64 f) := by rw [hb.cell hbl]; exact hc k f hf
        have b1 : (0 : Int) ≤ (k : Int) := by omega
        have b2 : (k : Int) < (n : Int) := by omega
        have HTk := hideIt (take_snocF ls k f hf)
        have f0 := hown.frozenAt k
        have x0 : wr.cell? ⟨w.heap.size, k, none⟩ = some (xs[k]'(by omega)) := by rw [hown.cellAt k (by omega)]; exact List.getElem?_eq_getElem (by omega)
        clear hc hf
        go_wp2
        refine ⟨⟨k + 1, xs.set k (.int .i64 f), by omega, by go_num, ?_, (hown.stored k _).1, hb.setCell (Nat.le_refl _) _⟩, by simp [intOf]; omega⟩
        show _ = _
        rw [HTk.out, List.take_add_one, List.take_set_of_le (Nat.le_refl _), hx.out]
        simp [ic, show k < xs.length by omega]
    · have e : ls.take k = ls := List.take_of_length_le (by omega)
      have HX : Hid (xs = ic ls) := by
        show _ = _
        have := hx.out
        rw [e, List.take_of_length_le (by omega)] at this
        exact this
      have HO := hideIt hown
      clear hx e hown hl3
      go_wp2
      go_ret
      exact ⟨w.heap.size, rfl, by rw [← HX.out]; exact HO.out, hb⟩

end Go.Proofs.Ytkhhagjcmbbdpaa
namespace Go.Proofs.Ytkhhagjcmbbdpaa
open Go.RowKit Vt

theorem lbAt_out {ls : List Int} {i : Nat} {x : Int} (h : ls[i]? = some x) (hx : ¬ (0 ≤ x ∧ x ≤ (i : Int))) : lbAt ls i = false := by
  unfold lbAt
  rw [h]
  dsimp only
  rw [decide_eq_false hx]
  rfl
theorem lbAt_in {ls : List Int} {i x : Nat} {y : Int} (h : ls[i]? = some (x : Int)) (hx : x ≤ i) (hy : ls[x]? = some y) : lbAt ls i = decide (y = (x : Int)) := by
  unfold lbAt
  rw [h]
  dsimp only
  rw [decide_eq_true (by omega), Int.toNat_natCast, hy, Bool.true_and]
  simp

set_option maxRecDepth 100000 in
set_option maxHeartbeats 4000000 in
theorem l09Labels_any (n : Int) (ls : List Int) (k : Nat) (a : Option Addr) (c : Nat) (hk : k ≤ 1048576) (w : World) (h : Is w w.heap.size a k ls) :
    Calls Try.prog 55 #[.int .i64 n, .slice a k c] w fun e w' => e = .returned (.bool (lB n ls)) ∧ Below w.heap.size w w' := by
  obtain ⟨hlen, hrow⟩ := h
  by_cases hn : (k : Int) = n
  · subst hn
    have HB : Hid (lB (k : Int) ls = lbs ls) := by show _ = _; unfold lB; rw [decide_eq_true (by omega)]; rfl
    have HR := hideIt hrow
    have e0 : ((k : Int) != (k : Int)) = false := by simp
    clear hrow
    go_enter Try.func55, Try.ntmps55
    go_wp2
    go_loopw [5] (fun i wr => ∃ j : Nat, j ≤ k ∧ i = .int .i64 (j : Int) ∧ Hid (∀ t, t < j → lbAt ls t = true) ∧ Below w.heap.size w wr) (fun i _ => k - (intOf i).toNat)
    case atStart => exact ⟨0, by omega, rfl, fun t ht => by omega, Below.refl _ _⟩
    case round =>
      obtain ⟨j, hj, rfl, hck, hb⟩ := hrel
      by_cases hlt : j < k
      · rcases HR.out with hz | ⟨b, off, rfl, hbl, hc⟩
        · omega
        · obtain ⟨x, hx⟩ : ∃ x, ls[j]? = some x := ⟨ls[j]'(by omega), List.getElem?_eq_getElem (by omega)⟩
          have c0 : wr.cell? ⟨b, off + j, none⟩ = some (.int .i64 x) := by rw [hb.cell hbl]; exact hc j x hx
          have b1 : (0 : Int) ≤ (j : Int) := by omega
          have b2 : (j : Int) < (k : Int) := by omega
          by_cases hin : 0 ≤ x ∧ x ≤ (j : Int)
          · obtain ⟨xn, rfl⟩ := Int.eq_ofNat_of_zero_le hin.1
            obtain ⟨y, hy⟩ : ∃ y, ls[xn]? = some y := ⟨ls[xn]'(by omega), List.getElem?_eq_getElem (by omega)⟩
            have c1 : wr.cell? ⟨b, off + xn, none⟩ = some (.int .i64 y) := by rw [hb.cell hbl]; exact hc xn y hy
            have HA := hideIt (lbAt_in hx (by omega) hy)
            have r1 : decide ((0 : Int) ≤ (xn : Int) ∧ (xn : Int) ≤ (j : Int)) = true := by simpa using hin
            have b3 : (0 : Int) ≤ (xn : Int) := by omega
            have b4 : (xn : Int) < (k : Int) := by omega
            have HJ : Hid (∀ W : World, Calls Try.prog 46 #[.int .i64 (xn : Int), .int .i64 0, .int .i64 (j : Int)] W fun e w' => e = .returned (.bool true) ∧ w' = W) := fun W => by
              have := l01In_any (xn : Int) 0 (j : Int) W
              rw [r1] at this
              exact this
            by_cases hyx : y = (xn : Int)
            · have r2 : (y != (xn : Int)) = false := by simpa using hyx
              have HY : Hid (lbAt ls j = true) := by show _ = _; rw [HA.out, hyx]; simp
              clear hc hx hy HA hyx
              go_wp2
              go_quiet ((go_at_call 46; exact Calls.quiet_of_same (HJ.out _)))
              go_wp2
              refine ⟨⟨j + 1, by omega, by go_num, fun t ht => ?_, ?_⟩, by simp [intOf]; omega⟩
              · by_cases h9 : t = j
                · subst h9; exact HY.out
                · exact hck.out t (by omega)
              · first | exact hb.drewN _ | exact below_drewN hb _ | exact hb
            · have r2 : (y != (xn : Int)) = true := by simpa using hyx
              have HN := hideIt (lbs_no (by omega : j < ls.length) (show lbAt ls j = false by rw [HA.out]; simpa using hyx))
              clear hc hx hy HA hyx hck
              go_wp2
              go_quiet ((go_at_call 46; exact Calls.quiet_of_same (HJ.out _)))
              go_wp2
              go_ret
              exact ⟨by rw [HB.out, HN.out]; rfl, by first | exact hb.drewN _ | exact below_drewN hb _ | exact hb⟩
          · have r1 : decide ((0 : Int) ≤ x ∧ x ≤ (j : Int)) = false := by simpa using hin
            have HN := hideIt (lbs_no (by omega : j < ls.length) (lbAt_out hx hin))
            have HJ : Hid (∀ W : World, Calls Try.prog 46 #[.int .i64 x, .int .i64 0, .int .i64 (j : Int)] W fun e w' => e = .returned (.bool false) ∧ w' = W) := fun W => by
              have := l01In_any x 0 (j : Int) W
              rw [r1] at this
              exact this
            clear hc hx hck hin
            go_wp2
            go_quiet ((go_at_call 46; exact Calls.quiet_of_same (HJ.out _)))
            go_wp2
            go_ret
            exact ⟨by rw [HB.out, HN.out]; rfl, by first | exact hb.drewN _ | exact below_drewN hb _ | exact hb⟩
      · have HY := hideIt (lbs_yes (ls := ls) (fun t ht => hck.out t (by omega)))
        clear hck
        go_wp2
        go_ret
        exact ⟨by rw [HB.out, HY.out]; rfl, hb⟩
  · have e0 : ((k : Int) != n) = true := by simpa using hn
    have HB : Hid (lB n ls = false) := by show _ = _; unfold lB; rw [decide_eq_false (by omega)]; rfl
    clear hrow
    go_enter Try.func55, Try.ntmps55
    go_wp2
    go_ret
    exact ⟨by rw [HB.out]; rfl, Below.refl _ _⟩

set_option maxRecDepth 100000 in
set_option maxHeartbeats 4000000 in
theorem labelsOk_any (n : Int) (ls : List Int) (k : Nat) (a : Option Addr) (c : Nat) (hk : k ≤ 1048576) (w : World) (h : Is w w.heap.size a k ls) :
    Calls Try.prog 57 #[.int .i64 n, .slice a k c] w fun e w' => e = .returned (.bool (lB n ls)) ∧ Below w.heap.size w w' := by
  obtain ⟨hlen, hrow⟩ := h
  by_cases hn : (k : Int) = n
  · subst hn
    have HB : Hid (lB (k : Int) ls = lbs ls) := by show _ = _; unfold lB; rw [decide_eq_true (by omega)]; rfl
    have HR := hideIt hrow
    have e0 : ((k : Int) != (k : Int)) = false := by simp
    clear hrow
    go_enter Try.func57, Try.ntmps57
    go_wp2
    go_loopw [13] (fun i wr => ∃ j : Nat, j ≤ k ∧ i = .int .i64 (j : Int) ∧ Hid (∀ t, t < j → lbAt ls t = true) ∧ Below w.heap.size w wr) (fun i _ => k - (intOf i).toNat)
    case atStart => exact ⟨0, by omega, rfl, fun t ht => by omega, Below.refl _ _⟩
    case round =>
      obtain ⟨j, hj, rfl, hck, hb⟩ := hrel
      by_cases hlt : j < k
      · rcases HR.out with hz | ⟨b, off, rfl, hbl, hc⟩
        · omega
        · obtain ⟨x, hx⟩ : ∃ x, ls[j]? = some x := ⟨ls[j]'(by omega), List.getElem?_eq_getElem (by omega)⟩
          have c0 : wr.cell? ⟨b, off + j, none⟩ = some (.int .i64 x) := by rw [hb.cell hbl]; exact hc j x hx
          have b1 : (0 : Int) ≤ (j : Int) := by omega
          have b2 : (j : Int) < (k : Int) := by omega
          by_cases hin : 0 ≤ x ∧ x ≤ (j : Int)
          · obtain ⟨xn, rfl⟩ := Int.eq_ofNat_of_zero_le hin.1
            obtain ⟨y, hy⟩ : ∃ y, ls[xn]? = some y := ⟨ls[xn]'(by omega), List.getElem?_eq_getElem (by omega)⟩
            have c1 : wr.cell? ⟨b, off + xn, none⟩ = some (.int .i64 y) := by rw [hb.cell hbl]; exact hc xn y hy
            have HA := hideIt (lbAt_in hx (by omega) hy)
            have r1 : decide ((xn : Int) < 0) = false := by simp
            have r3 : decide ((j : Int) < (xn : Int)) = false := by simp; omega
            have b3 : (0 : Int) ≤ (xn : Int) := by omega
            have b4 : (xn : Int) < (k : Int) := by omega
            by_cases hyx : y = (xn : Int)
            · have r2 : (y != (xn : Int)) = false := by simpa using hyx
              have HY : Hid (lbAt ls j = true) := by show _ = _; rw [HA.out, hyx]; simp
              clear hc hx hy HA hyx
              go_wp2
              refine ⟨⟨j + 1, by omega, by go_num, fun t ht => ?_, hb⟩, by simp [intOf]; omega⟩
              by_cases h9 : t = j
              · subst h9; exact HY.out
              · exact hck.out t (by omega)
            · have r2 : (y != (xn : Int)) = true := by simpa using hyx
              have HN := hideIt (lbs_no (by omega : j < ls.length) (show lbAt ls j = false by rw [HA.out]; simpa using hyx))
              clear hc hx hy HA hyx hck
              go_wp2
              go_ret
              exact ⟨by rw [HB.out, HN.out]; rfl, hb⟩
          · have HN := hideIt (lbs_no (by omega : j < ls.length) (lbAt_out hx hin))
            clear hc hx hck
            by_cases hneg : x < 0
            · have r1 : decide (x < 0) = true := by simpa using hneg
              clear hin
              go_wp2
              go_ret
              exact ⟨by rw [HB.out, HN.out]; rfl, hb⟩
            · have r1 : decide (x < 0) = false := by simpa using hneg
              have r3 : decide ((j : Int) < x) = true := by simp; omega
              clear hin
              go_wp2
              go_ret
              exact ⟨by rw [HB.out, HN.out]; rfl, hb⟩
      · have HY := hideIt (lbs_yes (ls := ls) (fun t ht => hck.out t (by omega)))
        clear hck
        go_wp2
        go_ret
        exact ⟨by rw [HB.out, HY.out]; rfl, hb⟩
  · have e0 : ((k : Int) != n) = true := by simpa using hn
    have HB : Hid (lB n ls = false) := by show _ = _; unfold lB; rw [decide_eq_false (by omega)]; rfl
    clear hrow
    go_enter Try.func57, Try.ntmps57
    go_wp2
    go_ret
    exact ⟨by rw [HB.out]; rfl, Below.refl _ _⟩

/-- an answer as a value -/
abbrev ansV (num : Int) (ok : Bool) (a : Option Addr) (k c : Nat) (a' : Option Addr) (k' c' : Nat) : Value := .agg #[.int .i64 num, .bool ok, .slice a k c, .slice a' k' c']
theorem Is.alloc {w : World} {a : Option Addr} {n : Nat} {ls : List Int} (h : Is w w.heap.size a n ls) (o : Obj) : Is (w.alloc o) (w.alloc o).heap.size a n ls := h.up (bel1 w o)

theorem aB_n {n : Int} {o : AnsV} (h : ¬ (1 ≤ n ∧ n ≤ 12)) : aB n o = false := by unfold aB; rw [decide_eq_false h]; rfl
theorem aB_num {n : Int} {o : AnsV} (h : ¬ (1 ≤ o.num ∧ o.num ≤ 100000)) : aB n o = false := by unfold aB; rw [decide_eq_false h]; simp
theorem aB_es {n : Int} {o : AnsV} (h : eOk n o.es = false) : aB n o = false := by unfold aB; rw [h]; simp
theorem aB_ls {n : Int} {o : AnsV} (h1 : 1 ≤ n ∧ n ≤ 12) (h2 : 1 ≤ o.num ∧ o.num ≤ 100000) (h3 : eOk n o.es = true) : aB n o = lB n o.ls := by unfold aB; rw [h3, decide_eq_true h1, decide_eq_true h2]; rfl
end Go.Proofs.Ytkhhagjcmbbdpaa
namespace Go.Proofs.Ytkhhagjcmbbdpaa
open Go.RowKit Vt

set_option maxRecDepth 100000 in
set_option maxHeartbeats 4000000 in
theorem sAnswerOk_any (n num : Int) (ok : Bool) (es : List EdgeV) (ls : List Int) (k : Nat) (a : Option Addr) (c : Nat) (hk : k ≤ 1048576) (k' : Nat) (a' : Option Addr) (c' : Nat) (hk' : k' ≤ 1048576) (w : World) (h : Es w w.heap.size a k es) (h' : Is w w.heap.size a' k' ls) :
    Calls Try.prog 20 #[.int .i64 n, ansV num ok a k c a' k' c'] w fun e w' => e = .returned (.bool (aB n ⟨num, ok, es, ls⟩)) ∧ Below w.heap.size w w' := by
  unfold ansV
  have HI := hideIt l01In_any
  have HE : Hid (Calls Try.prog 47 #[.int .i64 n, .slice a k c] (w.alloc (.cells #[.int .i64 num, .bool ok, .slice a k c, .slice a' k' c'] 37)) fun e w' => e = .returned (.bool (eOk n es)) ∧ Below w.heap.size w w' ∧ w'.cell? ⟨w.heap.size, 3, none⟩ = some (.slice a' k' c') ∧ Hid (Is w' w'.heap.size a' k' ls)) :=
    (l05Edges_any n es k a c hk (w.alloc (.cells #[.int .i64 num, .bool ok, .slice a k c, .slice a' k' c'] 37)) ((h.alloc (Nat.le_refl _) _).mono (by simp))).mono fun _ _ ⟨he, hb⟩ =>
      ⟨he, (bel1 _ _).trans (hb.mono (by simp)), by rw [hb.cell (by simp)]; simp, (h'.alloc _).up hb⟩
  have HL : Hid (∀ W, Is W W.heap.size a' k' ls → Calls Try.prog 55 #[.int .i64 n, .slice a' k' c'] W fun e w' => e = .returned (.bool (lB n ls)) ∧ Below W.heap.size W w') := fun W hW => l09Labels_any n ls k' a' c' hk' W hW
  have B0 : Hid (Below w.heap.size w (w.alloc (.cells #[.int .i64 num, .bool ok, .slice a k c, .slice a' k' c'] 37))) := bel1 _ _
  clear h h'
  by_cases h1 : 1 ≤ n ∧ n ≤ 12
  · have r1 : decide (1 ≤ n ∧ n ≤ 12) = true := by simpa using h1
    by_cases h2 : 1 ≤ num ∧ num ≤ 100000
    · have r2 : decide (1 ≤ num ∧ num ≤ 100000) = true := by simpa using h2
      cases hE : eOk n es with
      | true =>
        rw [hE] at HE
        have HB := hideIt (aB_ls (o := ⟨num, ok, es, ls⟩) h1 h2 hE)
        generalize lB n ls = r at HL HB
        go_enter Try.func20, Try.ntmps20
        go_wp2_with (first | (go_at_call 46; refine (HI.out _ _ _ _).mono ?_; rintro e w1 ⟨rfl, rfl⟩) | (go_at_call 47; refine HE.out.mono ?_; rintro e w2 ⟨rfl, hb2, q3, h2'⟩) | (go_at_call 55; refine (HL.out _ h2'.out).mono ?_; rintro e w3 ⟨rfl, hb3⟩))
        go_ret
        exact ⟨rett HB.out.symm, hb2.trans (hb3.mono hb2.size)⟩
      | false =>
        rw [hE] at HE
        have HB := hideIt (aB_es (o := ⟨num, ok, es, ls⟩) hE)
        go_enter Try.func20, Try.ntmps20
        go_wp2_with (first | (go_at_call 46; refine (HI.out _ _ _ _).mono ?_; rintro e w1 ⟨rfl, rfl⟩) | (go_at_call 47; refine HE.out.mono ?_; rintro e w2 ⟨rfl, hb2, q3, h2'⟩))
        go_ret
        exact ⟨rett HB.out.symm, hb2⟩
    · have r2 : decide (1 ≤ num ∧ num ≤ 100000) = false := by simpa using h2
      have HB := hideIt (aB_num (n := n) (o := ⟨num, ok, es, ls⟩) h2)
      clear HE HL
      go_enter Try.func20, Try.ntmps20
      go_wp2_with (first | (go_at_call 46; refine (HI.out _ _ _ _).mono ?_; rintro e w1 ⟨rfl, rfl⟩))
      go_ret
      exact ⟨rett HB.out.symm, B0.out⟩
  · have r1 : decide (1 ≤ n ∧ n ≤ 12) = false := by simpa using h1
    have HB := hideIt (aB_n (o := ⟨num, ok, es, ls⟩) h1)
    clear HE HL
    go_enter Try.func20, Try.ntmps20
    go_wp2_with (first | (go_at_call 46; refine (HI.out _ _ _ _).mono ?_; rintro e w1 ⟨rfl, rfl⟩))
    go_ret
    exact ⟨rett HB.out.symm, B0.out⟩

set_option maxRecDepth 100000 in
set_option maxHeartbeats 4000000 in
theorem iAnswerOk_any (n num : Int) (ok : Bool) (es : List EdgeV) (ls : List Int) (k : Nat) (a : Option Addr) (c : Nat) (hk : k ≤ 1048576) (k' : Nat) (a' : Option Addr) (c' : Nat) (hk' : k' ≤ 1048576) (w : World) (h : Es w w.heap.size a k es) (h' : Is w w.heap.size a' k' ls) :
    Calls Try.prog 21 #[.int .i64 n, ansV num ok a k c a' k' c'] w fun e w' => e = .returned (.bool (aB n ⟨num, ok, es, ls⟩)) ∧ Below w.heap.size w w' := by
  unfold ansV
  have HI := hideIt vertsOk_any
  have HJ := hideIt numOk_any
  have HE : Hid (Calls Try.prog 56 #[.int .i64 n, .slice a k c] (w.alloc (.cells #[.int .i64 num, .bool ok, .slice a k c, .slice a' k' c'] 37)) fun e w' => e = .returned (.bool (eOk n es)) ∧ Below w.heap.size w w' ∧ w'.cell? ⟨w.heap.size, 3, none⟩ = some (.slice a' k' c') ∧ Hid (Is w' w'.heap.size a' k' ls)) :=
    (edgesOk_any n es k a c hk (w.alloc (.cells #[.int .i64 num, .bool ok, .slice a k c, .slice a' k' c'] 37)) ((h.alloc (Nat.le_refl _) _).mono (by simp))).mono fun _ _ ⟨he, hb⟩ =>
      ⟨he, (bel1 _ _).trans (hb.mono (by simp)), by rw [hb.cell (by simp)]; simp, (h'.alloc _).up hb⟩
  have HL : Hid (∀ W, Is W W.heap.size a' k' ls → Calls Try.prog 57 #[.int .i64 n, .slice a' k' c'] W fun e w' => e = .returned (.bool (lB n ls)) ∧ Below W.heap.size W w') := fun W hW => labelsOk_any n ls k' a' c' hk' W hW
  have B0 : Hid (Below w.heap.size w (w.alloc (.cells #[.int .i64 num, .bool ok, .slice a k c, .slice a' k' c'] 37))) := bel1 _ _
  clear h h'
  by_cases h1 : 1 ≤ n ∧ n ≤ 12
  · have r1 : decide (1 ≤ n ∧ n ≤ 12) = true := by simpa using h1
    by_cases h2 : 1 ≤ num ∧ num ≤ 100000
    · have r2 : decide (1 ≤ num ∧ num ≤ 100000) = true := by simpa using h2
      cases hE : eOk n es with
      | true =>
        rw [hE] at HE
        have HB := hideIt (aB_ls (o := ⟨num, ok, es, ls⟩) h1 h2 hE)
        generalize lB n ls = r at HL HB
        go_enter Try.func21, Try.ntmps21
        go_wp2_with (first | (go_at_call 48; refine (HI.out _ _).mono ?_; rintro e w1 ⟨rfl, rfl⟩) | (go_at_call 49; refine (HJ.out _ _).mono ?_; rintro e w1 ⟨rfl, rfl⟩) | (go_at_call 56; refine HE.out.mono ?_; rintro e w2 ⟨rfl, hb2, q3, h2'⟩) | (go_at_call 57; refine (HL.out _ h2'.out).mono ?_; rintro e w3 ⟨rfl, hb3⟩))
        go_ret
        exact ⟨rett HB.out.symm, hb2.trans (hb3.mono hb2.size)⟩
      | false =>
        rw [hE] at HE
        have HB := hideIt (aB_es (o := ⟨num, ok, es, ls⟩) hE)
        go_enter Try.func21, Try.ntmps21
        go_wp2_with (first | (go_at_call 48; refine (HI.out _ _).mono ?_; rintro e w1 ⟨rfl, rfl⟩) | (go_at_call 49; refine (HJ.out _ _).mono ?_; rintro e w1 ⟨rfl, rfl⟩) | (go_at_call 56; refine HE.out.mono ?_; rintro e w2 ⟨rfl, hb2, q3, h2'⟩))
        go_ret
        exact ⟨rett HB.out.symm, hb2⟩
    · have r2 : decide (1 ≤ num ∧ num ≤ 100000) = false := by simpa using h2
      have HB := hideIt (aB_num (n := n) (o := ⟨num, ok, es, ls⟩) h2)
      clear HE HL
      go_enter Try.func21, Try.ntmps21
      go_wp2_with (first | (go_at_call 48; refine (HI.out _ _).mono ?_; rintro e w1 ⟨rfl, rfl⟩) | (go_at_call 49; refine (HJ.out _ _).mono ?_; rintro e w1 ⟨rfl, rfl⟩))
      go_ret
      exact ⟨rett HB.out.symm, B0.out⟩
  · have r1 : decide (1 ≤ n ∧ n ≤ 12) = false := by simpa using h1
    have HB := hideIt (aB_n (o := ⟨num, ok, es, ls⟩) h1)
    clear HE HL
    go_enter Try.func21, Try.ntmps21
    go_wp2_with (first | (go_at_call 48; refine (HI.out _ _).mono ?_; rintro e w1 ⟨rfl, rfl⟩) | (go_at_call 49; refine (HJ.out _ _).mono ?_; rintro e w1 ⟨rfl, rfl⟩))
    go_ret
    exact ⟨rett HB.out.symm, B0.out⟩
end Go.Proofs.Ytkhhagjcmbbdpaa
namespace Go.Proofs.Ytkhhagjcmbbdpaa
open Go.RowKit Vt

theorem ed_es {e : Prop} {t : TypeId} {w w' : World} {G : Nat} {s : ByteArray} {st : Option (List UInt8)} {v : Value} {m : Nat} (h : EdAns e t w w' G s st v m) :
    ∃ (a : Option Addr) (n c : Nat) (es : List EdgeV) (st' : Option (List UInt8)), v = .slice a n c ∧ n ≤ m ∧ EB8 es ∧ w'.ownsRow w.heap.size 78 2 (.slice a n c) n (ecells es) ∧ ER st es st' ∧ RdAt e t w' G s st' ∧ w.grownBy w' (some G) := by
  obtain ⟨⟨a, n, c, es, st', h1, h2, h3, h4, h5, h6⟩, h7⟩ := h
  exact ⟨a, n, c, es, st', h1, h2, h3, h4, h5, h6, h7⟩

theorem own_block {w : World} {B T S n cap : Nat} {a : Option Addr} {xs : List Value} {W : World} (h : w.ownsRow B T S (.slice a n cap) n xs) (hb : ∀ g, B ≤ g → g < w.heap.size → W.heap[g]? = w.heap[g]?) : W.ownsRow B T S (.slice a n cap) n xs := by
  refine ⟨h.1, h.2.imp id ?_⟩
  rintro ⟨g, cp, cur, hv, hg, hc, rest⟩
  exact ⟨g, cp, cur, hv, hg, by rw [hb g hg (Array.getElem?_eq_some_iff.1 hc).1]; exact hc, rest⟩

set_option maxRecDepth 100000 in
set_option maxHeartbeats 4000000 in
theorem iReadOrder_any (n : Int) (s : ByteArray) (hs : s.size ≤ 1048576) (w : World) :
    Calls Try.prog 13 #[.int .i64 n, .string s] w fun e w' => ∃ r, IsO n s.data.toList r ∧ OrdAns w w' e r := by
  have HN : Hid (∀ W G st, RdAt True 69 W G s st → Calls Try.prog 42 #[.pointer (some ⟨G, 0, none⟩)] W fun e w' => e = .returned (.int .i64 (((nx pN st).1 : Nat) : Int)) ∧ RdAt True 69 w' G s (nx pN st).2 ∧ W.grownBy w' (some G)) := fun W G st h => rNumber_any s hs W G st h
  have HO : Hid (∀ W G st, RdAt True 69 W G s st → Calls Try.prog 43 #[.pointer (some ⟨G, 0, none⟩)] W fun e w' => e = .returned (.int .i64 (((nx pO st).1 : Nat) : Int)) ∧ RdAt True 69 w' G s (nx pO st).2 ∧ W.grownBy w' (some G)) := fun W G st h => rOctet_any s hs W G st h
  have HE : Hid (∀ W G st, RdAt True 69 W G s st → Calls Try.prog 44 #[.pointer (some ⟨G, 0, none⟩)] W fun e w' => ∃ v, e = .returned v ∧ EdAns True 69 W w' G s st v 66) := fun W G st h => rEdges_any s hs W G st h
  have HD : Hid (∀ W G st, RdAt True 69 W G s st → Calls Try.prog 45 #[.pointer (some ⟨G, 0, none⟩)] W fun e w' => e = .returned (.bool (endB st)) ∧ RdAt True 69 w' G s st ∧ W.grownBy w' (some G)) := fun W G st h => rEnded_any s W G st h
  have R0 : RO True 69 w (((w.alloc (.cells (oc 0 0 none 0 0 0) 26)).alloc (.cells #[.string s, .int .i64 0, .bool false] 69)).alloc (.cells (oc 0 0 none 0 0 0) 26)) (w.heap.size + 1) (w.heap.size + 2) w.heap.size s (some s.data.toList) 0 0 none 0 0 0 := by
    refine ⟨⟨0, false, ?_, by omega, .inl ⟨rfl, by simp [from_]⟩⟩, ?_, ?_, (((Below.refl _ _).alloc (Nat.le_refl _) _).alloc (by simp) _).alloc (by simp; omega) _, by omega, by omega⟩
    · rw [Below.heap_alloc _ _ _ (by simp)]
      have := heap_alloc_new (w.alloc (.cells (oc 0 0 none 0 0 0) 26)) (.cells #[.string s, .int .i64 0, .bool false] 69)
      simpa using this
    · have := heap_alloc_new ((w.alloc (.cells (oc 0 0 none 0 0 0) 26)).alloc (.cells #[.string s, .int .i64 0, .bool false] 69)) (.cells (oc 0 0 none 0 0 0) 26)
      simpa using this
    · rw [Below.heap_alloc _ _ _ (by simp; omega), Below.heap_alloc _ _ _ (by simp)]
      exact heap_alloc_new w _
  go_enter Try.func13, Try.ntmps13
  go_wp2_with (go_at_call 42; refine (HN.out _ _ _ R0.rd).mono ?_; rintro e w1 ⟨rfl, hr1, hg1⟩; refine Hid.out ?_)
  refine (show ∀ {p : Prop}, p → Hid p from fun h => h) ?_
  have R1 := R0.call hr1 hg1
  clear R0 hr1 hg1
  obtain ⟨c0, _, _, _⟩ := R1.cells
  have f0 := R1.frozen 0
  have R2 := R1.set 0 (.int .i64 (((nx pN (some s.data.toList)).1 : Nat) : Int)) rfl
  clear R1
  go_wp2_with (go_at_call 43; refine (HO.out _ _ _ R2.rd).mono ?_; rintro e w3 ⟨rfl, hr3, hg3⟩; refine Hid.out ?_)
  refine (show ∀ {p : Prop}, p → Hid p from fun h => h) ?_
  have R3 := R2.call hr3 hg3
  clear R2 hr3 hg3 c0 f0
  obtain ⟨_, c1, _, _⟩ := R3.cells
  have f1 := R3.frozen 1
  have R4 := R3.set 1 (.int .i64 (((nx pO (nx pN (some s.data.toList)).2).1 : Nat) : Int)) rfl
  clear R3
  go_wp2_with (go_at_call 42; refine (HN.out _ _ _ R4.rd).mono ?_; rintro e w5 ⟨rfl, hr5, hg5⟩; refine Hid.out ?_)
  refine (show ∀ {p : Prop}, p → Hid p from fun h => h) ?_
  have R5 := R4.call hr5 hg5
  clear R4 hr5 hg5 c1 f1
  obtain ⟨_, _, _, c3⟩ := R5.cells
  have f3 := R5.frozen 3
  have R6 := R5.set 3 (.int .i64 (((nx pN (nx pO (nx pN (some s.data.toList)).2).2).1 : Nat) : Int)) rfl
  clear R5
  go_wp2_with (go_at_call 44; refine (HE.out _ _ _ R6.rd).mono ?_; rintro e w7 ⟨v7, rfl, hA7⟩; refine Hid.out ?_)
  refine (show ∀ {p : Prop}, p → Hid p from fun h => h) ?_
  obtain ⟨a, k, c, es, st4, rfl, hk, hby, hown, hER, hr7, hg7⟩ := ed_es hA7
  have R7 := R6.call hr7 hg7
  have hz6 := R6.lt
  have hge6 := R6.bel.size
  clear R6 hr7 hg7 hA7 c3 f3
  obtain ⟨_, _, c2, _⟩ := R7.cells
  have f2 := R7.frozen 2
  have R8 := R7.set 2 (.slice a k c) rfl
  have own8 := own_block (W := w7.setCell ⟨w.heap.size + 2, 2, none⟩ (.slice a k c)) hown (fun g hg _ => heap_setCell_other _ _ _ _ (by intro h; simp at h; have := hz6.2.1; omega))
  clear R7 hown
  generalize hq1 : (((nx pN (some s.data.toList)).1 : Nat) : Int) = num at *
  generalize hq2 : (((nx pO (nx pN (some s.data.toList)).2).1 : Nat) : Int) = op at *
  generalize hq3 : (((nx pN (nx pO (nx pN (some s.data.toList)).2).2).1 : Nat) : Int) = v at *
  have HCh : Hid (Ch s.data.toList ⟨num, op, es, v⟩ st4) := ⟨_, _, _, hq1.symm, rfl, hq2.symm, rfl, hq3.symm, rfl, hER⟩
  clear hq1 hq2 hq3 hER
  generalize (w5.setCell ⟨w.heap.size + 2, 3, none⟩ (.int .i64 v)).heap.size = B at own8 hz6 hge6
  have own8 := hideIt own8
  go_wp2_with (go_at_call 45; refine (HD.out _ _ _ R8.rd).mono ?_; rintro e w9 ⟨rfl, hr9, hg9⟩; refine Hid.out ?_)
  refine (show ∀ {p : Prop}, p → Hid p from fun h => h) ?_
  have R9 := R8.call hr9 hg9
  have own9 : Hid (w9.ownsRow B 78 2 (.slice a k c) k (ecells es)) := own_block own8.out (fun g hg hlt => hg9.block g hlt (by simp; have := hz6.1; omega))
  clear R8 hr9 hg9 own8 c2 f2
  obtain ⟨q0, q1, q2, q3⟩ := R9.cells
  obtain ⟨r0, r1, r2, r3⟩ := R9.cellsR
  have g0 := R9.frozenR 0
  have g1 := R9.frozenR 1
  have g2 := R9.frozenR 2
  have g3 := R9.frozenR 3
  cases hE : endB st4 with
  | false =>
    have HI : Hid (IsO n s.data.toList none) := IsO.no HCh.out (.inl (fun h => by rw [(endB_iff st4).2 h] at hE; cases hE))
    have HB := hideIt R9.bel
    clear R9 hE q0 q1 q2 q3
    go_wp2
    refine bodyPost_ret (v := .tuple #[ordV 0 0 none 0 0 0, .bool false]) (by simp [results, Try.results13, go_sem, r0, r1, r2, r3]) rfl ⟨none, HI.out, none, 0, 0, rfl, ⟨rfl, .inl ⟨rfl, rfl⟩⟩, by omega, ?_⟩
    exact (((HB.out.setCell (Nat.le_refl _) _).setCell (Nat.le_refl _) _).setCell (Nat.le_refl _) _).setCell (Nat.le_refl _) _
  | true =>
    have hE := (endB_iff st4).1 hE
    subst hE
    have HOk := hideIt (iOrderOk_any n num op es v k a c (by omega) w9 (Es_of_own own9.out))
    unfold ordV at HOk
    cases hB : oB n ⟨num, op, es, v⟩ with
    | false =>
      rw [hB] at HOk
      have HI : Hid (IsO n s.data.toList none) := IsO.no HCh.out (.inr hB)
      have HR := hideIt R9
      clear R9 hB r0 r1 r2 r3 g0 g1 g2 g3
      go_wp2_with (go_at_call 15; refine HOk.out.mono ?_; rintro e w10 ⟨rfl, hb10⟩; refine Hid.out ?_)
      refine (show ∀ {p : Prop}, p → Hid p from fun h => h) ?_
      have R10 := HR.out.below hb10
      obtain ⟨r0, r1, r2, r3⟩ := R10.cellsR
      have g0 := R10.frozenR 0
      have g1 := R10.frozenR 1
      have g2 := R10.frozenR 2
      have g3 := R10.frozenR 3
      have HB := hideIt R10.bel
      clear R10 q0 q1 q2 q3 hb10
      go_wp2
      refine bodyPost_ret (v := .tuple #[ordV 0 0 none 0 0 0, .bool false]) (by simp [results, Try.results13, go_sem, r0, r1, r2, r3]) rfl ⟨none, HI.out, none, 0, 0, rfl, ⟨rfl, .inl ⟨rfl, rfl⟩⟩, by omega, ?_⟩
      exact (((HB.out.setCell (Nat.le_refl _) _).setCell (Nat.le_refl _) _).setCell (Nat.le_refl _) _).setCell (Nat.le_refl _) _
    | true =>
      rw [hB] at HOk
      have HI : Hid (IsO n s.data.toList (some ⟨num, op, es, v⟩)) := IsO.yes HCh.out hB
      have HR := hideIt R9
      clear R9 hB r0 r1 r2 r3 g0 g1 g2 g3
      go_wp2_with (go_at_call 15; refine HOk.out.mono ?_; rintro e w10 ⟨rfl, hb10⟩; refine Hid.out ?_)
      refine (show ∀ {p : Prop}, p → Hid p from fun h => h) ?_
      have R10 := HR.out.below hb10
      have own10 : Hid (w10.ownsRow B 78 2 (.slice a k c) k (ecells es)) := own_block own9.out (fun g _ hlt => hb10.block g hlt)
      clear q0 q1 q2 q3
      obtain ⟨q0, q1, q2, q3⟩ := R10.cells
      obtain ⟨r0, r1, r2, r3⟩ := R10.cellsR
      have g0 := R10.frozenR 0
      have g1 := R10.frozenR 1
      have g2 := R10.frozenR 2
      have g3 := R10.frozenR 3
      have HB := hideIt R10.bel
      clear R10 hb10
      go_wp2
      refine bodyPost_ret (v := .tuple #[ordV num op a k c v, .bool true]) (by simp [results, Try.results13, go_sem, r0, r1, r2, r3]) rfl ⟨some ⟨num, op, es, v⟩, HI.out, a, k, c, rfl, ?_, by omega, ?_⟩
      · refine own_mono (B := B) ?_ hge6
        refine own_block own10.out (fun g hg hlt => ?_)
        have hne : g ≠ w.heap.size := by have := hz6.2.2; omega
        rw [heap_setCell_other _ _ _ _ (by exact hne), heap_setCell_other _ _ _ _ (by exact hne), heap_setCell_other _ _ _ _ (by exact hne), heap_setCell_other _ _ _ _ (by exact hne)]
      · exact (((HB.out.setCell (Nat.le_refl _) _).setCell (Nat.le_refl _) _).setCell (Nat.le_refl _) _).setCell (Nat.le_refl _) _
end Go.Proofs.Ytkhhagjcmbbdpaa
namespace Go.Proofs.Ytkhhagjcmbbdpaa
open Go.RowKit Vt

abbrev ac (num : Int) (ok : Bool) (a : Option Addr) (k c : Nat) (a' : Option Addr) (k' c' : Nat) : Array Value := #[.int .i64 num, .bool ok, .slice a k c, .slice a' k' c']
def szA (n m : Nat) : Int := if n + m ≤ 1048576 then 1048576 - (n : Int) - (m : Int) else -1

theorem szAnswer_any (num : Int) (ok : Bool) (n : Nat) (a : Option Addr) (c : Nat) (hn : n ≤ maxLen) (m : Nat) (a' : Option Addr) (c' : Nat) (hm : m ≤ maxLen) (w : World) :
    Calls Try.prog 30 #[ansV num ok a n c a' m c', .int .i64 1048576] w fun e w' => e = .returned (.int .i64 (szA n m)) ∧ Below w.heap.size w w' := by
  unfold maxLen at hn hm
  unfold ansV szA
  by_cases g : n ≤ 1048576
  · have d1 : decide (1048576 - (n : Int) < 0) = false := by simp; omega
    by_cases g2 : n + m ≤ 1048576
    · rw [if_pos g2]
      have d2 : decide (1048576 - (n : Int) - (m : Int) < 0) = false := by simp; omega
      go_enter Try.func30, Try.ntmps30
      go_wp2
      go_ret
      exact ⟨rfl, bel1 _ _⟩
    · rw [if_neg g2]
      have d2 : decide (1048576 - (n : Int) - (m : Int) < 0) = true := by simp; omega
      go_enter Try.func30, Try.ntmps30
      go_wp2
      go_ret
      exact ⟨rfl, bel1 _ _⟩
  · rw [if_neg (by omega)]
    have d1 : decide (1048576 - (n : Int) < 0) = true := by simp; omega
    go_enter Try.func30, Try.ntmps30
    go_wp2
    go_ret
    exact ⟨rfl, bel1 _ _⟩

theorem own_up10 {w w' : World} {B e s n : Nat} {v : Value} {xs : List Value} (h : w.ownsRow B e s v n xs) (hb : Below w.heap.size w w') : w'.ownsRow B e s v n xs := by
  refine ⟨h.1, h.2.imp id ?_⟩
  rintro ⟨g, cap, cur, hv, hg, hc, rest⟩
  exact ⟨g, cap, cur, hv, hg, by rw [hb.block g (Array.getElem?_eq_some_iff.1 hc).1]; exact hc, rest⟩

set_option maxHeartbeats 1000000 in
theorem toAnswer_any (num : Int) (ok : Bool) (fs : List EdgeV) (ls : List Int) (n : Nat) (a : Option Addr) (cap : Nat) (hn : n ≤ 1048576) (m : Nat) (a' : Option Addr) (cap' : Nat) (hm : m ≤ 1048576) (w : World) (hfs : Es w w.heap.size a n fs) (hls : Is w w.heap.size a' m ls) :
    Calls Try.prog 31 #[ansV num ok a n cap a' m cap'] w fun e w' => ∃ g g', e = .returned (ansV num ok (some ⟨g, 0, none⟩) n n (some ⟨g', 0, none⟩) m m) ∧ w'.ownsRow w.heap.size 78 2 (.slice (some ⟨g, 0, none⟩) n n) n (ecells fs) ∧ w'.ownsRow w.heap.size 3 1 (.slice (some ⟨g', 0, none⟩) m m) m (ic ls) ∧ Below w.heap.size w w' := by
  unfold ansV
  have hb3 := bel3 w (.cells #[.int .i64 num, .bool ok, .slice a n cap, .slice a' m cap'] 55) (.cells #[.int .i64 0, .bool false, .slice none 0 0, .slice none 0 0] 37) (.cells #[.int .i64 num, .bool ok, .slice none 0 0, .slice none 0 0] 37)
  have HT := hideIt (toEdgeS_any fs n a cap hn _ (hfs.up hb3))
  have HI : Hid (∀ W, Below w.heap.size w W → Calls Try.prog 73 #[.slice a' m cap'] W fun e w' => ∃ g, e = .returned (.slice (some ⟨g, 0, none⟩) m m) ∧ w'.ownsRow W.heap.size 3 1 (.slice (some ⟨g, 0, none⟩) m m) m (ic ls) ∧ Below W.heap.size W w') := fun W hW => toIntS_any ls m a' cap' hm W (hls.up hW)
  have HB3 := hideIt hb3
  clear hfs hls hb3
  go_enter Try.func31, Try.ntmps31
  go_wp2_with (go_at_call 70; refine HT.out.mono ?_; rintro e w1 ⟨g, rfl, hown, hb1⟩; refine Hid.out ?_)
  refine (show ∀ {p : Prop}, p → Hid p from fun h => h) ?_
  obtain ⟨hc, hf⟩ := bcell hb1
  have hgl := hown.lt g rfl
  have hz := hb1.size
  simp at hz hgl
  have hB1 := HB3.out.trans (hb1.mono (by simp; omega))
  have hx : w1.heap[w.heap.size]? = some (.cells #[.int .i64 num, .bool ok, .slice a n cap, .slice a' m cap'] 55 (0, 0)) := by
    rw [hb1.block _ (by simp; omega), Below.heap_alloc _ _ _ (by simp; omega), Below.heap_alloc _ _ _ (by simp)]
    exact heap_alloc_new w _
  have x0 : w1.cell? ⟨w.heap.size, 3, none⟩ = some (.slice a' m cap') := by rw [cell_of_row w1 _ 3 _ _ _ hx]; rfl
  have hB2 : Below w.heap.size w (w1.setCell ⟨w.heap.size + 1 + 1, 2, none⟩ (.slice (some ⟨g, 0, none⟩) n n)) := hB1.setCell (by simp; omega) _
  have hb2 : w1.heap[w.heap.size + 1 + 1]? = some (.cells #[.int .i64 num, .bool ok, .slice none 0 0, .slice none 0 0] 37 (0, 0)) := by
    rw [hb1.block _ (by simp)]
    have := heap_alloc_new ((w.alloc (.cells #[.int .i64 num, .bool ok, .slice a n cap, .slice a' m cap'] 55)).alloc (.cells #[.int .i64 0, .bool false, .slice none 0 0, .slice none 0 0] 37)) (.cells #[.int .i64 num, .bool ok, .slice none 0 0, .slice none 0 0] 37)
    simpa using this
  have hr2 : w1.heap[w.heap.size + 1]? = some (.cells #[.int .i64 0, .bool false, .slice none 0 0, .slice none 0 0] 37 (0, 0)) := by
    rw [hb1.block _ (by simp), Below.heap_alloc _ _ _ (by simp)]
    have := heap_alloc_new (w.alloc (.cells #[.int .i64 num, .bool ok, .slice a n cap, .slice a' m cap'] 55)) (.cells #[.int .i64 0, .bool false, .slice none 0 0, .slice none 0 0] 37)
    simpa using this
  have y2 : w1.cell? ⟨w.heap.size + 1 + 1, 2, none⟩ = some (.slice none 0 0) := by rw [cell_of_row w1 _ 2 _ _ _ hb2]; rfl
  have z2 : w1.frozen? ⟨w.heap.size + 1 + 1, 2, none⟩ = false := frozen_of_row w1 _ 2 _ _ hb2
  have hown2 := own_block (W := w1.setCell ⟨w.heap.size + 1 + 1, 2, none⟩ (.slice (some ⟨g, 0, none⟩) n n)) hown (fun q hq _ => heap_setCell_other _ _ _ _ (by simp at hq ⊢; omega))
  have hb22 : (w1.setCell ⟨w.heap.size + 1 + 1, 2, none⟩ (.slice (some ⟨g, 0, none⟩) n n)).heap[w.heap.size + 1 + 1]? = some (.cells #[.int .i64 num, .bool ok, .slice (some ⟨g, 0, none⟩) n n, .slice none 0 0] 37 (0, 0)) := by
    rw [heap_setCell_same w1 _ 2 _ _ _ hb2]; rfl
  have hr22 : (w1.setCell ⟨w.heap.size + 1 + 1, 2, none⟩ (.slice (some ⟨g, 0, none⟩) n n)).heap[w.heap.size + 1]? = some (.cells #[.int .i64 0, .bool false, .slice none 0 0, .slice none 0 0] 37 (0, 0)) := by
    rw [heap_setCell_other _ _ _ _ (by simp)]; exact hr2
  have HW2 := hideIt hown2
  have HB2 := hideIt hB2
  have Hb22 := hideIt hb22
  have Hr22 := hideIt hr22
  have hz2 : (w1.setCell ⟨w.heap.size + 1 + 1, 2, none⟩ (.slice (some ⟨g, 0, none⟩) n n)).heap.size = w1.heap.size := by simp [World.setCell]
  clear hc hf hown hb1 HT hB1 hb2 hr2 hx hown2 hB2 hb22 hr22
  go_wp2_with (go_at_call 73; refine (HI.out _ HB2.out).mono ?_; rintro e w2 ⟨g', rfl, hown', hb2⟩; refine Hid.out ?_)
  refine (show ∀ {p : Prop}, p → Hid p from fun h => h) ?_
  have hbx : w2.heap[w.heap.size + 1 + 1]? = some (.cells #[.int .i64 num, .bool ok, .slice (some ⟨g, 0, none⟩) n n, .slice none 0 0] 37 (0, 0)) := by
    rw [hb2.block _ (by rw [hz2]; omega)]; exact Hb22.out
  have hrx : w2.heap[w.heap.size + 1]? = some (.cells #[.int .i64 0, .bool false, .slice none 0 0, .slice none 0 0] 37 (0, 0)) := by
    rw [hb2.block _ (by rw [hz2]; omega)]; exact Hr22.out
  have e0 : w2.cell? ⟨w.heap.size + 1 + 1, 0, none⟩ = some (.int .i64 num) := by rw [cell_of_row w2 _ 0 _ _ _ hbx]; rfl
  have e1 : w2.cell? ⟨w.heap.size + 1 + 1, 1, none⟩ = some (.bool ok) := by rw [cell_of_row w2 _ 1 _ _ _ hbx]; rfl
  have e2 : w2.cell? ⟨w.heap.size + 1 + 1, 2, none⟩ = some (.slice (some ⟨g, 0, none⟩) n n) := by rw [cell_of_row w2 _ 2 _ _ _ hbx]; rfl
  have e3 : w2.cell? ⟨w.heap.size + 1 + 1, 3, none⟩ = some (.slice none 0 0) := by rw [cell_of_row w2 _ 3 _ _ _ hbx]; rfl
  have fz : w2.frozen? ⟨w.heap.size + 1 + 1, 3, none⟩ = false := frozen_of_row w2 _ 3 _ _ hbx
  have r0 : w2.cell? ⟨w.heap.size + 1, 0, none⟩ = some (.int .i64 0) := by rw [cell_of_row w2 _ 0 _ _ _ hrx]; rfl
  have r1 : w2.cell? ⟨w.heap.size + 1, 1, none⟩ = some (.bool false) := by rw [cell_of_row w2 _ 1 _ _ _ hrx]; rfl
  have r2 : w2.cell? ⟨w.heap.size + 1, 2, none⟩ = some (.slice none 0 0) := by rw [cell_of_row w2 _ 2 _ _ _ hrx]; rfl
  have r3 : w2.cell? ⟨w.heap.size + 1, 3, none⟩ = some (.slice none 0 0) := by rw [cell_of_row w2 _ 3 _ _ _ hrx]; rfl
  have s0 := frozen_of_row w2 _ 0 _ _ hrx
  have s1 := frozen_of_row w2 _ 1 _ _ hrx
  have s2 := frozen_of_row w2 _ 2 _ _ hrx
  have s3 := frozen_of_row w2 _ 3 _ _ hrx
  have HBx := hideIt (HB2.out.trans (hb2.mono HB2.out.size))
  have HOx := hideIt (own_up10 HW2.out hb2)
  have HIx := hideIt hown'
  clear hbx hrx hown' hb2 HW2 HB2 Hb22 Hr22 HI
  go_wp2
  refine bodyPost_ret (v := .agg #[.int .i64 num, .bool ok, .slice (some ⟨g, 0, none⟩) n n, .slice (some ⟨g', 0, none⟩) m m]) (by simp [results, Try.results31, go_sem, r0, r1, r2, r3]) rfl ⟨g, g', rfl, ?_, ?_, ?_⟩
  · refine own_mono (B := w.heap.size + 1 + 1 + 1) ?_ (by omega)
    have H0 : w2.ownsRow (w.heap.size + 1 + 1 + 1) 78 2 (.slice (some ⟨g, 0, none⟩) n n) n (ecells fs) := by have := HOx.out; simpa using this
    repeat refine own_setOther ?_ _ _ _ (by omega)
    exact H0
  · have hg' := (HIx.out.lt g' rfl).1
    rw [hz2] at hg'
    have H0 : w2.ownsRow w.heap.size 3 1 (.slice (some ⟨g', 0, none⟩) m m) m (ic ls) := own_mono HIx.out (by rw [hz2]; omega)
    repeat refine own_setOther ?_ _ _ _ (by omega)
    exact H0
  · have B3 := HBx.out
    repeat refine Below.setCell ?_ (by simp; try omega) _
    exact B3
end Go.Proofs.Ytkhhagjcmbbdpaa
