/- The walk of FnExactOrderText. What the specification's ReadVar answers, at every text and place: the number 'rv' and the place behind it, or nothing. The specification's reader of parts. The specification's reader of edges. The program's ReadOrder. The specification's ReadOrder. -/
import Derived.Test.YtkhhagjcmbbdpaaKRow10
import Derived.Test.YtkhhagjcmbbdpaaKSOu10
import Derived.Test.YtkhhagjcmbbdpaaKOr10
import Derived.WalkSmall
import Derived.Lib.Strings
import Derived.Deep.RegionHeld3
import Derived.Test.YtkhhagjcmbbdpaaKICmo10
namespace Go.Proofs.Ytkhhagjcmbbdpaa
open Go.RowKit Vt

/-- the world behind the law's boxes -/
def lwOrderText (w : World) (num op x : Int) (a : Option Addr) (m c : Nat) : World := w.alloc (.cells #[.int .i64 num, .int .i64 op, .slice a m c, .int .i64 x] 49)
set_option maxRecDepth 100000 in
set_option maxHeartbeats 4000000 in
theorem fnExactOrderText.walk (n : Int) (_hn : (Lit.int .i64 n).wf = true) (num op x : Int) (fs : List EdgeV) (m : Nat) (a : Option Addr) (c : Nat) (hm : m ≤ maxLen) (w : World) (h : Es w w.heap.size a m fs) :
    Calls Try.prog 6 #[.int .i64 n, .agg #[.int .i64 num, .int .i64 op, .slice a m c, .int .i64 x]] w fun e w' => e = .returned (.bool true) ∧ Below w.heap.size w w' := by
  have bel : Below w.heap.size w (lwOrderText w num op x a m c) := (Below.refl _ _).alloc (Nat.le_refl _) _
  have hsz : (lwOrderText w num op x a m c).heap.size = w.heap.size + 1 := by simp [lwOrderText]
  have fA : Es (lwOrderText w num op x a m c) (lwOrderText w num op x a m c).heap.size a m fs := (h.below bel (Nat.le_refl _)).mono (by omega)
  have q0 : (lwOrderText w num op x a m c).cell? ⟨w.heap.size, 0, none⟩ = some (.int .i64 num) := by simp [lwOrderText, go_sem]
  have q1 : (lwOrderText w num op x a m c).cell? ⟨w.heap.size, 1, none⟩ = some (.int .i64 op) := by simp [lwOrderText, go_sem]
  have q2 : (lwOrderText w num op x a m c).cell? ⟨w.heap.size, 2, none⟩ = some (.slice a m c) := by simp [lwOrderText, go_sem]
  have q3 : (lwOrderText w num op x a m c).cell? ⟨w.heap.size, 3, none⟩ = some (.int .i64 x) := by simp [lwOrderText, go_sem]
  have HZ : Hid (∀ u, Good (lwOrderText w num op x a m c) u → Below w.heap.size w u) := fun u hu => bel.trans (Below.mono hu (by omega))
  have HK : Hid (∀ u, Good (lwOrderText w num op x a m c) u → (u.cell? ⟨w.heap.size, 0, none⟩ = some (.int .i64 num) ∧ u.cell? ⟨w.heap.size, 1, none⟩ = some (.int .i64 op) ∧ u.cell? ⟨w.heap.size, 2, none⟩ = some (.slice a m c) ∧ u.cell? ⟨w.heap.size, 3, none⟩ = some (.int .i64 x))) := fun u hu =>
    ⟨by rw [hu.cell (by omega)]; exact q0, by rw [hu.cell (by omega)]; exact q1, by rw [hu.cell (by omega)]; exact q2, by rw [hu.cell (by omega)]; exact q3⟩
  have HSZ : Hid (∀ u, Good (lwOrderText w num op x a m c) u → Calls Try.prog 27 #[.agg #[.int .i64 num, .int .i64 op, .slice a m c, .int .i64 x], .int .i64 1048576] u fun e v => e = .returned (.int .i64 (if m ≤ 1048576 then 1048576 - (m : Int) else -1)) ∧ Good (lwOrderText w num op x a m c) v) := fun u hu =>
    (szOrder_any num op x m a c hm u).mono fun _ _ ⟨he, hb⟩ => ⟨he, hu.up hb⟩
  by_cases g : m ≤ 1048576
  · rw [if_pos g] at HSZ
    have HT : Hid (∀ u, Good (lwOrderText w num op x a m c) u → Calls Try.prog 28 #[.agg #[.int .i64 num, .int .i64 op, .slice a m c, .int .i64 x]] u fun e v => ∃ g, e = .returned (.agg #[.int .i64 num, .int .i64 op, .slice (some ⟨g, 0, none⟩) m m, .int .i64 x]) ∧ Es v v.heap.size (some ⟨g, 0, none⟩) m fs ∧ Good (lwOrderText w num op x a m c) v ∧ u.heap.size ≤ v.heap.size ∧ Below u.heap.size u v) := fun u hu =>
      (toOrder_any num op x fs m a c g u (hu.es fA)).mono fun _ _ ⟨g, he, ho, hb⟩ => ⟨g, he, Es_of_own ho, hu.up hb, hb.size, hb⟩
    have HS : Hid (∀ u b, Good (lwOrderText w num op x a m c) u → Es u u.heap.size (some ⟨b, 0, none⟩) m fs → Calls Try.prog 33 #[.int .i64 n, .agg #[.int .i64 num, .int .i64 op, .slice (some ⟨b, 0, none⟩) m m, .int .i64 x]] u fun e v => e = .returned (otV n ⟨num, op, fs, x⟩) ∧ Good (lwOrderText w num op x a m c) v) := fun u b hu hf =>
      (sOrderText_any n num op fs x m _ m g u hf).mono fun _ _ ⟨he, hb⟩ => ⟨he, hu.up hb⟩
    have HI : Hid (∀ u b, Good (lwOrderText w num op x a m c) u → Es u u.heap.size (some ⟨b, 0, none⟩) m fs → Calls Try.prog 12 #[.int .i64 n, .agg #[.int .i64 num, .int .i64 op, .slice (some ⟨b, 0, none⟩) m m, .int .i64 x]] u fun e v => e = .returned (otV n ⟨num, op, fs, x⟩) ∧ Below u.heap.size u v) := fun u b hu hf =>
      (iOrderText_any n num op fs x m _ m g u hf)
    have d1 : decide (1048576 - (m : Int) < 0) = false := decide_eq_false (by omega)
    have S1 := Good.refl (lwOrderText w num op x a m c)
    have ZL : Hid (w.heap.size < (lwOrderText w num op x a m c).heap.size) := by show _ < _; omega
    clear bel fA h hsz q0 q1 q2 q3
    obtain ⟨S, r, hV⟩ : ∃ S r, otV n ⟨num, op, fs, x⟩ = .tuple #[.string S, .bool r] := by
      unfold otV
      split
      · exact ⟨_, _, rfl⟩
      · exact ⟨_, _, rfl⟩
    rw [hV] at HS HI
    clear hV
    have dr : (r != r) = false := by simp
    have ds : (S.toList == S.toList) = true := by simp
    go_enter Try.func6, Try.ntmps6
    go_wp2_with (go_at_call 27; refine (HSZ.out _ S1).mono ?_; rintro e w2 ⟨rfl, S2⟩; refine Hid.out ?_)
    refine (show ∀ {p : Prop}, p → Hid p from fun h => h) ?_
    obtain ⟨k0, k1, k2, k3⟩ := HK.out _ S2
    go_wp2_with (go_at_call 28; refine (HT.out _ S2).mono ?_; rintro e w3 ⟨g3, rfl, f3, S3, z3, b3⟩; refine Hid.out ?_)
    refine (show ∀ {p : Prop}, p → Hid p from fun h => h) ?_
    clear k0 k1 k2 k3
    go_wp2_with (go_at_call 33; refine (HS.out _ g3 S3 f3).mono ?_; rintro e w4 ⟨rfl, S4⟩; refine Hid.out ?_)
    refine (show ∀ {p : Prop}, p → Hid p from fun h => h) ?_
    obtain ⟨k0, k1, k2, k3⟩ := HK.out _ S4
    clear f3 z3 b3 S3
    go_wp2_with (go_at_call 28; refine (HT.out _ S4).mono ?_; rintro e w5 ⟨g5, rfl, f5, S5, z5, b5⟩; refine Hid.out ?_)
    refine (show ∀ {p : Prop}, p → Hid p from fun h => h) ?_
    clear k0 k1 k2 k3
    have S6 : Good (lwOrderText w num op x a m c) (w5.alloc (.cells #[.int .i64 num, .int .i64 op, .slice (some ⟨g5, 0, none⟩) m m, .int .i64 x] 26)) := S5.alloc _
    have f6 : Es (w5.alloc (.cells #[.int .i64 num, .int .i64 op, .slice (some ⟨g5, 0, none⟩) m m, .int .i64 x] 26)) (w5.alloc (.cells #[.int .i64 num, .int .i64 op, .slice (some ⟨g5, 0, none⟩) m m, .int .i64 x] 26)).heap.size (some ⟨g5, 0, none⟩) m fs := (f5.alloc (Nat.le_refl _) _).mono (by simp)
    go_wp2_with (go_at_call 12; refine (HI.out _ g5 S6 f6).mono ?_; rintro e w7 ⟨rfl, b7⟩; refine Hid.out ?_)
    refine (show ∀ {p : Prop}, p → Hid p from fun h => h) ?_
    have S7 : Good (lwOrderText w num op x a m c) w7 := S6.up b7
    have x0 : w7.cell? ⟨w5.heap.size, 0, none⟩ = some (.int .i64 num) := by rw [b7.cell (by simp)]; simp
    have x1 : w7.cell? ⟨w5.heap.size, 1, none⟩ = some (.int .i64 op) := by rw [b7.cell (by simp)]; simp
    have x2 : w7.cell? ⟨w5.heap.size, 2, none⟩ = some (.slice (some ⟨g5, 0, none⟩) m m) := by rw [b7.cell (by simp)]; simp
    have x3 : w7.cell? ⟨w5.heap.size, 3, none⟩ = some (.int .i64 x) := by rw [b7.cell (by simp)]; simp
    have z7 : w5.heap.size < w7.heap.size := by have := b7.size; simp at this; omega
    have y7 : w.heap.size < w7.heap.size := Nat.lt_of_lt_of_le ZL.out S7.size
    obtain ⟨k0, k1, k2, k3⟩ := HK.out _ S7
    have f7 := hideIt (f6.up b7)
    have S8 : Good w7 w7.drew := (Good.refl w7).drew
    have HT8 : Hid (∀ u, Good w7 u → Calls Try.prog 28 #[.agg #[.int .i64 num, .int .i64 op, .slice a m c, .int .i64 x]] u fun e v => ∃ g, e = .returned (.agg #[.int .i64 num, .int .i64 op, .slice (some ⟨g, 0, none⟩) m m, .int .i64 x]) ∧ Es v v.heap.size (some ⟨g, 0, none⟩) m fs ∧ Good w7 v) := fun u hu =>
      (HT.out u (S7.up hu)).mono fun _ _ ⟨g, he, hf, _, _, hb⟩ => ⟨g, he, hf, hu.up hb⟩
    have HE8 : Hid (∀ u g', Good w7 u → Es u u.heap.size (some ⟨g', 0, none⟩) m fs → Calls Try.prog 29 #[.agg #[.int .i64 num, .int .i64 op, .slice (some ⟨g5, 0, none⟩) m m, .int .i64 x], .agg #[.int .i64 num, .int .i64 op, .slice (some ⟨g', 0, none⟩) m m, .int .i64 x]] u fun e v => e = .returned (.bool true) ∧ Good w7 v) := fun u g' hu hf =>
      (eqOrder_same num op x fs m _ _ m m g u (hu.es f7.out) hf).mono fun _ _ ⟨he, hb⟩ => ⟨he, hu.up hb⟩
    have HK8 : Hid (∀ u, Good w7 u → (u.cell? ⟨w.heap.size, 0, none⟩ = some (.int .i64 num) ∧ u.cell? ⟨w.heap.size, 1, none⟩ = some (.int .i64 op) ∧ u.cell? ⟨w.heap.size, 2, none⟩ = some (.slice a m c) ∧ u.cell? ⟨w.heap.size, 3, none⟩ = some (.int .i64 x)) ∧ (u.cell? ⟨w5.heap.size, 0, none⟩ = some (.int .i64 num) ∧ u.cell? ⟨w5.heap.size, 1, none⟩ = some (.int .i64 op) ∧ u.cell? ⟨w5.heap.size, 2, none⟩ = some (.slice (some ⟨g5, 0, none⟩) m m) ∧ u.cell? ⟨w5.heap.size, 3, none⟩ = some (.int .i64 x))) := fun u hu =>
      ⟨⟨by rw [hu.cell y7]; exact k0, by rw [hu.cell y7]; exact k1, by rw [hu.cell y7]; exact k2, by rw [hu.cell y7]; exact k3⟩, by rw [hu.cell z7]; exact x0, by rw [hu.cell z7]; exact x1, by rw [hu.cell z7]; exact x2, by rw [hu.cell z7]; exact x3⟩
    have S7z := hideIt (HZ.out _ S7)
    have y8 := hideIt (show w.heap.size ≤ w7.heap.size by omega)
    clear f5 f6 b5 b7 z5 S6 S5 S4 S2 S1
    go_wp2
    go_region_held3 (fun u => Good w7 u ∧ (u.cell? ⟨w.heap.size, 0, none⟩ = some (.int .i64 num) ∧ u.cell? ⟨w.heap.size, 1, none⟩ = some (.int .i64 op) ∧ u.cell? ⟨w.heap.size, 2, none⟩ = some (.slice a m c) ∧ u.cell? ⟨w.heap.size, 3, none⟩ = some (.int .i64 x)) ∧ (u.cell? ⟨w5.heap.size, 0, none⟩ = some (.int .i64 num) ∧ u.cell? ⟨w5.heap.size, 1, none⟩ = some (.int .i64 op) ∧ u.cell? ⟨w5.heap.size, 2, none⟩ = some (.slice (some ⟨g5, 0, none⟩) m m) ∧ u.cell? ⟨w5.heap.size, 3, none⟩ = some (.int .i64 x)))
      (first | exact ⟨S10, HK8.out _ S10⟩ | exact ⟨S9, HK8.out _ S9⟩ | exact ⟨S8, HK8.out _ S8⟩)
      (first | (go_at_call 28; refine (HT8.out _ S8).mono ?_; rintro e w9 ⟨g9, rfl, f9, S9⟩) | (go_at_call 29; refine (HE8.out _ _ S9 f9).mono ?_; rintro e w10 ⟨rfl, S10⟩))
    all_goals
      go_wp2
      go_ret
      exact ⟨rfl, S7z.out.trans (Below.mono S10 y8.out)⟩
  · rw [if_neg g] at HSZ
    have S1 := Good.refl (lwOrderText w num op x a m c)
    clear bel fA h hsz q0 q1 q2 q3
    go_enter Try.func6, Try.ntmps6
    go_wp2_with (go_at_call 27; refine (HSZ.out _ S1).mono ?_; rintro e w2 ⟨rfl, S2⟩; refine Hid.out ?_)
    refine (show ∀ {p : Prop}, p → Hid p from fun h => h) ?_
    go_wp2
    go_ret
    exact ⟨rfl, HZ.out _ S2⟩
end Go.Proofs.Ytkhhagjcmbbdpaa
namespace Go.Proofs.Ytkhhagjcmbbdpaa
open Go.RowKit Vt

theorem l01Var_at (x : Int) (N : Nat) (hx : (N : Int) = x) (hN : N ≤ 1000000000) (w : World) :
    Calls Try.prog 75 #[.int .i64 x] w fun e w' => e = .returned (.string ⟨(vt N).toArray⟩) ∧ Below w.heap.size w w' := by
  subst hx
  exact l01Var_any N hN w

theorem Rd.cut {s : ByteArray} {a k u m : Nat} (h : Rd s a k u m) (hk : a + k < s.size) :
    (s.extract a ((a : Int) + (k : Int) + 1).toNat).toList = (from_ s a).take k ++ [s[a + k]] ∧ val ((from_ s a).take k ++ [s[a + k]]) = m + (s[a + k]).toNat % 128 * u := by
  have hl : ((from_ s a).take k).length = k := by simp [from_length]; omega
  have e : ((a : Int) + (k : Int) + 1).toNat = a + (k + 1) := by omega
  constructor
  · rw [Lib.toList_data, Lib.extract_data, e, Nat.add_sub_cancel_left, ← from_snoc s a k hk]
    rfl
  · rw [val_snoc, hl, ← h.unit, ← h.num]

theorem Rd.last_neq {s : ByteArray} {a k u m : Nat} (h : Rd s a k u m) (hk : a + k < s.size) (h5 : k < 5) (hb : (s[a + k]).toNat < 128)
    (ht : (!vt (m + (s[a + k]).toNat % 128 * u) == (s.extract a ((a : Int) + (k : Int) + 1).toNat).toList) = true) : rv a (from_ s a) = none := by
  have hl : ((from_ s a).take k).length = k := by simp [from_length]; omega
  have hc := h.cut hk
  rw [hc.1, ← hc.2] at ht
  have hv := vt_val _ h.bigs (s[a + k]) (by simp [big]; omega)
  refine h.last_none hk h5 hb (.inl ?_)
  rw [hl] at hv
  have hne : ¬ vt (val ((from_ s a).take k ++ [s[a + k]])) = (from_ s a).take k ++ [s[a + k]] := by simpa using ht
  exact Decidable.of_not_not (fun hx => hne (hv.2 hx))

theorem Rd.last_eq {s : ByteArray} {a k u m : Nat} (h : Rd s a k u m) (hk : a + k < s.size) (h5 : k < 5) (hb : (s[a + k]).toNat < 128) (hn : m + (s[a + k]).toNat % 128 * u ≤ 1000000000)
    (ht : (!vt (m + (s[a + k]).toNat % 128 * u) == (s.extract a ((a : Int) + (k : Int) + 1).toNat).toList) = false) : rv a (from_ s a) = some (m + (s[a + k]).toNat % 128 * u, a + k + 1) := by
  have hl : ((from_ s a).take k).length = k := by simp [from_length]; omega
  have hc := h.cut hk
  rw [hc.1, ← hc.2] at ht
  have hv := vt_val _ h.bigs (s[a + k]) (by simp [big]; omega)
  refine h.last_some hk h5 hb ?_ hn
  rw [hl] at hv
  have heq : vt (val ((from_ s a).take k ++ [s[a + k]])) = (from_ s a).take k ++ [s[a + k]] := by simpa using ht
  exact hv.1 heq

theorem sReadVar_out (s : ByteArray) (_hs : s.size ≤ 1048576) (a : Int) (h : a < 0 ∨ s.size < a) (w : World) :
    Calls Try.prog 94 #[.string s, .int .i64 a] w fun e w' => e = .returned (rvV none) ∧ w' = w := by
  unfold rvV
  go_enter Try.func94, Try.ntmps94
  go_wp2_with (go_at_call 46; refine (l01In_no _ _ _ (by omega) _).mono ?_; rintro e w' ⟨rfl, rfl⟩)
  go_ret3
  exact ⟨rfl, rfl⟩

set_option maxHeartbeats 1000000 in
set_option maxRecDepth 100000 in
theorem sReadVar_in (s : ByteArray) (hs : s.size ≤ 1048576) (a : Nat) (h : a ≤ s.size) (w : World) :
    Calls Try.prog 94 #[.string s, .int .i64 (a : Int)] w fun e w' => e = .returned (rvV (rv a (from_ s a))) ∧ Below w.heap.size w w' := by
  go_enter Try.func94, Try.ntmps94
  go_wp2_with (go_at_call 46; refine (l01In_yes _ _ _ (by omega) (by omega) _).mono ?_; rintro e w' ⟨rfl, rfl⟩)
  go_loop [7, 8, 9] (fun n u i => ∃ k U m : Nat, n = .int .i64 m ∧ i = .int .i64 ((a + k : Nat) : Int) ∧ u = .int .i64 U ∧ Rd s a k U m)
    (fun _ _ i => s.size - (intOf i).toNat)
  case atStart => exact ⟨0, 1, 0, rfl, rfl, rfl, Rd.start s a h⟩
  case round =>
    obtain ⟨k, U, m, rfl, rfl, rfl, hr⟩ := hrel
    have hbd := hr.bounds
    have hk5 := hr.k5
    have hle := hr.le
    have hmU : m < U := hbd.2.2.2.2
    by_cases hlt : a + k < s.size
    · by_cases h5 : k < 5
      · have hU : U ≤ 268435456 := hbd.2.2.1 h5
        have hq := mul_bounds (s[a + k]).toNat U hU
        have hc := UInt8.toNat_lt (s[a + k])
        clear hbd
        by_cases hb : (s[a + k]).toNat < 128
        · by_cases hn : (m : Int) + ((s[a + k]).toNat : Int) % 128 * (U : Int) ≤ 1000000000
          · have d3 : decide ((1000000000 : Int) < (m : Int) + ((s[a + k]).toNat : Int) % 128 * (U : Int)) = false := by simp; omega
            have i1 : (0 : Int) ≤ (a : Int) := by omega
            have i2 : (a : Int) ≤ (a : Int) + (k : Int) + 1 := by omega
            have i3 : (a : Int) + (k : Int) + 1 ≤ (s.size : Int) := by omega
            have i4 : IntKind.i64.wrap ((a : Int) + (k : Int) + 1) = (a : Int) + (k : Int) + 1 := by rw [IntKind.wrap_i64]; omega
            have hN : m + (s[a + k]).toNat % 128 * U ≤ 1000000000 := by rw [← int_num] at hn; omega
            go_wp2
            go_region_held3 (fun _ => True) (trivial) ((go_at_call 75; refine (l01Var_at _ (m + (s[a + k]).toNat % 128 * U) (int_num _ _ _) hN _).mono ?_; rintro e w1 ⟨rfl, hb1⟩))
            go_wp2
            · have HO := hr.last_neq hlt h5 hb ‹_›
              go_ret3
              exact ⟨by rw [HO]; rfl, (Below.refl _ _).drew.trans hb1⟩
            · have HO := hr.last_eq hlt h5 hb hN ‹_›
              go_ret3
              exact ⟨by rw [HO]; simp [rvV], (Below.refl _ _).drew.trans hb1⟩
          · have d3 : decide ((1000000000 : Int) < (m : Int) + ((s[a + k]).toNat : Int) % 128 * (U : Int)) = true := by simp; omega
            have HO : Hid _ := hr.last_none hlt h5 hb (.inr (by rw [← int_num] at hn; omega))
            go_wp2
            go_quiet (fail)
            go_wp2
            go_ret3
            exact ⟨by rw [HO.out]; rfl, below_drewN (Below.refl _ _) _⟩
        · have HR := hr.step hlt h5 (by omega)
          go_wp2
          go_round
          case rel => exact ⟨k + 1, U * 128, m + (s[a + k]).toNat % 128 * U, by simp, by go_num, by simp, HR⟩
          case measure => simp [intOf]; omega
      · have HO : Hid _ := hr.out (by omega)
        clear hbd
        go_wp2
        go_ret3
        exact ⟨by rw [HO.out]; rfl, Below.refl _ _⟩
    · have HO : Hid _ := hr.out (by omega)
      clear hbd
      go_wp2
      go_ret3
      exact ⟨by rw [HO.out]; rfl, Below.refl _ _⟩
end Go.Proofs.Ytkhhagjcmbbdpaa
namespace Go.Proofs.Ytkhhagjcmbbdpaa
open Go.RowKit Vt

theorem RdAt.below {e : Prop} {t : TypeId} {w w' : World} {G : Nat} {s : ByteArray} {st : Option (List UInt8)} (h : RdAt e t w G s st) (hb : Below w.heap.size w w') : RdAt e t w' G s st := by
  have hl := h.lt
  obtain ⟨p, f, hG, rest⟩ := h
  exact ⟨p, f, by rw [hb.block G hl]; exact hG, rest⟩

set_option maxRecDepth 100000 in
set_option maxHeartbeats 4000000 in
theorem l09Var_any (s : ByteArray) (hs : s.size ≤ 1048576) (w : World) (G : Nat) (st : Option (List UInt8)) (h : RdAt False 90 w G s st) :
    Calls Try.prog 63 #[.pointer (some ⟨G, 0, none⟩)] w fun e w' => e = .returned (.int .i64 (((nx pN st).1 : Nat) : Int)) ∧ RdAt False 90 w' G s (nx pN st).2 ∧ w.grownBy w' (some G) := by
  have hGl := h.lt
  obtain ⟨p, f, hG, hp, hf⟩ := h
  have c0 : w.cell? ⟨G, 0, none⟩ = some (.string s) := by rw [cell_of_row w G 0 _ _ _ hG]; rfl
  have c1 : w.cell? ⟨G, 1, none⟩ = some (.int .i64 (p : Int)) := by rw [cell_of_row w G 1 _ _ _ hG]; rfl
  have HV : Hid (Calls Try.prog 94 #[.string s, .int .i64 (p : Int)] w.drew fun e w' => e = .returned (rvV (rv p (from_ s p))) ∧ w'.heap[G]? = some (.cells #[.string s, .int .i64 (p : Int), .bool f] 90 (0, 0)) ∧ w.grownBy w' (some G) ∧
      w'.cell? ⟨G, 0, none⟩ = some (.string s) ∧ w'.cell? ⟨G, 1, none⟩ = some (.int .i64 (p : Int)) ∧ w'.cell? ⟨G, 2, none⟩ = some (.bool f) ∧ w'.frozen? ⟨G, 1, none⟩ = false ∧ w'.frozen? ⟨G, 2, none⟩ = false) :=
    (sReadVar_in s hs p hp w.drew).mono fun _ w' ⟨he, hb⟩ => by
      have hG' : w'.heap[G]? = some (.cells #[.string s, .int .i64 (p : Int), .bool f] 90 (0, 0)) := by rw [hb.block G hGl]; exact hG
      exact ⟨he, hG', gr_trans (gr_drew w _) (gr_below hb _), by rw [cell_of_row w' G 0 _ _ _ hG']; rfl, by rw [cell_of_row w' G 1 _ _ _ hG']; rfl, by rw [cell_of_row w' G 2 _ _ _ hG']; rfl, frozen_of_row w' G 1 _ _ hG', frozen_of_row w' G 2 _ _ hG'⟩
  clear hG
  cases hff : f with
  | true =>
    rw [hff] at HV
    have HS : Hid (nx pN st = (0, none)) := by
      show _ = _
      rcases hf with ⟨h1, _⟩ | ⟨_, h2, _⟩
      · rw [hff] at h1; cases h1
      · rw [h2]; rfl
    have HP := hideIt hp
    generalize hrv : rvV (rv p (from_ s p)) = RV at HV
    have HT : Hid (∃ x y b, RV = .tuple #[.int .i64 x, .int .i64 y, .bool b]) := by
      rw [← hrv]
      cases rv p (from_ s p) with
      | none => exact ⟨_, _, _, rfl⟩
      | some q => exact ⟨_, _, _, rfl⟩
    obtain ⟨x, y, b, rfl⟩ := HT.out
    clear hf hrv HT
    go_enter Try.func63, Try.ntmps63
    go_wp2
    go_region_held3 (fun u => u.cell? ⟨G, 0, none⟩ = some (.string s) ∧ u.cell? ⟨G, 1, none⟩ = some (.int .i64 (p : Int))) (first | exact ⟨d0, d1⟩ | exact ⟨c0, c1⟩)
      ((go_at_call 94; refine HV.out.mono ?_; rintro e w1 ⟨rfl, hg1, hr1, d0, d1, d2, f1, f2⟩))
    go_wp2
    go_ret
    rw [HS.out]
    exact ⟨rfl, ⟨p, true, st2 hg1, HP.out, .inr ⟨rfl, rfl, fun h => h.elim⟩⟩, gr_trans hr1 (gr_set _ _ _ _)⟩
  | false =>
    rw [hff] at HV
    have hst : st = some (from_ s p) := by
      rcases hf with ⟨_, h2⟩ | ⟨h1, _, _⟩
      · exact h2
      · rw [hff] at h1; cases h1
    subst hst
    have HP := hideIt hp
    clear hf
    cases hr : rv p (from_ s p) with
    | none =>
      rw [hr] at HV
      have HS := hideIt (nx_rv_none hr)
      unfold rvV at HV
      clear hr
      go_enter Try.func63, Try.ntmps63
      go_wp2
      go_region_held3 (fun u => u.cell? ⟨G, 0, none⟩ = some (.string s) ∧ u.cell? ⟨G, 1, none⟩ = some (.int .i64 (p : Int))) (first | exact ⟨d0, d1⟩ | exact ⟨c0, c1⟩)
        ((go_at_call 94; refine HV.out.mono ?_; rintro e w1 ⟨rfl, hg1, hr1, d0, d1, d2, f1, f2⟩))
      go_wp2
      go_ret
      rw [HS.out]
      exact ⟨rfl, ⟨p, true, st2 hg1, HP.out, .inr ⟨rfl, rfl, fun h => h.elim⟩⟩, gr_trans hr1 (gr_set _ _ _ _)⟩
    | some q =>
      obtain ⟨m, j⟩ := q
      rw [hr] at HV
      have HS := hideIt (nx_rv_some hp hr)
      unfold rvV at HV
      clear hr
      go_enter Try.func63, Try.ntmps63
      go_wp2
      go_region_held3 (fun u => u.cell? ⟨G, 0, none⟩ = some (.string s) ∧ u.cell? ⟨G, 1, none⟩ = some (.int .i64 (p : Int))) (first | exact ⟨d0, d1⟩ | exact ⟨c0, c1⟩)
        ((go_at_call 94; refine HV.out.mono ?_; rintro e w1 ⟨rfl, hg1, hr1, d0, d1, d2, f1, f2⟩))
      go_wp2
      go_ret
      rw [HS.out.1]
      exact ⟨rfl, ⟨j, false, st1 hg1, HS.out.2.1, .inl ⟨rfl, rfl⟩⟩, gr_trans hr1 (gr_set _ _ _ _)⟩

/-- the text of one byte -/
def oneAt (s : ByteArray) (p : Nat) : ByteArray := s.extract p (p + 1)
theorem oneAt_size (s : ByteArray) (p : Nat) (h : p < s.size) : (oneAt s p).size = 1 := by unfold oneAt; rw [ByteArray.size_extract]; omega
theorem oneAt_is (s : ByteArray) (p : Nat) (h : p < s.size) (h1 : 0 < (oneAt s p).size) : (oneAt s p)[0] = s[p] := by
  have h2 : 0 < (s.extract p (p + 1)).size := h1
  have h3 : (s.extract p (p + 1))[0] = s[p] := by rw [ByteArray.getElem_extract]; simp
  exact h3

set_option maxRecDepth 100000 in
set_option maxHeartbeats 4000000 in
theorem l09Take_any (s : ByteArray) (hs : s.size ≤ 1048576) (w : World) (G : Nat) (st : Option (List UInt8)) (h : RdAt False 90 w G s st) :
    Calls Try.prog 95 #[.pointer (some ⟨G, 0, none⟩), .int .i64 1] w fun e w' => ∃ S : ByteArray, e = .returned (.string S) ∧ ((nx pO st).2 ≠ none → S.size = 1 ∧ ∀ h : 0 < S.size, (S[0]).toNat = (nx pO st).1) ∧ RdAt False 90 w' G s (nx pO st).2 ∧ w.grownBy w' (some G) := by
  obtain ⟨p, f, hG, hp, hf⟩ := h
  have c0 : w.cell? ⟨G, 0, none⟩ = some (.string s) := by rw [cell_of_row w G 0 _ _ _ hG]; rfl
  have c1 : w.cell? ⟨G, 1, none⟩ = some (.int .i64 (p : Int)) := by rw [cell_of_row w G 1 _ _ _ hG]; rfl
  have c2 : w.cell? ⟨G, 2, none⟩ = some (.bool f) := by rw [cell_of_row w G 2 _ _ _ hG]; rfl
  have f1 : w.frozen? ⟨G, 1, none⟩ = false := frozen_of_row w G 1 _ _ hG
  have f2 : w.frozen? ⟨G, 2, none⟩ = false := frozen_of_row w G 2 _ _ hG
  have HG := hideIt hG
  have HP := hideIt hp
  clear hG
  cases hff : f with
  | true =>
    rw [hff] at c2 HG
    have HS : Hid (nx pO st = (0, none)) := by
      show _ = _
      rcases hf with ⟨h1, _⟩ | ⟨_, h2, _⟩
      · rw [hff] at h1; cases h1
      · rw [h2]; rfl
    clear hf
    go_enter Try.func95, Try.ntmps95
    go_wp2
    go_quiet (fail)
    go_wp2
    go_ret
    rw [HS.out]
    exact ⟨_, rfl, fun h => absurd rfl h, ⟨p, true, st2 HG.out, HP.out, .inr ⟨rfl, rfl, fun h => h.elim⟩⟩, gr_trans (gr_drews _ _ _) (gr_set _ _ _ _)⟩
  | false =>
    rw [hff] at c2 HG
    have hst : st = some (from_ s p) := by
      rcases hf with ⟨_, h2⟩ | ⟨h1, _, _⟩
      · exact h2
      · rw [hff] at h1; cases h1
    subst hst
    clear hf
    by_cases hlt : p < s.size
    · have HS := hideIt (nx_oct hlt)
      have d1 : decide ((s.size : Int) - (p : Int) < 1) = false := by simp; omega
      have w1 : IntKind.i64.wrap ((s.size : Int) - (p : Int)) = (s.size : Int) - (p : Int) := by rw [IntKind.wrap_i64]; omega
      have w2 : IntKind.i64.wrap ((p : Int) + 1) = (p : Int) + 1 := by rw [IntKind.wrap_i64]; omega
      have w3 : IntKind.i64.wrap ((p : Int) + 1 - 1) = (p : Int) := by rw [IntKind.wrap_i64]; omega
      have i1 : (0 : Int) ≤ (p : Int) := by omega
      have i2 : (p : Int) ≤ (p : Int) + 1 := by omega
      have i3 : (p : Int) + 1 ≤ (s.size : Int) := by omega
      have HX : Hid (s.extract p ((p : Int) + 1).toNat = oneAt s p) := by show _ = _; unfold oneAt; congr 1
      have HZ := hideIt (oneAt_size s p hlt)
      have HY := hideIt (oneAt_is s p hlt)
      go_enter Try.func95, Try.ntmps95
      go_wp2
      go_quiet (fail)
      go_wp2
      go_quiet (fail)
      go_wp2
      go_ret
      rw [HS.out]
      refine ⟨oneAt s p, ?_, fun _ => ⟨HZ.out, fun h => by rw [HY.out h]⟩, ⟨p + 1, false, ?_, by omega, .inl ⟨rfl, rfl⟩⟩, ?_⟩
      · rw [← HX.out]; rfl
      · exact st1 HG.out
      · exact gr_trans (gr_trans (gr_drews _ _ _) (gr_set _ _ _ _)) (gr_drews _ _ _)
    · obtain rfl : p = s.size := by omega
      have HS := hideIt (nx_oct_end s)
      have d1 : decide ((s.size : Int) - (s.size : Int) < 1) = true := by simp
      have w1 : IntKind.i64.wrap ((s.size : Int) - (s.size : Int)) = (s.size : Int) - (s.size : Int) := by rw [IntKind.wrap_i64]; omega
      go_enter Try.func95, Try.ntmps95
      go_wp2
      go_quiet (fail)
      go_wp2
      go_ret
      rw [HS.out]
      exact ⟨_, rfl, fun h => absurd rfl h, ⟨s.size, true, st2 HG.out, HP.out, .inr ⟨rfl, rfl, fun h => h.elim⟩⟩, gr_trans (gr_drews _ _ _) (gr_set _ _ _ _)⟩

set_option maxRecDepth 100000 in
set_option maxHeartbeats 4000000 in
theorem l09One_any (s : ByteArray) (hs : s.size ≤ 1048576) (w : World) (G : Nat) (st : Option (List UInt8)) (h : RdAt False 90 w G s st) :
    Calls Try.prog 64 #[.pointer (some ⟨G, 0, none⟩)] w fun e w' => e = .returned (.int .i64 (((nx pO st).1 : Nat) : Int)) ∧ RdAt False 90 w' G s (nx pO st).2 ∧ w.grownBy w' (some G) := by
  have HT := hideIt (l09Take_any s hs w G st h)
  clear h
  cases hn : (nx pO st).2 with
  | none =>
    have h0 : Hid ((((nx pO st).1 : Nat) : Int) = 0) := by
      show _ = _
      unfold nx at hn ⊢
      split at hn
      · rfl
      · split at hn
        · rfl
        · cases hn
    rw [hn] at HT
    clear hn
    go_enter Try.func64, Try.ntmps64
    go_wp2_with (go_at_call 95; refine HT.out.mono ?_; rintro e w1 ⟨S, rfl, _, ⟨p, f, hG, hp, hf⟩, hg⟩; refine Hid.out ?_)
    refine (show ∀ {p : Prop}, p → Hid p from fun h => h) ?_
    obtain rfl : f = true := by
      rcases hf with ⟨_, h2⟩ | ⟨h1, _, _⟩
      · cases h2
      · exact h1
    have c2 : w1.cell? ⟨G, 2, none⟩ = some (.bool true) := by rw [cell_of_row w1 G 2 _ _ _ hG]; rfl
    have HR : Hid (RdAt False 90 w1 G s none) := ⟨p, true, hG, hp, .inr ⟨rfl, rfl, fun h => h.elim⟩⟩
    clear hG hp hf
    go_wp2
    go_ret
    exact ⟨by rw [h0.out]; rfl, HR.out, hg⟩
  | some L =>
    rw [hn] at HT
    have h8 := nx_pO_le st
    clear hn
    go_enter Try.func64, Try.ntmps64
    go_wp2_with (go_at_call 95; refine HT.out.mono ?_; rintro e w1 ⟨S, rfl, hS, ⟨p, f, hG, hp, hf⟩, hg⟩; refine Hid.out ?_)
    refine (show ∀ {p : Prop}, p → Hid p from fun h => h) ?_
    obtain ⟨hS1, hS2⟩ := hS (by simp)
    obtain rfl : f = false := by
      rcases hf with ⟨h1, _⟩ | ⟨_, h2, _⟩
      · exact h1
      · cases h2
    have hst : some L = some (from_ s p) := by
      rcases hf with ⟨_, h2⟩ | ⟨_, h2, _⟩
      · exact h2
      · cases h2
    have c2 : w1.cell? ⟨G, 2, none⟩ = some (.bool false) := by rw [cell_of_row w1 G 2 _ _ _ hG]; rfl
    have HR : Hid (RdAt False 90 w1 G s (some L)) := ⟨p, false, hG, hp, .inl ⟨rfl, hst⟩⟩
    have hS0 : 0 < S.size := by omega
    have i1 : (0 : Int) < (S.size : Int) := by omega
    have HV := hideIt (hS2 hS0)
    clear hG hp hf hS hS2 hS1 hst
    go_wp2
    go_ret
    refine ⟨?_, HR.out, hg⟩
    have h9 := UInt8.toNat_lt S[0]
    have hw : wrap64 ((S[0]).toNat : Int) = (((nx pO st).1 : Nat) : Int) := by rw [← HV.out]; unfold wrap64; omega
    exact congrArg (fun z => Ending.returned (.int .i64 z)) hw
end Go.Proofs.Ytkhhagjcmbbdpaa
namespace Go.Proofs.Ytkhhagjcmbbdpaa
open Go.RowKit Vt

theorem own_ne {w : World} {B T S n G : Nat} {v : Value} {xs : List Value} (h : w.ownsRow B T S v n xs) (hG : G < B) : v.ownBlock = none ∨ v.ownBlock ≠ some G := by
  right
  intro hq
  have := h.lt G hq
  omega
theorem RdAt.row {e : Prop} {t : TypeId} {w w' : World} {G : Nat} {s : ByteArray} {st : Option (List UInt8)} {row : Option Nat} (h : RdAt e t w G s st) (hg : w.grownBy w' row) (hne : row ≠ some G) : RdAt e t w' G s st := by
  obtain ⟨p, f, hG, rest⟩ := h
  refine ⟨p, f, ?_, rest⟩
  rw [hg.block G (Array.getElem?_eq_some_iff.1 hG).1 (Ne.symm hne)]
  exact hG
theorem gr_own {w wr w1 : World} {G : Nat} {row : Option Nat} (h : w.grownBy wr (some G)) (hg : wr.grownBy w1 row) (hr : ∀ q, row = some q → w.heap.size ≤ q) : w.grownBy w1 (some G) := by
  refine ⟨hg.os.trans h.os, hg.tape.trans h.tape, hg.output.trans h.output, Nat.le_trans h.size hg.size, fun i hi hn => ?_⟩
  rw [hg.block i (Nat.lt_of_lt_of_le hi h.size) (fun e => by have := hr i e.symm; omega)]
  exact h.block i hi hn
theorem own_form {w : World} {B e s n : Nat} {v : Value} {xs : List Value} (h : w.ownsRow B e s v n xs) : ∃ a c, v = .slice a n c := by
  rcases h.2 with ⟨hv, h0⟩ | ⟨g, cap, cur, hv, _⟩
  · subst h0; exact ⟨none, 0, hv⟩
  · exact ⟨_, cap, hv⟩
theorem RdAt.flag {e : Prop} {t : TypeId} {w : World} {G : Nat} {s : ByteArray} {st : Option (List UInt8)} (h : RdAt e t w G s st) : w.cell? ⟨G, 2, none⟩ = some (.bool st.isNone) := by
  obtain ⟨p, f, hG, _, hf⟩ := h
  rw [cell_of_row w G 2 _ _ _ hG]
  rcases hf with ⟨rfl, rfl⟩ | ⟨rfl, rfl, _⟩ <;> rfl
theorem two_newE (w : World) (x y : Int) (t : TypeId) : ∀ j u, (ecells [(x, y)])[j]? = some u → (w.alloc (.cells #[.int .i64 x, .int .i64 y] t)).cell? ((⟨w.heap.size, 0, none⟩ : Addr).add j) = some u := by
  intro j u hj
  match j, hj with
  | 0, hj => simp [ecells, ecell] at hj; subst hj; simp [Addr.add]
  | 1, hj => simp [ecells, ecell] at hj; subst hj; simp [Addr.add]

/-- the end of the specification's loop -/
theorem ER_end {st : Option (List UInt8)} {L : List UInt8} {k i : Nat} {es : List EdgeV} {st' : Option (List UInt8)} (hn : nx pN st = (k, some L)) (hi : i ≤ k) (h : EdSt L i es st') (he : st' = none ∨ k ≤ i ∨ 100 ≤ i) : ER st es st' := by
  unfold ER
  rw [hn]
  dsimp only
  obtain ⟨h1, _, h3⟩ := h
  rcases he with rfl | he | he
  · have hl : L.length < 2 * i := by
      split at h3
      · assumption
      · simp at h3
    split
    · exact .inl rfl
    · rw [if_pos (by omega)]
  · obtain rfl : i = k := by omega
    split
    · right; omega
    · exact h3
  · rw [if_pos (by omega)]
    right; omega

set_option maxRecDepth 100000 in
set_option maxHeartbeats 4000000 in
theorem l09ReadEdges_any (s : ByteArray) (hs : s.size ≤ 1048576) (w : World) (G : Nat) (st : Option (List UInt8)) (h : RdAt False 90 w G s st) :
    Calls Try.prog 65 #[.pointer (some ⟨G, 0, none⟩)] w fun e w' => ∃ v, e = .returned v ∧ EdAns False 90 w w' G s st v 100 := by
  obtain ⟨i0, hi, hz0, hz1, hz2⟩ := info_parts infoIE
  have hGl := h.lt
  have HN := hideIt (l09Var_any s hs (w.alloc (.cells #[] 78)) G st (h.alloc _))
  have hle := nx_pN_le st
  cases hn : nx pN st with
  | mk k s1 =>
    rw [hn] at HN hle
    dsimp only at hle HN
    clear h
    have HO : Hid (∀ W st, RdAt False 90 W G s st → Calls Try.prog 64 #[.pointer (some ⟨G, 0, none⟩)] W fun e w' => e = .returned (.int .i64 (((nx pO st).1 : Nat) : Int)) ∧ RdAt False 90 w' G s (nx pO st).2 ∧ W.grownBy w' (some G)) := fun W st hW => l09One_any s hs W G st hW
    have HH := hideIt hn
    have HK : Hid (s1 = none → k = 0) := fun h => by
      subst h
      unfold nx at hn
      split at hn
      · simp at hn; omega
      · split at hn
        · simp at hn; omega
        · simp at hn
    clear hn
    go_enter Try.func65, Try.ntmps65
    go_wp2_with (go_at_call 63; refine HN.out.mono ?_; rintro e w1 ⟨rfl, hR, hg1⟩; refine Hid.out ?_)
    refine (show ∀ {p : Prop}, p → Hid p from fun h => h) ?_
    have hgw : w.grownBy w1 (some G) := gr_trans (World.grownBy_alloc w _ (some G)) hg1
    have hown1 : w1.ownsRow w.heap.size 78 2 (.slice (some ⟨w.heap.size, 0, none⟩) 0 0) 0 (ecells []) :=
      World.ownsRow.kept (World.ownsRow_made (base := w.heap.size) (e := 78) (size := 2) w #[] 0 (Nat.le_refl _) (by unfold maxLen; omega) rfl) hg1 (.inr (by simp [Value.ownBlock]; omega))
    have HOw := hideIt hown1
    have HR := hideIt hR
    have HGw := hideIt hgw
    clear HN hR hg1 hown1 hgw
    go_wp2
    go_loopw [3, 5] (fun v i wr => ∃ (j : Nat) (es : List EdgeV) (st : Option (List UInt8)), j ≤ k ∧ j ≤ 100 ∧ i = .int .i64 (j : Int) ∧ Hid (s1 = none ∧ es = [] ∧ st = none ∨ ∃ L, s1 = some L ∧ EdSt L j es st) ∧ wr.ownsRow w.heap.size 78 2 v j (ecells es) ∧ RdAt False 90 wr G s st ∧ w.grownBy wr (some G)) (fun _ i _ => k - (intOf i).toNat)
    case atStart =>
      refine ⟨0, [], s1, by omega, by omega, rfl, ?_, HOw.out, HR.out, HGw.out⟩
      show _ ∨ _
      cases s1 with
      | none => exact .inl ⟨rfl, rfl, rfl⟩
      | some L => exact .inr ⟨L, rfl, EdSt.start L⟩
    case round =>
      obtain ⟨j, es, st1, hj, hj2, rfl, hE, hown, hR, hg⟩ := hrel
      have c2 := hR.flag
      have hgz := hg.size
      have fin : Hid (st1 = none ∨ k ≤ j ∨ 100 ≤ j → ER st es st1 ∧ EB8 es) := fun he => by
        rcases hE.out with ⟨rfl, rfl, rfl⟩ | ⟨L, rfl, h2⟩
        · refine ⟨?_, fun e he => (by cases he)⟩
          unfold ER
          rw [HH.out]
        · exact ⟨ER_end HH.out hj h2 he, h2.2.1⟩
      by_cases hlt : j < k
      · have e1 : decide ((j : Int) < (k : Int)) = true := by simp; omega
        by_cases h100 : j < 100
        · have e2 : decide ((j : Int) < 100) = true := by simp; omega
          cases hst : st1 with
          | none =>
            rw [hst] at c2
            have HX := fin.out (.inl hst)
            have HX1 := hideIt HX
            have HOw1 := hideIt hown
            have HR1 := hideIt hR
            have HG1 := hideIt hg
            clear fin HX hown hR hg hE
            go_wp2
            go_ret
            obtain ⟨a, c, rfl⟩ := own_form HOw1.out
            exact ⟨_, rfl, ⟨⟨a, j, c, es, st1, rfl, hj2, HX1.out.2, HOw1.out, HX1.out.1, HR1.out⟩, HG1.out⟩⟩
          | some M =>
            rw [hst] at c2
            have HE2 : Hid (∃ L, s1 = some L ∧ EdSt L j es st1) := by
              show ∃ _, _
              rcases hE.out with ⟨h1, _, _⟩ | h2
              · have := HK.out h1
                omega
              · exact h2
            clear fin hE hst
            go_wp2_with (go_at_call 64; refine (HO.out _ st1 hR).mono ?_; rintro e w3 ⟨rfl, hR3, hg3⟩; refine Hid.out ?_)
            refine (show ∀ {p : Prop}, p → Hid p from fun h => h) ?_
            have hown3 := World.ownsRow.kept hown hg3 (own_ne hown hGl)
            have hG3 := gr_trans hg hg3
            have hz3 := hG3.size
            have hR4 := hR3.alloc (.cells #[.int .i64 (((nx pO st1).1 : Nat) : Int), .int .i64 0] 78)
            have hown4 := hown3.alloc (.cells #[.int .i64 (((nx pO st1).1 : Nat) : Int), .int .i64 0] 78)
            have hg4 := gr_alloc hG3 (.cells #[.int .i64 (((nx pO st1).1 : Nat) : Int), .int .i64 0] 78)
            have hlt3 : ∀ q, u3.ownBlock = some q → q < w3.heap.size := fun q hq => (hown3.lt q hq).2
            clear hown hR hg hg3 hR3 hown3 hG3 c2
            go_wp2_with (go_at_call 64; refine (HO.out _ _ hR4).mono ?_; rintro e w5 ⟨rfl, hR5, hg5⟩; refine Hid.out ?_)
            refine (show ∀ {p : Prop}, p → Hid p from fun h => h) ?_
            have hgg5 := gr_trans hg4 hg5
            have hz5 := hg5.size
            simp at hz5
            have hb5 : w5.heap[w3.heap.size]? = some (.cells #[.int .i64 (((nx pO st1).1 : Nat) : Int), .int .i64 0] 78 (0, 0)) := by
              rw [hg5.block w3.heap.size (by simp) (by simp; omega)]
              exact heap_alloc_new w3 _
            have d0 : w5.cell? ⟨w3.heap.size, 0, none⟩ = some (.int .i64 (((nx pO st1).1 : Nat) : Int)) := by rw [cell_of_row w5 _ 0 _ _ _ hb5]; rfl
            have d1 : w5.cell? ⟨w3.heap.size, 1, none⟩ = some (.int .i64 0) := by rw [cell_of_row w5 _ 1 _ _ _ hb5]; rfl
            have f1 : w5.frozen? ⟨w3.heap.size, 1, none⟩ = false := frozen_of_row w5 _ 1 _ _ hb5
            have hown5 := World.ownsRow.kept hown4 hg5 (own_ne hown4 hGl)
            have hown6 := World.ownsRow.kept hown5 (gr_set w5 w3.heap.size 1 (.int .i64 (((nx pO (nx pO st1).2).1 : Nat) : Int))) (.inr (fun hq => by have := hlt3 _ hq; omega))
            have hR6 := hR5.other (gr_set w5 w3.heap.size 1 (.int .i64 (((nx pO (nx pO st1).2).1 : Nat) : Int))) (show G ≠ w3.heap.size by omega)
            have hg6 := gr_set_new (j := 1) (u := .int .i64 (((nx pO (nx pO st1).2).1 : Nat) : Int)) hgg5 hz3
            have hown7 := hown6.alloc (.cells #[.int .i64 (((nx pO st1).1 : Nat) : Int), .int .i64 (((nx pO (nx pO st1).2).1 : Nat) : Int)] 78)
            have HR7 := hideIt (hR6.alloc (.cells #[.int .i64 (((nx pO st1).1 : Nat) : Int), .int .i64 (((nx pO (nx pO st1).2).1 : Nat) : Int)] 78))
            have HG7 := hideIt (gr_alloc hg6 (.cells #[.int .i64 (((nx pO st1).1 : Nat) : Int), .int .i64 (((nx pO (nx pO st1).2).1 : Nat) : Int)] 78))
            have hnew := two_newE (w5.setCell ⟨w3.heap.size, 1, none⟩ (.int .i64 (((nx pO (nx pO st1).2).1 : Nat) : Int))) (((nx pO st1).1 : Nat) : Int) (((nx pO (nx pO st1).2).1 : Nat) : Int) 78
            have HNew := hideIt hnew
            have HS : Hid (∃ L, s1 = some L ∧ EdSt L (j + 1) (es ++ [((((nx pO st1).1 : Nat) : Int), (((nx pO (nx pO st1).2).1 : Nat) : Int))]) (nx pO (nx pO st1).2).2) := by
              obtain ⟨L, h1, h2⟩ := HE2.out
              exact ⟨L, h1, h2.step⟩
            have HOw7 := hideIt hown7
            clear hown4 hown5 hown6 hown7 hR4 hR5 hR6 hg4 hg5 hg6 hgg5 hnew hb5 HE2
            generalize (((nx pO st1).1 : Nat) : Int) = x at *
            generalize (((nx pO (nx pO st1).2).1 : Nat) : Int) = y at *
            go_wp2_with (at_builtin; refine wpList_append_own _ rfl _ _ 24 rfl w.heap.size 78 i0 _ 2 16 Try.underlying24 hi hz0 hz1 hz2 rfl (by decide) _ _ _ rfl HOw7.out ⟨w5.heap.size, 0, none⟩ 1 1 (ecells [(x, y)]) rfl rfl ?_ (by intro u hu; simp [ecells, ecell] at hu; rcases hu with rfl | rfl <;> rfl) (by unfold maxLen; omega) (by omega) (by simp; omega) ?_)
            · have := HNew.out
              simpa using this
            · intro v1 w8 hown8 hg8 _
              have hne8 : u3.ownBlock ≠ some G := by
                rcases own_ne HOw7.out hGl with h | h
                · rw [h]; simp
                · exact h
              have HR8 := hideIt (HR7.out.row hg8 hne8)
              have HG8 := hideIt (gr_own HG7.out hg8 (fun q hq => (HOw7.out.lt q hq).1))
              have HO8 : Hid (w8.ownsRow w.heap.size 78 2 v1 (j + 1) (ecells (es ++ [(x, y)]))) := by
                show World.ownsRow _ _ _ _ _ _ _
                rw [ecells_append]
                exact hown8
              clear hown8 hg8 HOw7 HR7 HG7
              go_wp2
              go_roundw
              case rel => exact ⟨j + 1, es ++ [(x, y)], _, by omega, by omega, by go_num, .inr HS.out, HO8.out, HR8.out, HG8.out⟩
              case measure => simp [intOf]; omega
        · have e2 : decide ((j : Int) < 100) = false := by simp; omega
          have HX := fin.out (.inr (.inr (by omega)))
          have HX1 := hideIt HX
          have HOw1 := hideIt hown
          have HR1 := hideIt hR
          have HG1 := hideIt hg
          clear fin HX hown hR hg hE
          go_wp2
          go_ret
          obtain ⟨a, c, rfl⟩ := own_form HOw1.out
          exact ⟨_, rfl, ⟨⟨a, j, c, es, st1, rfl, hj2, HX1.out.2, HOw1.out, HX1.out.1, HR1.out⟩, HG1.out⟩⟩
      · have e1 : decide ((j : Int) < (k : Int)) = false := by simp; omega
        have HX := fin.out (.inr (.inl (by omega)))
        have HX1 := hideIt HX
        have HOw1 := hideIt hown
        have HR1 := hideIt hR
        have HG1 := hideIt hg
        clear fin HX hown hR hg hE
        go_wp2
        go_ret
        obtain ⟨a, c, rfl⟩ := own_form HOw1.out
        exact ⟨_, rfl, ⟨⟨a, j, c, es, st1, rfl, hj2, HX1.out.2, HOw1.out, HX1.out.1, HR1.out⟩, HG1.out⟩⟩
end Go.Proofs.Ytkhhagjcmbbdpaa
namespace Go.Proofs.Ytkhhagjcmbbdpaa
open Go.RowKit Vt

theorem ed_es {e : Prop} {t : TypeId} {w w' : World} {G : Nat} {s : ByteArray} {st : Option (List UInt8)} {v : Value} {m : Nat} (h : EdAns e t w w' G s st v m) :
    ∃ (a : Option Addr) (n c : Nat) (es : List EdgeV) (st' : Option (List UInt8)), v = .slice a n c ∧ n ≤ m ∧ EB8 es ∧ w'.ownsRow w.heap.size 78 2 (.slice a n c) n (ecells es) ∧ ER st es st' ∧ RdAt e t w' G s st' ∧ w.grownBy w' (some G) := by
  obtain ⟨⟨a, n, c, es, st', h1, h2, h3, h4, h5, h6⟩, h7⟩ := h
  exact ⟨a, n, c, es, st', h1, h2, h3, h4, h5, h6, h7⟩

theorem own_block {w : World} {B T S n cap : Nat} {a : Option Addr} {xs : List Value} {W : World} (h : w.ownsRow B T S (.slice a n cap) n xs) (hb : ∀ g, B ≤ g → g < w.heap.size → W.heap[g]? = w.heap[g]?) : W.ownsRow B T S (.slice a n cap) n xs := by
  refine ⟨h.1, h.2.imp id ?_⟩
  rintro ⟨g, cp, cur, hv, hg, hc, rest⟩
  exact ⟨g, cp, cur, hv, hg, by rw [hb g hg (Array.getElem?_eq_some_iff.1 hc).1]; exact hc, rest⟩

set_option maxRecDepth 100000 in
set_option maxHeartbeats 4000000 in
theorem iReadOrder_any (n : Int) (s : ByteArray) (hs : s.size ≤ 1048576) (w : World) :
    Calls Try.prog 13 #[.int .i64 n, .string s] w fun e w' => ∃ r, IsO n s.data.toList r ∧ OrdAns w w' e r := by
  have HN : Hid (∀ W G st, RdAt True 69 W G s st → Calls Try.prog 42 #[.pointer (some ⟨G, 0, none⟩)] W fun e w' => e = .returned (.int .i64 (((nx pN st).1 : Nat) : Int)) ∧ RdAt True 69 w' G s (nx pN st).2 ∧ W.grownBy w' (some G)) := fun W G st h => rNumber_any s hs W G st h
  have HO : Hid (∀ W G st, RdAt True 69 W G s st → Calls Try.prog 43 #[.pointer (some ⟨G, 0, none⟩)] W fun e w' => e = .returned (.int .i64 (((nx pO st).1 : Nat) : Int)) ∧ RdAt True 69 w' G s (nx pO st).2 ∧ W.grownBy w' (some G)) := fun W G st h => rOctet_any s hs W G st h
  have HE : Hid (∀ W G st, RdAt True 69 W G s st → Calls Try.prog 44 #[.pointer (some ⟨G, 0, none⟩)] W fun e w' => ∃ v, e = .returned v ∧ EdAns True 69 W w' G s st v 66) := fun W G st h => rEdges_any s hs W G st h
  have HD : Hid (∀ W G st, RdAt True 69 W G s st → Calls Try.prog 45 #[.pointer (some ⟨G, 0, none⟩)] W fun e w' => e = .returned (.bool (endB st)) ∧ RdAt True 69 w' G s st ∧ W.grownBy w' (some G)) := fun W G st h => rEnded_any s W G st h
  have R0 : RO True 69 w (((w.alloc (.cells (oc 0 0 none 0 0 0) 26)).alloc (.cells #[.string s, .int .i64 0, .bool false] 69)).alloc (.cells (oc 0 0 none 0 0 0) 26)) (w.heap.size + 1) (w.heap.size + 2) w.heap.size s (some s.data.toList) 0 0 none 0 0 0 := by
    refine ⟨⟨0, false, ?_, by omega, .inl ⟨rfl, by simp [from_]⟩⟩, ?_, ?_, (((Below.refl _ _).alloc (Nat.le_refl _) _).alloc (by simp) _).alloc (by simp; omega) _, by omega, by omega⟩
    · rw [Below.heap_alloc _ _ _ (by simp)]
      have := heap_alloc_new (w.alloc (.cells (oc 0 0 none 0 0 0) 26)) (.cells #[.string s, .int .i64 0, .bool false] 69)
      simpa using this
    · have := heap_alloc_new ((w.alloc (.cells (oc 0 0 none 0 0 0) 26)).alloc (.cells #[.string s, .int .i64 0, .bool false] 69)) (.cells (oc 0 0 none 0 0 0) 26)
      simpa using this
    · rw [Below.heap_alloc _ _ _ (by simp; omega), Below.heap_alloc _ _ _ (by simp)]
      exact heap_alloc_new w _
  go_enter Try.func13, Try.ntmps13
  go_wp2_with (go_at_call 42; refine (HN.out _ _ _ R0.rd).mono ?_; rintro e w1 ⟨rfl, hr1, hg1⟩; refine Hid.out ?_)
  refine (show ∀ {p : Prop}, p → Hid p from fun h => h) ?_
  have R1 := R0.call hr1 hg1
  clear R0 hr1 hg1
  obtain ⟨c0, _, _, _⟩ := R1.cells
  have f0 := R1.frozen 0
  have R2 := R1.set 0 (.int .i64 (((nx pN (some s.data.toList)).1 : Nat) : Int)) rfl
  clear R1
  go_wp2_with (go_at_call 43; refine (HO.out _ _ _ R2.rd).mono ?_; rintro e w3 ⟨rfl, hr3, hg3⟩; refine Hid.out ?_)
  refine (show ∀ {p : Prop}, p → Hid p from fun h => h) ?_
  have R3 := R2.call hr3 hg3
  clear R2 hr3 hg3 c0 f0
  obtain ⟨_, c1, _, _⟩ := R3.cells
  have f1 := R3.frozen 1
  have R4 := R3.set 1 (.int .i64 (((nx pO (nx pN (some s.data.toList)).2).1 : Nat) : Int)) rfl
  clear R3
  go_wp2_with (go_at_call 42; refine (HN.out _ _ _ R4.rd).mono ?_; rintro e w5 ⟨rfl, hr5, hg5⟩; refine Hid.out ?_)
  refine (show ∀ {p : Prop}, p → Hid p from fun h => h) ?_
  have R5 := R4.call hr5 hg5
  clear R4 hr5 hg5 c1 f1
  obtain ⟨_, _, _, c3⟩ := R5.cells
  have f3 := R5.frozen 3
  have R6 := R5.set 3 (.int .i64 (((nx pN (nx pO (nx pN (some s.data.toList)).2).2).1 : Nat) : Int)) rfl
  clear R5
  go_wp2_with (go_at_call 44; refine (HE.out _ _ _ R6.rd).mono ?_; rintro e w7 ⟨v7, rfl, hA7⟩; refine Hid.out ?_)
  refine (show ∀ {p : Prop}, p → Hid p from fun h => h) ?_
  obtain ⟨a, k, c, es, st4, rfl, hk, hby, hown, hER, hr7, hg7⟩ := ed_es hA7
  have R7 := R6.call hr7 hg7
  have hz6 := R6.lt
  have hge6 := R6.bel.size
  clear R6 hr7 hg7 hA7 c3 f3
  obtain ⟨_, _, c2, _⟩ := R7.cells
  have f2 := R7.frozen 2
  have R8 := R7.set 2 (.slice a k c) rfl
  have own8 := own_block (W := w7.setCell ⟨w.heap.size + 2, 2, none⟩ (.slice a k c)) hown (fun g hg _ => heap_setCell_other _ _ _ _ (by intro h; simp at h; have := hz6.2.1; omega))
  clear R7 hown
  generalize hq1 : (((nx pN (some s.data.toList)).1 : Nat) : Int) = num at *
  generalize hq2 : (((nx pO (nx pN (some s.data.toList)).2).1 : Nat) : Int) = op at *
  generalize hq3 : (((nx pN (nx pO (nx pN (some s.data.toList)).2).2).1 : Nat) : Int) = v at *
  have HCh : Hid (Ch s.data.toList ⟨num, op, es, v⟩ st4) := ⟨_, _, _, hq1.symm, rfl, hq2.symm, rfl, hq3.symm, rfl, hER⟩
  clear hq1 hq2 hq3 hER
  generalize (w5.setCell ⟨w.heap.size + 2, 3, none⟩ (.int .i64 v)).heap.size = B at own8 hz6 hge6
  have own8 := hideIt own8
  go_wp2_with (go_at_call 45; refine (HD.out _ _ _ R8.rd).mono ?_; rintro e w9 ⟨rfl, hr9, hg9⟩; refine Hid.out ?_)
  refine (show ∀ {p : Prop}, p → Hid p from fun h => h) ?_
  have R9 := R8.call hr9 hg9
  have own9 : Hid (w9.ownsRow B 78 2 (.slice a k c) k (ecells es)) := own_block own8.out (fun g hg hlt => hg9.block g hlt (by simp; have := hz6.1; omega))
  clear R8 hr9 hg9 own8 c2 f2
  obtain ⟨q0, q1, q2, q3⟩ := R9.cells
  obtain ⟨r0, r1, r2, r3⟩ := R9.cellsR
  have g0 := R9.frozenR 0
  have g1 := R9.frozenR 1
  have g2 := R9.frozenR 2
  have g3 := R9.frozenR 3
  cases hE : endB st4 with
  | false =>
    have HI : Hid (IsO n s.data.toList none) := IsO.no HCh.out (.inl (fun h => by rw [(endB_iff st4).2 h] at hE; cases hE))
    have HB := hideIt R9.bel
    clear R9 hE q0 q1 q2 q3
    go_wp2
    refine bodyPost_ret (v := .tuple #[ordV 0 0 none 0 0 0, .bool false]) (by simp [results, Try.results13, go_sem, r0, r1, r2, r3]) rfl ⟨none, HI.out, none, 0, 0, rfl, ⟨rfl, .inl ⟨rfl, rfl⟩⟩, by omega, ?_⟩
    exact (((HB.out.setCell (Nat.le_refl _) _).setCell (Nat.le_refl _) _).setCell (Nat.le_refl _) _).setCell (Nat.le_refl _) _
  | true =>
    have hE := (endB_iff st4).1 hE
    subst hE
    have HOk := hideIt (iOrderOk_any n num op es v k a c (by omega) w9 (Es_of_own own9.out))
    unfold ordV at HOk
    cases hB : oB n ⟨num, op, es, v⟩ with
    | false =>
      rw [hB] at HOk
      have HI : Hid (IsO n s.data.toList none) := IsO.no HCh.out (.inr hB)
      have HR := hideIt R9
      clear R9 hB r0 r1 r2 r3 g0 g1 g2 g3
      go_wp2_with (go_at_call 15; refine HOk.out.mono ?_; rintro e w10 ⟨rfl, hb10⟩; refine Hid.out ?_)
      refine (show ∀ {p : Prop}, p → Hid p from fun h => h) ?_
      have R10 := HR.out.below hb10
      obtain ⟨r0, r1, r2, r3⟩ := R10.cellsR
      have g0 := R10.frozenR 0
      have g1 := R10.frozenR 1
      have g2 := R10.frozenR 2
      have g3 := R10.frozenR 3
      have HB := hideIt R10.bel
      clear R10 q0 q1 q2 q3 hb10
      go_wp2
      refine bodyPost_ret (v := .tuple #[ordV 0 0 none 0 0 0, .bool false]) (by simp [results, Try.results13, go_sem, r0, r1, r2, r3]) rfl ⟨none, HI.out, none, 0, 0, rfl, ⟨rfl, .inl ⟨rfl, rfl⟩⟩, by omega, ?_⟩
      exact (((HB.out.setCell (Nat.le_refl _) _).setCell (Nat.le_refl _) _).setCell (Nat.le_refl _) _).setCell (Nat.le_refl _) _
    | true =>
      rw [hB] at HOk
      have HI : Hid (IsO n s.data.toList (some ⟨num, op, es, v⟩)) := IsO.yes HCh.out hB
      have HR := hideIt R9
      clear R9 hB r0 r1 r2 r3 g0 g1 g2 g3
      go_wp2_with (go_at_call 15; refine HOk.out.mono ?_; rintro e w10 ⟨rfl, hb10⟩; refine Hid.out ?_)
      refine (show ∀ {p : Prop}, p → Hid p from fun h => h) ?_
      have R10 := HR.out.below hb10
      have own10 : Hid (w10.ownsRow B 78 2 (.slice a k c) k (ecells es)) := own_block own9.out (fun g _ hlt => hb10.block g hlt)
      clear q0 q1 q2 q3
      obtain ⟨q0, q1, q2, q3⟩ := R10.cells
      obtain ⟨r0, r1, r2, r3⟩ := R10.cellsR
      have g0 := R10.frozenR 0
      have g1 := R10.frozenR 1
      have g2 := R10.frozenR 2
      have g3 := R10.frozenR 3
      have HB := hideIt R10.bel
      clear R10 hb10
      go_wp2
      refine bodyPost_ret (v := .tuple #[ordV num op a k c v, .bool true]) (by simp [results, Try.results13, go_sem, r0, r1, r2, r3]) rfl ⟨some ⟨num, op, es, v⟩, HI.out, a, k, c, rfl, ?_, by omega, ?_⟩
      · refine own_mono (B := B) ?_ hge6
        refine own_block own10.out (fun g hg hlt => ?_)
        have hne : g ≠ w.heap.size := by have := hz6.2.2; omega
        rw [heap_setCell_other _ _ _ _ (by exact hne), heap_setCell_other _ _ _ _ (by exact hne), heap_setCell_other _ _ _ _ (by exact hne), heap_setCell_other _ _ _ _ (by exact hne)]
      · exact (((HB.out.setCell (Nat.le_refl _) _).setCell (Nat.le_refl _) _).setCell (Nat.le_refl _) _).setCell (Nat.le_refl _) _
end Go.Proofs.Ytkhhagjcmbbdpaa
namespace Go.Proofs.Ytkhhagjcmbbdpaa
open Go.RowKit Vt

theorem str_neq {L : List UInt8} {s : ByteArray} (h : L ≠ s.data.toList) : ((str L).toList == s.toList) = false := by
  rw [beq_eq_false_iff_ne, Lib.toList_data, Lib.toList_data, str_list]
  exact h
theorem str_eq {L : List UInt8} {s : ByteArray} (h : L = s.data.toList) : str L = s := by
  apply ByteArray.ext
  rw [h]
  simp [str]

set_option maxRecDepth 100000 in
set_option maxHeartbeats 4000000 in
theorem sReadOrder_any (n : Int) (s : ByteArray) (hs : s.size ≤ 1048576) (w : World) :
    Calls Try.prog 24 #[.int .i64 n, .string s] w fun e w' => ∃ r, IsO n s.data.toList r ∧ OrdAns w w' e r := by
  have HN : Hid (∀ W G st, RdAt False 90 W G s st → Calls Try.prog 63 #[.pointer (some ⟨G, 0, none⟩)] W fun e w' => e = .returned (.int .i64 (((nx pN st).1 : Nat) : Int)) ∧ RdAt False 90 w' G s (nx pN st).2 ∧ W.grownBy w' (some G)) := fun W G st h => l09Var_any s hs W G st h
  have HO : Hid (∀ W G st, RdAt False 90 W G s st → Calls Try.prog 64 #[.pointer (some ⟨G, 0, none⟩)] W fun e w' => e = .returned (.int .i64 (((nx pO st).1 : Nat) : Int)) ∧ RdAt False 90 w' G s (nx pO st).2 ∧ W.grownBy w' (some G)) := fun W G st h => l09One_any s hs W G st h
  have HE : Hid (∀ W G st, RdAt False 90 W G s st → Calls Try.prog 65 #[.pointer (some ⟨G, 0, none⟩)] W fun e w' => ∃ v, e = .returned v ∧ EdAns False 90 W w' G s st v 100) := fun W G st h => l09ReadEdges_any s hs W G st h
  have hR0 : RdAt False 90 ((w.alloc (.cells (oc 0 0 none 0 0 0) 26)).alloc (.cells #[.string s, .int .i64 0, .bool false] 90)) (w.heap.size + 1) s (some s.data.toList) := by
    refine ⟨0, false, ?_, by omega, .inl ⟨rfl, by simp [from_]⟩⟩
    have := heap_alloc_new (w.alloc (.cells (oc 0 0 none 0 0 0) 26)) (.cells #[.string s, .int .i64 0, .bool false] 90)
    simpa using this
  have hb0 : ((w.alloc (.cells (oc 0 0 none 0 0 0) 26)).alloc (.cells #[.string s, .int .i64 0, .bool false] 90)).heap[w.heap.size]? = some (.cells (oc 0 0 none 0 0 0) 26 (0, 0)) := by
    rw [Below.heap_alloc _ _ _ (by simp)]
    exact heap_alloc_new w _
  have hB0 : Below w.heap.size w ((w.alloc (.cells (oc 0 0 none 0 0 0) 26)).alloc (.cells #[.string s, .int .i64 0, .bool false] 90)) := ((Below.refl _ _).alloc (Nat.le_refl _) _).alloc (by simp) _
  have HR0 := hideIt hR0
  have Hb0 := hideIt hb0
  have HB0 := hideIt hB0
  clear hR0 hb0 hB0
  go_enter Try.func24, Try.ntmps24
  go_wp2_with (go_at_call 63; refine (HN.out _ _ _ HR0.out).mono ?_; rintro e w1 ⟨rfl, hr1, hg1⟩; refine Hid.out ?_)
  refine (show ∀ {p : Prop}, p → Hid p from fun h => h) ?_
  have z1 := hg1.size
  simp at z1
  have R1 : RO False 90 w (w1.alloc (.cells (oc (((nx pN (some s.data.toList)).1 : Nat) : Int) 0 none 0 0 0) 26)) (w.heap.size + 1) w1.heap.size w.heap.size s (nx pN (some s.data.toList)).2 (((nx pN (some s.data.toList)).1 : Nat) : Int) 0 none 0 0 0 := by
    refine ⟨hr1.alloc _, heap_alloc_new w1 _, ?_, ?_, by omega, by omega⟩
    · rw [Below.heap_alloc _ _ _ (by omega), hg1.block _ (by simp; omega) (by simp)]
      exact Hb0.out
    · exact (bel_grown HB0.out hg1 (by omega)).alloc (by omega) _
  have R2 := R1
  clear R1 hr1 hg1 HR0 Hb0 HB0
  go_wp2_with (go_at_call 64; refine (HO.out _ _ _ R2.rd).mono ?_; rintro e w3 ⟨rfl, hr3, hg3⟩; refine Hid.out ?_)
  refine (show ∀ {p : Prop}, p → Hid p from fun h => h) ?_
  have R3 := R2.call hr3 hg3
  clear R2 hr3 hg3
  obtain ⟨_, c1, _, _⟩ := R3.cells
  have f1 := R3.frozen 1
  have R4 := R3.set 1 (.int .i64 (((nx pO (nx pN (some s.data.toList)).2).1 : Nat) : Int)) rfl
  clear R3
  go_wp2_with (go_at_call 63; refine (HN.out _ _ _ R4.rd).mono ?_; rintro e w5 ⟨rfl, hr5, hg5⟩; refine Hid.out ?_)
  refine (show ∀ {p : Prop}, p → Hid p from fun h => h) ?_
  have R5 := R4.call hr5 hg5
  clear R4 hr5 hg5 c1 f1
  obtain ⟨_, _, _, c3⟩ := R5.cells
  have f3 := R5.frozen 3
  have R6 := R5.set 3 (.int .i64 (((nx pN (nx pO (nx pN (some s.data.toList)).2).2).1 : Nat) : Int)) rfl
  clear R5
  go_wp2_with (go_at_call 65; refine (HE.out _ _ _ R6.rd).mono ?_; rintro e w7 ⟨v7, rfl, hA7⟩; refine Hid.out ?_)
  refine (show ∀ {p : Prop}, p → Hid p from fun h => h) ?_
  obtain ⟨a, k, c, es, st4, rfl, hk, hby, hown, hER, hr7, hg7⟩ := ed_es hA7
  have R7 := R6.call hr7 hg7
  have hz6 := R6.lt
  have hge6 := R6.bel.size
  clear R6 hr7 hg7 hA7 c3 f3
  obtain ⟨_, _, c2, _⟩ := R7.cells
  have f2 := R7.frozen 2
  have R8 := R7.set 2 (.slice a k c) rfl
  have own8 := own_block (W := w7.setCell ⟨w1.heap.size, 2, none⟩ (.slice a k c)) hown (fun g hg _ => heap_setCell_other _ _ _ _ (by intro h; simp at h; have := hz6.2.1; omega))
  clear R7 hown
  generalize hq1 : (((nx pN (some s.data.toList)).1 : Nat) : Int) = num at *
  generalize hq2 : (((nx pO (nx pN (some s.data.toList)).2).1 : Nat) : Int) = op at *
  generalize hq3 : (((nx pN (nx pO (nx pN (some s.data.toList)).2).2).1 : Nat) : Int) = v at *
  have HCh : Hid (Ch s.data.toList ⟨num, op, es, v⟩ st4) := ⟨_, _, _, hq1.symm, rfl, hq2.symm, rfl, hq3.symm, rfl, hER⟩
  clear hq1 hq2 hq3 hER
  generalize (w5.setCell ⟨w1.heap.size, 3, none⟩ (.int .i64 v)).heap.size = B at own8 hz6 hge6
  obtain ⟨q0, q1, q2, q3⟩ := R8.cells
  have HOk := hideIt (sOrderText_any n num op es v k a c (by omega) _ (Es_of_own own8))
  unfold ordV at HOk
  have own8 := hideIt own8
  have HR8 := hideIt R8
  clear R8
  cases hB : oB n ⟨num, op, es, v⟩ with
  | false =>
    rw [otV_no hB] at HOk
    have HI : Hid (IsO n s.data.toList none) := IsO.back HCh.out (.inr (.inl hB))
    clear hB
    cases hst : st4 with
    | none =>
      go_wp2_with (go_at_call 33; refine HOk.out.mono ?_; rintro e w10 ⟨rfl, hb10⟩; refine Hid.out ?_)
      refine (show ∀ {p : Prop}, p → Hid p from fun h => h) ?_
      have R10 := HR8.out.below hb10
      have cf := R10.rd.flag
      rw [hst] at cf
      obtain ⟨r0, r1, r2, r3⟩ := R10.cellsR
      have g0 := R10.frozenR 0
      have g1 := R10.frozenR 1
      have g2 := R10.frozenR 2
      have g3 := R10.frozenR 3
      have HB := hideIt R10.bel
      clear R10 q0 q1 q2 q3 hb10
      go_wp2
      refine bodyPost_ret (v := .tuple #[ordV 0 0 none 0 0 0, .bool false]) (by simp [results, Try.results24, go_sem, r0, r1, r2, r3]) rfl ⟨none, HI.out, none, 0, 0, rfl, ⟨rfl, .inl ⟨rfl, rfl⟩⟩, by omega, ?_⟩
      exact (((HB.out.setCell (Nat.le_refl _) _).setCell (Nat.le_refl _) _).setCell (Nat.le_refl _) _).setCell (Nat.le_refl _) _
    | some M =>
      go_wp2_with (go_at_call 33; refine HOk.out.mono ?_; rintro e w10 ⟨rfl, hb10⟩; refine Hid.out ?_)
      refine (show ∀ {p : Prop}, p → Hid p from fun h => h) ?_
      have R10 := HR8.out.below hb10
      have cf := R10.rd.flag
      rw [hst] at cf
      obtain ⟨r0, r1, r2, r3⟩ := R10.cellsR
      have g0 := R10.frozenR 0
      have g1 := R10.frozenR 1
      have g2 := R10.frozenR 2
      have g3 := R10.frozenR 3
      have HB := hideIt R10.bel
      clear R10 q0 q1 q2 q3 hb10
      go_wp2
      refine bodyPost_ret (v := .tuple #[ordV 0 0 none 0 0 0, .bool false]) (by simp [results, Try.results24, go_sem, r0, r1, r2, r3]) rfl ⟨none, HI.out, none, 0, 0, rfl, ⟨rfl, .inl ⟨rfl, rfl⟩⟩, by omega, ?_⟩
      exact (((HB.out.setCell (Nat.le_refl _) _).setCell (Nat.le_refl _) _).setCell (Nat.le_refl _) _).setCell (Nat.le_refl _) _
  | true =>
    rw [otV_yes hB] at HOk
    cases hst : st4 with
    | none =>
      have HI : Hid (IsO n s.data.toList none) := IsO.back HCh.out (.inl hst)
      clear hB
      go_wp2_with (go_at_call 33; refine HOk.out.mono ?_; rintro e w10 ⟨rfl, hb10⟩; refine Hid.out ?_)
      refine (show ∀ {p : Prop}, p → Hid p from fun h => h) ?_
      have R10 := HR8.out.below hb10
      have cf := R10.rd.flag
      rw [hst] at cf
      obtain ⟨r0, r1, r2, r3⟩ := R10.cellsR
      have g0 := R10.frozenR 0
      have g1 := R10.frozenR 1
      have g2 := R10.frozenR 2
      have g3 := R10.frozenR 3
      have HB := hideIt R10.bel
      clear R10 q0 q1 q2 q3 hb10
      go_wp2
      refine bodyPost_ret (v := .tuple #[ordV 0 0 none 0 0 0, .bool false]) (by simp [results, Try.results24, go_sem, r0, r1, r2, r3]) rfl ⟨none, HI.out, none, 0, 0, rfl, ⟨rfl, .inl ⟨rfl, rfl⟩⟩, by omega, ?_⟩
      exact (((HB.out.setCell (Nat.le_refl _) _).setCell (Nat.le_refl _) _).setCell (Nat.le_refl _) _).setCell (Nat.le_refl _) _
    | some M =>
      by_cases hT : oText ⟨num, op, es, v⟩ = s.data.toList
      · have HI : Hid (IsO n s.data.toList (some ⟨num, op, es, v⟩)) := ⟨hB, hT⟩
        rw [str_eq hT] at HOk
        clear hB hT
        go_wp2_with (go_at_call 33; refine HOk.out.mono ?_; rintro e w10 ⟨rfl, hb10⟩; refine Hid.out ?_)
        refine (show ∀ {p : Prop}, p → Hid p from fun h => h) ?_
        have R10 := HR8.out.below hb10
        have cf := R10.rd.flag
        rw [hst] at cf
        obtain ⟨r0, r1, r2, r3⟩ := R10.cellsR
        have g0 := R10.frozenR 0
        have g1 := R10.frozenR 1
        have g2 := R10.frozenR 2
        have g3 := R10.frozenR 3
        have HB := hideIt R10.bel
        have own10 : Hid (w10.ownsRow B 78 2 (.slice a k c) k (ecells es)) := own_block own8.out (fun g _ hlt => hb10.block g hlt)
        clear q0 q1 q2 q3
        obtain ⟨q0, q1, q2, q3⟩ := R10.cells
        clear R10 hb10
        go_wp2
        refine bodyPost_ret (v := .tuple #[ordV num op a k c v, .bool true]) (by simp [results, Try.results24, go_sem, r0, r1, r2, r3]) rfl ⟨some ⟨num, op, es, v⟩, HI.out, a, k, c, rfl, ?_, by omega, ?_⟩
        · refine own_mono (B := B) ?_ hge6
          refine own_block own10.out (fun g hg hlt => ?_)
          have hne : g ≠ w.heap.size := by have := hz6.2.2; omega
          rw [heap_setCell_other _ _ _ _ (by exact hne), heap_setCell_other _ _ _ _ (by exact hne), heap_setCell_other _ _ _ _ (by exact hne), heap_setCell_other _ _ _ _ (by exact hne)]
        · exact (((HB.out.setCell (Nat.le_refl _) _).setCell (Nat.le_refl _) _).setCell (Nat.le_refl _) _).setCell (Nat.le_refl _) _
      · have HI : Hid (IsO n s.data.toList none) := IsO.back HCh.out (.inr (.inr hT))
        have tq := str_neq hT
        generalize str (oText ⟨num, op, es, v⟩) = S at HOk tq
        clear hB hT
        go_wp2_with (go_at_call 33; refine HOk.out.mono ?_; rintro e w10 ⟨rfl, hb10⟩; refine Hid.out ?_)
        refine (show ∀ {p : Prop}, p → Hid p from fun h => h) ?_
        have R10 := HR8.out.below hb10
        have cf := R10.rd.flag
        rw [hst] at cf
        obtain ⟨r0, r1, r2, r3⟩ := R10.cellsR
        have g0 := R10.frozenR 0
        have g1 := R10.frozenR 1
        have g2 := R10.frozenR 2
        have g3 := R10.frozenR 3
        have HB := hideIt R10.bel
        clear R10 q0 q1 q2 q3 hb10
        go_wp2
        refine bodyPost_ret (v := .tuple #[ordV 0 0 none 0 0 0, .bool false]) (by simp [results, Try.results24, go_sem, r0, r1, r2, r3]) rfl ⟨none, HI.out, none, 0, 0, rfl, ⟨rfl, .inl ⟨rfl, rfl⟩⟩, by omega, ?_⟩
        exact (((HB.out.setCell (Nat.le_refl _) _).setCell (Nat.le_refl _) _).setCell (Nat.le_refl _) _).setCell (Nat.le_refl _) _
end Go.Proofs.Ytkhhagjcmbbdpaa
