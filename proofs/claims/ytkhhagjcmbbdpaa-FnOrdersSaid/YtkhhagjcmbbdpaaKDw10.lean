/- What the specification's l01Var and l01In answer. What the specification's ReadVar answers, at every text and place: the number 'rv' and the place behind it, or nothing. The specification's reader of parts. The specification's reader of edges. The specification's l05Put and AddEdge. Draws of edges. -/
import Derived.Test.YtkhhagjcmbbdpaaKSHas
import Derived.Test.YtkhhagjcmbbdpaaKRv
import Derived.Test.YtkhhagjcmbbdpaaKSOrd10
import Derived.WalkSmall
import Derived.Lib.Strings
import Derived.Deep.RegionHeld3
import Derived.Test.YtkhhagjcmbbdpaaKICmd10
import Derived.Test.YtkhhagjcmbbdpaaKLawB10
import Derived.Deep.AppendLies
namespace Go.Proofs.Ytkhhagjcmbbdpaa
open Go.RowKit Vt

set_option maxRecDepth 100000 in
set_option maxHeartbeats 1000000 in
theorem l01Var_any (N : Nat) (hN : N ≤ 1000000000) (w : World) :
    Calls Try.prog 75 #[.int .i64 (N : Int)] w fun e w' => e = .returned (.string ⟨(vt N).toArray⟩) ∧ Below w.heap.size w w' := by
  obtain ⟨i0, hi, hz0, hz1, hz2⟩ := info_parts info5
  have hlen := vt_length N N (Nat.le_refl _)
  go_enter Try.func75, Try.ntmps75
  go_wp2
  go_loopw [0, 3] (fun n out wr => ∃ (m : Nat) (pre : List UInt8), m ≤ N ∧ n = .int .i64 m ∧ Hid (pre ++ vt m = vt N) ∧ wr.ownsRow w.heap.size 5 1 out pre.length (bv pre) ∧ Below w.heap.size w wr)
    (fun n _ _ => (intOf n).toNat)
  case atStart => exact ⟨N, [], Nat.le_refl _, rfl, rfl, World.ownsRow_made _ _ _ (Nat.le_refl _) (by unfold maxLen; omega) rfl, (Below.refl _ _).alloc (Nat.le_refl _) _⟩
  case round =>
    obtain ⟨m, pre, hm, rfl, hv, hown, hb⟩ := hrel
    have hl : pre.length + (vt m).length = (vt N).length := by rw [← hv.out]; simp
    have hp := vt_pos m
    have hsz := hb.size
    by_cases hlt : m < 128
    · go_wp2_with (at_builtin; refine wpList_append_own _ rfl _ _ 22 rfl w.heap.size 5 i0 (.int .u8 0) 1 1 Try.underlying22 hi hz0 hz1 hz2 rfl (by decide) _ _ _ rfl (hown.alloc _) ⟨wr.heap.size, 0, none⟩ 1 1 [Value.int .u8 (m : Int)] rfl rfl (one_new _ _ _) (by intro u hu; simp at hu; subst hu; rfl) (by unfold maxLen; omega) (by omega) (by simp; omega) ?_)
      intro v1 w1 hown1 hg1 hn1
      have hb1 := below_app hb (Nat.le_refl _) hown hg1
      rw [bv_snoc pre (UInt8.ofNat m) m (by simp; omega)] at hown1
      have HV : pre ++ [UInt8.ofNat m] = vt N := by rw [← vt_small m hlt]; exact hv.out
      rw [HV] at hown1
      obtain ⟨g, cap, hv1, hcv⟩ := conv_own hown1 hn1
      clear HV
      rw [hv1]
      clear hown1 hg1 hown hv1 hn1
      go_wp2
      go_ret
      exact ⟨rfl, hb1⟩
    · go_wp2_with (at_builtin; refine wpList_append_own _ rfl _ _ 22 rfl w.heap.size 5 i0 (.int .u8 0) 1 1 Try.underlying22 hi hz0 hz1 hz2 rfl (by decide) _ _ _ rfl (hown.alloc _) ⟨wr.heap.size, 0, none⟩ 1 1 [Value.int .u8 ((m : Int) % 128 + 128)] rfl rfl (one_new _ _ _) (by intro u hu; simp at hu; subst hu; rfl) (by unfold maxLen; omega) (by omega) (by simp; omega) ?_)
      intro v1 w1 hown1 hg1 _
      have hb1 := below_app hb (Nat.le_refl _) hown hg1
      rw [bv_snoc pre (UInt8.ofNat (m % 128 + 128)) _ (by simp; omega)] at hown1
      have HV : Hid ((pre ++ [UInt8.ofNat (m % 128 + 128)]) ++ vt (m / 128) = vt N) := by
        show _ = _
        rw [List.append_assoc, List.singleton_append, ← vt_big m hlt]; exact hv.out
      clear hg1 hown hv
      go_wp2
      go_roundw
      case rel => exact ⟨m / 128, pre ++ [UInt8.ofNat (m % 128 + 128)], by omega, by go_num, HV, by simpa using hown1, hb1⟩
      case measure => simp [intOf]; omega

theorem l01In_yes (x a b : Int) (h1 : a ≤ x) (h2 : x ≤ b) (w : World) :
    Calls Try.prog 46 #[.int .i64 x, .int .i64 a, .int .i64 b] w fun e w' => e = .returned (.bool true) ∧ w' = w := by
  have d1 : decide (a ≤ x) = true := by simp [h1]
  have d2 : decide (x ≤ b) = true := by simp [h2]
  go_enter Try.func46, Try.ntmps46
  go_wp2
  go_ret
  exact ⟨by simp, rfl⟩

theorem l01In_no (x a b : Int) (h : x < a ∨ b < x) (w : World) :
    Calls Try.prog 46 #[.int .i64 x, .int .i64 a, .int .i64 b] w fun e w' => e = .returned (.bool false) ∧ w' = w := by
  by_cases h1 : a ≤ x
  · have d1 : decide (a ≤ x) = true := by simp [h1]
    have h2 : ¬ x ≤ b := by omega
    have d2 : decide (x ≤ b) = false := by simp [h2]
    go_enter Try.func46, Try.ntmps46
    go_wp2
    go_ret
    exact ⟨by simp, rfl⟩
  · have d1 : decide (a ≤ x) = false := by simp [h1]
    go_enter Try.func46, Try.ntmps46
    go_wp2
    go_ret
    exact ⟨by simp, rfl⟩

end Go.Proofs.Ytkhhagjcmbbdpaa
namespace Go.Proofs.Ytkhhagjcmbbdpaa
open Go.RowKit Vt

theorem l01Var_at (x : Int) (N : Nat) (hx : (N : Int) = x) (hN : N ≤ 1000000000) (w : World) :
    Calls Try.prog 75 #[.int .i64 x] w fun e w' => e = .returned (.string ⟨(vt N).toArray⟩) ∧ Below w.heap.size w w' := by
  subst hx
  exact l01Var_any N hN w

theorem Rd.cut {s : ByteArray} {a k u m : Nat} (h : Rd s a k u m) (hk : a + k < s.size) :
    (s.extract a ((a : Int) + (k : Int) + 1).toNat).toList = (from_ s a).take k ++ [s[a + k]] ∧ val ((from_ s a).take k ++ [s[a + k]]) = m + (s[a + k]).toNat % 128 * u := by
  have hl : ((from_ s a).take k).length = k := by simp [from_length]; omega
  have e : ((a : Int) + (k : Int) + 1).toNat = a + (k + 1) := by omega
  constructor
  · rw [Lib.toList_data, Lib.extract_data, e, Nat.add_sub_cancel_left, ← from_snoc s a k hk]
    rfl
  · rw [val_snoc, hl, ← h.unit, ← h.num]

theorem Rd.last_neq {s : ByteArray} {a k u m : Nat} (h : Rd s a k u m) (hk : a + k < s.size) (h5 : k < 5) (hb : (s[a + k]).toNat < 128)
    (ht : (!vt (m + (s[a + k]).toNat % 128 * u) == (s.extract a ((a : Int) + (k : Int) + 1).toNat).toList) = true) : rv a (from_ s a) = none := by
  have hl : ((from_ s a).take k).length = k := by simp [from_length]; omega
  have hc := h.cut hk
  rw [hc.1, ← hc.2] at ht
  have hv := vt_val _ h.bigs (s[a + k]) (by simp [big]; omega)
  refine h.last_none hk h5 hb (.inl ?_)
  rw [hl] at hv
  have hne : ¬ vt (val ((from_ s a).take k ++ [s[a + k]])) = (from_ s a).take k ++ [s[a + k]] := by simpa using ht
  exact Decidable.of_not_not (fun hx => hne (hv.2 hx))

theorem Rd.last_eq {s : ByteArray} {a k u m : Nat} (h : Rd s a k u m) (hk : a + k < s.size) (h5 : k < 5) (hb : (s[a + k]).toNat < 128) (hn : m + (s[a + k]).toNat % 128 * u ≤ 1000000000)
    (ht : (!vt (m + (s[a + k]).toNat % 128 * u) == (s.extract a ((a : Int) + (k : Int) + 1).toNat).toList) = false) : rv a (from_ s a) = some (m + (s[a + k]).toNat % 128 * u, a + k + 1) := by
  have hl : ((from_ s a).take k).length = k := by simp [from_length]; omega
  have hc := h.cut hk
  rw [hc.1, ← hc.2] at ht
  have hv := vt_val _ h.bigs (s[a + k]) (by simp [big]; omega)
  refine h.last_some hk h5 hb ?_ hn
  rw [hl] at hv
  have heq : vt (val ((from_ s a).take k ++ [s[a + k]])) = (from_ s a).take k ++ [s[a + k]] := by simpa using ht
  exact hv.1 heq

theorem sReadVar_out (s : ByteArray) (_hs : s.size ≤ 1048576) (a : Int) (h : a < 0 ∨ s.size < a) (w : World) :
    Calls Try.prog 94 #[.string s, .int .i64 a] w fun e w' => e = .returned (rvV none) ∧ w' = w := by
  unfold rvV
  go_enter Try.func94, Try.ntmps94
  go_wp2_with (go_at_call 46; refine (l01In_no _ _ _ (by omega) _).mono ?_; rintro e w' ⟨rfl, rfl⟩)
  go_ret3
  exact ⟨rfl, rfl⟩

set_option maxHeartbeats 1000000 in
set_option maxRecDepth 100000 in
theorem sReadVar_in (s : ByteArray) (hs : s.size ≤ 1048576) (a : Nat) (h : a ≤ s.size) (w : World) :
    Calls Try.prog 94 #[.string s, .int .i64 (a : Int)] w fun e w' => e = .returned (rvV (rv a (from_ s a))) ∧ Below w.heap.size w w' := by
  go_enter Try.func94, Try.ntmps94
  go_wp2_with (go_at_call 46; refine (l01In_yes _ _ _ (by omega) (by omega) _).mono ?_; rintro e w' ⟨rfl, rfl⟩)
  go_loop [7, 8, 9] (fun n u i => ∃ k U m : Nat, n = .int .i64 m ∧ i = .int .i64 ((a + k : Nat) : Int) ∧ u = .int .i64 U ∧ Rd s a k U m)
    (fun _ _ i => s.size - (intOf i).toNat)
  case atStart => exact ⟨0, 1, 0, rfl, rfl, rfl, Rd.start s a h⟩
  case round =>
    obtain ⟨k, U, m, rfl, rfl, rfl, hr⟩ := hrel
    have hbd := hr.bounds
    have hk5 := hr.k5
    have hle := hr.le
    have hmU : m < U := hbd.2.2.2.2
    by_cases hlt : a + k < s.size
    · by_cases h5 : k < 5
      · have hU : U ≤ 268435456 := hbd.2.2.1 h5
        have hq := mul_bounds (s[a + k]).toNat U hU
        have hc := UInt8.toNat_lt (s[a + k])
        clear hbd
        by_cases hb : (s[a + k]).toNat < 128
        · by_cases hn : (m : Int) + ((s[a + k]).toNat : Int) % 128 * (U : Int) ≤ 1000000000
          · have d3 : decide ((1000000000 : Int) < (m : Int) + ((s[a + k]).toNat : Int) % 128 * (U : Int)) = false := by simp; omega
            have i1 : (0 : Int) ≤ (a : Int) := by omega
            have i2 : (a : Int) ≤ (a : Int) + (k : Int) + 1 := by omega
            have i3 : (a : Int) + (k : Int) + 1 ≤ (s.size : Int) := by omega
            have i4 : IntKind.i64.wrap ((a : Int) + (k : Int) + 1) = (a : Int) + (k : Int) + 1 := by rw [IntKind.wrap_i64]; omega
            have hN : m + (s[a + k]).toNat % 128 * U ≤ 1000000000 := by rw [← int_num] at hn; omega
            go_wp2
            go_region_held3 (fun _ => True) (trivial) ((go_at_call 75; refine (l01Var_at _ (m + (s[a + k]).toNat % 128 * U) (int_num _ _ _) hN _).mono ?_; rintro e w1 ⟨rfl, hb1⟩))
            go_wp2
            · have HO := hr.last_neq hlt h5 hb ‹_›
              go_ret3
              exact ⟨by rw [HO]; rfl, (Below.refl _ _).drew.trans hb1⟩
            · have HO := hr.last_eq hlt h5 hb hN ‹_›
              go_ret3
              exact ⟨by rw [HO]; simp [rvV], (Below.refl _ _).drew.trans hb1⟩
          · have d3 : decide ((1000000000 : Int) < (m : Int) + ((s[a + k]).toNat : Int) % 128 * (U : Int)) = true := by simp; omega
            have HO : Hid _ := hr.last_none hlt h5 hb (.inr (by rw [← int_num] at hn; omega))
            go_wp2
            go_quiet (fail)
            go_wp2
            go_ret3
            exact ⟨by rw [HO.out]; rfl, below_drewN (Below.refl _ _) _⟩
        · have HR := hr.step hlt h5 (by omega)
          go_wp2
          go_round
          case rel => exact ⟨k + 1, U * 128, m + (s[a + k]).toNat % 128 * U, by simp, by go_num, by simp, HR⟩
          case measure => simp [intOf]; omega
      · have HO : Hid _ := hr.out (by omega)
        clear hbd
        go_wp2
        go_ret3
        exact ⟨by rw [HO.out]; rfl, Below.refl _ _⟩
    · have HO : Hid _ := hr.out (by omega)
      clear hbd
      go_wp2
      go_ret3
      exact ⟨by rw [HO.out]; rfl, Below.refl _ _⟩
end Go.Proofs.Ytkhhagjcmbbdpaa
namespace Go.Proofs.Ytkhhagjcmbbdpaa
open Go.RowKit Vt

theorem RdAt.below {e : Prop} {t : TypeId} {w w' : World} {G : Nat} {s : ByteArray} {st : Option (List UInt8)} (h : RdAt e t w G s st) (hb : Below w.heap.size w w') : RdAt e t w' G s st := by
  have hl := h.lt
  obtain ⟨p, f, hG, rest⟩ := h
  exact ⟨p, f, by rw [hb.block G hl]; exact hG, rest⟩

set_option maxRecDepth 100000 in
set_option maxHeartbeats 4000000 in
theorem l09Var_any (s : ByteArray) (hs : s.size ≤ 1048576) (w : World) (G : Nat) (st : Option (List UInt8)) (h : RdAt False 90 w G s st) :
    Calls Try.prog 63 #[.pointer (some ⟨G, 0, none⟩)] w fun e w' => e = .returned (.int .i64 (((nx pN st).1 : Nat) : Int)) ∧ RdAt False 90 w' G s (nx pN st).2 ∧ w.grownBy w' (some G) := by
  have hGl := h.lt
  obtain ⟨p, f, hG, hp, hf⟩ := h
  have c0 : w.cell? ⟨G, 0, none⟩ = some (.string s) := by rw [cell_of_row w G 0 _ _ _ hG]; rfl
  have c1 : w.cell? ⟨G, 1, none⟩ = some (.int .i64 (p : Int)) := by rw [cell_of_row w G 1 _ _ _ hG]; rfl
  have HV : Hid (Calls Try.prog 94 #[.string s, .int .i64 (p : Int)] w.drew fun e w' => e = .returned (rvV (rv p (from_ s p))) ∧ w'.heap[G]? = some (.cells #[.string s, .int .i64 (p : Int), .bool f] 90 (0, 0)) ∧ w.grownBy w' (some G) ∧
      w'.cell? ⟨G, 0, none⟩ = some (.string s) ∧ w'.cell? ⟨G, 1, none⟩ = some (.int .i64 (p : Int)) ∧ w'.cell? ⟨G, 2, none⟩ = some (.bool f) ∧ w'.frozen? ⟨G, 1, none⟩ = false ∧ w'.frozen? ⟨G, 2, none⟩ = false) :=
    (sReadVar_in s hs p hp w.drew).mono fun _ w' ⟨he, hb⟩ => by
      have hG' : w'.heap[G]? = some (.cells #[.string s, .int .i64 (p : Int), .bool f] 90 (0, 0)) := by rw [hb.block G hGl]; exact hG
      exact ⟨he, hG', gr_trans (gr_drew w _) (gr_below hb _), by rw [cell_of_row w' G 0 _ _ _ hG']; rfl, by rw [cell_of_row w' G 1 _ _ _ hG']; rfl, by rw [cell_of_row w' G 2 _ _ _ hG']; rfl, frozen_of_row w' G 1 _ _ hG', frozen_of_row w' G 2 _ _ hG'⟩
  clear hG
  cases hff : f with
  | true =>
    rw [hff] at HV
    have HS : Hid (nx pN st = (0, none)) := by
      show _ = _
      rcases hf with ⟨h1, _⟩ | ⟨_, h2, _⟩
      · rw [hff] at h1; cases h1
      · rw [h2]; rfl
    have HP := hideIt hp
    generalize hrv : rvV (rv p (from_ s p)) = RV at HV
    have HT : Hid (∃ x y b, RV = .tuple #[.int .i64 x, .int .i64 y, .bool b]) := by
      rw [← hrv]
      cases rv p (from_ s p) with
      | none => exact ⟨_, _, _, rfl⟩
      | some q => exact ⟨_, _, _, rfl⟩
    obtain ⟨x, y, b, rfl⟩ := HT.out
    clear hf hrv HT
    go_enter Try.func63, Try.ntmps63
    go_wp2
    go_region_held3 (fun u => u.cell? ⟨G, 0, none⟩ = some (.string s) ∧ u.cell? ⟨G, 1, none⟩ = some (.int .i64 (p : Int))) (first | exact ⟨d0, d1⟩ | exact ⟨c0, c1⟩)
      ((go_at_call 94; refine HV.out.mono ?_; rintro e w1 ⟨rfl, hg1, hr1, d0, d1, d2, f1, f2⟩))
    go_wp2
    go_ret
    rw [HS.out]
    exact ⟨rfl, ⟨p, true, st2 hg1, HP.out, .inr ⟨rfl, rfl, fun h => h.elim⟩⟩, gr_trans hr1 (gr_set _ _ _ _)⟩
  | false =>
    rw [hff] at HV
    have hst : st = some (from_ s p) := by
      rcases hf with ⟨_, h2⟩ | ⟨h1, _, _⟩
      · exact h2
      · rw [hff] at h1; cases h1
    subst hst
    have HP := hideIt hp
    clear hf
    cases hr : rv p (from_ s p) with
    | none =>
      rw [hr] at HV
      have HS := hideIt (nx_rv_none hr)
      unfold rvV at HV
      clear hr
      go_enter Try.func63, Try.ntmps63
      go_wp2
      go_region_held3 (fun u => u.cell? ⟨G, 0, none⟩ = some (.string s) ∧ u.cell? ⟨G, 1, none⟩ = some (.int .i64 (p : Int))) (first | exact ⟨d0, d1⟩ | exact ⟨c0, c1⟩)
        ((go_at_call 94; refine HV.out.mono ?_; rintro e w1 ⟨rfl, hg1, hr1, d0, d1, d2, f1, f2⟩))
      go_wp2
      go_ret
      rw [HS.out]
      exact ⟨rfl, ⟨p, true, st2 hg1, HP.out, .inr ⟨rfl, rfl, fun h => h.elim⟩⟩, gr_trans hr1 (gr_set _ _ _ _)⟩
    | some q =>
      obtain ⟨m, j⟩ := q
      rw [hr] at HV
      have HS := hideIt (nx_rv_some hp hr)
      unfold rvV at HV
      clear hr
      go_enter Try.func63, Try.ntmps63
      go_wp2
      go_region_held3 (fun u => u.cell? ⟨G, 0, none⟩ = some (.string s) ∧ u.cell? ⟨G, 1, none⟩ = some (.int .i64 (p : Int))) (first | exact ⟨d0, d1⟩ | exact ⟨c0, c1⟩)
        ((go_at_call 94; refine HV.out.mono ?_; rintro e w1 ⟨rfl, hg1, hr1, d0, d1, d2, f1, f2⟩))
      go_wp2
      go_ret
      rw [HS.out.1]
      exact ⟨rfl, ⟨j, false, st1 hg1, HS.out.2.1, .inl ⟨rfl, rfl⟩⟩, gr_trans hr1 (gr_set _ _ _ _)⟩

/-- the text of one byte -/
def oneAt (s : ByteArray) (p : Nat) : ByteArray := s.extract p (p + 1)
theorem oneAt_size (s : ByteArray) (p : Nat) (h : p < s.size) : (oneAt s p).size = 1 := by unfold oneAt; rw [ByteArray.size_extract]; omega
theorem oneAt_is (s : ByteArray) (p : Nat) (h : p < s.size) (h1 : 0 < (oneAt s p).size) : (oneAt s p)[0] = s[p] := by
  have h2 : 0 < (s.extract p (p + 1)).size := h1
  have h3 : (s.extract p (p + 1))[0] = s[p] := by rw [ByteArray.getElem_extract]; simp
  exact h3

set_option maxRecDepth 100000 in
set_option maxHeartbeats 4000000 in
theorem l09Take_any (s : ByteArray) (hs : s.size ≤ 1048576) (w : World) (G : Nat) (st : Option (List UInt8)) (h : RdAt False 90 w G s st) :
    Calls Try.prog 95 #[.pointer (some ⟨G, 0, none⟩), .int .i64 1] w fun e w' => ∃ S : ByteArray, e = .returned (.string S) ∧ ((nx pO st).2 ≠ none → S.size = 1 ∧ ∀ h : 0 < S.size, (S[0]).toNat = (nx pO st).1) ∧ RdAt False 90 w' G s (nx pO st).2 ∧ w.grownBy w' (some G) := by
  obtain ⟨p, f, hG, hp, hf⟩ := h
  have c0 : w.cell? ⟨G, 0, none⟩ = some (.string s) := by rw [cell_of_row w G 0 _ _ _ hG]; rfl
  have c1 : w.cell? ⟨G, 1, none⟩ = some (.int .i64 (p : Int)) := by rw [cell_of_row w G 1 _ _ _ hG]; rfl
  have c2 : w.cell? ⟨G, 2, none⟩ = some (.bool f) := by rw [cell_of_row w G 2 _ _ _ hG]; rfl
  have f1 : w.frozen? ⟨G, 1, none⟩ = false := frozen_of_row w G 1 _ _ hG
  have f2 : w.frozen? ⟨G, 2, none⟩ = false := frozen_of_row w G 2 _ _ hG
  have HG := hideIt hG
  have HP := hideIt hp
  clear hG
  cases hff : f with
  | true =>
    rw [hff] at c2 HG
    have HS : Hid (nx pO st = (0, none)) := by
      show _ = _
      rcases hf with ⟨h1, _⟩ | ⟨_, h2, _⟩
      · rw [hff] at h1; cases h1
      · rw [h2]; rfl
    clear hf
    go_enter Try.func95, Try.ntmps95
    go_wp2
    go_quiet (fail)
    go_wp2
    go_ret
    rw [HS.out]
    exact ⟨_, rfl, fun h => absurd rfl h, ⟨p, true, st2 HG.out, HP.out, .inr ⟨rfl, rfl, fun h => h.elim⟩⟩, gr_trans (gr_drews _ _ _) (gr_set _ _ _ _)⟩
  | false =>
    rw [hff] at c2 HG
    have hst : st = some (from_ s p) := by
      rcases hf with ⟨_, h2⟩ | ⟨h1, _, _⟩
      · exact h2
      · rw [hff] at h1; cases h1
    subst hst
    clear hf
    by_cases hlt : p < s.size
    · have HS := hideIt (nx_oct hlt)
      have d1 : decide ((s.size : Int) - (p : Int) < 1) = false := by simp; omega
      have w1 : IntKind.i64.wrap ((s.size : Int) - (p : Int)) = (s.size : Int) - (p : Int) := by rw [IntKind.wrap_i64]; omega
      have w2 : IntKind.i64.wrap ((p : Int) + 1) = (p : Int) + 1 := by rw [IntKind.wrap_i64]; omega
      have w3 : IntKind.i64.wrap ((p : Int) + 1 - 1) = (p : Int) := by rw [IntKind.wrap_i64]; omega
      have i1 : (0 : Int) ≤ (p : Int) := by omega
      have i2 : (p : Int) ≤ (p : Int) + 1 := by omega
      have i3 : (p : Int) + 1 ≤ (s.size : Int) := by omega
      have HX : Hid (s.extract p ((p : Int) + 1).toNat = oneAt s p) := by show _ = _; unfold oneAt; congr 1
      have HZ := hideIt (oneAt_size s p hlt)
      have HY := hideIt (oneAt_is s p hlt)
      go_enter Try.func95, Try.ntmps95
      go_wp2
      go_quiet (fail)
      go_wp2
      go_quiet (fail)
      go_wp2
      go_ret
      rw [HS.out]
      refine ⟨oneAt s p, ?_, fun _ => ⟨HZ.out, fun h => by rw [HY.out h]⟩, ⟨p + 1, false, ?_, by omega, .inl ⟨rfl, rfl⟩⟩, ?_⟩
      · rw [← HX.out]; rfl
      · exact st1 HG.out
      · exact gr_trans (gr_trans (gr_drews _ _ _) (gr_set _ _ _ _)) (gr_drews _ _ _)
    · obtain rfl : p = s.size := by omega
      have HS := hideIt (nx_oct_end s)
      have d1 : decide ((s.size : Int) - (s.size : Int) < 1) = true := by simp
      have w1 : IntKind.i64.wrap ((s.size : Int) - (s.size : Int)) = (s.size : Int) - (s.size : Int) := by rw [IntKind.wrap_i64]; omega
      go_enter Try.func95, Try.ntmps95
      go_wp2
      go_quiet (fail)
      go_wp2
      go_ret
      rw [HS.out]
      exact ⟨_, rfl, fun h => absurd rfl h, ⟨s.size, true, st2 HG.out, HP.out, .inr ⟨rfl, rfl, fun h => h.elim⟩⟩, gr_trans (gr_drews _ _ _) (gr_set _ _ _ _)⟩

set_option maxRecDepth 100000 in
set_option maxHeartbeats 4000000 in
theorem l09One_any (s : ByteArray) (hs : s.size ≤ 1048576) (w : World) (G : Nat) (st : Option (List UInt8)) (h : RdAt False 90 w G s st) :
    Calls Try.prog 64 #[.pointer (some ⟨G, 0, none⟩)] w fun e w' => e = .returned (.int .i64 (((nx pO st).1 : Nat) : Int)) ∧ RdAt False 90 w' G s (nx pO st).2 ∧ w.grownBy w' (some G) := by
  have HT := hideIt (l09Take_any s hs w G st h)
  clear h
  cases hn : (nx pO st).2 with
  | none =>
    have h0 : Hid ((((nx pO st).1 : Nat) : Int) = 0) := by
      show _ = _
      unfold nx at hn ⊢
      split at hn
      · rfl
      · split at hn
        · rfl
        · cases hn
    rw [hn] at HT
    clear hn
    go_enter Try.func64, Try.ntmps64
    go_wp2_with (go_at_call 95; refine HT.out.mono ?_; rintro e w1 ⟨S, rfl, _, ⟨p, f, hG, hp, hf⟩, hg⟩; refine Hid.out ?_)
    refine (show ∀ {p : Prop}, p → Hid p from fun h => h) ?_
    obtain rfl : f = true := by
      rcases hf with ⟨_, h2⟩ | ⟨h1, _, _⟩
      · cases h2
      · exact h1
    have c2 : w1.cell? ⟨G, 2, none⟩ = some (.bool true) := by rw [cell_of_row w1 G 2 _ _ _ hG]; rfl
    have HR : Hid (RdAt False 90 w1 G s none) := ⟨p, true, hG, hp, .inr ⟨rfl, rfl, fun h => h.elim⟩⟩
    clear hG hp hf
    go_wp2
    go_ret
    exact ⟨by rw [h0.out]; rfl, HR.out, hg⟩
  | some L =>
    rw [hn] at HT
    have h8 := nx_pO_le st
    clear hn
    go_enter Try.func64, Try.ntmps64
    go_wp2_with (go_at_call 95; refine HT.out.mono ?_; rintro e w1 ⟨S, rfl, hS, ⟨p, f, hG, hp, hf⟩, hg⟩; refine Hid.out ?_)
    refine (show ∀ {p : Prop}, p → Hid p from fun h => h) ?_
    obtain ⟨hS1, hS2⟩ := hS (by simp)
    obtain rfl : f = false := by
      rcases hf with ⟨h1, _⟩ | ⟨_, h2, _⟩
      · exact h1
      · cases h2
    have hst : some L = some (from_ s p) := by
      rcases hf with ⟨_, h2⟩ | ⟨_, h2, _⟩
      · exact h2
      · cases h2
    have c2 : w1.cell? ⟨G, 2, none⟩ = some (.bool false) := by rw [cell_of_row w1 G 2 _ _ _ hG]; rfl
    have HR : Hid (RdAt False 90 w1 G s (some L)) := ⟨p, false, hG, hp, .inl ⟨rfl, hst⟩⟩
    have hS0 : 0 < S.size := by omega
    have i1 : (0 : Int) < (S.size : Int) := by omega
    have HV := hideIt (hS2 hS0)
    clear hG hp hf hS hS2 hS1 hst
    go_wp2
    go_ret
    refine ⟨?_, HR.out, hg⟩
    have h9 := UInt8.toNat_lt S[0]
    have hw : wrap64 ((S[0]).toNat : Int) = (((nx pO st).1 : Nat) : Int) := by rw [← HV.out]; unfold wrap64; omega
    exact congrArg (fun z => Ending.returned (.int .i64 z)) hw
end Go.Proofs.Ytkhhagjcmbbdpaa
namespace Go.Proofs.Ytkhhagjcmbbdpaa
open Go.RowKit Vt

theorem own_ne {w : World} {B T S n G : Nat} {v : Value} {xs : List Value} (h : w.ownsRow B T S v n xs) (hG : G < B) : v.ownBlock = none ∨ v.ownBlock ≠ some G := by
  right
  intro hq
  have := h.lt G hq
  omega
theorem RdAt.row {e : Prop} {t : TypeId} {w w' : World} {G : Nat} {s : ByteArray} {st : Option (List UInt8)} {row : Option Nat} (h : RdAt e t w G s st) (hg : w.grownBy w' row) (hne : row ≠ some G) : RdAt e t w' G s st := by
  obtain ⟨p, f, hG, rest⟩ := h
  refine ⟨p, f, ?_, rest⟩
  rw [hg.block G (Array.getElem?_eq_some_iff.1 hG).1 (Ne.symm hne)]
  exact hG
theorem gr_own {w wr w1 : World} {G : Nat} {row : Option Nat} (h : w.grownBy wr (some G)) (hg : wr.grownBy w1 row) (hr : ∀ q, row = some q → w.heap.size ≤ q) : w.grownBy w1 (some G) := by
  refine ⟨hg.os.trans h.os, hg.tape.trans h.tape, hg.output.trans h.output, Nat.le_trans h.size hg.size, fun i hi hn => ?_⟩
  rw [hg.block i (Nat.lt_of_lt_of_le hi h.size) (fun e => by have := hr i e.symm; omega)]
  exact h.block i hi hn
theorem own_form {w : World} {B e s n : Nat} {v : Value} {xs : List Value} (h : w.ownsRow B e s v n xs) : ∃ a c, v = .slice a n c := by
  rcases h.2 with ⟨hv, h0⟩ | ⟨g, cap, cur, hv, _⟩
  · subst h0; exact ⟨none, 0, hv⟩
  · exact ⟨_, cap, hv⟩
theorem RdAt.flag {e : Prop} {t : TypeId} {w : World} {G : Nat} {s : ByteArray} {st : Option (List UInt8)} (h : RdAt e t w G s st) : w.cell? ⟨G, 2, none⟩ = some (.bool st.isNone) := by
  obtain ⟨p, f, hG, _, hf⟩ := h
  rw [cell_of_row w G 2 _ _ _ hG]
  rcases hf with ⟨rfl, rfl⟩ | ⟨rfl, rfl, _⟩ <;> rfl
theorem two_newE (w : World) (x y : Int) (t : TypeId) : ∀ j u, (ecells [(x, y)])[j]? = some u → (w.alloc (.cells #[.int .i64 x, .int .i64 y] t)).cell? ((⟨w.heap.size, 0, none⟩ : Addr).add j) = some u := by
  intro j u hj
  match j, hj with
  | 0, hj => simp [ecells, ecell] at hj; subst hj; simp [Addr.add]
  | 1, hj => simp [ecells, ecell] at hj; subst hj; simp [Addr.add]

/-- the end of the specification's loop -/
theorem ER_end {st : Option (List UInt8)} {L : List UInt8} {k i : Nat} {es : List EdgeV} {st' : Option (List UInt8)} (hn : nx pN st = (k, some L)) (hi : i ≤ k) (h : EdSt L i es st') (he : st' = none ∨ k ≤ i ∨ 100 ≤ i) : ER st es st' := by
  unfold ER
  rw [hn]
  dsimp only
  obtain ⟨h1, _, h3⟩ := h
  rcases he with rfl | he | he
  · have hl : L.length < 2 * i := by
      split at h3
      · assumption
      · simp at h3
    split
    · exact .inl rfl
    · rw [if_pos (by omega)]
  · obtain rfl : i = k := by omega
    split
    · right; omega
    · exact h3
  · rw [if_pos (by omega)]
    right; omega

set_option maxRecDepth 100000 in
set_option maxHeartbeats 4000000 in
theorem l09ReadEdges_any (s : ByteArray) (hs : s.size ≤ 1048576) (w : World) (G : Nat) (st : Option (List UInt8)) (h : RdAt False 90 w G s st) :
    Calls Try.prog 65 #[.pointer (some ⟨G, 0, none⟩)] w fun e w' => ∃ v, e = .returned v ∧ EdAns False 90 w w' G s st v 100 := by
  obtain ⟨i0, hi, hz0, hz1, hz2⟩ := info_parts infoIE
  have hGl := h.lt
  have HN := hideIt (l09Var_any s hs (w.alloc (.cells #[] 78)) G st (h.alloc _))
  have hle := nx_pN_le st
  cases hn : nx pN st with
  | mk k s1 =>
    rw [hn] at HN hle
    dsimp only at hle HN
    clear h
    have HO : Hid (∀ W st, RdAt False 90 W G s st → Calls Try.prog 64 #[.pointer (some ⟨G, 0, none⟩)] W fun e w' => e = .returned (.int .i64 (((nx pO st).1 : Nat) : Int)) ∧ RdAt False 90 w' G s (nx pO st).2 ∧ W.grownBy w' (some G)) := fun W st hW => l09One_any s hs W G st hW
    have HH := hideIt hn
    have HK : Hid (s1 = none → k = 0) := fun h => by
      subst h
      unfold nx at hn
      split at hn
      · simp at hn; omega
      · split at hn
        · simp at hn; omega
        · simp at hn
    clear hn
    go_enter Try.func65, Try.ntmps65
    go_wp2_with (go_at_call 63; refine HN.out.mono ?_; rintro e w1 ⟨rfl, hR, hg1⟩; refine Hid.out ?_)
    refine (show ∀ {p : Prop}, p → Hid p from fun h => h) ?_
    have hgw : w.grownBy w1 (some G) := gr_trans (World.grownBy_alloc w _ (some G)) hg1
    have hown1 : w1.ownsRow w.heap.size 78 2 (.slice (some ⟨w.heap.size, 0, none⟩) 0 0) 0 (ecells []) :=
      World.ownsRow.kept (World.ownsRow_made (base := w.heap.size) (e := 78) (size := 2) w #[] 0 (Nat.le_refl _) (by unfold maxLen; omega) rfl) hg1 (.inr (by simp [Value.ownBlock]; omega))
    have HOw := hideIt hown1
    have HR := hideIt hR
    have HGw := hideIt hgw
    clear HN hR hg1 hown1 hgw
    go_wp2
    go_loopw [3, 5] (fun v i wr => ∃ (j : Nat) (es : List EdgeV) (st : Option (List UInt8)), j ≤ k ∧ j ≤ 100 ∧ i = .int .i64 (j : Int) ∧ Hid (s1 = none ∧ es = [] ∧ st = none ∨ ∃ L, s1 = some L ∧ EdSt L j es st) ∧ wr.ownsRow w.heap.size 78 2 v j (ecells es) ∧ RdAt False 90 wr G s st ∧ w.grownBy wr (some G)) (fun _ i _ => k - (intOf i).toNat)
    case atStart =>
      refine ⟨0, [], s1, by omega, by omega, rfl, ?_, HOw.out, HR.out, HGw.out⟩
      show _ ∨ _
      cases s1 with
      | none => exact .inl ⟨rfl, rfl, rfl⟩
      | some L => exact .inr ⟨L, rfl, EdSt.start L⟩
    case round =>
      obtain ⟨j, es, st1, hj, hj2, rfl, hE, hown, hR, hg⟩ := hrel
      have c2 := hR.flag
      have hgz := hg.size
      have fin : Hid (st1 = none ∨ k ≤ j ∨ 100 ≤ j → ER st es st1 ∧ EB8 es) := fun he => by
        rcases hE.out with ⟨rfl, rfl, rfl⟩ | ⟨L, rfl, h2⟩
        · refine ⟨?_, fun e he => (by cases he)⟩
          unfold ER
          rw [HH.out]
        · exact ⟨ER_end HH.out hj h2 he, h2.2.1⟩
      by_cases hlt : j < k
      · have e1 : decide ((j : Int) < (k : Int)) = true := by simp; omega
        by_cases h100 : j < 100
        · have e2 : decide ((j : Int) < 100) = true := by simp; omega
          cases hst : st1 with
          | none =>
            rw [hst] at c2
            have HX := fin.out (.inl hst)
            have HX1 := hideIt HX
            have HOw1 := hideIt hown
            have HR1 := hideIt hR
            have HG1 := hideIt hg
            clear fin HX hown hR hg hE
            go_wp2
            go_ret
            obtain ⟨a, c, rfl⟩ := own_form HOw1.out
            exact ⟨_, rfl, ⟨⟨a, j, c, es, st1, rfl, hj2, HX1.out.2, HOw1.out, HX1.out.1, HR1.out⟩, HG1.out⟩⟩
          | some M =>
            rw [hst] at c2
            have HE2 : Hid (∃ L, s1 = some L ∧ EdSt L j es st1) := by
              show ∃ _, _
              rcases hE.out with ⟨h1, _, _⟩ | h2
              · have := HK.out h1
                omega
              · exact h2
            clear fin hE hst
            go_wp2_with (go_at_call 64; refine (HO.out _ st1 hR).mono ?_; rintro e w3 ⟨rfl, hR3, hg3⟩; refine Hid.out ?_)
            refine (show ∀ {p : Prop}, p → Hid p from fun h => h) ?_
            have hown3 := World.ownsRow.kept hown hg3 (own_ne hown hGl)
            have hG3 := gr_trans hg hg3
            have hz3 := hG3.size
            have hR4 := hR3.alloc (.cells #[.int .i64 (((nx pO st1).1 : Nat) : Int), .int .i64 0] 78)
            have hown4 := hown3.alloc (.cells #[.int .i64 (((nx pO st1).1 : Nat) : Int), .int .i64 0] 78)
            have hg4 := gr_alloc hG3 (.cells #[.int .i64 (((nx pO st1).1 : Nat) : Int), .int .i64 0] 78)
            have hlt3 : ∀ q, u3.ownBlock = some q → q < w3.heap.size := fun q hq => (hown3.lt q hq).2
            clear hown hR hg hg3 hR3 hown3 hG3 c2
            go_wp2_with (go_at_call 64; refine (HO.out _ _ hR4).mono ?_; rintro e w5 ⟨rfl, hR5, hg5⟩; refine Hid.out ?_)
            refine (show ∀ {p : Prop}, p → Hid p from fun h => h) ?_
            have hgg5 := gr_trans hg4 hg5
            have hz5 := hg5.size
            simp at hz5
            have hb5 : w5.heap[w3.heap.size]? = some (.cells #[.int .i64 (((nx pO st1).1 : Nat) : Int), .int .i64 0] 78 (0, 0)) := by
              rw [hg5.block w3.heap.size (by simp) (by simp; omega)]
              exact heap_alloc_new w3 _
            have d0 : w5.cell? ⟨w3.heap.size, 0, none⟩ = some (.int .i64 (((nx pO st1).1 : Nat) : Int)) := by rw [cell_of_row w5 _ 0 _ _ _ hb5]; rfl
            have d1 : w5.cell? ⟨w3.heap.size, 1, none⟩ = some (.int .i64 0) := by rw [cell_of_row w5 _ 1 _ _ _ hb5]; rfl
            have f1 : w5.frozen? ⟨w3.heap.size, 1, none⟩ = false := frozen_of_row w5 _ 1 _ _ hb5
            have hown5 := World.ownsRow.kept hown4 hg5 (own_ne hown4 hGl)
            have hown6 := World.ownsRow.kept hown5 (gr_set w5 w3.heap.size 1 (.int .i64 (((nx pO (nx pO st1).2).1 : Nat) : Int))) (.inr (fun hq => by have := hlt3 _ hq; omega))
            have hR6 := hR5.other (gr_set w5 w3.heap.size 1 (.int .i64 (((nx pO (nx pO st1).2).1 : Nat) : Int))) (show G ≠ w3.heap.size by omega)
            have hg6 := gr_set_new (j := 1) (u := .int .i64 (((nx pO (nx pO st1).2).1 : Nat) : Int)) hgg5 hz3
            have hown7 := hown6.alloc (.cells #[.int .i64 (((nx pO st1).1 : Nat) : Int), .int .i64 (((nx pO (nx pO st1).2).1 : Nat) : Int)] 78)
            have HR7 := hideIt (hR6.alloc (.cells #[.int .i64 (((nx pO st1).1 : Nat) : Int), .int .i64 (((nx pO (nx pO st1).2).1 : Nat) : Int)] 78))
            have HG7 := hideIt (gr_alloc hg6 (.cells #[.int .i64 (((nx pO st1).1 : Nat) : Int), .int .i64 (((nx pO (nx pO st1).2).1 : Nat) : Int)] 78))
            have hnew := two_newE (w5.setCell ⟨w3.heap.size, 1, none⟩ (.int .i64 (((nx pO (nx pO st1).2).1 : Nat) : Int))) (((nx pO st1).1 : Nat) : Int) (((nx pO (nx pO st1).2).1 : Nat) : Int) 78
            have HNew := hideIt hnew
            have HS : Hid (∃ L, s1 = some L ∧ EdSt L (j + 1) (es ++ [((((nx pO st1).1 : Nat) : Int), (((nx pO (nx pO st1).2).1 : Nat) : Int))]) (nx pO (nx pO st1).2).2) := by
              obtain ⟨L, h1, h2⟩ := HE2.out
              exact ⟨L, h1, h2.step⟩
            have HOw7 := hideIt hown7
            clear hown4 hown5 hown6 hown7 hR4 hR5 hR6 hg4 hg5 hg6 hgg5 hnew hb5 HE2
            generalize (((nx pO st1).1 : Nat) : Int) = x at *
            generalize (((nx pO (nx pO st1).2).1 : Nat) : Int) = y at *
            go_wp2_with (at_builtin; refine wpList_append_own _ rfl _ _ 24 rfl w.heap.size 78 i0 _ 2 16 Try.underlying24 hi hz0 hz1 hz2 rfl (by decide) _ _ _ rfl HOw7.out ⟨w5.heap.size, 0, none⟩ 1 1 (ecells [(x, y)]) rfl rfl ?_ (by intro u hu; simp [ecells, ecell] at hu; rcases hu with rfl | rfl <;> rfl) (by unfold maxLen; omega) (by omega) (by simp; omega) ?_)
            · have := HNew.out
              simpa using this
            · intro v1 w8 hown8 hg8 _
              have hne8 : u3.ownBlock ≠ some G := by
                rcases own_ne HOw7.out hGl with h | h
                · rw [h]; simp
                · exact h
              have HR8 := hideIt (HR7.out.row hg8 hne8)
              have HG8 := hideIt (gr_own HG7.out hg8 (fun q hq => (HOw7.out.lt q hq).1))
              have HO8 : Hid (w8.ownsRow w.heap.size 78 2 v1 (j + 1) (ecells (es ++ [(x, y)]))) := by
                show World.ownsRow _ _ _ _ _ _ _
                rw [ecells_append]
                exact hown8
              clear hown8 hg8 HOw7 HR7 HG7
              go_wp2
              go_roundw
              case rel => exact ⟨j + 1, es ++ [(x, y)], _, by omega, by omega, by go_num, .inr HS.out, HO8.out, HR8.out, HG8.out⟩
              case measure => simp [intOf]; omega
        · have e2 : decide ((j : Int) < 100) = false := by simp; omega
          have HX := fin.out (.inr (.inr (by omega)))
          have HX1 := hideIt HX
          have HOw1 := hideIt hown
          have HR1 := hideIt hR
          have HG1 := hideIt hg
          clear fin HX hown hR hg hE
          go_wp2
          go_ret
          obtain ⟨a, c, rfl⟩ := own_form HOw1.out
          exact ⟨_, rfl, ⟨⟨a, j, c, es, st1, rfl, hj2, HX1.out.2, HOw1.out, HX1.out.1, HR1.out⟩, HG1.out⟩⟩
      · have e1 : decide ((j : Int) < (k : Int)) = false := by simp; omega
        have HX := fin.out (.inr (.inl (by omega)))
        have HX1 := hideIt HX
        have HOw1 := hideIt hown
        have HR1 := hideIt hR
        have HG1 := hideIt hg
        clear fin HX hown hR hg hE
        go_wp2
        go_ret
        obtain ⟨a, c, rfl⟩ := own_form HOw1.out
        exact ⟨_, rfl, ⟨⟨a, j, c, es, st1, rfl, hj2, HX1.out.2, HOw1.out, HX1.out.1, HR1.out⟩, HG1.out⟩⟩
end Go.Proofs.Ytkhhagjcmbbdpaa
namespace Go.Proofs.Ytkhhagjcmbbdpaa
open Go.RowKit

/-- the world behind the edge's box -/
def wE (w : World) (e : EdgeV) : World := w.alloc (.cells #[.int .i64 e.1, .int .i64 e.2] 78)
theorem wE_size (w : World) (e : EdgeV) : (wE w e).heap.size = w.heap.size + 1 := by simp [wE]
/-- nothing of it has turned, and the row is ours -/
structure PutSt (w : World) (e : EdgeV) (a : Option Addr) (m c : Nat) (gs : List EdgeV) (u : World) : Prop where
  own : u.ownsRow (w.heap.size + 1) 78 2 (.slice a m c) m (ecells gs)
  bel : Below (w.heap.size + 1) (wE w e) u
theorem PutSt.size {w : World} {e : EdgeV} {a : Option Addr} {m c : Nat} {gs : List EdgeV} {u : World} (h : PutSt w e a m c gs u) : w.heap.size + 1 ≤ u.heap.size := by have := h.bel.size; rw [wE_size] at this; exact this
theorem PutSt.len {w : World} {e : EdgeV} {a : Option Addr} {m c : Nat} {gs : List EdgeV} {u : World} (h : PutSt w e a m c gs u) : gs.length = m := by have := h.own.1; rw [ecells_length] at this; omega
theorem PutSt.below {w : World} {e : EdgeV} {a : Option Addr} {m c : Nat} {gs : List EdgeV} {u : World} (h : PutSt w e a m c gs u) : Below w.heap.size w u :=
  ((Below.refl w.heap.size w).alloc (Nat.le_refl _) _).trans (h.bel.mono (by omega))
theorem PutSt.up {w : World} {e : EdgeV} {a : Option Addr} {m c : Nat} {gs : List EdgeV} {u v : World} (h : PutSt w e a m c gs u) (hb : Below u.heap.size u v) : PutSt w e a m c gs v :=
  ⟨World.ownsRow.kept h.own (show u.grownBy v none from ⟨hb.os, hb.tape, hb.output, hb.size, fun k hk _ => hb.block k hk⟩) (by cases hv : (Value.slice a m c).ownBlock <;> simp), h.bel.trans (hb.mono h.size)⟩
theorem PutSt.box {w : World} {e : EdgeV} {a : Option Addr} {m c : Nat} {gs : List EdgeV} {u : World} (h : PutSt w e a m c gs u) : u.cell? ⟨w.heap.size, 0, none⟩ = some (.int .i64 e.1) ∧ u.cell? ⟨w.heap.size, 1, none⟩ = some (.int .i64 e.2) := by
  refine ⟨?_, ?_⟩
  · rw [h.bel.cell (by show w.heap.size < _; omega)]; simp [wE]
  · rw [h.bel.cell (by show w.heap.size < _; omega)]; simp [wE]
/-- behind an append of one edge -/
theorem PutSt.app {w : World} {e : EdgeV} {a : Option Addr} {m c : Nat} {gs : List EdgeV} {u : World} (h : PutSt w e a m c gs u) {g : EdgeV} {o : Obj} {v : Value} {u' : World}
    (ho : u'.ownsRow (w.heap.size + 1) 78 2 v (m + 1) (ecells gs ++ [.int .i64 g.1, .int .i64 g.2])) (hg : (u.alloc o).grownBy u' (Value.slice a m c).ownBlock) :
    ∃ a' c', v = .slice a' (m + 1) c' ∧ PutSt w e a' (m + 1) c' (gs ++ [g]) u' := by
  obtain ⟨a', c', rfl⟩ := own_form ho
  rw [← ecells_snoc] at ho
  refine ⟨a', c', rfl, ho, ?_⟩
  exact (h.bel.alloc h.size _).grown hg (by have := h.size; simp; omega) (fun j hj => (h.own.lt j hj).1)
theorem news1 (w : World) (g : EdgeV) : ∀ j u, ([Value.int .i64 g.1, Value.int .i64 g.2] : List Value)[j]? = some u → (w.alloc (.cells #[.int .i64 g.1, .int .i64 g.2] 78)).cell? ((⟨w.heap.size, 0, none⟩ : Addr).add j) = some u := by
  intro j u hj
  rcases j with _ | _ | j
  · simp at hj; subst hj; simp [Addr.add]
  · simp at hj; subst hj; simp [Addr.add]
  · simp at hj

set_option maxRecDepth 100000 in
set_option maxHeartbeats 4000000 in
theorem l05Put_any (es : List EdgeV) (e : EdgeV) (n : Nat) (a : Option Addr) (c : Nat) (hn : n ≤ 1048576) (w : World) (h : Es w w.heap.size a n es) :
    Calls Try.prog 104 #[.slice a n c, .agg #[.int .i64 e.1, .int .i64 e.2]] w fun x w' => ∃ a' m' c', x = .returned (.slice a' m' c') ∧ w'.ownsRow w.heap.size 78 2 (.slice a' m' c') m' (ecells (putE es e)) ∧ Below w.heap.size w w' := by
  obtain ⟨i0, hi, hz0, hz1, hz2⟩ := info_parts infoIE
  obtain ⟨hlen, hrow⟩ := h
  have HR := hideIt hrow
  clear hrow
  have HLs : Hid (∀ (a' : Option Addr) (m' c' : Nat) (gs : List EdgeV) (d f : EdgeV) (W : World), PutSt w e a' m' c' gs W → Calls Try.prog 87 #[.agg #[.int .i64 d.1, .int .i64 d.2], .agg #[.int .i64 f.1, .int .i64 f.2]] W fun x w' => x = .returned (.bool (lt d f)) ∧ PutSt w e a' m' c' gs w') := fun _ _ _ _ d f W hW =>
    (l05Less_any d f W).mono fun _ _ ⟨he, hb⟩ => ⟨he, hW.up hb⟩
  go_enter Try.func104, Try.ntmps104
  go_wp2
  go_loopw [5, 6] (fun v i wr => ∃ (k m' : Nat) (a' : Option Addr) (c' : Nat) (gs : List EdgeV), k ≤ n ∧ i = .int .i64 (k : Int) ∧ v = .slice a' m' c' ∧ m' ≤ k ∧ Hid (gs = (es.take k).filter (fun d => lt d e)) ∧ PutSt w e a' m' c' gs wr) (fun _ i _ => n - (intOf i).toNat)
  case atStart =>
    refine ⟨0, 0, _, _, [], by omega, rfl, rfl, by omega, by show _ = _; simp, ?_, ?_⟩
    · have h0 := World.ownsRow_lit (base := w.heap.size + 1) (e := 78) (size := 2) (wE w e) #[] 0 (by rw [wE_size]; omega) (by unfold maxLen; omega) (by simp)
      rw [wE_size] at h0
      simpa [ecells, wE] using h0
    · have h1 := (Below.refl (w.heap.size + 1) (wE w e)).alloc (by rw [wE_size]; omega) (.cells #[] 78)
      simpa [wE] using h1
  case round =>
    obtain ⟨k, m', a', c', gs, hk, rfl, rfl, hm, hgs, hst⟩ := hrel
    by_cases hlt : k < n
    · rcases HR.out with hz | ⟨b, off, rfl, hbl, hc⟩
      · omega
      · obtain ⟨f, hf⟩ : ∃ f, es[k]? = some f := ⟨es[k]'(by omega), List.getElem?_eq_getElem (by omega)⟩
        obtain ⟨c0, c1⟩ := hc k f hf
        have b1 : (0 : Int) ≤ (k : Int) := by omega
        have b2 : (k : Int) < (n : Int) := by omega
        have HK : Hid (∀ W : World, PutSt w e a' m' c' gs W → (W.cell? ⟨b, off + k * 2, none⟩ = some (.int .i64 f.1) ∧ W.cell? ⟨b, off + k * 2 + 1, none⟩ = some (.int .i64 f.2)) ∧ W.cell? ⟨w.heap.size, 0, none⟩ = some (.int .i64 e.1) ∧ W.cell? ⟨w.heap.size, 1, none⟩ = some (.int .i64 e.2)) := fun W hW =>
          ⟨⟨by rw [hW.below.cell hbl]; exact c0, by rw [hW.below.cell hbl]; exact c1⟩, hW.box⟩
        have S0 := hst.up (Below.refl _ _).drew
        have HLc := hideIt (HLs.out a' m' c' gs f e _ S0)
        have e0 := (HK.out _ hst).1.1
        have e1 := (HK.out _ hst).1.2
        cases hL : lt f e with
        | true =>
          rw [hL] at HLc
          have HG : Hid (gs ++ [f] = (es.take (k + 1)).filter (fun d => lt d e)) := by
            show _ = _
            rw [take_snocF es k f hf, List.filter_append, hgs.out]
            simp [hL]
          clear hc hf c0 c1 hL
          go_wp2
          go_region_held3 (fun u => PutSt w e a' m' c' gs u ∧ (u.cell? ⟨b, off + k * 2, none⟩ = some (.int .i64 f.1) ∧ u.cell? ⟨b, off + k * 2 + 1, none⟩ = some (.int .i64 f.2)) ∧ u.cell? ⟨w.heap.size, 0, none⟩ = some (.int .i64 e.1) ∧ u.cell? ⟨w.heap.size, 1, none⟩ = some (.int .i64 e.2))
            (first | exact ⟨S1, HK.out _ S1⟩ | exact ⟨S0, HK.out _ S0⟩)
            ((go_at_call 87; refine HLc.out.mono ?_; rintro x w1 ⟨rfl, S1⟩))
          obtain ⟨⟨y0, y1⟩, _, _⟩ := HK.out _ S1
          have z1 := S1.size
          clear HLc S0
          go_wp2_with (at_builtin; refine wpList_append_own _ rfl _ _ 24 rfl (w.heap.size + 1) 78 i0 _ 2 16 Try.underlying24 hi hz0 hz1 hz2 rfl (by decide) _ _ _ rfl (S1.own.alloc _) ⟨w1.heap.size, 0, none⟩ 1 1 [.int .i64 f.1, .int .i64 f.2] rfl rfl (news1 _ _) (by intro u hu; simp at hu; rcases hu with rfl | rfl <;> rfl) (by unfold maxLen; omega) (by omega) (by simp; omega) ?_)
          intro v2 w2 hown2 hg2 hn2
          obtain ⟨a2, c2, rfl, hst2⟩ := S1.app hown2 hg2
          clear hown2 hg2 hn2 S1 y0 y1 e0 e1 hst
          go_wp2
          exact ⟨⟨k + 1, m' + 1, a2, c2, gs ++ [f], by omega, by go_num, rfl, by omega, HG, hst2⟩, by simp [intOf]; omega⟩
        | false =>
          rw [hL] at HLc
          have HG : Hid (gs = (es.take (k + 1)).filter (fun d => lt d e)) := by
            show _ = _
            rw [take_snocF es k f hf, List.filter_append, hgs.out]
            simp [hL]
          clear hc hf c0 c1 hL
          go_wp2
          go_region_held3 (fun u => PutSt w e a' m' c' gs u ∧ (u.cell? ⟨b, off + k * 2, none⟩ = some (.int .i64 f.1) ∧ u.cell? ⟨b, off + k * 2 + 1, none⟩ = some (.int .i64 f.2)) ∧ u.cell? ⟨w.heap.size, 0, none⟩ = some (.int .i64 e.1) ∧ u.cell? ⟨w.heap.size, 1, none⟩ = some (.int .i64 e.2))
            (first | exact ⟨S1, HK.out _ S1⟩ | exact ⟨S0, HK.out _ S0⟩)
            ((go_at_call 87; refine HLc.out.mono ?_; rintro x w1 ⟨rfl, S1⟩))
          go_wp2
          exact ⟨⟨k + 1, m', a', c', gs, by omega, by go_num, rfl, by omega, HG, S1⟩, by simp [intOf]; omega⟩
    · obtain rfl : k = n := by omega
      have HG : Hid (gs ++ [e] = es.filter (fun d => lt d e) ++ [e]) := by show _ = _; rw [hgs.out, List.take_of_length_le (by omega)]
      obtain ⟨x0, x1⟩ := hst.box
      have z1 := hst.size
      clear hgs
      go_wp2_with (at_builtin; refine wpList_append_own _ rfl _ _ 24 rfl (w.heap.size + 1) 78 i0 _ 2 16 Try.underlying24 hi hz0 hz1 hz2 rfl (by decide) _ _ _ rfl (hst.own.alloc _) ⟨wr.heap.size, 0, none⟩ 1 1 [.int .i64 e.1, .int .i64 e.2] rfl rfl (news1 _ _) (by intro u hu; simp at hu; rcases hu with rfl | rfl <;> rfl) (by unfold maxLen; omega) (by omega) (by simp; omega) ?_)
      intro v2 w2 hown2 hg2 hn2
      obtain ⟨a2, c2, rfl, hst2⟩ := hst.app hown2 hg2
      have hmk : m' + 1 ≤ k + 1 := by omega
      generalize m' + 1 = m3 at hst2 hmk
      generalize gs ++ [e] = g0 at HG hst2
      clear hown2 hg2 hn2 x0 x1 hst
      go_wp2
      go_loopw [5, 7] (fun v i wr => ∃ (q m' : Nat) (a' : Option Addr) (c' : Nat) (gs : List EdgeV), q ≤ k ∧ i = .int .i64 (q : Int) ∧ v = .slice a' m' c' ∧ m' ≤ k + 1 + q ∧ Hid (gs = g0 ++ (es.take q).filter (fun d => lt e d)) ∧ PutSt w e a' m' c' gs wr) (fun _ i _ => k - (intOf i).toNat)
      case atStart => exact ⟨0, m3, a2, c2, g0, by omega, rfl, rfl, by omega, by show _ = _; simp, hst2⟩
      case round =>
        obtain ⟨q, m', a', c', gs, hq, rfl, rfl, hm, hgs, hst⟩ := hrel
        by_cases hlt : q < k
        · rcases HR.out with hz | ⟨b, off, rfl, hbl, hc⟩
          · omega
          · obtain ⟨f, hf⟩ : ∃ f, es[q]? = some f := ⟨es[q]'(by omega), List.getElem?_eq_getElem (by omega)⟩
            obtain ⟨c0, c1⟩ := hc q f hf
            have b1 : (0 : Int) ≤ (q : Int) := by omega
            have b2 : (q : Int) < (k : Int) := by omega
            have HK : Hid (∀ W : World, PutSt w e a' m' c' gs W → (W.cell? ⟨b, off + q * 2, none⟩ = some (.int .i64 f.1) ∧ W.cell? ⟨b, off + q * 2 + 1, none⟩ = some (.int .i64 f.2)) ∧ W.cell? ⟨w.heap.size, 0, none⟩ = some (.int .i64 e.1) ∧ W.cell? ⟨w.heap.size, 1, none⟩ = some (.int .i64 e.2)) := fun W hW =>
              ⟨⟨by rw [hW.below.cell hbl]; exact c0, by rw [hW.below.cell hbl]; exact c1⟩, hW.box⟩
            have S0 := hst.up (Below.refl _ _).drew
            have HLc := hideIt (HLs.out a' m' c' gs e f _ S0)
            have e0 := (HK.out _ hst).1.1
            have e1 := (HK.out _ hst).1.2
            cases hL : lt e f with
            | true =>
              rw [hL] at HLc
              have HG : Hid (gs ++ [f] = g0 ++ (es.take (q + 1)).filter (fun d => lt e d)) := by
                show _ = _
                rw [take_snocF es q f hf, List.filter_append, hgs.out]
                simp [hL]
              clear hc hf c0 c1 hL
              go_wp2
              go_region_held3 (fun u => PutSt w e a' m' c' gs u ∧ (u.cell? ⟨b, off + q * 2, none⟩ = some (.int .i64 f.1) ∧ u.cell? ⟨b, off + q * 2 + 1, none⟩ = some (.int .i64 f.2)) ∧ u.cell? ⟨w.heap.size, 0, none⟩ = some (.int .i64 e.1) ∧ u.cell? ⟨w.heap.size, 1, none⟩ = some (.int .i64 e.2))
                (first | exact ⟨S1, HK.out _ S1⟩ | exact ⟨S0, HK.out _ S0⟩)
                ((go_at_call 87; refine HLc.out.mono ?_; rintro x w1 ⟨rfl, S1⟩))
              obtain ⟨⟨y0, y1⟩, _, _⟩ := HK.out _ S1
              have z1 := S1.size
              clear HLc S0
              go_wp2_with (at_builtin; refine wpList_append_own _ rfl _ _ 24 rfl (w.heap.size + 1) 78 i0 _ 2 16 Try.underlying24 hi hz0 hz1 hz2 rfl (by decide) _ _ _ rfl (S1.own.alloc _) ⟨w1.heap.size, 0, none⟩ 1 1 [.int .i64 f.1, .int .i64 f.2] rfl rfl (news1 _ _) (by intro u hu; simp at hu; rcases hu with rfl | rfl <;> rfl) (by unfold maxLen; omega) (by omega) (by simp; omega) ?_)
              intro v2 w2 hown2 hg2 hn2
              obtain ⟨a2, c2, rfl, hst2⟩ := S1.app hown2 hg2
              clear hown2 hg2 hn2 S1 y0 y1 e0 e1 hst
              go_wp2
              exact ⟨⟨q + 1, m' + 1, a2, c2, gs ++ [f], by omega, by go_num, rfl, by omega, HG, hst2⟩, by simp [intOf]; omega⟩
            | false =>
              rw [hL] at HLc
              have HG : Hid (gs = g0 ++ (es.take (q + 1)).filter (fun d => lt e d)) := by
                show _ = _
                rw [take_snocF es q f hf, List.filter_append, hgs.out]
                simp [hL]
              clear hc hf c0 c1 hL
              go_wp2
              go_region_held3 (fun u => PutSt w e a' m' c' gs u ∧ (u.cell? ⟨b, off + q * 2, none⟩ = some (.int .i64 f.1) ∧ u.cell? ⟨b, off + q * 2 + 1, none⟩ = some (.int .i64 f.2)) ∧ u.cell? ⟨w.heap.size, 0, none⟩ = some (.int .i64 e.1) ∧ u.cell? ⟨w.heap.size, 1, none⟩ = some (.int .i64 e.2))
                (first | exact ⟨S1, HK.out _ S1⟩ | exact ⟨S0, HK.out _ S0⟩)
                ((go_at_call 87; refine HLc.out.mono ?_; rintro x w1 ⟨rfl, S1⟩))
              go_wp2
              exact ⟨⟨q + 1, m', a', c', gs, by omega, by go_num, rfl, by omega, HG, S1⟩, by simp [intOf]; omega⟩
        · obtain rfl : q = k := by omega
          have HF : Hid (gs = putE es e) := by show _ = _; rw [hgs.out, HG.out, List.take_of_length_le (by omega)]; unfold putE; rfl
          have HO := hideIt (own_mono hst.own (show w.heap.size ≤ w.heap.size + 1 by omega))
          have hb := hst.below
          clear hgs hst
          go_wp2
          go_ret
          exact ⟨a', m', c', rfl, by rw [← HF.out]; exact HO.out, hb⟩
end Go.Proofs.Ytkhhagjcmbbdpaa
namespace Go.Proofs.Ytkhhagjcmbbdpaa
open Go.RowKit Vt

def Box2 (w : World) (b : Nat) (t : TypeId) (v0 v1 : Value) : Prop := w.heap[b]? = some (.cells #[v0, v1] t (0, 0))

theorem Box2.cell0 {w : World} {b : Nat} {t : TypeId} {v0 v1 : Value} (h : Box2 w b t v0 v1) : w.cell? ⟨b, 0, none⟩ = some v0 := by rw [cell_of_row w b 0 _ _ _ h]; rfl

theorem Box2.cell1 {w : World} {b : Nat} {t : TypeId} {v0 v1 : Value} (h : Box2 w b t v0 v1) : w.cell? ⟨b, 1, none⟩ = some v1 := by rw [cell_of_row w b 1 _ _ _ h]; rfl

theorem Box2.frozen {w : World} {b : Nat} {t : TypeId} {v0 v1 : Value} (h : Box2 w b t v0 v1) (j : Nat) : w.frozen? ⟨b, j, none⟩ = false := frozen_of_row w b j _ _ h

theorem Box2.lt {w : World} {b : Nat} {t : TypeId} {v0 v1 : Value} (h : Box2 w b t v0 v1) : b < w.heap.size := (Array.getElem?_eq_some_iff.1 h).1

theorem Box2.new (w : World) (t : TypeId) (v0 v1 : Value) (b : Nat) (hb : w.heap.size = b) : Box2 (w.alloc (.cells #[v0, v1] t)) b t v0 v1 := by subst hb; exact heap_alloc_new w _

theorem Box2.grown {w w' : World} {b : Nat} {t : TypeId} {v0 v1 : Value} {row : Option Nat} (h : Box2 w b t v0 v1) (hg : w.grownBy w' row) (hr : some b ≠ row) : Box2 w' b t v0 v1 := by
  unfold Box2; rw [hg.block b h.lt hr]; exact h

theorem Box2.alloc {w : World} {b : Nat} {t : TypeId} {v0 v1 : Value} (h : Box2 w b t v0 v1) (o : Obj) : Box2 (w.alloc o) b t v0 v1 := by
  unfold Box2; rw [Below.heap_alloc w o b h.lt]; exact h

theorem Box2.set {w : World} {b : Nat} {t : TypeId} {v0 v1 : Value} (h : Box2 w b t v0 v1) (u0 u1 : Value) : Box2 ((w.setCell ⟨b, 0, none⟩ u0).setCell ⟨b, 1, none⟩ u1) b t u0 u1 := by
  have h1 : (w.setCell ⟨b, 0, none⟩ u0).heap[b]? = some (.cells #[u0, v1] t (0, 0)) := by rw [heap_setCell_same w b 0 _ t u0 h]; rfl
  unfold Box2
  rw [heap_setCell_same _ b 1 _ t u1 h1]; rfl

theorem Box2.below {w w' : World} {b C : Nat} {t : TypeId} {v0 v1 : Value} (h : Box2 w b t v0 v1) (hb : Below C w w') (hC : b < C) : Box2 w' b t v0 v1 := by
  unfold Box2; rw [hb.block b hC]; exact h



theorem eB_iff' (n : Int) (e : EdgeV) : eB n e = true ↔ (1 ≤ n ∧ n ≤ 12 ∧ 0 ≤ e.1 ∧ e.1 < e.2 ∧ e.2 < n) := by unfold eB; rw [decide_eq_true_iff]

theorem Cur.grownX {u v : World} {G X : Nat} {a : Option Addr} {len cap : Nat} (h : Cur u G a len cap) (hg : u.grownBy v (some X)) (hX : G ≠ X) : Cur v G a len cap := by
  obtain ⟨i, hh, hi, hG⟩ := h
  have hlt : G < u.heap.size := (Array.getElem?_eq_some_iff.1 hG).1
  exact ⟨i, hh, hi, by rw [hg.block G hlt (by simpa using hX)]; exact hG⟩

theorem Cur.lt {u : World} {G : Nat} {a : Option Addr} {len cap : Nat} (h : Cur u G a len cap) : G < u.heap.size := by
  obtain ⟨i, hh, hi, hG⟩ := h
  exact (Array.getElem?_eq_some_iff.1 hG).1

theorem Cur.up {u v : World} {G : Nat} {a : Option Addr} {len cap : Nat} (h : Cur u G a len cap) (hb : Below u.heap.size u v) : Cur v G a len cap := by
  have hlt := h.lt
  obtain ⟨i, hh, hi, hG⟩ := h
  exact ⟨i, hh, hi, by rw [hb.block G hlt]; exact hG⟩

theorem Code.up {u v : World} {G : Nat} {a : Option Addr} {len : Nat} (h : Code u G a len) (hb : Below u.heap.size u v) : Code v G a len :=
  h.kept ⟨hb.os, hb.tape, hb.output, hb.size, fun k hk _ => hb.block k hk⟩

/-- below w nothing but the cursor has turned -/
theorem grown_up {w u v : World} {G : Nat} (h : w.grownBy u (some G)) (hb : Below w.heap.size u v) : w.grownBy v (some G) :=
  ⟨hb.os.trans h.os, hb.tape.trans h.tape, hb.output.trans h.output, Nat.le_trans h.size hb.size, fun k hk hne => (hb.block k hk).trans (h.block k hk hne)⟩

set_option maxRecDepth 100000 in
set_option maxHeartbeats 4000000 in
theorem l05Edge_any (nn : Nat) (h2 : 2 ≤ nn) (h12 : nn ≤ 12) (w : World) (G : Nat) (a : Option Addr) (len cap : Nat) (hl : len ≤ 1048576) (hcur : Cur w G a len cap) (hcode : Code w G a len) :
    Calls Try.prog 102 #[.pointer (some ⟨G, 0, none⟩), .int .i64 (nn : Int)] w fun x w' => ∃ e : EdgeV, Hid (eB (nn : Int) e = true) ∧ x = .returned (.agg #[.int .i64 e.1, .int .i64 e.2]) ∧ Drawn w w' G a len cap := by
  have hb0 : Below w.heap.size w (w.alloc (.cells #[.int .i64 0, .int .i64 0] 78)) := (Below.refl _ _).alloc (Nat.le_refl _) _
  have HB := hideIt (fun (W : World) (hc : Cur W G a len cap) (hd : Code W G a len) => l01Below_any (nn : Int) (by omega) (by omega) W G a len cap hl hc hd)
  have HC0 := hideIt (hcur.up hb0)
  have HD0 := hideIt (hcode.up hb0)
  have hG := hcur.lt
  have HCode := hideIt hcode
  have HGr : Hid (w.grownBy (w.alloc (.cells #[.int .i64 0, .int .i64 0] 78)) (some G)) := grown_of_below hb0 _
  have B0 := Box2.new w 78 (.int .i64 0) (.int .i64 0) w.heap.size rfl
  clear hcur hcode hb0
  go_enter Try.func102, Try.ntmps102
  go_wp2_with (go_at_call 90; refine (HB.out _ HC0.out HD0.out).mono ?_; rintro e w1 ⟨x, hx, rfl, d1⟩; refine Hid.out ?_)
  refine (show ∀ {p : Prop}, p → Hid p from fun h => h) ?_
  have B1 := B0.grown d1.grown (by simp; omega)
  go_wp2_with (go_at_call 90; refine (HB.out _ d1.cur d1.code).mono ?_; rintro e w2 ⟨y, hy, rfl, d2⟩; refine Hid.out ?_)
  refine (show ∀ {p : Prop}, p → Hid p from fun h => h) ?_
  have B2 := B1.grown d2.grown (by simp; omega)
  have D2 := hideIt (d1.trans d2)
  clear B0 B1 d1 d2 HC0 HD0 HB
  have c0 := B2.cell0
  have c1 := B2.cell1
  have f0 := B2.frozen 0
  have f1 := B2.frozen 1
  have HFin : Hid (∀ p q : Int, 0 ≤ p → p < q → q < (nn : Int) → ∃ e : EdgeV, Hid (eB (nn : Int) e = true) ∧ Ending.returned (.agg #[.int .i64 p, .int .i64 q]) = .returned (.agg #[.int .i64 e.1, .int .i64 e.2]) ∧ Drawn w ((w2.setCell ⟨w.heap.size, 0, none⟩ (.int .i64 p)).setCell ⟨w.heap.size, 1, none⟩ (.int .i64 q)) G a len cap) := fun p q hp hpq hq => by
    have hg2 := grown_trans (grown_set w2 w.heap.size 0 (.int .i64 p)) (grown_set _ w.heap.size 1 (.int .i64 q))
    have hbw : Below w.heap.size w2 ((w2.setCell ⟨w.heap.size, 0, none⟩ (.int .i64 p)).setCell ⟨w.heap.size, 1, none⟩ (.int .i64 q)) := ((Below.refl w.heap.size w2).setCell (p := ⟨w.heap.size, 0, none⟩) (Nat.le_refl _) _).setCell (p := ⟨w.heap.size, 1, none⟩) (Nat.le_refl _) _
    have hgw := grown_up (grown_trans HGr.out D2.out.grown) hbw
    refine ⟨(p, q), (eB_iff' _ _).2 ⟨by omega, by omega, hp, hpq, hq⟩, rfl, D2.out.cur.grownX hg2 (by omega), HCode.out.kept hgw, hgw⟩
  have hx' : x < nn := by omega
  have hy' : y < nn := by omega
  by_cases hxy : x = y
  · subst hxy
    by_cases hx1 : x + 1 < nn
    · have m1 : ((x : Int) + 1) % (nn : Int) = (x : Int) + 1 := Int.emod_eq_of_lt (by omega) (by omega)
      have m2 : ((x : Int) + 1).tmod (nn : Int) = (x : Int) + 1 := by rw [Int.tmod_eq_emod_of_nonneg (by omega)]; exact m1
      have d1 : decide ((x : Int) + 1 < (x : Int)) = false := decide_eq_false (by omega)
      have HF := hideIt (HFin.out (x : Int) ((x : Int) + 1) (by omega) (by omega) (by omega))
      clear HFin
      go_wp2
      obtain ⟨e, he, h3, h4⟩ := HF.out
      exact bodyPost_ret (v := .agg #[.int .i64 (x : Int), .int .i64 ((x : Int) + 1)]) (by simp [results, Try.results102, go_sem, c0, c1]) rfl ⟨e, he, h3, h4⟩
    · have hxn : x + 1 = nn := by omega
      have m1 : ((x : Int) + 1) % (nn : Int) = 0 := by rw [show (x : Int) + 1 = (nn : Int) by omega]; exact Int.emod_self
      have m2 : ((x : Int) + 1).tmod (nn : Int) = 0 := by rw [Int.tmod_eq_emod_of_nonneg (by omega)]; exact m1
      have d1 : decide ((0 : Int) < (x : Int)) = true := decide_eq_true (by omega)
      have HF := hideIt (HFin.out 0 (x : Int) (by omega) (by omega) (by omega))
      clear HFin hxn
      go_wp2
      obtain ⟨e, he, h3, h4⟩ := HF.out
      exact bodyPost_ret (v := .agg #[.int .i64 0, .int .i64 (x : Int)]) (by simp [results, Try.results102, go_sem, c0, c1]) rfl ⟨e, he, h3, h4⟩
  · have d0 : ((x : Int) == (y : Int)) = false := by simp; omega
    by_cases hlt : x < y
    · have d1 : decide ((y : Int) < (x : Int)) = false := decide_eq_false (by omega)
      have HF := hideIt (HFin.out (x : Int) (y : Int) (by omega) (by omega) (by omega))
      clear HFin
      go_wp2
      obtain ⟨e, he, h3, h4⟩ := HF.out
      exact bodyPost_ret (v := .agg #[.int .i64 (x : Int), .int .i64 (y : Int)]) (by simp [results, Try.results102, go_sem, c0, c1]) rfl ⟨e, he, h3, h4⟩
    · have d1 : decide ((y : Int) < (x : Int)) = true := decide_eq_true (by omega)
      have HF := hideIt (HFin.out (y : Int) (x : Int) (by omega) (by omega) (by omega))
      clear HFin
      go_wp2
      obtain ⟨e, he, h3, h4⟩ := HF.out
      exact bodyPost_ret (v := .agg #[.int .i64 (y : Int), .int .i64 (x : Int)]) (by simp [results, Try.results102, go_sem, c0, c1]) rfl ⟨e, he, h3, h4⟩


/-- since w only the cursor and new blocks have turned -/
structure DS (w u : World) (G : Nat) (a : Option Addr) (len cap : Nat) : Prop where
  cur : Cur u G a len cap
  grown : w.grownBy u (some G)

section
variable {w u v : World} {G : Nat} {a : Option Addr} {len cap : Nat}
theorem DS.start (h : Cur w G a len cap) : DS w w G a len cap := ⟨h, gr_refl _ _⟩
theorem DS.code (h : DS w u G a len cap) (hc : Code w G a len) : Code u G a len := hc.kept h.grown
theorem DS.fin (h : DS w u G a len cap) (hc : Code w G a len) : Drawn w u G a len cap := ⟨h.cur, h.code hc, h.grown⟩
theorem DS.drawn (h : DS w u G a len cap) (d : Drawn u v G a len cap) : DS w v G a len cap := ⟨d.cur, gr_trans h.grown d.grown⟩
theorem DS.up (h : DS w u G a len cap) (hb : Below u.heap.size u v) : DS w v G a len cap := ⟨h.cur.up hb, gr_trans h.grown (gr_below hb _)⟩
theorem DS.alloc (h : DS w u G a len cap) (o : Obj) : DS w (u.alloc o) G a len cap := h.up (bel1 _ _)
theorem DS.drew (h : DS w u G a len cap) : DS w u.drew G a len cap := ⟨h.cur, gr_trans h.grown (gr_drew _ _)⟩
theorem DS.row {row : Option Nat} (h : DS w u G a len cap) (hG : G < w.heap.size) (hg : u.grownBy v row) (hr : ∀ q, row = some q → w.heap.size ≤ q) : DS w v G a len cap := by
  refine ⟨?_, gr_own h.grown hg hr⟩
  obtain ⟨i, x, hi, hq⟩ := h.cur
  exact ⟨i, x, hi, by rw [hg.block G (Array.getElem?_eq_some_iff.1 hq).1 (fun e => by have := hr G e.symm; omega)]; exact hq⟩
theorem DS.set (h : DS w u G a len cap) (hG : G < w.heap.size) (b j : Nat) (x : Value) (hb : w.heap.size ≤ b) : DS w (u.setCell ⟨b, j, none⟩ x) G a len cap :=
  h.row hG (gr_set u b j x) (fun q hq => by simp at hq; omega)
theorem DS.size (h : DS w u G a len cap) : w.heap.size ≤ u.heap.size := h.grown.size
theorem blk_drawn {b : Nat} {o : Obj} (h : u.heap[b]? = some o) (d : Drawn u v G a len cap) (hb : b ≠ G) : v.heap[b]? = some o := by
  rw [d.grown.block b (Array.getElem?_eq_some_iff.1 h).1 (by simp; exact hb)]; exact h
theorem blk_up {b : Nat} {o : Obj} (h : u.heap[b]? = some o) (hb : Below u.heap.size u v) : v.heap[b]? = some o := by
  rw [hb.block b (Array.getElem?_eq_some_iff.1 h).1]; exact h
theorem blk_alloc {b : Nat} {o : Obj} (h : u.heap[b]? = some o) (p : Obj) : (u.alloc p).heap[b]? = some o := blk_up h (bel1 _ _)
theorem blk_row {b : Nat} {o : Obj} {row : Option Nat} (h : u.heap[b]? = some o) (hg : u.grownBy v row) (hb : row ≠ some b) : v.heap[b]? = some o := by
  rw [hg.block b (Array.getElem?_eq_some_iff.1 h).1 (Ne.symm hb)]; exact h
theorem own_drawn {B e s n : Nat} {x : Value} {xs : List Value} (h : u.ownsRow B e s x n xs) (d : Drawn u v G a len cap) (hG : G < B) : v.ownsRow B e s x n xs := h.kept d.grown (own_ne h hG)
end

theorem l09N_any (w : World) (G : Nat) (a : Option Addr) (len cap : Nat) (hl : len ≤ 1048576) (hcur : Cur w G a len cap) (hcode : Code w G a len) :
    Calls Try.prog 60 #[.pointer (some ⟨G, 0, none⟩)] w fun e w' => ∃ nn : Nat, (2 ≤ nn ∧ nn ≤ 12) ∧ e = .returned (.int .i64 (nn : Int)) ∧ Drawn w w' G a len cap := by
  have HB := hideIt (l01Below_any 11 (by omega) (by omega) w G a len cap hl hcur hcode)
  clear hcur hcode
  go_enter Try.func60, Try.ntmps60
  go_wp2_with (go_at_call 90; refine HB.out.mono ?_; rintro e w1 ⟨x, hx, rfl, hd⟩)
  go_ret
  exact ⟨2 + x, by omega, by simp, hd⟩

theorem ints_new (w : World) (zs : List Int) (t : TypeId) : ∀ j, j < zs.length → ∃ z : Int, (w.alloc (.cells (zs.map (Value.int .i64)).toArray t)).cell? ⟨w.heap.size, j, none⟩ = some (.int .i64 z) := by
  intro j hj
  refine ⟨zs[j], ?_⟩
  have := heap_alloc_new w (.cells (zs.map (Value.int .i64)).toArray t)
  rw [cell_of_row _ _ j _ _ _ this]
  simp [hj]

set_option maxRecDepth 100000 in
set_option maxHeartbeats 4000000 in
theorem l05AnyEdge_any (w : World) (G : Nat) (a : Option Addr) (len cap : Nat) (hl : len ≤ 1048576) (hcur : Cur w G a len cap) (hcode : Code w G a len) :
    Calls Try.prog 92 #[.pointer (some ⟨G, 0, none⟩), .agg #[.int .i64 0, .slice none 0 0]] w fun x w' => ∃ e : EdgeV, x = .returned (.agg #[.int .i64 e.1, .int .i64 e.2]) ∧ Drawn w w' G a len cap := by
  have hGl := hcur.lt
  have HO : Hid (∀ W, DS w W G a len cap → Calls Try.prog 67 #[.pointer (some ⟨G, 0, none⟩), .int .i64 12] W fun e w' => ∃ b : Bool, e = .returned (.bool b) ∧ Drawn W w' G a len cap) := fun W hW => l01Once_any 12 (by omega) (by omega) W G a len cap hl hW.cur (hW.code hcode)
  have HE : Hid (∀ W, DS w W G a len cap → Calls Try.prog 102 #[.pointer (some ⟨G, 0, none⟩), .int .i64 6] W fun x w' => ∃ e : EdgeV, Hid (eB (6 : Int) e = true) ∧ x = .returned (.agg #[.int .i64 e.1, .int .i64 e.2]) ∧ Drawn W w' G a len cap) := fun W hW => l05Edge_any 6 (by omega) (by omega) W G a len cap hl hW.cur (hW.code hcode)
  have D0 : DS w ((w.alloc (.cells #[.int .i64 0, .slice none 0 0] 120)).alloc (.cells #[.int .i64 0, .int .i64 0] 78)) G a len cap := ((DS.start hcur).alloc _).alloc _
  have b0 : ((w.alloc (.cells #[.int .i64 0, .slice none 0 0] 120)).alloc (.cells #[.int .i64 0, .int .i64 0] 78)).heap[w.heap.size + 1]? = some (.cells #[.int .i64 0, .int .i64 0] 78 (0, 0)) := by
    have := heap_alloc_new (w.alloc (.cells #[.int .i64 0, .slice none 0 0] 120)) (.cells #[.int .i64 0, .int .i64 0] 78)
    simpa using this
  have HD0 := hideIt D0
  have Hb0 := hideIt b0
  have HCode := hideIt hcode
  clear hcur hcode D0 b0
  go_enter Try.func92, Try.ntmps92
  go_wp2_with (go_at_call 67; refine (HO.out _ HD0.out).mono ?_; rintro e w1 ⟨b, rfl, hd1⟩; refine Hid.out ?_)
  refine (show ∀ {p : Prop}, p → Hid p from fun h => h) ?_
  have D1 := HD0.out.drawn hd1
  have b1 := blk_drawn Hb0.out hd1 (show w.heap.size + 1 ≠ G by omega)
  have z1 := D1.size
  clear HD0 Hb0 hd1
  cases b with
  | true =>
    have HP : Hid (∀ (W : World) (zs : List Int), 0 < zs.length → zs.length ≤ 1000 → DS w W G a len cap → Calls Try.prog 68 #[.pointer (some ⟨G, 0, none⟩), .slice (some ⟨W.heap.size, 0, none⟩) zs.length zs.length] (W.alloc (.cells (zs.map (Value.int .i64)).toArray 3)) fun e w' => ∃ x : Int, e = .returned (.int .i64 x) ∧ Drawn (W.alloc (.cells (zs.map (Value.int .i64)).toArray 3)) w' G a len cap) := fun W zs h0 h1 hW => by
      have hW2 := hW.alloc (.cells (zs.map (Value.int .i64)).toArray 3)
      have hz := hW.size
      exact l01PickInt_any W.heap.size zs.length zs.length h0 h1 _ G a len cap hl hW2.cur (hW2.code HCode.out) (by simp) (by omega) (ints_new W zs 3)
    have P1 := hideIt (HP.out w1 [-1, 0, 5, 11, 12] (by simp) (by simp) D1)
    simp only [List.map_cons, List.map_nil, List.length_cons, List.length_nil, Nat.zero_add, Nat.reduceAdd] at P1
    go_wp2_with (go_at_call 68; refine P1.out.mono ?_; rintro e w2 ⟨x, rfl, hd2⟩; refine Hid.out ?_)
    refine (show ∀ {p : Prop}, p → Hid p from fun h => h) ?_
    have D2 := (D1.alloc _).drawn hd2
    have b2 := blk_drawn (blk_alloc b1 _) hd2 (show w.heap.size + 1 ≠ G by omega)
    clear hd2 b1 D1 P1
    have P2 := hideIt (HP.out w2 [0, 5, 11, 12] (by simp) (by simp) D2)
    simp only [List.map_cons, List.map_nil, List.length_cons, List.length_nil, Nat.zero_add, Nat.reduceAdd] at P2
    go_wp2_with (go_at_call 68; refine P2.out.mono ?_; rintro e w3 ⟨y, rfl, hd3⟩; refine Hid.out ?_)
    refine (show ∀ {p : Prop}, p → Hid p from fun h => h) ?_
    have D3 := (D2.alloc _).drawn hd3
    have b3 := blk_drawn (blk_alloc b2 _) hd3 (show w.heap.size + 1 ≠ G by omega)
    have e0 : w3.cell? ⟨w.heap.size + 1, 0, none⟩ = some (.int .i64 0) := by rw [cell_of_row w3 _ 0 _ _ _ b3]; rfl
    have e1 : w3.cell? ⟨w.heap.size + 1, 1, none⟩ = some (.int .i64 0) := by rw [cell_of_row w3 _ 1 _ _ _ b3]; rfl
    have f0 := frozen_of_row w3 _ 0 _ _ b3
    have f1 := frozen_of_row w3 _ 1 _ _ b3
    have HD3 := hideIt D3
    clear D3 D2 b2 b3 hd3 P2 HP
    go_wp2
    refine bodyPost_ret (v := .agg #[.int .i64 x, .int .i64 y]) (by simp [results, Try.results92, go_sem, e0, e1]) rfl ⟨(x, y), rfl, DS.fin ?_ HCode.out⟩
    exact (HD3.out.set hGl _ _ _ (by omega)).set hGl _ _ _ (by omega)
  | false =>
    have c0 : w1.cell? ⟨w.heap.size + 1, 0, none⟩ = some (.int .i64 0) := by rw [cell_of_row w1 _ 0 _ _ _ b1]; rfl
    have c1 : w1.cell? ⟨w.heap.size + 1, 1, none⟩ = some (.int .i64 0) := by rw [cell_of_row w1 _ 1 _ _ _ b1]; rfl
    go_wp2_with (go_at_call 102; refine (HE.out _ D1).mono ?_; rintro e w2 ⟨e2, _, rfl, hd2⟩; refine Hid.out ?_)
    refine (show ∀ {p : Prop}, p → Hid p from fun h => h) ?_
    have D2 := D1.drawn hd2
    have b2 := blk_drawn b1 hd2 (show w.heap.size + 1 ≠ G by omega)
    have e0 : w2.cell? ⟨w.heap.size + 1, 0, none⟩ = some (.int .i64 0) := by rw [cell_of_row w2 _ 0 _ _ _ b2]; rfl
    have e1 : w2.cell? ⟨w.heap.size + 1, 1, none⟩ = some (.int .i64 0) := by rw [cell_of_row w2 _ 1 _ _ _ b2]; rfl
    have f0 := frozen_of_row w2 _ 0 _ _ b2
    have f1 := frozen_of_row w2 _ 1 _ _ b2
    have HD2 := hideIt D2
    clear D1 D2 b1 b2 hd2 c0 c1
    go_wp2
    refine bodyPost_ret (v := .agg #[.int .i64 e2.1, .int .i64 e2.2]) (by simp [results, Try.results92, go_sem, e0, e1]) rfl ⟨e2, rfl, DS.fin ?_ HCode.out⟩
    exact (HD2.out.set hGl _ _ _ (by omega)).set hGl _ _ _ (by omega)
end Go.Proofs.Ytkhhagjcmbbdpaa
