/- What is blank: answers, orders, questions. What the specification's l01Var and l01In answer. What the specification's ReadVar answers, at every text and place: the number 'rv' and the place behind it, or nothing. The specification's reader of parts. The specification's reader of edges. Boxes of any cells; a drawn region walked state by state; one old block alone is turned. -/
import Derived.Test.YtaipbkigngjkbaaDoorKMem
import Derived.Test.YtaipbkigngjkbaaDoorKOr10
import Derived.Deep.DeepCutAuto
import Derived.WalkSmall
import Derived.Lib.Strings
import Derived.Deep.RegionHeld3
import Derived.Test.YtaipbkigngjkbaaDoorKIntsO10
namespace Go.Proofs.YtaipbkigngjkbaaDoor
open Go.RowKit

def azB (num : Int) (ok : Bool) (ne nl : Nat) : Bool := decide (num = 0 ∧ ok = false ∧ ne = 0 ∧ nl = 0)
def ozB (num op : Int) (ne : Nat) (v : Int) : Bool := decide (num = 0 ∧ op = 0 ∧ v = 0 ∧ ne = 0)
set_option maxRecDepth 100000 in
theorem SameE_nil (n1 : Nat) (a1 : Option Addr) (c1 : Nat) (w : World) : Calls Tryd.prog 56 #[.slice a1 n1 c1, .slice none 0 0] w fun e w' => e = .returned (.bool (decide (n1 = 0))) ∧ w' = w := by
  by_cases h : n1 = 0
  · subst h
    go_enter Tryd.func56, Tryd.ntmps56
    go_wp2
    go_loopw [5] (fun q wr => q = .int .i64 0 ∧ wr = w) (fun _ _ => 0)
    case atStart => exact ⟨rfl, rfl⟩
    case round =>
      obtain ⟨rfl, rfl⟩ := hrel
      go_wp2
      go_ret
      exact ⟨rfl, rfl⟩
  · have d : ((n1 : Int) != 0) = true := by simpa using h
    have e : decide (n1 = 0) = false := decide_eq_false h
    rw [e]
    go_enter Tryd.func56, Tryd.ntmps56
    go_wp2
    go_ret
    exact ⟨rfl, rfl⟩
set_option maxRecDepth 100000 in
theorem SameI_nil (n1 : Nat) (a1 : Option Addr) (c1 : Nat) (w : World) : Calls Tryd.prog 57 #[.slice a1 n1 c1, .slice none 0 0] w fun e w' => e = .returned (.bool (decide (n1 = 0))) ∧ w' = w := by
  by_cases h : n1 = 0
  · subst h
    go_enter Tryd.func57, Tryd.ntmps57
    go_wp2
    go_loopw [5] (fun q wr => q = .int .i64 0 ∧ wr = w) (fun _ _ => 0)
    case atStart => exact ⟨rfl, rfl⟩
    case round =>
      obtain ⟨rfl, rfl⟩ := hrel
      go_wp2
      go_ret
      exact ⟨rfl, rfl⟩
  · have d : ((n1 : Int) != 0) = true := by simpa using h
    have e : decide (n1 = 0) = false := decide_eq_false h
    rw [e]
    go_enter Tryd.func57, Tryd.ntmps57
    go_wp2
    go_ret
    exact ⟨rfl, rfl⟩
set_option maxRecDepth 100000 in
theorem sameAns0 (num : Int) (ok : Bool) (a1 a2 : Option Addr) (n1 c1 n2 c2 : Nat) (w : World) :
    Calls Tryd.prog 33 #[.agg #[.int .i64 num, .bool ok, .slice a1 n1 c1, .slice a2 n2 c2], .agg #[.int .i64 0, .bool false, .slice none 0 0, .slice none 0 0]] w fun e w' => e = .returned (.bool (azB num ok n1 n2)) ∧ Below w.heap.size w w' := by
  obtain ⟨W2, hW2⟩ : ∃ W2, W2 = (w.alloc (.cells #[.int .i64 num, .bool ok, .slice a1 n1 c1, .slice a2 n2 c2] 38)).alloc (.cells #[.int .i64 0, .bool false, .slice none 0 0, .slice none 0 0] 38) := ⟨_, rfl⟩
  have G2 : Good w W2 := by rw [hW2]; exact ((Good.refl w).alloc _).alloc _
  have HG := hideIt G2
  have HE := hideIt (SameE_nil n1 a1 c1 W2)
  have HI := hideIt (SameI_nil n2 a2 c2 W2)
  have y0 : W2.cell? ⟨w.heap.size, 0, none⟩ = some (.int .i64 num) := by rw [hW2]; simp [go_sem]
  have y1 : W2.cell? ⟨w.heap.size, 1, none⟩ = some (.bool ok) := by rw [hW2]; simp [go_sem]
  have y2 : W2.cell? ⟨w.heap.size, 2, none⟩ = some (.slice a1 n1 c1) := by rw [hW2]; simp [go_sem]
  have y3 : W2.cell? ⟨w.heap.size, 3, none⟩ = some (.slice a2 n2 c2) := by rw [hW2]; simp [go_sem]
  have z0 : W2.cell? ⟨w.heap.size + 1, 0, none⟩ = some (.int .i64 0) := by rw [hW2]; simp [go_sem]
  have z1 : W2.cell? ⟨w.heap.size + 1, 1, none⟩ = some (.bool false) := by rw [hW2]; simp [go_sem]
  have z2 : W2.cell? ⟨w.heap.size + 1, 2, none⟩ = some (.slice none 0 0) := by rw [hW2]; simp [go_sem]
  have z3 : W2.cell? ⟨w.heap.size + 1, 3, none⟩ = some (.slice none 0 0) := by rw [hW2]; simp [go_sem]
  clear G2
  have HV : Hid (azB num ok n1 n2 = (decide (num = 0) && (decide (ok = false) && (decide (n1 = 0) && decide (n2 = 0))))) := by
    show _ = _
    unfold azB
    by_cases e1 : num = 0 <;> by_cases e2 : ok = false <;> by_cases e3 : n1 = 0 <;> by_cases e4 : n2 = 0 <;> simp [e1, e2, e3, e4]
  by_cases q1 : num = 0
  · have d1 : (num == 0) = true := by simpa using q1
    have v1 : decide (num = 0) = true := decide_eq_true q1
    rw [v1] at HV
    cases ok with
    | true =>
      clear q1 v1
      go_enter Tryd.func33, Tryd.ntmps33
      go_upto_region 1 with fail
      rw [← hW2]
      clear hW2
      go_wp2
      go_ret
      exact ⟨by rw [HV.out]; rfl, HG.out⟩
    | false =>
      clear q1 v1
      generalize decide (n1 = 0) = v3 at *
      generalize decide (n2 = 0) = v4 at *
      cases v3 with
      | false =>
        go_enter Tryd.func33, Tryd.ntmps33
        go_upto_region 1 with fail
        rw [← hW2]
        clear hW2
        go_wp2_with (go_at_call 56; refine HE.out.mono ?_; rintro e w3 ⟨rfl, hw3⟩; have hw3' := hw3.symm; subst hw3')
        go_ret
        exact ⟨by rw [HV.out]; rfl, HG.out⟩
      | true =>
        go_enter Tryd.func33, Tryd.ntmps33
        go_upto_region 1 with fail
        rw [← hW2]
        clear hW2
        go_wp2_with (first | (go_at_call 56; refine HE.out.mono ?_; rintro e w3 ⟨rfl, hw3⟩; have hw3' := hw3.symm; subst hw3') | (go_at_call 57; refine HI.out.mono ?_; rintro e w4 ⟨rfl, hw4⟩; have hw4' := hw4.symm; subst hw4'))
        go_ret
        exact ⟨by rw [HV.out]; cases v4 <;> rfl, HG.out⟩
  · have d1 : (num == 0) = false := by simpa using q1
    have v1 : decide (num = 0) = false := decide_eq_false q1
    rw [v1] at HV
    clear q1 v1
    go_enter Tryd.func33, Tryd.ntmps33
    go_upto_region 1 with fail
    rw [← hW2]
    clear hW2
    go_wp2
    go_ret
    exact ⟨by rw [HV.out]; rfl, HG.out⟩
set_option maxRecDepth 100000 in
theorem blankA (num : Int) (ok : Bool) (a1 a2 : Option Addr) (n1 c1 n2 c2 : Nat) (w : World) :
    Calls Tryd.prog 11 #[.agg #[.int .i64 num, .bool ok, .slice a1 n1 c1, .slice a2 n2 c2]] w fun e w' => e = .returned (.bool (azB num ok n1 n2)) ∧ Below w.heap.size w w' := by
  have G1 : Good w (w.alloc (.cells #[.int .i64 num, .bool ok, .slice a1 n1 c1, .slice a2 n2 c2] 38)) := (Good.refl w).alloc _
  have HS := hideIt (sameAns0 num ok a1 a2 n1 c1 n2 c2 (w.alloc (.cells #[.int .i64 num, .bool ok, .slice a1 n1 c1, .slice a2 n2 c2] 38)))
  have HG := hideIt G1
  clear G1
  go_enter Tryd.func11, Tryd.ntmps11
  go_wp2_with (go_at_call 33; refine HS.out.mono ?_; rintro e w3 ⟨rfl, hb3⟩)
  go_ret
  exact ⟨rfl, HG.out.up hb3⟩
set_option maxRecDepth 100000 in
theorem sameOrd0 (num op v : Int) (a1 : Option Addr) (n1 c1 : Nat) (w : World) :
    Calls Tryd.prog 34 #[.agg #[.int .i64 num, .int .i64 op, .slice a1 n1 c1, .int .i64 v], .agg #[.int .i64 0, .int .i64 0, .slice none 0 0, .int .i64 0]] w fun e w' => e = .returned (.bool (ozB num op n1 v)) ∧ Below w.heap.size w w' := by
  obtain ⟨W2, hW2⟩ : ∃ W2, W2 = (w.alloc (.cells #[.int .i64 num, .int .i64 op, .slice a1 n1 c1, .int .i64 v] 40)).alloc (.cells #[.int .i64 0, .int .i64 0, .slice none 0 0, .int .i64 0] 40) := ⟨_, rfl⟩
  have G2 : Good w W2 := by rw [hW2]; exact ((Good.refl w).alloc _).alloc _
  have HG := hideIt G2
  have HE := hideIt (SameE_nil n1 a1 c1 W2)
  have y0 : W2.cell? ⟨w.heap.size, 0, none⟩ = some (.int .i64 num) := by rw [hW2]; simp [go_sem]
  have y1 : W2.cell? ⟨w.heap.size, 1, none⟩ = some (.int .i64 op) := by rw [hW2]; simp [go_sem]
  have y2 : W2.cell? ⟨w.heap.size, 2, none⟩ = some (.slice a1 n1 c1) := by rw [hW2]; simp [go_sem]
  have y3 : W2.cell? ⟨w.heap.size, 3, none⟩ = some (.int .i64 v) := by rw [hW2]; simp [go_sem]
  have z0 : W2.cell? ⟨w.heap.size + 1, 0, none⟩ = some (.int .i64 0) := by rw [hW2]; simp [go_sem]
  have z1 : W2.cell? ⟨w.heap.size + 1, 1, none⟩ = some (.int .i64 0) := by rw [hW2]; simp [go_sem]
  have z2 : W2.cell? ⟨w.heap.size + 1, 2, none⟩ = some (.slice none 0 0) := by rw [hW2]; simp [go_sem]
  have z3 : W2.cell? ⟨w.heap.size + 1, 3, none⟩ = some (.int .i64 0) := by rw [hW2]; simp [go_sem]
  clear G2
  have HV : Hid (ozB num op n1 v = (decide (num = 0) && (decide (op = 0) && (decide (v = 0) && decide (n1 = 0))))) := by
    show _ = _
    unfold ozB
    by_cases e1 : num = 0 <;> by_cases e2 : op = 0 <;> by_cases e3 : v = 0 <;> by_cases e4 : n1 = 0 <;> simp [e1, e2, e3, e4]
  have d1 : (num == 0) = decide (num = 0) := rfl
  have d2 : (op == 0) = decide (op = 0) := rfl
  have d3 : (v == 0) = decide (v = 0) := rfl
  generalize decide (num = 0) = v1 at *
  generalize decide (op = 0) = v2 at *
  generalize decide (v = 0) = v3 at *
  generalize decide (n1 = 0) = v4 at *
  cases v1 with
  | false =>
    go_enter Tryd.func34, Tryd.ntmps34
    go_upto_region 1 with fail
    rw [← hW2]
    clear hW2
    go_wp2
    go_ret
    exact ⟨by rw [HV.out]; rfl, HG.out⟩
  | true =>
    cases v2 with
    | false =>
      go_enter Tryd.func34, Tryd.ntmps34
      go_upto_region 1 with fail
      rw [← hW2]
      clear hW2
      go_wp2
      go_ret
      exact ⟨by rw [HV.out]; rfl, HG.out⟩
    | true =>
      cases v3 with
      | false =>
        go_enter Tryd.func34, Tryd.ntmps34
        go_upto_region 1 with fail
        rw [← hW2]
        clear hW2
        go_wp2
        go_ret
        exact ⟨by rw [HV.out]; rfl, HG.out⟩
      | true =>
        go_enter Tryd.func34, Tryd.ntmps34
        go_upto_region 1 with fail
        rw [← hW2]
        clear hW2
        go_wp2_with (go_at_call 56; refine HE.out.mono ?_; rintro e w3 ⟨rfl, hw3⟩; have hw3' := hw3.symm; subst hw3')
        go_ret
        exact ⟨by rw [HV.out]; cases v4 <;> rfl, HG.out⟩
set_option maxRecDepth 100000 in
theorem blankO (num op v : Int) (a1 : Option Addr) (n1 c1 : Nat) (w : World) :
    Calls Tryd.prog 12 #[.agg #[.int .i64 num, .int .i64 op, .slice a1 n1 c1, .int .i64 v]] w fun e w' => e = .returned (.bool (ozB num op n1 v)) ∧ Below w.heap.size w w' := by
  have G1 : Good w (w.alloc (.cells #[.int .i64 num, .int .i64 op, .slice a1 n1 c1, .int .i64 v] 40)) := (Good.refl w).alloc _
  have HS := hideIt (sameOrd0 num op v a1 n1 c1 (w.alloc (.cells #[.int .i64 num, .int .i64 op, .slice a1 n1 c1, .int .i64 v] 40)))
  have HG := hideIt G1
  clear G1
  go_enter Tryd.func12, Tryd.ntmps12
  go_wp2_with (go_at_call 34; refine HS.out.mono ?_; rintro e w3 ⟨rfl, hb3⟩)
  go_ret
  exact ⟨rfl, HG.out.up hb3⟩
def kzB (i o a b : Int) : Bool := decide (i = 0 ∧ o = 0 ∧ a = 0 ∧ b = 0)
set_option maxRecDepth 100000 in
theorem blankK (i o a b : Int) (w : World) :
    Calls Tryd.prog 16 #[.agg #[.int .i64 i, .int .i64 o, .int .i64 a, .int .i64 b]] w fun e w' => e = .returned (.bool (kzB i o a b)) ∧ Below w.heap.size w w' := by
  have HV : Hid (kzB i o a b = (decide (i = 0) && (decide (o = 0) && (decide (a = 0) && decide (b = 0))))) := by
    show _ = _
    unfold kzB
    by_cases e1 : i = 0 <;> by_cases e2 : o = 0 <;> by_cases e3 : a = 0 <;> by_cases e4 : b = 0 <;> simp [e1, e2, e3, e4]
  go_enter Tryd.func16, Tryd.ntmps16
  go_wp2
  all_goals
    go_ret
    refine ⟨?_, (Below.refl _ _).alloc (Nat.le_refl _) _⟩
    rw [HV.out]
    simp_all
end Go.Proofs.YtaipbkigngjkbaaDoor
namespace Go.Proofs.YtaipbkigngjkbaaDoor
open Go.RowKit Vt

set_option maxRecDepth 100000 in
set_option maxHeartbeats 1000000 in
theorem l01Var_any (N : Nat) (hN : N ≤ 1000000000) (w : World) :
    Calls Tryd.prog 14 #[.int .i64 (N : Int)] w fun e w' => e = .returned (.string ⟨(vt N).toArray⟩) ∧ Below w.heap.size w w' := by
  obtain ⟨i0, hi, hz0, hz1, hz2⟩ := info_parts info5
  have hlen := vt_length N N (Nat.le_refl _)
  go_enter Tryd.func14, Tryd.ntmps14
  go_wp2
  go_loopw [0, 3] (fun n out wr => ∃ (m : Nat) (pre : List UInt8), m ≤ N ∧ n = .int .i64 m ∧ Hid (pre ++ vt m = vt N) ∧ wr.ownsRow w.heap.size 5 1 out pre.length (bv pre) ∧ Below w.heap.size w wr)
    (fun n _ _ => (intOf n).toNat)
  case atStart => exact ⟨N, [], Nat.le_refl _, rfl, rfl, World.ownsRow_made _ _ _ (Nat.le_refl _) (by unfold maxLen; omega) rfl, (Below.refl _ _).alloc (Nat.le_refl _) _⟩
  case round =>
    obtain ⟨m, pre, hm, rfl, hv, hown, hb⟩ := hrel
    have hl : pre.length + (vt m).length = (vt N).length := by rw [← hv.out]; simp
    have hp := vt_pos m
    have hsz := hb.size
    by_cases hlt : m < 128
    · go_wp2_with (at_builtin; refine wpList_append_own _ rfl _ _ 60 rfl w.heap.size 5 i0 (.int .u8 0) 1 1 Tryd.underlying60 hi hz0 hz1 hz2 rfl (by decide) _ _ _ rfl (hown.alloc _) ⟨wr.heap.size, 0, none⟩ 1 1 [Value.int .u8 (m : Int)] rfl rfl (one_new _ _ _) (by intro u hu; simp at hu; subst hu; rfl) (by unfold maxLen; omega) (by omega) (by simp; omega) ?_)
      intro v1 w1 hown1 hg1 hn1
      have hb1 := below_app hb (Nat.le_refl _) hown hg1
      rw [bv_snoc pre (UInt8.ofNat m) m (by simp; omega)] at hown1
      have HV : pre ++ [UInt8.ofNat m] = vt N := by rw [← vt_small m hlt]; exact hv.out
      rw [HV] at hown1
      obtain ⟨g, cap, hv1, hcv⟩ := conv_own hown1 hn1
      clear HV
      rw [hv1]
      clear hown1 hg1 hown hv1 hn1
      go_wp2
      go_ret
      exact ⟨rfl, hb1⟩
    · go_wp2_with (at_builtin; refine wpList_append_own _ rfl _ _ 60 rfl w.heap.size 5 i0 (.int .u8 0) 1 1 Tryd.underlying60 hi hz0 hz1 hz2 rfl (by decide) _ _ _ rfl (hown.alloc _) ⟨wr.heap.size, 0, none⟩ 1 1 [Value.int .u8 ((m : Int) % 128 + 128)] rfl rfl (one_new _ _ _) (by intro u hu; simp at hu; subst hu; rfl) (by unfold maxLen; omega) (by omega) (by simp; omega) ?_)
      intro v1 w1 hown1 hg1 _
      have hb1 := below_app hb (Nat.le_refl _) hown hg1
      rw [bv_snoc pre (UInt8.ofNat (m % 128 + 128)) _ (by simp; omega)] at hown1
      have HV : Hid ((pre ++ [UInt8.ofNat (m % 128 + 128)]) ++ vt (m / 128) = vt N) := by
        show _ = _
        rw [List.append_assoc, List.singleton_append, ← vt_big m hlt]; exact hv.out
      clear hg1 hown hv
      go_wp2
      go_roundw
      case rel => exact ⟨m / 128, pre ++ [UInt8.ofNat (m % 128 + 128)], by omega, by go_num, HV, by simpa using hown1, hb1⟩
      case measure => simp [intOf]; omega

theorem l01In_yes (x a b : Int) (h1 : a ≤ x) (h2 : x ≤ b) (w : World) :
    Calls Tryd.prog 13 #[.int .i64 x, .int .i64 a, .int .i64 b] w fun e w' => e = .returned (.bool true) ∧ w' = w := by
  have d1 : decide (a ≤ x) = true := by simp [h1]
  have d2 : decide (x ≤ b) = true := by simp [h2]
  go_enter Tryd.func13, Tryd.ntmps13
  go_wp2
  go_ret
  exact ⟨by simp, rfl⟩

theorem l01In_no (x a b : Int) (h : x < a ∨ b < x) (w : World) :
    Calls Tryd.prog 13 #[.int .i64 x, .int .i64 a, .int .i64 b] w fun e w' => e = .returned (.bool false) ∧ w' = w := by
  by_cases h1 : a ≤ x
  · have d1 : decide (a ≤ x) = true := by simp [h1]
    have h2 : ¬ x ≤ b := by omega
    have d2 : decide (x ≤ b) = false := by simp [h2]
    go_enter Tryd.func13, Tryd.ntmps13
    go_wp2
    go_ret
    exact ⟨by simp, rfl⟩
  · have d1 : decide (a ≤ x) = false := by simp [h1]
    go_enter Tryd.func13, Tryd.ntmps13
    go_wp2
    go_ret
    exact ⟨by simp, rfl⟩

end Go.Proofs.YtaipbkigngjkbaaDoor
namespace Go.Proofs.YtaipbkigngjkbaaDoor
open Go.RowKit Vt

theorem l01Var_at (x : Int) (N : Nat) (hx : (N : Int) = x) (hN : N ≤ 1000000000) (w : World) :
    Calls Tryd.prog 14 #[.int .i64 x] w fun e w' => e = .returned (.string ⟨(vt N).toArray⟩) ∧ Below w.heap.size w w' := by
  subst hx
  exact l01Var_any N hN w

theorem Rd.cut {s : ByteArray} {a k u m : Nat} (h : Rd s a k u m) (hk : a + k < s.size) :
    (s.extract a ((a : Int) + (k : Int) + 1).toNat).toList = (from_ s a).take k ++ [s[a + k]] ∧ val ((from_ s a).take k ++ [s[a + k]]) = m + (s[a + k]).toNat % 128 * u := by
  have hl : ((from_ s a).take k).length = k := by simp [from_length]; omega
  have e : ((a : Int) + (k : Int) + 1).toNat = a + (k + 1) := by omega
  constructor
  · rw [Lib.toList_data, Lib.extract_data, e, Nat.add_sub_cancel_left, ← from_snoc s a k hk]
    rfl
  · rw [val_snoc, hl, ← h.unit, ← h.num]

theorem Rd.last_neq {s : ByteArray} {a k u m : Nat} (h : Rd s a k u m) (hk : a + k < s.size) (h5 : k < 5) (hb : (s[a + k]).toNat < 128)
    (ht : (!vt (m + (s[a + k]).toNat % 128 * u) == (s.extract a ((a : Int) + (k : Int) + 1).toNat).toList) = true) : rv a (from_ s a) = none := by
  have hl : ((from_ s a).take k).length = k := by simp [from_length]; omega
  have hc := h.cut hk
  rw [hc.1, ← hc.2] at ht
  have hv := vt_val _ h.bigs (s[a + k]) (by simp [big]; omega)
  refine h.last_none hk h5 hb (.inl ?_)
  rw [hl] at hv
  have hne : ¬ vt (val ((from_ s a).take k ++ [s[a + k]])) = (from_ s a).take k ++ [s[a + k]] := by simpa using ht
  exact Decidable.of_not_not (fun hx => hne (hv.2 hx))

theorem Rd.last_eq {s : ByteArray} {a k u m : Nat} (h : Rd s a k u m) (hk : a + k < s.size) (h5 : k < 5) (hb : (s[a + k]).toNat < 128) (hn : m + (s[a + k]).toNat % 128 * u ≤ 1000000000)
    (ht : (!vt (m + (s[a + k]).toNat % 128 * u) == (s.extract a ((a : Int) + (k : Int) + 1).toNat).toList) = false) : rv a (from_ s a) = some (m + (s[a + k]).toNat % 128 * u, a + k + 1) := by
  have hl : ((from_ s a).take k).length = k := by simp [from_length]; omega
  have hc := h.cut hk
  rw [hc.1, ← hc.2] at ht
  have hv := vt_val _ h.bigs (s[a + k]) (by simp [big]; omega)
  refine h.last_some hk h5 hb ?_ hn
  rw [hl] at hv
  have heq : vt (val ((from_ s a).take k ++ [s[a + k]])) = (from_ s a).take k ++ [s[a + k]] := by simpa using ht
  exact hv.1 heq

end Go.Proofs.YtaipbkigngjkbaaDoor
namespace Go.Proofs.YtaipbkigngjkbaaDoor
open Go.RowKit Vt

theorem RdAt.below {e : Prop} {t : TypeId} {w w' : World} {G : Nat} {s : ByteArray} {st : Option (List UInt8)} (h : RdAt e t w G s st) (hb : Below w.heap.size w w') : RdAt e t w' G s st := by
  have hl := h.lt
  obtain ⟨p, f, hG, rest⟩ := h
  exact ⟨p, f, by rw [hb.block G hl]; exact hG, rest⟩

/-- the text of one byte -/
def oneAt (s : ByteArray) (p : Nat) : ByteArray := s.extract p (p + 1)
theorem oneAt_size (s : ByteArray) (p : Nat) (h : p < s.size) : (oneAt s p).size = 1 := by unfold oneAt; rw [ByteArray.size_extract]; omega
theorem oneAt_is (s : ByteArray) (p : Nat) (h : p < s.size) (h1 : 0 < (oneAt s p).size) : (oneAt s p)[0] = s[p] := by
  have h2 : 0 < (s.extract p (p + 1)).size := h1
  have h3 : (s.extract p (p + 1))[0] = s[p] := by rw [ByteArray.getElem_extract]; simp
  exact h3

end Go.Proofs.YtaipbkigngjkbaaDoor
namespace Go.Proofs.YtaipbkigngjkbaaDoor
open Go.RowKit Vt

theorem own_ne {w : World} {B T S n G : Nat} {v : Value} {xs : List Value} (h : w.ownsRow B T S v n xs) (hG : G < B) : v.ownBlock = none ∨ v.ownBlock ≠ some G := by
  right
  intro hq
  have := h.lt G hq
  omega
theorem RdAt.row {e : Prop} {t : TypeId} {w w' : World} {G : Nat} {s : ByteArray} {st : Option (List UInt8)} {row : Option Nat} (h : RdAt e t w G s st) (hg : w.grownBy w' row) (hne : row ≠ some G) : RdAt e t w' G s st := by
  obtain ⟨p, f, hG, rest⟩ := h
  refine ⟨p, f, ?_, rest⟩
  rw [hg.block G (Array.getElem?_eq_some_iff.1 hG).1 (Ne.symm hne)]
  exact hG
theorem gr_own {w wr w1 : World} {G : Nat} {row : Option Nat} (h : w.grownBy wr (some G)) (hg : wr.grownBy w1 row) (hr : ∀ q, row = some q → w.heap.size ≤ q) : w.grownBy w1 (some G) := by
  refine ⟨hg.os.trans h.os, hg.tape.trans h.tape, hg.output.trans h.output, Nat.le_trans h.size hg.size, fun i hi hn => ?_⟩
  rw [hg.block i (Nat.lt_of_lt_of_le hi h.size) (fun e => by have := hr i e.symm; omega)]
  exact h.block i hi hn
theorem own_form {w : World} {B e s n : Nat} {v : Value} {xs : List Value} (h : w.ownsRow B e s v n xs) : ∃ a c, v = .slice a n c := by
  rcases h.2 with ⟨hv, h0⟩ | ⟨g, cap, cur, hv, _⟩
  · subst h0; exact ⟨none, 0, hv⟩
  · exact ⟨_, cap, hv⟩
theorem RdAt.flag {e : Prop} {t : TypeId} {w : World} {G : Nat} {s : ByteArray} {st : Option (List UInt8)} (h : RdAt e t w G s st) : w.cell? ⟨G, 2, none⟩ = some (.bool st.isNone) := by
  obtain ⟨p, f, hG, _, hf⟩ := h
  rw [cell_of_row w G 2 _ _ _ hG]
  rcases hf with ⟨rfl, rfl⟩ | ⟨rfl, rfl, _⟩ <;> rfl
theorem two_newE (w : World) (x y : Int) (t : TypeId) : ∀ j u, (ecells [(x, y)])[j]? = some u → (w.alloc (.cells #[.int .i64 x, .int .i64 y] t)).cell? ((⟨w.heap.size, 0, none⟩ : Addr).add j) = some u := by
  intro j u hj
  match j, hj with
  | 0, hj => simp [ecells, ecell] at hj; subst hj; simp [Addr.add]
  | 1, hj => simp [ecells, ecell] at hj; subst hj; simp [Addr.add]

/-- the end of the specification's loop -/
theorem ER_end {st : Option (List UInt8)} {L : List UInt8} {k i : Nat} {es : List EdgeV} {st' : Option (List UInt8)} (hn : nx pN st = (k, some L)) (hi : i ≤ k) (h : EdSt L i es st') (he : st' = none ∨ k ≤ i ∨ 100 ≤ i) : ER st es st' := by
  unfold ER
  rw [hn]
  dsimp only
  obtain ⟨h1, _, h3⟩ := h
  rcases he with rfl | he | he
  · have hl : L.length < 2 * i := by
      split at h3
      · assumption
      · simp at h3
    split
    · exact .inl rfl
    · rw [if_pos (by omega)]
  · obtain rfl : i = k := by omega
    split
    · right; omega
    · exact h3
  · rw [if_pos (by omega)]
    right; omega

end Go.Proofs.YtaipbkigngjkbaaDoor
namespace Go.Proofs.YtaipbkigngjkbaaDoor
open Go.RowKit

structure Bx (T : Prop) : Prop where
  out : T
theorem viaT {T G : Prop} (main : Bx T → G) (p : T) : G := main ⟨p⟩
theorem hidp {p : Prop} (h : p) : Hid p := h
theorem lstH {P : Program} {md : Region.Mode} {ops : Array Oper} {Q : Exit → Go.Act → World → Prop} {S : World → Prop} {fuel : Nat} {l l' : Array Bool} {a : Go.Act} {w : World} (h : l = l') (H : wpAnyH P md ops Q S fuel l' a w) : wpAnyH P md ops Q S fuel l a w := h ▸ H
/-- a box of any cells -/
def BxQ (w : World) (b : Nat) (t : TypeId) (vs : Array Value) : Prop := w.heap[b]? = some (.cells vs t (0, 0))
/-- cells k, k + 1 .. of block b are set -/
def setQ (w : World) (b : Nat) : Nat → List Value → World
  | _, [] => w
  | k, v :: vs => setQ (w.setCell ⟨b, k, none⟩ v) b (k + 1) vs
def setL (cs : List Value) : Nat → List Value → List Value
  | _, [] => cs
  | k, v :: vs => setL (cs.set k v) (k + 1) vs
section
variable {w u : World} {b : Nat} {t : TypeId} {vs : Array Value}
theorem BxQ.new (w : World) (t : TypeId) (vs : Array Value) : BxQ (w.alloc (.cells vs t)) w.heap.size t vs := heap_alloc_new w _
theorem BxQ.lt (h : BxQ w b t vs) : b < w.heap.size := (Array.getElem?_eq_some_iff.1 h).1
theorem BxQ.gr {r : Option Nat} (h : BxQ w b t vs) (hg : w.grownBy u r) (hne : r ≠ some b) : BxQ u b t vs := by unfold BxQ; rw [hg.block b h.lt (fun e => hne e.symm)]; exact h
theorem BxQ.set (h : BxQ w b t vs) (i : Nat) (v : Value) : BxQ (w.setCell ⟨b, i, none⟩ v) b t (vs.setIfInBounds i v) := heap_setCell_same w b i _ t v h
theorem BxQ.frozen (h : BxQ w b t vs) (j : Nat) : w.frozen? ⟨b, j, none⟩ = false := frozen_of_row w b j _ _ h
theorem BxQ.at {l : List Value} (h : BxQ w b t l.toArray) (i : Nat) {v : Value} (hv : l[i]? = some v) : w.cell? ⟨b, i, none⟩ = some v := by rw [cell_of_row w b i _ _ _ h, List.getElem?_toArray]; exact hv
theorem BxQ.setQ {l : List Value} (h : BxQ w b t l.toArray) (k : Nat) (vs : List Value) : BxQ (Go.Proofs.YtaipbkigngjkbaaDoor.setQ w b k vs) b t (setL l k vs).toArray := by
  induction vs generalizing w l k with
  | nil => exact h
  | cons v vs ih => exact ih (by have := h.set k v; rw [List.setIfInBounds_toArray] at this; exact this) (k + 1)
theorem BxQ.setO {G j : Nat} (h : BxQ w b t vs) (v : Value) (hG : b ≠ G) : BxQ (w.setCell ⟨G, j, none⟩ v) b t vs := by
  unfold BxQ
  rw [heap_setCell_other w ⟨G, j, none⟩ b v hG]
  exact h
theorem BxQ.setQO {G : Nat} {cs : Array Value} (h : BxQ w b t cs) (k : Nat) (vs : List Value) (hG : b ≠ G) : BxQ (Go.Proofs.YtaipbkigngjkbaaDoor.setQ w G k vs) b t cs := by
  induction vs generalizing w k with
  | nil => exact h
  | cons v vs ih => exact ih (h.setO v hG) (k + 1)
theorem size_setQ (k : Nat) (vs : List Value) : (Go.Proofs.YtaipbkigngjkbaaDoor.setQ w b k vs).heap.size = w.heap.size := by
  induction vs generalizing w k with
  | nil => rfl
  | cons v vs ih => unfold Go.Proofs.YtaipbkigngjkbaaDoor.setQ; rw [ih]; simp [World.setCell]
theorem gr_setQ (k : Nat) (vs : List Value) : w.grownBy (Go.Proofs.YtaipbkigngjkbaaDoor.setQ w b k vs) (some b) := by
  induction vs generalizing w k with
  | nil => exact gr_refl _ _
  | cons v vs ih => exact gr_trans (gr_set w b k v) (ih (k + 1))
/-- new blocks may turn, and the old one G -/
theorem gr_new {W y z : World} {G b : Nat} (h : W.grownBy y (some G)) (hg : y.grownBy z (some b)) (hb : W.heap.size ≤ b) : W.grownBy z (some G) :=
  gr_own h hg (fun q hq => by simp at hq; omega)
theorem own_gr {B e s n G : Nat} {v : Value} {xs : List Value} (h : w.ownsRow B e s v n xs) (hg : w.grownBy u (some G)) (hG : G < B) : u.ownsRow B e s v n xs :=
  h.kept hg (by
    rcases own_ne h hG with e | e
    · exact .inl e
    · exact .inr e)
end
theorem own_kinds {u : World} {lo b j n t e s : Nat} {v x : Value} {xs : List Value} {cs : Array Value} {fr : Nat × Nat} (h : u.ownsRow lo e s v n xs) (hb : u.heap[b]? = some (.cells cs t fr)) (hte : t ≠ e) : (u.setCell ⟨b, j, none⟩ x).ownsRow lo e s v n xs := by
  refine ⟨h.1, ?_⟩
  rcases h.2 with h3 | ⟨g, cap, cur, hv, hg, hcur, hrest⟩
  · exact .inl h3
  · refine .inr ⟨g, cap, cur, hv, hg, ?_, hrest⟩
    rw [heap_setCell_other u ⟨b, j, none⟩ g x (fun e2 => by
      have e2 : g = b := e2
      subst e2
      rw [hcur] at hb
      simp at hb
      exact hte hb.2.1.symm)]
    exact hcur
theorem own_kQ {u : World} {lo b n e s : Nat} {t : TypeId} {v : Value} {xs cs : List Value} (h : u.ownsRow lo e s v n xs) (hb : BxQ u b t cs.toArray) (hte : t ≠ e) (k : Nat) (vs : List Value) : (setQ u b k vs).ownsRow lo e s v n xs := by
  induction vs generalizing u cs k with
  | nil => exact h
  | cons x vs ih => exact ih (own_kinds h hb hte) (by have := hb.set k x; rw [List.setIfInBounds_toArray] at this; exact this) (k + 1)
theorem bdr {w w1 : World} (h : Below w.drew.heap.size w.drew w1) : Below w.heap.size w w1 := ((Below.refl _ _).drew).trans h
/-- new blocks may turn, and the old one G, of which the first cell stays -/
structure GS (G : Nat) (n : Int) (W y : World) : Prop where
  g : W.grownBy y (some G)
  c : y.cell? ⟨G, 0, none⟩ = some (.int .i64 n)
  l : G < y.heap.size
section
variable {G : Nat} {n : Int} {W y z : World}
theorem GS.size (h : GS G n W y) : W.heap.size ≤ y.heap.size := h.g.size
theorem GS.up (h : GS G n W y) (k : GS G n y z) : GS G n W z := ⟨gr_trans h.g k.g, k.c, k.l⟩
theorem GS.self (h : GS G n W y) : GS G n y y := ⟨gr_refl _ _, h.c, h.l⟩
theorem GS.below (h : GS G n W y) (hb : Below y.heap.size y z) : GS G n y z := ⟨gr_below hb _, by rw [hb.cell h.l]; exact h.c, Nat.lt_of_lt_of_le h.l hb.size⟩
theorem GS.alloc (h : GS G n W y) (o : Obj) : GS G n W (y.alloc o) := h.up (h.below ((Below.refl _ _).alloc (Nat.le_refl _) o))
end
end Go.Proofs.YtaipbkigngjkbaaDoor
