/- The walk of FnSplits. -/
import Derived.Test.YtcppbgkocipnlaaFnTou
import Derived.Test.YtcppbgkocipnlaaTourT
import Derived.Test.YtcppbgkocipnlaaISplit
import Derived.Test.YtcppbgkocipnlaaPlaces6
namespace Go.Proofs.Ytcppbgkocipnlaa
open Go.RowKit

theorem code_up {w w' : World} {a : Option Addr} {len : Nat} (h : Code w w.heap.size a len) (hb : Below w.heap.size w w') : Code w' w'.heap.size a len := by
  rcases h with h | ⟨b, off, ha, hbl, hn, hc⟩
  · exact .inl h
  · have := hb.size
    refine .inr ⟨b, off, ha, by omega, by omega, fun j hj => ?_⟩
    obtain ⟨z, hz, hcell⟩ := hc j hj
    exact ⟨z, hz, by rw [hb.cell hbl]; exact hcell⟩
/-- the drawn tour stands -/
structure T1 (w : World) (g m : Nat) (t : List Int) (u : World) : Prop where
  good : Good w u
  it : Is u u.heap.size (some ⟨g, 0, none⟩) m t
theorem T1.up {w : World} {g m : Nat} {t : List Int} {u v : World} (h : T1 w g m t u) (hb : Below u.heap.size u v) : T1 w g m t v := ⟨h.good.up hb, h.it.up hb⟩
/-- the drawn tour, its two parts, and these again, stand -/
structure T5 (w : World) (g m : Nat) (t : List Int) (ga la gb lb : Nat) (A B : List Int) (gc gd : Nat) (u : World) : Prop where
  good : Good w u
  it : Is u u.heap.size (some ⟨g, 0, none⟩) m t
  ia : Is u u.heap.size (some ⟨ga, 0, none⟩) la A
  ib : Is u u.heap.size (some ⟨gb, 0, none⟩) lb B
  ic : Is u u.heap.size (some ⟨gc, 0, none⟩) la A
  id : Is u u.heap.size (some ⟨gd, 0, none⟩) lb B
theorem T5.up {w : World} {g m : Nat} {t : List Int} {ga la gb lb : Nat} {A B : List Int} {gc gd : Nat} {u v : World} (h : T5 w g m t ga la gb lb A B gc gd u) (hb : Below u.heap.size u v) : T5 w g m t ga la gb lb A B gc gd v :=
  ⟨h.good.up hb, h.it.up hb, h.ia.up hb, h.ib.up hb, h.ic.up hb, h.id.up hb⟩
theorem row_some {u : World} {B : Nat} {a : Option Addr} {m c : Nat} {ls : List Int} (h : u.ownsRow B 3 1 (.slice a m c) m (ic ls)) (hl : 0 < ls.length) : ∃ g, a = some ⟨g, 0, none⟩ ∧ m = ls.length ∧ m ≤ c := by
  have hm := h.1
  rw [ic_len] at hm
  rcases h.2 with ⟨_, h0⟩ | ⟨g, cap, cur, hv, _, _, hcap, _⟩
  · omega
  · simp at hv
    obtain ⟨rfl, rfl⟩ := hv
    exact ⟨g, rfl, by omega, hcap⟩
theorem t2_some {F : Nat} {args : Array Value} {A B : List Int} {o : List Int × List Int × Bool} (ho : o = (A, B, true)) {u : World} (H : Calls Try.prog F args u (T2Ans u o)) (hA : 0 < A.length) (hB : 0 < B.length) :
    Calls Try.prog F args u fun e v => ∃ ga ca gb cb, e = .returned (.tuple #[.slice (some ⟨ga, 0, none⟩) A.length ca, .slice (some ⟨gb, 0, none⟩) B.length cb, .bool true]) ∧ A.length ≤ ca ∧ B.length ≤ cb ∧ Is v v.heap.size (some ⟨ga, 0, none⟩) A.length A ∧ Is v v.heap.size (some ⟨gb, 0, none⟩) B.length B ∧ Below u.heap.size u v := by
  subst ho
  refine H.mono ?_
  rintro e v ⟨a, m, c, a', m', c', mid, rfl, _, h1, h2, hb⟩
  have i1 := h1.is
  have i2 := h2.is
  obtain ⟨ga, rfl, rfl, hca⟩ := row_some h1.own hA
  obtain ⟨gb, rfl, rfl, hcb⟩ := row_some h2.own hB
  exact ⟨ga, c, gb, c', rfl, hca, hcb, i1, i2, hb⟩

set_option maxRecDepth 100000 in
set_option maxHeartbeats 32000000 in
theorem fnSplits.walk (a : Option Addr) (len cap : Nat) (w : World) (hcode : Code w w.heap.size a len) :
    Calls Try.prog 4 #[.slice a len cap] w fun e w' => e = .returned (.bool true) ∧ Below w.heap.size w w' := by
  by_cases hbig : 1048576 < len
  · have H := hideIt (big_any w a len cap)
    have d0 : decide ((1048576 : Int) < (len : Int)) = true := decide_eq_true (by omega)
    rw [d0] at H
    go_enter Try.func4, Try.ntmps4
    go_wp2_with (go_at_call 9; refine H.out.mono ?_; rintro e w1 ⟨rfl, rfl⟩)
    go_ret
    exact ⟨rfl, Below.refl _ _⟩
  have hl : len ≤ 1048576 := by omega
  have H := hideIt (big_any w a len cap)
  have d0 : decide ((1048576 : Int) < (len : Int)) = false := decide_eq_false (by omega)
  rw [d0] at H
  have HD := hideIt (drawRightTour_any w a len cap hl hcode)
  have HPl := hideIt (fun u (hu : Below w.heap.size w u) => drawPlaces_any u a len cap hl (code_up hcode hu))
  clear hcode
  go_enter Try.func4, Try.ntmps4
  go_wp2_with (go_at_call 9; refine H.out.mono ?_; rintro e w1 ⟨rfl, hw1⟩; have hw1' := hw1.symm; subst hw1'; refine Hid.out ?_)
  refine (show ∀ {p : Prop}, p → Hid p from fun h => h) ?_
  go_wp2_with (go_at_call 10; refine HD.out.mono ?_; rintro x w2 ⟨t, v0, g, m, c', HB, rfl, ho2, hb2⟩; refine Hid.out ?_)
  refine (show ∀ {p : Prop}, p → Hid p from fun h => h) ?_
  have hml : t.length = m := by have := ho2.1; rw [ic_len] at this; omega
  have htl := tB_len HB.out.1
  have hm23 : m ≤ 23 := by omega
  have hm0 : 0 < m := by omega
  have hcap := own_cap ho2
  have I2 := Is_of_own ho2
  clear HD H ho2
  by_cases h3 : m < 3
  · have d1 : decide ((m : Int) < 3) = true := decide_eq_true (by omega)
    have HX := iSplitTour_any t 0 1 m _ c' (by omega) hcap w2 I2
    rw [spl_no HB.out.1 (by omega)] at HX
    have HX := hideIt HX
    have HTt := hideIt (fun u (hu : Below w2.heap.size w2 u) => iTourOk_any t m (some ⟨g, 0, none⟩) c' (by omega) u (I2.up hu))
    rw [HB.out.1] at HTt
    clear I2 htl hml
    go_wp2_with (go_at_call 15; refine HX.out.mono ?_; rintro x w3 ⟨a3, m3, c3, a4, m4, c4, mid, rfl, _, _, _, hb3⟩; refine Hid.out ?_)
    refine (show ∀ {p : Prop}, p → Hid p from fun h => h) ?_
    have HT3 := hideIt (HTt.out w3 hb3)
    have B3 := hb2.trans (hb3.mono hb2.size)
    clear HX HTt hb3
    go_wp2_with (go_at_call 12; refine HT3.out.mono ?_; rintro x w4 ⟨rfl, hb4⟩)
    go_ret
    exact ⟨rfl, B3.trans (hb4.mono B3.size)⟩
  have d1 : decide ((m : Int) < 3) = false := decide_eq_false (by omega)
  have HP := hideIt (HPl.out w2 hb2)
  clear HPl
  go_wp2_with (go_at_call 16; refine HP.out.mono ?_; rintro x w3 ⟨gp, cp, mp, ls, HLs, rfl, ho3, hb3⟩; refine Hid.out ?_)
  refine (show ∀ {p : Prop}, p → Hid p from fun h => h) ?_
  have IP := Is_of_own ho3
  have hmp : mp = 12 := by have := IP.1; have := HLs.out.1; omega
  subst hmp
  obtain ⟨p0, hp0⟩ : ∃ p0, ls[0]? = some p0 := ⟨ls[0]'(by have := HLs.out.1; omega), List.getElem?_eq_getElem _⟩
  obtain ⟨pl, ph⟩ := HLs.out.2 p0 (List.mem_of_getElem? hp0)
  have e0 : w3.cell? ⟨gp, 0, none⟩ = some (.int .i64 p0) := by have := IP.at hp0; simpa using this
  obtain ⟨k, hk⟩ : ∃ k : Nat, p0 % ((m : Int) - 1) = (k : Int) := ⟨(p0 % ((m : Int) - 1)).toNat, by have := Int.emod_nonneg p0 (show (m : Int) - 1 ≠ 0 by omega); omega⟩
  have hkm : k + 1 < m := by have := Int.emod_lt_of_pos p0 (show (0 : Int) < (m : Int) - 1 by omega); omega
  have HS3 : T1 w g m t w3 := ⟨hb2.trans (hb3.mono hb2.size), I2.up hb3⟩
  obtain ⟨u1, hu1⟩ : ∃ u1, t[k]? = some u1 := ⟨t[k]'(by omega), List.getElem?_eq_getElem _⟩
  obtain ⟨u2, hu2⟩ : ∃ u2, t[k + 1]? = some u2 := ⟨t[k + 1]'(by omega), List.getElem?_eq_getElem _⟩
  obtain ⟨x0, hx0⟩ : ∃ x0, t[0]? = some x0 := ⟨t[0]'(by omega), List.getElem?_eq_getElem _⟩
  obtain ⟨A, B, p, c, hs1, hs2, SI, hpc⟩ := spl_is HB.out.1 hu1 hu2
  have hA0 := tB_len SI.oka
  have hB0 := tB_len SI.okb
  obtain ⟨la, hla⟩ : ∃ la, A.length = la := ⟨_, rfl⟩
  obtain ⟨lb, hlb⟩ : ∃ lb, B.length = lb := ⟨_, rfl⟩
  have HSp1 : Hid (∀ u, T1 w g m t u → Calls Try.prog 15 #[.slice (some ⟨g, 0, none⟩) m c', .int .i64 u1, .int .i64 u2] u fun e v => ∃ ga ca gb cb, e = .returned (.tuple #[.slice (some ⟨ga, 0, none⟩) la ca, .slice (some ⟨gb, 0, none⟩) lb cb, .bool true]) ∧ la ≤ ca ∧ lb ≤ cb ∧ Is v v.heap.size (some ⟨ga, 0, none⟩) la A ∧ Is v v.heap.size (some ⟨gb, 0, none⟩) lb B ∧ T1 w g m t v) := fun u hu => by
    have h := t2_some hs1 (iSplitTour_any t u1 u2 m _ c' (by omega) hcap u hu.it) (by omega) (by omega)
    rw [hla, hlb] at h
    exact h.mono fun _ _ ⟨ga, ca, gb, cb, he, h1, h2, h3, h4, hb⟩ => ⟨ga, ca, gb, cb, he, h1, h2, h3, h4, hu.up hb⟩
  have HSp2 : Hid (∀ u, T1 w g m t u → Calls Try.prog 15 #[.slice (some ⟨g, 0, none⟩) m c', .int .i64 u2, .int .i64 u1] u fun e v => ∃ ga ca gb cb, e = .returned (.tuple #[.slice (some ⟨ga, 0, none⟩) la ca, .slice (some ⟨gb, 0, none⟩) lb cb, .bool true]) ∧ Is v v.heap.size (some ⟨ga, 0, none⟩) la A ∧ Is v v.heap.size (some ⟨gb, 0, none⟩) lb B ∧ Below u.heap.size u v ∧ T1 w g m t v) := fun u hu => by
    have h := t2_some hs2 (iSplitTour_any t u2 u1 m _ c' (by omega) hcap u hu.it) (by omega) (by omega)
    rw [hla, hlb] at h
    exact h.mono fun _ _ ⟨ga, ca, gb, cb, he, _, _, h3, h4, hb⟩ => ⟨ga, ca, gb, cb, he, h3, h4, hb, hu.up hb⟩
  have HK1 : Hid (∀ u, T1 w g m t u → u.cell? ⟨g, k, none⟩ = some (.int .i64 u1) ∧ u.cell? ⟨g, k + 1, none⟩ = some (.int .i64 u2)) := fun u hu =>
    ⟨by have := hu.it.at hu1; simpa using this, by have := hu.it.at hu2; simpa using this⟩
  have HSI := hideIt SI
  have HPC := hideIt hpc
  have HX0 := hideIt hx0
  have hlen : la + lb + 1 = m := by have := SI.len; omega
  have q1 : (0 : Int) ≤ (k : Int) := by omega
  have q2 : (k : Int) < (m : Int) := by omega
  have q3 : (0 : Int) ≤ (k : Int) + 1 := by omega
  have q4 : (k : Int) + 1 < (m : Int) := by omega
  have q5 : ((k : Int) + 1).toNat = k + 1 := by omega
  have q6 : IntKind.i64.wrap ((k : Int) + 1) = (k : Int) + 1 := by rw [IntKind.wrap_i64]; omega
  have hla0 : 0 < la := by omega
  have hlb0 : 0 < lb := by omega
  have hla23 : la ≤ 23 := by omega
  have hlb23 : lb ≤ 23 := by omega
  have HLen := hideIt hlen
  have HMl := hideIt hml
  clear HP ho3 hb3 IP HLs hp0 hu1 hu2 hs1 hs2 SI hpc hA0 hB0 hx0 htl I2 hb2 hla hlb hlen hml
  go_upto_region 8 with fail
  rw [hk]
  clear e0 hk pl ph
  have S0 : T1 w g m t w3.drew := HS3.up ((Below.refl _ _).drew)
  clear HS3
  go_wp2
  go_region_held3 (fun u => T1 w g m t u ∧ (u.cell? ⟨g, k, none⟩ = some (.int .i64 u1) ∧ u.cell? ⟨g, k + 1, none⟩ = some (.int .i64 u2)))
    (exact ⟨S0, HK1.out _ S0⟩)
    ((go_at_call 15; refine (HSp1.out _ S0).mono ?_; clear HSp1 S0; rintro x w5 ⟨ga, ca, gb, cb, rfl, hca, hcb, RA, RB, S0⟩))
  have HS5 := hideIt S0
  have HRA := hideIt RA
  have HRB := hideIt RB
  clear RA RB S0
  have S0 : T1 w g m t w5.drew := HS5.out.up ((Below.refl _ _).drew)
  go_wp2
  go_region_held3 (fun u => T1 w g m t u ∧ (u.cell? ⟨g, k, none⟩ = some (.int .i64 u1) ∧ u.cell? ⟨g, k + 1, none⟩ = some (.int .i64 u2)))
    (exact ⟨S0, HK1.out _ S0⟩)
    ((go_at_call 15; refine (HSp2.out _ S0).mono ?_; clear HSp2 S0; rintro x w6 ⟨gc, cc, gd, cd, rfl, RC, RD, hb6, S0⟩))
  have HS6 : Hid (T5 w g m t ga la gb lb A B gc gd w6) := ⟨S0.good, S0.it, (HRA.out.up (Below.refl w5.heap.size w5).drew).up hb6, (HRB.out.up (Below.refl w5.heap.size w5).drew).up hb6, RC, RD⟩
  clear S0 RC RD hb6 HRA HRB HS5
  have ha0 := HSI.out.fst
  have HK2 : Hid (∀ u, T5 w g m t ga la gb lb A B gc gd u → u.cell? ⟨ga, 0, none⟩ = some (.int .i64 x0) ∧ u.cell? ⟨g, 0, none⟩ = some (.int .i64 x0)) := fun u hu =>
    ⟨by have := hu.ia.at (ha0.trans HX0.out); simpa using this, by have := hu.it.at HX0.out; simpa using this⟩
  have HM1 : Hid (∀ u, T5 w g m t ga la gb lb A B gc gd u → Calls Try.prog 13 #[.slice (some ⟨ga, 0, none⟩) la ca, .slice (some ⟨gc, 0, none⟩) la cc] u fun e v => e = .returned (.bool true) ∧ T5 w g m t ga la gb lb A B gc gd v) := fun u hu =>
    (sameInts_same A la _ _ ca cc (by omega) u hu.ia hu.ic).mono fun _ _ ⟨he, hb⟩ => ⟨he, hu.up hb⟩
  have HM2 : Hid (∀ u, T5 w g m t ga la gb lb A B gc gd u → Calls Try.prog 13 #[.slice (some ⟨gb, 0, none⟩) lb cb, .slice (some ⟨gd, 0, none⟩) lb cd] u fun e v => e = .returned (.bool true) ∧ T5 w g m t ga la gb lb A B gc gd v) := fun u hu =>
    (sameInts_same B lb _ _ cb cd (by omega) u hu.ib hu.id).mono fun _ _ ⟨he, hb⟩ => ⟨he, hu.up hb⟩
  have HTa : Hid (∀ u, T5 w g m t ga la gb lb A B gc gd u → Calls Try.prog 12 #[.slice (some ⟨ga, 0, none⟩) la ca] u fun e v => e = .returned (.bool true) ∧ T5 w g m t ga la gb lb A B gc gd v) := fun u hu => by
    have h := iTourOk_any A la _ ca (by omega) u hu.ia
    rw [HSI.out.oka] at h
    exact h.mono fun _ _ ⟨he, hb⟩ => ⟨he, hu.up hb⟩
  have HTb : Hid (∀ u, T5 w g m t ga la gb lb A B gc gd u → Calls Try.prog 12 #[.slice (some ⟨gb, 0, none⟩) lb cb] u fun e v => e = .returned (.bool true) ∧ T5 w g m t ga la gb lb A B gc gd v) := fun u hu => by
    have h := iTourOk_any B lb _ cb (by omega) u hu.ib
    rw [HSI.out.okb] at h
    exact h.mono fun _ _ ⟨he, hb⟩ => ⟨he, hu.up hb⟩
  have S0 : T5 w g m t ga la gb lb A B gc gd w6.drew := HS6.out.up ((Below.refl _ _).drew)
  have pw1 : IntKind.i64.wrap ((la : Int) + (lb : Int)) = (la : Int) + (lb : Int) := by rw [IntKind.wrap_i64]; omega
  have pw2 : IntKind.i64.wrap ((la : Int) + (lb : Int) + 1) = (la : Int) + (lb : Int) + 1 := by rw [IntKind.wrap_i64]; omega
  have dl : ((la : Int) + (lb : Int) + 1 != (m : Int)) = false := by have := HLen.out; simp; omega
  have dx : (x0 != x0) = false := by simp
  clear ha0 HS6
  go_wp2
  go_region_held3 (fun u => T5 w g m t ga la gb lb A B gc gd u ∧ (u.cell? ⟨ga, 0, none⟩ = some (.int .i64 x0) ∧ u.cell? ⟨g, 0, none⟩ = some (.int .i64 x0)))
    (exact ⟨S0, HK2.out _ S0⟩)
    (first
      | (go_at_call 13; refine (HM1.out _ S0).mono ?_; clear HM1 S0; rintro x w7 ⟨rfl, S0⟩)
      | (go_at_call 13; refine (HM2.out _ S0).mono ?_; clear HM2 S0; rintro x w8 ⟨rfl, S0⟩)
      | (go_at_call 12; refine (HTa.out _ S0).mono ?_; clear HTa S0; rintro x w9 ⟨rfl, S0⟩)
      | (go_at_call 12; refine (HTb.out _ S0).mono ?_; clear HTb S0; rintro x w10 ⟨rfl, S0⟩))
  have HS := hideIt S0
  obtain ⟨cu1, cu2⟩ := HK1.out _ (⟨S0.good, S0.it⟩ : T1 w g m t _)
  clear S0 pw1 pw2 dl dx HK2
  obtain ⟨J, hJ, hJB, hJl, hJm⟩ := jo_is HSI.out
  have hJl' : J.length = m := by rw [hJl]; exact HMl.out
  have HJo := hideIt hJ
  have HJv := hideIt (vs_same hJm)
  have HIn : Hid (∀ u y, T5 w g m t ga la gb lb A B gc gd u → Calls Try.prog 17 #[.slice (some ⟨ga, 0, none⟩) la ca, .int .i64 y] u fun e v => e = .returned (.bool (decide (y ∈ A))) ∧ v = u) := fun u y hu => in_any A y la _ ca (by omega) u hu.ia
  have HInb : Hid (∀ u y, T5 w g m t ga la gb lb A B gc gd u → Calls Try.prog 17 #[.slice (some ⟨gb, 0, none⟩) lb cb, .int .i64 y] u fun e v => e = .returned (.bool (decide (y ∈ B))) ∧ v = u) := fun u y hu => in_any B y lb _ cb (by omega) u hu.ib
  have HJn : Hid (∀ u, T5 w g m t ga la gb lb A B gc gd u → Calls Try.prog 18 #[.slice (some ⟨ga, 0, none⟩) la ca, .int .i64 p, .slice (some ⟨gb, 0, none⟩) lb cb, .int .i64 c] u fun e v => ∃ gj cj, e = .returned (.tuple #[.slice (some ⟨gj, 0, none⟩) m cj, .bool true]) ∧ Is v v.heap.size (some ⟨gj, 0, none⟩) m J ∧ T5 w g m t ga la gb lb A B gc gd v) := fun u hu => by
    have h := tans_some HJo.out (iJoinTours_any A p B c la _ ca (by omega) hca lb _ cb (by omega) hcb u hu.ia hu.ib) (by omega)
    rw [hJl'] at h
    exact h.mono fun _ _ ⟨gj, cj, he, _, ho, hb⟩ => ⟨gj, cj, he, Is_of_own ho, hu.up hb⟩
  have HVt : Hid (∀ u, T5 w g m t ga la gb lb A B gc gd u → Calls Try.prog 14 #[.slice (some ⟨g, 0, none⟩) m c'] u fun e v => ∃ a' c', e = .returned (.slice a' (vsL t).length c') ∧ Is v v.heap.size a' (vsL t).length (vsL t) ∧ Below u.heap.size u v ∧ T5 w g m t ga la gb lb A B gc gd v) := fun u hu => by
    refine (iVertsOf_any t m _ c' (by omega) u hu.it).mono fun _ _ ⟨a', m', c', he, ho, hb⟩ => ?_
    have hI := Is_of_own ho
    have := hI.1
    subst this
    exact ⟨a', c', he, hI, hb, hu.up hb⟩
  have HVj : Hid (∀ u gj cj, Is u u.heap.size (some ⟨gj, 0, none⟩) m J → T5 w g m t ga la gb lb A B gc gd u → Calls Try.prog 14 #[.slice (some ⟨gj, 0, none⟩) m cj] u fun e v => ∃ a' c', e = .returned (.slice a' (vsL t).length c') ∧ Is v v.heap.size a' (vsL t).length (vsL t) ∧ T5 w g m t ga la gb lb A B gc gd v) := fun u gj cj hj hu => by
    have h := iVertsOf_any J m _ cj (by omega) u hj
    rw [HJv.out] at h
    refine h.mono fun _ _ ⟨a', m', c', he, ho, hb⟩ => ?_
    have hI := Is_of_own ho
    have := hI.1
    subst this
    exact ⟨a', c', he, hI, hu.up hb⟩
  have HTj : Hid (∀ u gj cj, Is u u.heap.size (some ⟨gj, 0, none⟩) m J → T5 w g m t ga la gb lb A B gc gd u → Calls Try.prog 12 #[.slice (some ⟨gj, 0, none⟩) m cj] u fun e v => e = .returned (.bool true) ∧ Is v v.heap.size (some ⟨gj, 0, none⟩) m J ∧ T5 w g m t ga la gb lb A B gc gd v) := fun u gj cj hj hu => by
    have h := iTourOk_any J m _ cj (by omega) u hj
    rw [hJB] at h
    exact h.mono fun _ _ ⟨he, hb⟩ => ⟨he, hj.up hb, hu.up hb⟩
  have HSm : Hid (∀ u a1 c1 a2 c2', Is u u.heap.size a1 (vsL t).length (vsL t) → Is u u.heap.size a2 (vsL t).length (vsL t) → T5 w g m t ga la gb lb A B gc gd u → Calls Try.prog 13 #[.slice a1 (vsL t).length c1, .slice a2 (vsL t).length c2'] u fun e v => e = .returned (.bool true) ∧ T5 w g m t ga la gb lb A B gc gd v) := fun u a1 c1 a2 c2' h1 h2 hu =>
    (sameInts_same (vsL t) _ a1 a2 c1 c2' (by have := vsL_len t; omega) u h1 h2).mono fun _ _ ⟨he, hb⟩ => ⟨he, hu.up hb⟩
  have HpA := hideIt (decide_eq_true HSI.out.high)
  have HcB := hideIt (decide_eq_true HSI.out.low)
  have HcA := hideIt (decide_eq_false (HSI.out.apart c HSI.out.low))
  clear hJ hJB hJl hJm hJl' HJo HJv HSI HK1 HX0 HLen HMl
  generalize vsL t = vt at *
  have dm : ((m : Int) == (m : Int)) = true := by simp
  rcases HPC.out with ⟨ep, ec⟩ | ⟨ec, ep⟩
  · have HI := HIn.out _ u1 HS.out
    rw [ep, HpA.out] at HI
    have ep' := ep.symm; subst ep'
    have ec' := ec.symm; subst ec'
    have HI0 := hideIt HI
    clear HI HPC
    go_wp2_with (go_at_call 17; refine HI0.out.mono ?_; rintro x w11 ⟨rfl, hw⟩; have hw' := hw.symm; subst hw'; clear hw; refine Hid.out ?_)
    refine (show ∀ {p : Prop}, p → Hid p from fun h => h) ?_
    clear HI0
    have HX := hideIt (HJn.out _ HS.out)
    go_wp2_with (go_at_call 18; refine HX.out.mono ?_; rintro x w12 ⟨gj, cj, rfl, IJ, S0⟩; refine Hid.out ?_)
    refine (show ∀ {p : Prop}, p → Hid p from fun h => h) ?_
    clear HX HJn HS cu1 cu2
    have HX := hideIt (HTj.out _ gj cj IJ S0)
    clear IJ S0
    go_wp2_with (go_at_call 12; refine HX.out.mono ?_; rintro x w13 ⟨rfl, IJ, S0⟩; refine Hid.out ?_)
    refine (show ∀ {p : Prop}, p → Hid p from fun h => h) ?_
    clear HX HTj
    have HX := hideIt (HVj.out _ gj cj IJ S0)
    clear IJ S0
    go_wp2_with (go_at_call 14; refine HX.out.mono ?_; rintro x w14 ⟨a7, c7, rfl, V7, S0⟩; refine Hid.out ?_)
    refine (show ∀ {p : Prop}, p → Hid p from fun h => h) ?_
    clear HX HVj
    have HX := hideIt (HVt.out _ S0)
    clear S0
    go_wp2_with (go_at_call 14; refine HX.out.mono ?_; rintro x w15 ⟨a8, c8, rfl, V8, hb8, S0⟩; refine Hid.out ?_)
    refine (show ∀ {p : Prop}, p → Hid p from fun h => h) ?_
    have V9 := V7.up hb8
    have HX2 := hideIt (HSm.out _ _ c7 _ c8 V9 V8 S0)
    clear HX HVt hb8 V7 V8 V9 S0 HSm
    go_wp2_with (go_at_call 13; refine HX2.out.mono ?_; rintro x w16 ⟨rfl, S0⟩; refine Hid.out ?_)
    refine (show ∀ {p : Prop}, p → Hid p from fun h => h) ?_
    have HI1 := HIn.out w16 p S0
    rw [HpA.out] at HI1
    have HI2 := HInb.out w16 c S0
    rw [HcB.out] at HI2
    have HI3 := HIn.out w16 c S0
    rw [HcA.out] at HI3
    have HJ1 := hideIt HI1
    have HJ2 := hideIt HI2
    have HJ3 := hideIt HI3
    have HG := hideIt S0.good
    clear HX2 HI1 HI2 HI3 S0 HIn HInb HpA HcB HcA
    go_wp2_with (go_at_call 17; refine HJ1.out.mono ?_; rintro x w17 ⟨rfl, hw⟩; have hw' := hw.symm; subst hw'; clear hw; refine Hid.out ?_)
    refine (show ∀ {p : Prop}, p → Hid p from fun h => h) ?_
    clear HJ1
    go_wp2_with (go_at_call 17; refine HJ2.out.mono ?_; rintro x w17 ⟨rfl, hw⟩; have hw' := hw.symm; subst hw'; clear hw; refine Hid.out ?_)
    refine (show ∀ {p : Prop}, p → Hid p from fun h => h) ?_
    clear HJ2
    go_wp2_with (go_at_call 17; refine HJ3.out.mono ?_; rintro x w17 ⟨rfl, hw⟩; have hw' := hw.symm; subst hw'; clear hw)
    go_ret
    exact ⟨rfl, HG.out⟩
  · have HI := HIn.out _ u1 HS.out
    rw [ec, HcA.out] at HI
    have ep' := ep.symm; subst ep'
    have ec' := ec.symm; subst ec'
    have HI0 := hideIt HI
    clear HI HPC
    go_wp2_with (go_at_call 17; refine HI0.out.mono ?_; rintro x w11 ⟨rfl, hw⟩; have hw' := hw.symm; subst hw'; clear hw; refine Hid.out ?_)
    refine (show ∀ {p : Prop}, p → Hid p from fun h => h) ?_
    clear HI0
    have HX := hideIt (HJn.out _ HS.out)
    go_wp2_with (go_at_call 18; refine HX.out.mono ?_; rintro x w12 ⟨gj, cj, rfl, IJ, S0⟩; refine Hid.out ?_)
    refine (show ∀ {p : Prop}, p → Hid p from fun h => h) ?_
    clear HX HJn HS cu1 cu2
    have HX := hideIt (HTj.out _ gj cj IJ S0)
    clear IJ S0
    go_wp2_with (go_at_call 12; refine HX.out.mono ?_; rintro x w13 ⟨rfl, IJ, S0⟩; refine Hid.out ?_)
    refine (show ∀ {p : Prop}, p → Hid p from fun h => h) ?_
    clear HX HTj
    have HX := hideIt (HVj.out _ gj cj IJ S0)
    clear IJ S0
    go_wp2_with (go_at_call 14; refine HX.out.mono ?_; rintro x w14 ⟨a7, c7, rfl, V7, S0⟩; refine Hid.out ?_)
    refine (show ∀ {p : Prop}, p → Hid p from fun h => h) ?_
    clear HX HVj
    have HX := hideIt (HVt.out _ S0)
    clear S0
    go_wp2_with (go_at_call 14; refine HX.out.mono ?_; rintro x w15 ⟨a8, c8, rfl, V8, hb8, S0⟩; refine Hid.out ?_)
    refine (show ∀ {p : Prop}, p → Hid p from fun h => h) ?_
    have V9 := V7.up hb8
    have HX2 := hideIt (HSm.out _ _ c7 _ c8 V9 V8 S0)
    clear HX HVt hb8 V7 V8 V9 S0 HSm
    go_wp2_with (go_at_call 13; refine HX2.out.mono ?_; rintro x w16 ⟨rfl, S0⟩; refine Hid.out ?_)
    refine (show ∀ {p : Prop}, p → Hid p from fun h => h) ?_
    have HI1 := HIn.out w16 p S0
    rw [HpA.out] at HI1
    have HI2 := HInb.out w16 c S0
    rw [HcB.out] at HI2
    have HI3 := HIn.out w16 c S0
    rw [HcA.out] at HI3
    have HJ1 := hideIt HI1
    have HJ2 := hideIt HI2
    have HJ3 := hideIt HI3
    have HG := hideIt S0.good
    clear HX2 HI1 HI2 HI3 S0 HIn HInb HpA HcB HcA
    go_wp2_with (go_at_call 17; refine HJ1.out.mono ?_; rintro x w17 ⟨rfl, hw⟩; have hw' := hw.symm; subst hw'; clear hw; refine Hid.out ?_)
    refine (show ∀ {p : Prop}, p → Hid p from fun h => h) ?_
    clear HJ1
    go_wp2_with (go_at_call 17; refine HJ2.out.mono ?_; rintro x w17 ⟨rfl, hw⟩; have hw' := hw.symm; subst hw'; clear hw; refine Hid.out ?_)
    refine (show ∀ {p : Prop}, p → Hid p from fun h => h) ?_
    clear HJ2
    go_wp2_with (go_at_call 17; refine HJ3.out.mono ?_; rintro x w17 ⟨rfl, hw⟩; have hw' := hw.symm; subst hw'; clear hw)
    go_ret
    exact ⟨rfl, HG.out⟩
end Go.Proofs.Ytcppbgkocipnlaa
