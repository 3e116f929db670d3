/- The walk of FnTours. -/
import Derived.Test.YtcppbgkocipnlaaDrawRT
import Derived.Test.YtcppbgkocipnlaaTourS
import Derived.Test.YtcppbgkocipnlaaIVerts
import Derived.Test.YtcppbgkocipnlaaSame6
namespace Go.Proofs.Ytcppbgkocipnlaa
open Go.RowKit

theorem Is.at {u : World} {B g off n : Nat} {ls : List Int} (h : Is u B (some ⟨g, off, none⟩) n ls) {j : Nat} {x : Int} (hx : ls[j]? = some x) : u.cell? ⟨g, off + j, none⟩ = some (.int .i64 x) := by
  have hj := (List.getElem?_eq_some_iff.1 hx).1
  have hn := h.1
  rcases h.2 with h0 | ⟨b, o, hb, _, hc⟩
  · omega
  · simp at hb
    obtain ⟨rfl, rfl⟩ := hb
    exact hc j x hx
theorem vs_same {a b : List Int} (h : ∀ x, x ∈ a ↔ x ∈ b) : vsL a = vsL b := asc_ext (vsK_asc a 12) (vsK_asc b 12) fun x => by rw [vsL_mem, vsL_mem, h]
/-- the drawn tour, the tour from another vertex on, and the one back, stand -/
structure T3 (w : World) (g m : Nat) (t : List Int) (g2 : Nat) (r : List Int) (g3 : Nat) (b : List Int) (u : World) : Prop where
  good : Good w u
  it : Is u u.heap.size (some ⟨g, 0, none⟩) m t
  ir : Is u u.heap.size (some ⟨g2, 0, none⟩) m r
  ib : Is u u.heap.size (some ⟨g3, 0, none⟩) m b
theorem T3.up {w : World} {g m : Nat} {t : List Int} {g2 : Nat} {r : List Int} {g3 : Nat} {b : List Int} {u v : World} (h : T3 w g m t g2 r g3 b u) (hb : Below u.heap.size u v) : T3 w g m t g2 r g3 b v :=
  ⟨h.good.up hb, h.it.up hb, h.ir.up hb, h.ib.up hb⟩
theorem tans_some {F : Nat} {args : Array Value} {ls : List Int} {o : Option (List Int)} (ho : o = some ls) {u : World} (H : Calls Try.prog F args u (TAns u o)) (hl : 0 < ls.length) :
    Calls Try.prog F args u fun e v => ∃ g c, e = .returned (.tuple #[.slice (some ⟨g, 0, none⟩) ls.length c, .bool true]) ∧ ls.length ≤ c ∧ v.ownsRow u.heap.size 3 1 (.slice (some ⟨g, 0, none⟩) ls.length c) ls.length (ic ls) ∧ Below u.heap.size u v := by
  subst ho
  refine H.mono ?_
  rintro e v ⟨a, m, c, rfl, hown, hb⟩
  have hm : ls.length = m := by have := hown.1; rw [Option.getD_some, ic_len] at this; omega
  subst hm
  rcases hown.2 with ⟨_, h0⟩ | ⟨g, cap, cur, hv, _, _, hcap, _⟩
  · omega
  · simp at hv
    obtain ⟨rfl, rfl⟩ := hv
    exact ⟨g, c, rfl, hcap, hown, hb⟩
theorem own_cap {u : World} {B g m c : Nat} {xs : List Value} (h : u.ownsRow B 3 1 (.slice (some ⟨g, 0, none⟩) m c) m xs) : m ≤ c := by
  rcases h.2 with ⟨hv, _⟩ | ⟨g2, cap, cur, hv, _, _, hcap, _⟩
  · simp at hv
  · simp at hv
    obtain ⟨rfl, rfl⟩ := hv
    exact hcap
/-- one of the first k steps is that from u to w -/
def fnd (r : List Int) (u w : Int) (k : Nat) : Bool := (List.range k).any (goP r u w)
theorem fnd_zero (r : List Int) (u w : Int) : fnd r u w 0 = false := by simp [fnd]
theorem fnd_succ (r : List Int) (u w : Int) (k : Nat) : fnd r u w (k + 1) = (fnd r u w k || goP r u w k) := by simp [fnd, List.range_succ]
theorem fnd_yes {r : List Int} {u w : Int} {j k : Nat} (h : goP r u w j = true) (hj : j < k) : fnd r u w k = true := by
  unfold fnd
  rw [List.any_eq_true]
  exact ⟨j, by simpa using hj, h⟩

set_option maxRecDepth 100000 in
set_option maxHeartbeats 16000000 in
theorem fnTours.walk (a : Option Addr) (len cap : Nat) (w : World) (hcode : Code w w.heap.size a len) :
    Calls Try.prog 3 #[.slice a len cap] w fun e w' => e = .returned (.bool true) ∧ Below w.heap.size w w' := by
  by_cases hbig : 1048576 < len
  · have H := hideIt (big_any w a len cap)
    have d0 : decide ((1048576 : Int) < (len : Int)) = true := decide_eq_true (by omega)
    rw [d0] at H
    go_enter Try.func3, Try.ntmps3
    go_wp2_with (go_at_call 9; refine H.out.mono ?_; rintro e w1 ⟨rfl, rfl⟩)
    go_ret
    exact ⟨rfl, Below.refl _ _⟩
  have hl : len ≤ 1048576 := by omega
  have H := hideIt (big_any w a len cap)
  have d0 : decide ((1048576 : Int) < (len : Int)) = false := decide_eq_false (by omega)
  rw [d0] at H
  have HD := hideIt (drawRightTour_any w a len cap hl hcode)
  clear hcode
  go_enter Try.func3, Try.ntmps3
  go_wp2_with (go_at_call 9; refine H.out.mono ?_; rintro e w1 ⟨rfl, hw1⟩; have hw1' := hw1.symm; subst hw1'; refine Hid.out ?_)
  refine (show ∀ {p : Prop}, p → Hid p from fun h => h) ?_
  go_wp2_with (go_at_call 10; refine HD.out.mono ?_; rintro x w2 ⟨t, v, g, m, c', HB, rfl, ho2, hb2⟩; refine Hid.out ?_)
  refine (show ∀ {p : Prop}, p → Hid p from fun h => h) ?_
  have hml : t.length = m := by have := ho2.1; rw [ic_len] at this; omega
  have htl := tB_len HB.out.1
  have hcap := own_cap ho2
  have I2 := Is_of_own ho2
  obtain ⟨r, hr, HR⟩ := re_is HB.out.1 HB.out.2
  obtain ⟨x0, hx0⟩ : ∃ x0, t[0]? = some x0 := ⟨t[0]'(by omega), List.getElem?_eq_getElem (by omega)⟩
  obtain ⟨b, hbr, HRb⟩ := re_is HR.ok ((HR.mem x0).2 (List.mem_of_getElem? hx0))
  have hrl : r.length = m := by rw [HR.len]; exact hml
  have hbl : b.length = m := by rw [HRb.len]; exact hrl
  have HY1 := tans_some hr (iReroot_any t v m _ c' (by omega) hcap w2 I2) (by omega)
  rw [hrl] at HY1
  have HX1 := hideIt HY1
  clear HY1
  clear HD H ho2
  go_wp2_with (go_at_call 11; refine HX1.out.mono ?_; rintro x w3 ⟨g2, c2, rfl, hcap2, ho3, hb3⟩; refine Hid.out ?_)
  refine (show ∀ {p : Prop}, p → Hid p from fun h => h) ?_
  have I3 := I2.up hb3
  have R3 := Is_of_own ho3
  have e0 : w3.cell? ⟨g, 0, none⟩ = some (.int .i64 x0) := by have := I3.at hx0; simpa using this
  have HY2 := tans_some hbr (iReroot_any r x0 m _ c2 (by omega) hcap2 w3 R3) (by omega)
  rw [hbl] at HY2
  have HX2 := hideIt HY2
  clear HY2
  have b1 : (0 : Int) < (m : Int) := by omega
  have hm0 : 0 < m := by omega
  have hm23 : m ≤ 23 := by omega
  clear HX1 ho3 I2
  go_wp2_with (go_at_call 11; refine HX2.out.mono ?_; rintro x w4 ⟨g3, c3, rfl, hcap3, ho4, hb4⟩; refine Hid.out ?_)
  refine (show ∀ {p : Prop}, p → Hid p from fun h => h) ?_
  have HS4 : T3 w g m t g2 r g3 b w4 := ⟨hb2.trans ((hb3.trans (hb4.mono hb3.size)).mono hb2.size), I3.up hb4, R3.up hb4, Is_of_own ho4⟩
  have hr0 := HR.fst
  have hb0 := HRb.fst
  have HK : Hid (∀ u, T3 w g m t g2 r g3 b u → (u.cell? ⟨g2, 0, none⟩ = some (.int .i64 v) ∧ u.cell? ⟨g3, 0, none⟩ = some (.int .i64 x0) ∧ u.cell? ⟨g, 0, none⟩ = some (.int .i64 x0))) := fun u hu =>
    ⟨by have := hu.ir.at hr0; simpa using this, by have := hu.ib.at hb0; simpa using this, by have := hu.it.at hx0; simpa using this⟩
  have HTt : Hid (∀ u, T3 w g m t g2 r g3 b u → Calls Try.prog 12 #[.slice (some ⟨g, 0, none⟩) m c'] u fun e v => e = .returned (.bool true) ∧ T3 w g m t g2 r g3 b v) := fun u hu => by
    have h := iTourOk_any t m _ c' (by omega) u hu.it
    rw [HB.out.1] at h
    exact h.mono fun _ _ ⟨he, hb⟩ => ⟨he, hu.up hb⟩
  have HTr : Hid (∀ u, T3 w g m t g2 r g3 b u → Calls Try.prog 12 #[.slice (some ⟨g2, 0, none⟩) m c2] u fun e v => e = .returned (.bool true) ∧ T3 w g m t g2 r g3 b v) := fun u hu => by
    have h := iTourOk_any r m _ c2 (by omega) u hu.ir
    rw [HR.ok] at h
    exact h.mono fun _ _ ⟨he, hb⟩ => ⟨he, hu.up hb⟩
  have HVr : Hid (∀ u, T3 w g m t g2 r g3 b u → Calls Try.prog 14 #[.slice (some ⟨g2, 0, none⟩) m c2] u fun e v => ∃ a' c', e = .returned (.slice a' (vsL t).length c') ∧ Is v v.heap.size a' (vsL t).length (vsL t) ∧ T3 w g m t g2 r g3 b v) := fun u hu => by
    have h := iVertsOf_any r m _ c2 (by omega) u hu.ir
    rw [vs_same HR.mem] at h
    refine h.mono fun _ _ ⟨a', m', c', he, ho, hb⟩ => ?_
    have hI := Is_of_own ho
    have := hI.1
    subst this
    exact ⟨a', c', he, hI, hu.up hb⟩
  have HVt : Hid (∀ u, T3 w g m t g2 r g3 b u → Calls Try.prog 14 #[.slice (some ⟨g, 0, none⟩) m c'] u fun e v => ∃ a' c', e = .returned (.slice a' (vsL t).length c') ∧ Is v v.heap.size a' (vsL t).length (vsL t) ∧ Below u.heap.size u v ∧ T3 w g m t g2 r g3 b v) := fun u hu => by
    have h := iVertsOf_any t m _ c' (by omega) u hu.it
    refine h.mono fun _ _ ⟨a', m', c', he, ho, hb⟩ => ?_
    have hI := Is_of_own ho
    have := hI.1
    subst this
    exact ⟨a', c', he, hI, hb, hu.up hb⟩
  have HSm : Hid (∀ u a1 c1 a2 c2', Is u u.heap.size a1 (vsL t).length (vsL t) → Is u u.heap.size a2 (vsL t).length (vsL t) → T3 w g m t g2 r g3 b u → Calls Try.prog 13 #[.slice a1 (vsL t).length c1, .slice a2 (vsL t).length c2'] u fun e v => e = .returned (.bool true) ∧ T3 w g m t g2 r g3 b v) := fun u a1 c1 a2 c2' h1 h2 hu =>
    (sameInts_same (vsL t) _ a1 a2 c1 c2' (by have := vsL_len t; omega) u h1 h2).mono fun _ _ ⟨he, hb⟩ => ⟨he, hu.up hb⟩
  have HSt : Hid (∀ i u1 u2, t[i]? = some u1 → t[i + 1]? = some u2 → ∃ j, goP r u1 u2 j = true ∧ j + 1 < m) := fun i u1 u2 h1 h2 => by
    obtain ⟨j, h3, h4⟩ := HR.step i u1 u2 h1 h2
    exact ⟨j, by simp [goP, h3, h4], by have := (List.getElem?_eq_some_iff.1 h4).1; omega⟩
  have hno : reO t 99 = none := by
    unfold reO
    rw [if_neg]
    rintro ⟨_, h9⟩
    have := ((tB_iff t).1 HB.out.1).1 99 h9
    simp [vB] at this
  have H99 : Hid (∀ u, T3 w g m t g2 r g3 b u → Calls Try.prog 11 #[.slice (some ⟨g, 0, none⟩) m c', .int .i64 99] u fun e v => ∃ a' m' c', e = .returned (.tuple #[.slice a' m' c', .bool false]) ∧ T3 w g m t g2 r g3 b v) := fun u hu => by
    have h := iReroot_any t 99 m _ c' (by omega) hcap u hu.it
    rw [hno] at h
    exact h.mono fun _ _ ⟨a', m', c', he, _, hb⟩ => ⟨a', m', c', he, hu.up hb⟩
  have S0 : T3 w g m t g2 r g3 b w4.drew := HS4.up ((Below.refl _ _).drew)
  have HL := hideIt (And.intro hml hrl)
  clear HX2 ho4 hb3 hb4 hb2 I3 R3 HR HRb hr hbr hr0 hb0 hno e0 HB htl hml hrl hbl
  generalize vsL t = vt at *
  have dm : ((m : Int) != (m : Int)) = false := by simp
  have dv : (v != v) = false := by simp
  have dx : (x0 != x0) = false := by simp
  go_wp2
  go_region_held3 (fun u => T3 w g m t g2 r g3 b u ∧ (u.cell? ⟨g2, 0, none⟩ = some (.int .i64 v) ∧ u.cell? ⟨g3, 0, none⟩ = some (.int .i64 x0) ∧ u.cell? ⟨g, 0, none⟩ = some (.int .i64 x0)))
    (exact ⟨S0, HK.out _ S0⟩)
    (first
      | (go_at_call 12; refine (HTt.out _ S0).mono ?_; clear HTt S0; rintro x w5 ⟨rfl, S0⟩)
      | (go_at_call 12; refine (HTr.out _ S0).mono ?_; clear HTr S0; rintro x w6 ⟨rfl, S0⟩)
      | (go_at_call 14; refine (HVr.out _ S0).mono ?_; clear HVr S0; rintro x w7 ⟨a7, c7, rfl, V7, S0⟩)
      | (go_at_call 14; refine (HVt.out _ S0).mono ?_; clear HVt S0; rintro x w8 ⟨a8, c8, rfl, V8, hb8, S0⟩; have V9 := V7.up hb8; clear V7 hb8)
      | (go_at_call 13; refine (HSm.out _ _ _ _ _ V9 V8 S0).mono ?_; clear S0; rintro x w9 ⟨rfl, S0⟩))
  go_wp2
  have G0 := hideIt S0
  clear S0 HSm V8 V9
  go_loopw [9] (fun i wr => ∃ (k : Nat), k + 1 ≤ m ∧ i = .int .i64 (k : Int) ∧ Hid (T3 w g m t g2 r g3 b wr)) (fun i _ => m - (intOf i).toNat)
  case atStart => exact ⟨0, by omega, rfl, G0⟩
  case round =>
    obtain ⟨k, hk, rfl, HT⟩ := hrel
    clear G0
    by_cases hlt : k + 1 < m
    · obtain ⟨u1, hu1⟩ : ∃ u1, t[k]? = some u1 := ⟨t[k]'(by have := HL.out; omega), List.getElem?_eq_getElem _⟩
      obtain ⟨u2, hu2⟩ : ∃ u2, t[k + 1]? = some u2 := ⟨t[k + 1]'(by have := HL.out; omega), List.getElem?_eq_getElem _⟩
      obtain ⟨j0, hj0, hjm⟩ := HSt.out k u1 u2 hu1 hu2
      have HJ := hideIt hj0
      have HU := hideIt (And.intro hu1 hu2)
      have d1 : decide ((k : Int) + 1 < (m : Int)) = true := decide_eq_true (by omega)
      clear hj0 hu1 hu2
      go_wp2
      go_loopw [10, 11] (fun f i wr => ∃ (j : Nat), j + 1 ≤ m ∧ i = .int .i64 (j : Int) ∧ f = .bool (fnd r u1 u2 j) ∧ Hid (T3 w g m t g2 r g3 b wr)) (fun _ i _ => m - (intOf i).toNat)
      case atStart => exact ⟨0, by omega, rfl, by rw [fnd_zero], HT⟩
      case round =>
        obtain ⟨j, hj, rfl, rfl, HT2⟩ := hrel
        clear HT
        by_cases hltj : j + 1 < m
        · obtain ⟨f1, hf1⟩ : ∃ f1, r[j]? = some f1 := ⟨r[j]'(by have := HL.out; omega), List.getElem?_eq_getElem _⟩
          obtain ⟨f2, hf2⟩ : ∃ f2, r[j + 1]? = some f2 := ⟨r[j + 1]'(by have := HL.out; omega), List.getElem?_eq_getElem _⟩
          have hgo := goP_at (u := u1) (v := u2) hf1 hf2
          have HF : Hid (fnd r u1 u2 (j + 1) = (fnd r u1 u2 j || (f1 == u1 && f2 == u2))) := by show _ = _; rw [fnd_succ, hgo]
          have e1 : wr.cell? ⟨g2, j, none⟩ = some (.int .i64 f1) := by have := HT2.out.ir.at hf1; simpa using this
          have e2 : wr.cell? ⟨g2, j + 1, none⟩ = some (.int .i64 f2) := by have := HT2.out.ir.at hf2; simpa using this
          have e3 : wr.cell? ⟨g, k, none⟩ = some (.int .i64 u1) := by have := HT2.out.it.at HU.out.1; simpa using this
          have e4 : wr.cell? ⟨g, k + 1, none⟩ = some (.int .i64 u2) := by have := HT2.out.it.at HU.out.2; simpa using this
          have d2 : decide ((j : Int) + 1 < (m : Int)) = true := decide_eq_true (by omega)
          have q1 : (0 : Int) ≤ (j : Int) := by omega
          have q2 : (j : Int) < (m : Int) := by omega
          have q3 : (0 : Int) ≤ (j : Int) + 1 := by omega
          have q4 : (j : Int) + 1 < (m : Int) := by omega
          have q5 : (0 : Int) ≤ (k : Int) := by omega
          have q6 : (k : Int) < (m : Int) := by omega
          have q7 : (0 : Int) ≤ (k : Int) + 1 := by omega
          have q8 : (k : Int) + 1 < (m : Int) := by omega
          have p1 : ((j : Int) + 1).toNat = j + 1 := by omega
          have p2 : ((k : Int) + 1).toNat = k + 1 := by omega
          clear hgo hf1 hf2
          cases hfd : fnd r u1 u2 j with
          | true =>
            rw [hfd] at HF
            clear hfd
            go_wp2
            go_quiet (fail)
            go_wp2
            exact ⟨⟨j + 1, by omega, by go_num, by rw [HF.out]; rfl, hideIt (HT2.out.up (below_drewN (Below.refl _ _) _))⟩, by simp [intOf]; omega⟩
          | false =>
            rw [hfd] at HF
            clear hfd
            by_cases h1 : f1 = u1
            · have d3 : (f1 == u1) = true := by simpa using h1
              rw [d3] at HF
              clear h1
              go_wp2
              go_quiet (fail)
              go_wp2
              exact ⟨⟨j + 1, by omega, by go_num, by rw [HF.out]; rfl, hideIt (HT2.out.up (below_drewN (Below.refl _ _) _))⟩, by simp [intOf]; omega⟩
            · have d3 : (f1 == u1) = false := by simpa using h1
              rw [d3] at HF
              clear h1
              go_wp2
              go_quiet (fail)
              go_wp2
              exact ⟨⟨j + 1, by omega, by go_num, by rw [HF.out]; rfl, hideIt (HT2.out.up (below_drewN (Below.refl _ _) _))⟩, by simp [intOf]; omega⟩
        · have hfy : fnd r u1 u2 j = true := fnd_yes HJ.out (by omega)
          rw [hfy]
          have d2 : decide ((j : Int) + 1 < (m : Int)) = false := decide_eq_false (by omega)
          clear hfy
          go_wp2
          exact ⟨⟨k + 1, by omega, by go_num, HT2⟩, by simp [intOf]; omega⟩
    · have d1 : decide ((k : Int) + 1 < (m : Int)) = false := decide_eq_false (by omega)
      have HX := hideIt (H99.out wr HT.out)
      go_wp2_with (go_at_call 11; refine HX.out.mono ?_; rintro x w9 ⟨a9, m9, c9, rfl, S9⟩)
      go_ret
      exact ⟨rfl, S9.good⟩
end Go.Proofs.Ytcppbgkocipnlaa
