/- The specification's Reroot. The specification's SplitTour. The specification's SplitTour. A forest that is cut: pure. The specification's Cut. The program's Cut. -/
import Derived.Test.YtcpffonenhhfoabKSplit
import Derived.Maps.AppendAt
import Derived.Test.YtcpffonenhhfoabKLc7
import Derived.Test.YtcpffonenhhfoabKSh7
import Derived.Test.YtcpffonenhhfoabKSTree7
import Derived.Test.YtcpffonenhhfoabKISplit
namespace Go.Proofs.Ytcpffonenhhfoab
open Go.RowKit

theorem ISt.appL {wb : World} {a : Option Addr} {m c : Nat} {ls : List Int} {u : World} (h : ISt wb a m c ls u) {xs : List Int} {m3 : Nat} {v : Value} {u' : World}
    (ho : u'.ownsRow wb.heap.size 3 1 v m3 (ic ls ++ ic xs)) (hg : u.grownBy u' (Value.slice a m c).ownBlock) :
    ∃ a' c', v = .slice a' m3 c' ∧ ISt wb a' m3 c' (ls ++ xs) u' := by
  obtain ⟨a', c', rfl⟩ := own_form ho
  rw [← ic_append] at ho
  refine ⟨a', c', rfl, ho, ?_⟩
  exact h.bel.grown hg (by have := h.size; omega) (fun j hj => (h.own.lt j hj).1)
/-- from its root on a tour is as it is -/
theorem reT_zero {t : List Int} {v : Int} (hB : tB t = true) (hv : t[0]? = some v) : reT t 0 v = t := by
  obtain ⟨x, r, s, rfl, _, _, hr⟩ := tB_open hB
  simp at hv
  subst hv
  rcases hr with rfl | ⟨q, rfl⟩
  · simp [reT]
  · have e : x :: (q ++ [x]) = (x :: q) ++ [x] := rfl
    unfold reT
    rw [e, List.length_append, List.take_append_of_le_length (by simp), List.take_of_length_le (by simp)]
    simp
theorem tans_none {w u : World} {o : Option (List Int)} (ho : o = none) {g : Nat} (hown : u.ownsRow w.heap.size 3 1 (.slice (some ⟨g, 0, none⟩) 0 0) 0 (ic [])) (h : Below w.heap.size w u) : TAns w o (.returned (.tuple #[.slice (some ⟨g, 0, none⟩) 0 0, .bool false])) u := by
  subst ho
  exact ⟨_, 0, 0, rfl, hown, h⟩

end Go.Proofs.Ytcpffonenhhfoab
namespace Go.Proofs.Ytcpffonenhhfoab
open Go.RowKit

/-- a row that is ours is lengthened by a list that stands elsewhere -/
theorem app_row {x : World} {base gr m c : Nat} {ls xs : List Int} {ad : Addr} {k cc : Nat} (hown : x.ownsRow base 3 1 (.slice (some ⟨gr, 0, none⟩) m c) m (ic ls)) (hl : xs.length = k) (hnews : ∀ j u, (ic xs)[j]? = some u → x.cell? (ad.add j) = some u) (hm : m + k ≤ 5000000) (hb : base ≤ x.heap.size) :
    ∃ g cap y, (Builtin.append_ #[45, 45] 45 #[.slice (some ⟨gr, 0, none⟩) m c, .slice (some ad) k cc]).run Try.prog x = .ok (.slice (some ⟨g, 0, none⟩) (m + k) cap) y ∧ y.ownsRow base 3 1 (.slice (some ⟨g, 0, none⟩) (m + k) cap) (m + k) (ic (ls ++ xs)) ∧ x.grownBy y (some gr) ∧ (g = gr ∨ g = x.heap.size) := by
  obtain ⟨i0, hi, hz0, hz1, hz2⟩ := info_parts info3i
  obtain ⟨v', y, hr, h2, h3, h4, h5⟩ := run_append_own_at (P := Try.prog) x base 45 45 3 i0 _ 1 8 Try.underlying45 hi hz0 hz1 hz2 rfl (by decide) _ m _ hown ad k cc (ic xs) (by rw [ic_len]; omega) hnews ic_one (by unfold maxLen; omega) (by omega) hb
  rw [← ic_append] at h2
  rcases h2.2 with ⟨h6, _⟩ | ⟨g, cap, cur, h6, _⟩
  · exact absurd (h4.1 h6).1 (by simp)
  · subst h6
    refine ⟨g, cap, y, hr, h2, h3, ?_⟩
    rcases h5 with h5 | h5
    · simp [Value.ownBlock] at h5; exact .inl h5
    · simp [Value.ownBlock] at h5; exact .inr h5
/-- an append, at a step of a region that draws its order: as its run says -/
theorem step_app {P : Program} {ops : Array Oper} {o : Oper} {a : Go.Act} {w : World} {K : Go.Act → World → Prop} {Q : Exit → Go.Act → World → Prop} {E : Prop} (hgd : o.guard = none) (s x : Operand) (t : TypeId)
    (ho : o.op = .call { callee := .builtin .append, args := #[s, x], argTypes := #[t, t] }) {v v2 v' : Value} {w' : World} (hs : a.eval s = v) (hx : a.eval x = v2) (hr : (Builtin.append_ #[t, t] o.type #[v, v2]).run P w = .ok v' w') (hK : K (a.put o.dst v') w') :
    if Region.wanted o (yielded ops a.tmps) = true then Oper.wp P o a w K Q else E := by
  have hw : Region.wanted o (yielded ops a.tmps) = true := by simp [Region.wanted, hgd]
  rw [if_pos hw]
  unfold Oper.wp
  simp [execOp, ho, resolve, invoke, builtin, hs, hx, hr, Result.andThen]
  exact hK
theorem s2_no {w u : World} {o : List Int × List Int × Bool} (ho : o = ([], [], false)) {g : Nat} (hown : u.ownsRow w.heap.size 3 1 (.slice (some ⟨g, 0, none⟩) 0 0) 0 (ic [])) (h : Below w.heap.size w u) : S2Ans w o (.returned (.tuple #[.slice (some ⟨g, 0, none⟩) 0 0, .slice (some ⟨g, 0, none⟩) 0 0, .bool false])) u := by
  subst ho
  exact ⟨_, 0, 0, _, 0, 0, rfl, RBox.laid hown, RBox.laid hown, h⟩
theorem s2_yes {w u : World} {o : List Int × List Int × Bool} {t : List Int} {d q : Nat} (ho : o = spT t d q) {g m c g' m' c' : Nat} (h1 : u.ownsRow w.heap.size 3 1 (.slice (some ⟨g, 0, none⟩) m c) m (ic (t.take (d + 1) ++ t.drop (q + 2)))) (h2 : u.ownsRow w.heap.size 3 1 (.slice (some ⟨g', 0, none⟩) m' c') m' (ic ((t.take (q + 1)).drop (d + 1)))) (h : Below w.heap.size w u) :
    S2Ans w o (.returned (.tuple #[.slice (some ⟨g, 0, none⟩) m c, .slice (some ⟨g', 0, none⟩) m' c', .bool true])) u := by
  subst ho
  exact ⟨_, m, c, _, m', c', rfl, RBox.laid h1, RBox.laid h2, h⟩
theorem own_grown {x y : World} {B g m c gr : Nat} {xs : List Value} (h : x.ownsRow B 3 1 (.slice (some ⟨g, 0, none⟩) m c) m xs) (hg : x.grownBy y (some gr)) (hne : g ≠ gr) : y.ownsRow B 3 1 (.slice (some ⟨g, 0, none⟩) m c) m xs :=
  World.ownsRow.kept h hg (.inr (by simp [Value.ownBlock]; exact fun e => hne e))
theorem own_empty (x : World) (B : Nat) (h : B ≤ x.heap.size) : (x.alloc (.cells #[] 3)).ownsRow B 3 1 (.slice (some ⟨x.heap.size, 0, none⟩) 0 0) 0 (ic []) := by
  have h0 := World.ownsRow_lit (base := B) (e := 3) (size := 1) x #[] 0 h (by unfold maxLen; omega) (by simp)
  simpa [ic] using h0
/-- two rows, the one lengthened, the other made of nothing, in the three orders -/
theorem app_two {w x : World} {gr m c : Nat} {ls xs ys : List Int} {ad1 ad2 : Addr} {k1 cc1 k2 cc2 : Nat} (hB : Below w.heap.size w x) (hown : x.ownsRow w.heap.size 3 1 (.slice (some ⟨gr, 0, none⟩) m c) m (ic ls))
    (h1 : Is w w.heap.size (some ad1) k1 xs) (h2 : Is w w.heap.size (some ad2) k2 ys) (ha1 : ad1.spot = none) (ha2 : ad2.spot = none) (hs : m + k1 + k2 ≤ 4000000) :
    (∃ g cap y g' cap' z, (Builtin.append_ #[45, 45] 45 #[.slice (some ⟨gr, 0, none⟩) m c, .slice (some ad1) k1 cc1]).run Try.prog x = .ok (.slice (some ⟨g, 0, none⟩) (m + k1) cap) y ∧
      (Builtin.append_ #[45, 45] 45 #[.slice (some ⟨y.heap.size, 0, none⟩) 0 0, .slice (some ad2) k2 cc2]).run Try.prog (y.alloc (.cells #[] 3)) = .ok (.slice (some ⟨g', 0, none⟩) k2 cap') z ∧
      z.ownsRow w.heap.size 3 1 (.slice (some ⟨g, 0, none⟩) (m + k1) cap) (m + k1) (ic (ls ++ xs)) ∧ z.ownsRow w.heap.size 3 1 (.slice (some ⟨g', 0, none⟩) k2 cap') k2 (ic ys) ∧ Below w.heap.size w z) ∧
    (∃ g cap y g' cap' z, (Builtin.append_ #[45, 45] 45 #[.slice (some ⟨gr, 0, none⟩) m c, .slice (some ad1) k1 cc1]).run Try.prog (x.alloc (.cells #[] 3)) = .ok (.slice (some ⟨g, 0, none⟩) (m + k1) cap) y ∧
      (Builtin.append_ #[45, 45] 45 #[.slice (some ⟨x.heap.size, 0, none⟩) 0 0, .slice (some ad2) k2 cc2]).run Try.prog y = .ok (.slice (some ⟨g', 0, none⟩) k2 cap') z ∧
      z.ownsRow w.heap.size 3 1 (.slice (some ⟨g, 0, none⟩) (m + k1) cap) (m + k1) (ic (ls ++ xs)) ∧ z.ownsRow w.heap.size 3 1 (.slice (some ⟨g', 0, none⟩) k2 cap') k2 (ic ys) ∧ Below w.heap.size w z) ∧
    (∃ g cap y g' cap' z, (Builtin.append_ #[45, 45] 45 #[.slice (some ⟨x.heap.size, 0, none⟩) 0 0, .slice (some ad2) k2 cc2]).run Try.prog (x.alloc (.cells #[] 3)) = .ok (.slice (some ⟨g', 0, none⟩) k2 cap') y ∧
      (Builtin.append_ #[45, 45] 45 #[.slice (some ⟨gr, 0, none⟩) m c, .slice (some ad1) k1 cc1]).run Try.prog y = .ok (.slice (some ⟨g, 0, none⟩) (m + k1) cap) z ∧
      z.ownsRow w.heap.size 3 1 (.slice (some ⟨g, 0, none⟩) (m + k1) cap) (m + k1) (ic (ls ++ xs)) ∧ z.ownsRow w.heap.size 3 1 (.slice (some ⟨g', 0, none⟩) k2 cap') k2 (ic ys) ∧ Below w.heap.size w z) := by
  obtain ⟨b1, o1, s1⟩ := ad1
  obtain ⟨b2, o2, s2⟩ := ad2
  dsimp only at ha1 ha2
  subst ha1 ha2
  have hz := hB.size
  have hgr := hown.lt gr rfl
  have n1 : ∀ u, Below w.heap.size w u → ∀ j v, (ic xs)[j]? = some v → u.cell? ((⟨b1, o1, none⟩ : Addr).add j) = some v := fun u hu => (h1.up hu).news
  have n2 : ∀ u, Below w.heap.size w u → ∀ j v, (ic ys)[j]? = some v → u.cell? ((⟨b2, o2, none⟩ : Addr).add j) = some v := fun u hu => (h2.up hu).news
  have hxa : Below w.heap.size w (x.alloc (.cells #[] 3)) := hB.alloc hz _
  have hsa : (x.alloc (.cells #[] 3)).heap.size = x.heap.size + 1 := by simp
  refine ⟨?_, ?_, ?_⟩
  · obtain ⟨g, cap, y, r1, w1, g1, p1⟩ := app_row (cc := cc1) hown h1.1 (n1 x hB) (by omega) hz
    have hy : Below w.heap.size w y := hB.grown g1 hz (fun j hj => by simp at hj; omega)
    have hgl := (w1.lt g rfl).2
    have hya : Below w.heap.size w (y.alloc (.cells #[] 3)) := hy.alloc hy.size _
    obtain ⟨g', cap', z, r2, w2, g2, p2⟩ := app_row (cc := cc2) (own_empty y w.heap.size hy.size) h2.1 (n2 _ hya) (by omega) hya.size
    rw [Nat.zero_add, List.nil_append] at w2
    rw [Nat.zero_add] at r2
    exact ⟨g, cap, y, g', cap', z, r1, r2, own_grown (w1.alloc _) g2 (by omega), w2, hya.grown g2 hya.size (fun j hj => by simp at hj; rw [← hj]; exact hy.size)⟩
  · obtain ⟨g, cap, y, r1, w1, g1, p1⟩ := app_row (cc := cc1) (hown.alloc (.cells #[] 3)) h1.1 (n1 _ hxa) (by omega) hxa.size
    have hy : Below w.heap.size w y := hxa.grown g1 hxa.size (fun j hj => by simp at hj; omega)
    have he := own_grown (own_empty x w.heap.size hz) g1 (by omega)
    obtain ⟨g', cap', z, r2, w2, g2, p2⟩ := app_row (cc := cc2) he h2.1 (n2 _ hy) (by omega) hy.size
    rw [Nat.zero_add, List.nil_append] at w2
    rw [Nat.zero_add] at r2
    exact ⟨g, cap, y, g', cap', z, r1, r2, own_grown w1 g2 (by rcases p1 with p1 | p1 <;> omega), w2, hy.grown g2 hy.size (fun j hj => by simp at hj; omega)⟩
  · obtain ⟨g', cap', y, r2, w2, g2, p2⟩ := app_row (cc := cc2) (own_empty x w.heap.size hz) h2.1 (n2 _ hxa) (by omega) hxa.size
    rw [Nat.zero_add, List.nil_append] at w2
    rw [Nat.zero_add] at r2
    have hy : Below w.heap.size w y := hxa.grown g2 hxa.size (fun j hj => by simp at hj; omega)
    have hr := own_grown (hown.alloc (.cells #[] 3)) g2 (by omega)
    obtain ⟨g, cap, z, r1, w1, g1, p1⟩ := app_row (cc := cc1) hr h1.1 (n1 _ hy) (by omega) hy.size
    exact ⟨g, cap, y, g', cap', z, r2, r1, w1, own_grown w2 g1 (by rcases p2 with p2 | p2 <;> omega), hy.grown g1 hy.size (fun j hj => by simp at hj; omega)⟩

end Go.Proofs.Ytcpffonenhhfoab
namespace Go.Proofs.Ytcpffonenhhfoab
open Go.RowKit

theorem wpAny_frame {P : Program} {md : Region.Mode} {ops : Array Oper} {Q : Exit → Go.Act → World → Prop} {fuel : Nat} {listed : Array Bool} {a a' : Go.Act} {w : World} (h : a = a') (hh : wpAny P md ops Q fuel listed a' w) : wpAny P md ops Q fuel listed a w := h ▸ hh
set_option maxRecDepth 100000 in
set_option maxHeartbeats 8000000 in
theorem sSplitTour_any (t : List Int) (u v : Int) (n : Nat) (a : Option Addr) (c : Nat) (hn : n ≤ 1048576) (hc : n ≤ c) (w : World) (h : Is w w.heap.size a n t) :
    Calls Try.prog 24 #[.slice a n c, .int .i64 u, .int .i64 v] w fun e w' => S2Ans w (spO t u v) e w' := by
  obtain ⟨i0, hi, hz0, hz1, hz2⟩ := info_parts info3i
  have S0 := ISt.start w
  have HT := hideIt (sTourOk_any t n a c (by omega) (w.alloc (.cells #[] 3)) (h.up S0.bel))
  have HG1 := hideIt (fun x (hx : Below w.heap.size w x) => l06Going_any t u v n a c (by omega) x (h.up hx))
  have HG2 := hideIt (fun x (hx : Below w.heap.size w x) => l06Going_any t v u n a c (by omega) x (h.up hx))
  have HI := hideIt h
  have hlen := h.1
  cases hT : tB t with
  | false =>
    have HO := hideIt (show spO t u v = ([], [], false) by unfold spO; rw [if_neg (fun hh => by have := hh.1; rw [hT] at this; simp at this)])
    rw [hT] at HT
    clear hT h
    go_enter Try.func24, Try.ntmps24
    go_wp2_with (go_at_call 46; refine HT.out.mono ?_; rintro e w1 ⟨rfl, hb1⟩)
    go_ret3
    exact s2_no HO.out (own_up S0.own hb1) (S0.bel.trans (hb1.mono (by simp)))
  | true =>
    rw [hT] at HT
    rcases go_at (t := t) (u := u) (v := v) with ⟨k, hk, _⟩ | ⟨hk, _⟩
    · obtain ⟨p, hp, hpn, hkn⟩ := go_both hT hk
      rw [hk] at HG1
      rw [hp] at HG2
      rw [hlen] at hpn hkn
      obtain ⟨d, hd⟩ : ∃ d, d = min k p := ⟨_, rfl⟩
      obtain ⟨q, hq⟩ : ∃ q, q = max k p := ⟨_, rfl⟩
      have hm1 : min (k : Int) (p : Int) = (d : Int) := by rw [hd]; omega
      have hm2 : max (k : Int) (p : Int) = (q : Int) := by rw [hq]; omega
      have HO := hideIt (show spO t u v = spT t d q by unfold spO; rw [if_pos ⟨hT, by rw [hk]; omega⟩, hk, hp, hm1, hm2]; rfl)
      have hdq : d ≤ q := by omega
      have hqn : q + 1 < n := by omega
      have d1 : decide ((k : Int) < 0) = false := decide_eq_false (by omega)
      have d2 : decide ((p : Int) < 0) = false := decide_eq_false (by omega)
      obtain ⟨b, off, rfl⟩ : ∃ b off, a = some ⟨b, off, none⟩ := by
        rcases h.2 with hz | ⟨b, off, h1, _⟩
        · omega
        · exact ⟨b, off, h1⟩
      clear hT h hk hp
      go_enter Try.func24, Try.ntmps24
      go_wp2_with (go_at_call 46; refine HT.out.mono ?_; rintro e w1 ⟨rfl, hb1⟩; refine Hid.out ?_)
      refine (show ∀ {p : Prop}, p → Hid p from fun h => h) ?_
      have B1 := S0.bel.trans (hb1.mono (by simp))
      have HG3 := hideIt (HG1.out w1 B1)
      clear HT hb1
      go_wp2_with (go_at_call 47; refine HG3.out.mono ?_; rintro e w2 ⟨rfl, hw⟩; have hw' := hw.symm; subst hw'; clear hw; refine Hid.out ?_)
      refine (show ∀ {p : Prop}, p → Hid p from fun h => h) ?_
      clear HG3 HG1
      have HG3 := hideIt (HG2.out w1 B1)
      have S1 := ISt.start w1
      have HI1 := hideIt ((HI.out.up B1).up S1.bel)
      have HN1 := hideIt ((HI1.out.take (show d + 1 ≤ n by omega)).news)
      have HN1l : Hid ((ic (t.take (d + 1))).length = (d + 1) * 1) := by show _ = _; rw [ic_len, List.length_take]; omega
      obtain ⟨x1, hx1⟩ : ∃ x, x = t.take (d + 1) := ⟨_, rfl⟩
      rw [← hx1] at HN1 HN1l
      have HX1 := hideIt hx1
      clear hx1
      have e1 : ((d : Int) + 1).toNat = d + 1 := by omega
      have p1 : (0 : Int) ≤ (d : Int) + 1 := by omega
      have p2 : (d : Int) + 1 ≤ (c : Int) := by omega
      clear HG2
      rcases Nat.lt_or_ge p k with hkp | hkp
      · obtain rfl : d = p := by omega
        obtain rfl : q = k := by omega
        have d3 : decide ((d : Int) < (q : Int)) = true := decide_eq_true (by omega)
        clear hm1 hm2 hd hq
        go_wp2_with (first | (go_at_call 47; refine HG3.out.mono ?_; rintro e w2 ⟨rfl, hw⟩; have hw' := hw.symm; subst hw'; clear hw) | (at_builtin; refine wpList_append_own _ rfl _ _ 45 rfl w1.heap.size 3 i0 _ 1 8 Try.underlying45 hi hz0 hz1 hz2 rfl (by decide) _ _ _ rfl S1.own ⟨b, off, none⟩ (d + 1) c (ic x1) rfl HN1l.out HN1.out ic_one (by unfold maxLen; omega) (by omega) (by simp) ?_))
        intro v5 w5 hown5 hg5 _
        obtain ⟨a5, c5, rfl, S5⟩ := S1.appL hown5 hg5
        clear hown5 hg5 S1 HI1 HN1 HN1l HG3
        refine Hid.out ?_
        refine (show ∀ {p : Prop}, p → Hid p from fun h => h) ?_
        have B5 := B1.trans (S5.bel.mono B1.size)
        have O5 := own_mono S5.own B1.size
        rw [List.nil_append, HX1.out] at O5
        obtain ⟨g5, c5', hform, _⟩ := O5.form (by omega)
        simp at hform
        obtain ⟨rfl, rfl⟩ := hform
        have e2 : ((q : Int) + 2).toNat = q + 2 := by omega
        have e3 : ((q : Int) + 1).toNat = q + 1 := by omega
        have pw1 : IntKind.i64.wrap ((d : Int) + 1) = (d : Int) + 1 := by rw [IntKind.wrap_i64]; omega
        have pw2 : IntKind.i64.wrap ((q : Int) + 1) = (q : Int) + 1 := by rw [IntKind.wrap_i64]; omega
        have pw3 : IntKind.i64.wrap ((q : Int) + 2) = (q : Int) + 2 := by rw [IntKind.wrap_i64]; omega
        have p3 : (0 : Int) ≤ (q : Int) + 2 := by omega
        have p4 : (q : Int) + 2 ≤ (n : Int) := by omega
        have p6 : (d : Int) + 1 ≤ (q : Int) + 1 := by omega
        have p7 : (q : Int) + 1 ≤ (c : Int) := by omega
        have p8 : (0 : Int) ≤ (q : Int) + 1 := by omega
        have hcd : ¬ (c = d + 1) := by omega
        by_cases hz : c = q + 2
        · have hqd : ¬ (q + 1 = d) := by omega
          obtain ⟨⟨g1, cap1, y1, g1', cap1', z1, rA1, rB1, oA1, oB1, bz1⟩, ⟨g2, cap2, y2, g2', cap2', z2, rA2, rB2, oA2, oB2, bz2⟩, _⟩ := app_two (x := w5.drew) (ad1 := ⟨b, off, none⟩) (k1 := n - (q + 2)) (cc1 := 0) (ad2 := ⟨b, off + (d + 1), none⟩) (k2 := q - d) (cc2 := q + 1 - d) B5.drew (World.ownsRow.drew O5) (xs := t.drop (q + 2)) (by rw [show n - (q + 2) = 0 by omega]; exact Is.none_of (by rw [List.length_drop]; omega)) (by rw [show q - d = q + 1 - (d + 1) by omega]; exact (HI.out.take (show q + 1 ≤ n by omega)).drop (by omega)) rfl rfl (by omega)
          rw [show w5.drew.alloc (.cells #[] 3) = (w5.alloc (.cells #[] 3)).drew from rfl] at rA2
          rw [show w5.drew.heap.size = w5.heap.size from rfl] at rB2
          have F1 := hideIt (And.intro oA1 (And.intro oB1 bz1))
          have F2 := hideIt (And.intro oA2 (And.intro oB2 bz2))
          clear oA1 oB1 bz1 oA2 oB2 bz2 O5 S5 HI B1 S0
          go_wp2
          refine wp_region_any (by kernel_rfl) ?_
          change wpAny _ _ _ _ _ _ _ (World.drew _)
          refine takeOp (i := 0) (v := ?_) rfl (by kernel_rfl) (by kernel_rfl) (by kernel_rfl) (fun _ _ _ h => h) (by kernel_rfl) ?_ ?_
          rotate_left
          · intro w; go_simp; try with_reducible rfl
          refine takeOp (i := 1) (v := ?_) rfl (by kernel_rfl) (by kernel_rfl) (by kernel_rfl) (fun _ _ _ h => h) (by kernel_rfl) ?_ ?_
          rotate_left
          · intro w; go_simp; try with_reducible rfl
          refine takeOp (i := 2) (v := ?_) rfl (by kernel_rfl) (by kernel_rfl) (by kernel_rfl) (fun _ _ _ h => h) (by kernel_rfl) ?_ ?_
          rotate_left
          · intro w; go_simp; try with_reducible rfl
          refine takeOp (i := 3) (v := ?_) rfl (by kernel_rfl) (by kernel_rfl) (by kernel_rfl) (fun _ _ _ h => h) (by kernel_rfl) ?_ ?_
          rotate_left
          · intro w; go_simp; try with_reducible rfl
          refine takeOp (i := 4) (v := ?_) rfl (by kernel_rfl) (by kernel_rfl) (by kernel_rfl) (fun _ _ _ h => h) (by kernel_rfl) ?_ ?_
          rotate_left
          · intro w; go_simp; try with_reducible rfl
          refine takeOp (i := 7) (v := ?_) rfl (by kernel_rfl) (by kernel_rfl) (by kernel_rfl) (fun _ _ _ h => h) (by kernel_rfl) ?_ ?_
          rotate_left
          · intro w; go_simp; try with_reducible rfl
          refine takeOp (i := 8) (v := ?_) rfl (by kernel_rfl) (by kernel_rfl) (by kernel_rfl) (fun _ _ _ h => h) (by kernel_rfl) ?_ ?_
          rotate_left
          · intro w; go_simp; try with_reducible rfl
          refine takeOp (i := 9) (v := ?_) rfl (by kernel_rfl) (by kernel_rfl) (by kernel_rfl) (fun _ _ _ h => h) (by kernel_rfl) ?_ ?_
          rotate_left
          · intro w; go_simp; try with_reducible rfl
          refine takeOp (i := 10) (v := ?_) rfl (by kernel_rfl) (by kernel_rfl) (by kernel_rfl) (fun _ _ _ h => h) (by kernel_rfl) ?_ ?_
          rotate_left
          · intro w; go_simp; try with_reducible rfl
          refine takeOp (i := 11) (v := ?_) rfl (by kernel_rfl) (by kernel_rfl) (by kernel_rfl) (fun _ _ _ h => h) (by kernel_rfl) ?_ ?_
          rotate_left
          · intro w; go_simp; try with_reducible rfl
          refine takeOp (i := 12) (v := ?_) rfl (by kernel_rfl) (by kernel_rfl) (by kernel_rfl) (fun _ _ _ h => h) (by kernel_rfl) ?_ ?_
          rotate_left
          · intro w; go_simp; try with_reducible rfl
          refine wpAny_frame (a' := ?_) ?_ ?_
          rotate_left
          · go_simp; try with_reducible rfl
          refine wpAny_ready (rs := [5, 6]) (by kernel_rfl) (by simp) (AllReady.cons rfl (fun K hK => step_app rfl _ _ 45 rfl rfl rfl rA1 (hK _ _ ?_)) (AllReady.cons rfl (fun K hK => ?_) AllReady.nil))
          · clear hK K rA2 rB2 F2
            refine wpAny_frame (a' := ?_) ?_ ?_
            rotate_left
            · go_simp; try with_reducible rfl
            refine wpAny_ready (rs := [6]) (by kernel_rfl) (by simp) ?_
            refine AllReady.cons rfl (fun K hK => ?_) AllReady.nil
            go_simp
            refine hK _ _ ?_
            clear hK K
            refine wpAny_ready (rs := [13]) (by kernel_rfl) (by simp) (AllReady.cons rfl (fun K hK => step_app rfl _ _ 45 rfl rfl rfl rB1 (hK _ _ ?_)) AllReady.nil)
            clear hK K
            refine wpAny_frame (a' := ?_) ?_ ?_
            rotate_left
            · go_simp; try with_reducible rfl
            refine wpAny_ready (rs := [14]) (by kernel_rfl) (by simp) ?_
            refine AllReady.cons rfl (fun K hK => ?_) AllReady.nil
            go_simp
            refine hK _ _ ?_
            clear hK K
            refine wpAny_ready (rs := [15]) (by kernel_rfl) (by simp) ?_
            refine AllReady.cons rfl (fun K hK => ?_) AllReady.nil
            go_simp
            refine hK _ _ ?_
            clear hK K
            refine wpAny_ready (rs := [16]) (by kernel_rfl) (by simp) ?_
            refine AllReady.cons rfl (fun K hK => ?_) AllReady.nil
            go_simp
            refine hK _ _ ?_
            clear hK K
            refine wpAny_done (by kernel_rfl) ?_ _
            go_wp2
            go_ret3
            exact s2_yes HO.out F1.out.1 F1.out.2.1 F1.out.2.2
          · go_simp
            refine hK _ _ ?_
            clear hK K rA1 rB1 F1
            refine wpAny_ready (rs := [5]) (by kernel_rfl) (by simp) (AllReady.cons rfl (fun K hK => step_app rfl _ _ 45 rfl rfl rfl rA2 (hK _ _ ?_)) AllReady.nil)
            clear hK K
            refine wpAny_frame (a' := ?_) ?_ ?_
            rotate_left
            · go_simp; try with_reducible rfl
            refine wpAny_ready (rs := [13]) (by kernel_rfl) (by simp) (AllReady.cons rfl (fun K hK => step_app rfl _ _ 45 rfl rfl rfl rB2 (hK _ _ ?_)) AllReady.nil)
            clear hK K
            refine wpAny_frame (a' := ?_) ?_ ?_
            rotate_left
            · go_simp; try with_reducible rfl
            refine wpAny_ready (rs := [14]) (by kernel_rfl) (by simp) ?_
            refine AllReady.cons rfl (fun K hK => ?_) AllReady.nil
            go_simp
            refine hK _ _ ?_
            clear hK K
            refine wpAny_ready (rs := [15]) (by kernel_rfl) (by simp) ?_
            refine AllReady.cons rfl (fun K hK => ?_) AllReady.nil
            go_simp
            refine hK _ _ ?_
            clear hK K
            refine wpAny_ready (rs := [16]) (by kernel_rfl) (by simp) ?_
            refine AllReady.cons rfl (fun K hK => ?_) AllReady.nil
            go_simp
            refine hK _ _ ?_
            clear hK K
            refine wpAny_done (by kernel_rfl) ?_ _
            go_wp2
            go_ret3
            exact s2_yes HO.out F2.out.1 F2.out.2.1 F2.out.2.2
        · obtain ⟨⟨g1, cap1, y1, g1', cap1', z1, rA1, rB1, oA1, oB1, bz1⟩, ⟨g2, cap2, y2, g2', cap2', z2, rA2, rB2, oA2, oB2, bz2⟩, _⟩ := app_two (x := w5.drew) (ad1 := ⟨b, off + (q + 2), none⟩) (k1 := n - (q + 2)) (cc1 := c - (q + 2)) (ad2 := ⟨b, off + (d + 1), none⟩) (k2 := q - d) (cc2 := c - (d + 1)) B5.drew (World.ownsRow.drew O5) (HI.out.drop (show q + 2 ≤ n by omega)) (by rw [show q - d = q + 1 - (d + 1) by omega]; exact (HI.out.take (show q + 1 ≤ n by omega)).drop (by omega)) rfl rfl (by omega)
          rw [show w5.drew.alloc (.cells #[] 3) = (w5.alloc (.cells #[] 3)).drew from rfl] at rA2
          rw [show w5.drew.heap.size = w5.heap.size from rfl] at rB2
          have F1 := hideIt (And.intro oA1 (And.intro oB1 bz1))
          have F2 := hideIt (And.intro oA2 (And.intro oB2 bz2))
          clear oA1 oB1 bz1 oA2 oB2 bz2 O5 S5 HI B1 S0
          go_wp2
          refine wp_region_any (by kernel_rfl) ?_
          change wpAny _ _ _ _ _ _ _ (World.drew _)
          refine takeOp (i := 0) (v := ?_) rfl (by kernel_rfl) (by kernel_rfl) (by kernel_rfl) (fun _ _ _ h => h) (by kernel_rfl) ?_ ?_
          rotate_left
          · intro w; go_simp; try with_reducible rfl
          refine takeOp (i := 1) (v := ?_) rfl (by kernel_rfl) (by kernel_rfl) (by kernel_rfl) (fun _ _ _ h => h) (by kernel_rfl) ?_ ?_
          rotate_left
          · intro w; go_simp; try with_reducible rfl
          refine takeOp (i := 2) (v := ?_) rfl (by kernel_rfl) (by kernel_rfl) (by kernel_rfl) (fun _ _ _ h => h) (by kernel_rfl) ?_ ?_
          rotate_left
          · intro w; go_simp; try with_reducible rfl
          refine takeOp (i := 3) (v := ?_) rfl (by kernel_rfl) (by kernel_rfl) (by kernel_rfl) (fun _ _ _ h => h) (by kernel_rfl) ?_ ?_
          rotate_left
          · intro w; go_simp; try with_reducible rfl
          refine takeOp (i := 4) (v := ?_) rfl (by kernel_rfl) (by kernel_rfl) (by kernel_rfl) (fun _ _ _ h => h) (by kernel_rfl) ?_ ?_
          rotate_left
          · intro w; go_simp; try with_reducible rfl
          refine takeOp (i := 7) (v := ?_) rfl (by kernel_rfl) (by kernel_rfl) (by kernel_rfl) (fun _ _ _ h => h) (by kernel_rfl) ?_ ?_
          rotate_left
          · intro w; go_simp; try with_reducible rfl
          refine takeOp (i := 8) (v := ?_) rfl (by kernel_rfl) (by kernel_rfl) (by kernel_rfl) (fun _ _ _ h => h) (by kernel_rfl) ?_ ?_
          rotate_left
          · intro w; go_simp; try with_reducible rfl
          refine takeOp (i := 9) (v := ?_) rfl (by kernel_rfl) (by kernel_rfl) (by kernel_rfl) (fun _ _ _ h => h) (by kernel_rfl) ?_ ?_
          rotate_left
          · intro w; go_simp; try with_reducible rfl
          refine takeOp (i := 10) (v := ?_) rfl (by kernel_rfl) (by kernel_rfl) (by kernel_rfl) (fun _ _ _ h => h) (by kernel_rfl) ?_ ?_
          rotate_left
          · intro w; go_simp; try with_reducible rfl
          refine takeOp (i := 11) (v := ?_) rfl (by kernel_rfl) (by kernel_rfl) (by kernel_rfl) (fun _ _ _ h => h) (by kernel_rfl) ?_ ?_
          rotate_left
          · intro w; go_simp; try with_reducible rfl
          refine takeOp (i := 12) (v := ?_) rfl (by kernel_rfl) (by kernel_rfl) (by kernel_rfl) (fun _ _ _ h => h) (by kernel_rfl) ?_ ?_
          rotate_left
          · intro w; go_simp; try with_reducible rfl
          refine wpAny_frame (a' := ?_) ?_ ?_
          rotate_left
          · go_simp; try with_reducible rfl
          refine wpAny_ready (rs := [5, 6]) (by kernel_rfl) (by simp) (AllReady.cons rfl (fun K hK => step_app rfl _ _ 45 rfl rfl rfl rA1 (hK _ _ ?_)) (AllReady.cons rfl (fun K hK => ?_) AllReady.nil))
          · clear hK K rA2 rB2 F2
            refine wpAny_frame (a' := ?_) ?_ ?_
            rotate_left
            · go_simp; try with_reducible rfl
            refine wpAny_ready (rs := [6]) (by kernel_rfl) (by simp) ?_
            refine AllReady.cons rfl (fun K hK => ?_) AllReady.nil
            go_simp
            refine hK _ _ ?_
            clear hK K
            refine wpAny_ready (rs := [13]) (by kernel_rfl) (by simp) (AllReady.cons rfl (fun K hK => step_app rfl _ _ 45 rfl rfl rfl rB1 (hK _ _ ?_)) AllReady.nil)
            clear hK K
            refine wpAny_frame (a' := ?_) ?_ ?_
            rotate_left
            · go_simp; try with_reducible rfl
            refine wpAny_ready (rs := [14]) (by kernel_rfl) (by simp) ?_
            refine AllReady.cons rfl (fun K hK => ?_) AllReady.nil
            go_simp
            refine hK _ _ ?_
            clear hK K
            refine wpAny_ready (rs := [15]) (by kernel_rfl) (by simp) ?_
            refine AllReady.cons rfl (fun K hK => ?_) AllReady.nil
            go_simp
            refine hK _ _ ?_
            clear hK K
            refine wpAny_ready (rs := [16]) (by kernel_rfl) (by simp) ?_
            refine AllReady.cons rfl (fun K hK => ?_) AllReady.nil
            go_simp
            refine hK _ _ ?_
            clear hK K
            refine wpAny_done (by kernel_rfl) ?_ _
            go_wp2
            go_ret3
            exact s2_yes HO.out F1.out.1 F1.out.2.1 F1.out.2.2
          · go_simp
            refine hK _ _ ?_
            clear hK K rA1 rB1 F1
            refine wpAny_ready (rs := [5]) (by kernel_rfl) (by simp) (AllReady.cons rfl (fun K hK => step_app rfl _ _ 45 rfl rfl rfl rA2 (hK _ _ ?_)) AllReady.nil)
            clear hK K
            refine wpAny_frame (a' := ?_) ?_ ?_
            rotate_left
            · go_simp; try with_reducible rfl
            refine wpAny_ready (rs := [13]) (by kernel_rfl) (by simp) (AllReady.cons rfl (fun K hK => step_app rfl _ _ 45 rfl rfl rfl rB2 (hK _ _ ?_)) AllReady.nil)
            clear hK K
            refine wpAny_frame (a' := ?_) ?_ ?_
            rotate_left
            · go_simp; try with_reducible rfl
            refine wpAny_ready (rs := [14]) (by kernel_rfl) (by simp) ?_
            refine AllReady.cons rfl (fun K hK => ?_) AllReady.nil
            go_simp
            refine hK _ _ ?_
            clear hK K
            refine wpAny_ready (rs := [15]) (by kernel_rfl) (by simp) ?_
            refine AllReady.cons rfl (fun K hK => ?_) AllReady.nil
            go_simp
            refine hK _ _ ?_
            clear hK K
            refine wpAny_ready (rs := [16]) (by kernel_rfl) (by simp) ?_
            refine AllReady.cons rfl (fun K hK => ?_) AllReady.nil
            go_simp
            refine hK _ _ ?_
            clear hK K
            refine wpAny_done (by kernel_rfl) ?_ _
            go_wp2
            go_ret3
            exact s2_yes HO.out F2.out.1 F2.out.2.1 F2.out.2.2
      · obtain rfl : d = k := by omega
        obtain rfl : q = p := by omega
        have d3 : decide ((q : Int) < (d : Int)) = false := decide_eq_false (by omega)
        clear hm1 hm2 hd hq
        go_wp2_with (first | (go_at_call 47; refine HG3.out.mono ?_; rintro e w2 ⟨rfl, hw⟩; have hw' := hw.symm; subst hw'; clear hw) | (at_builtin; refine wpList_append_own _ rfl _ _ 45 rfl w1.heap.size 3 i0 _ 1 8 Try.underlying45 hi hz0 hz1 hz2 rfl (by decide) _ _ _ rfl S1.own ⟨b, off, none⟩ (d + 1) c (ic x1) rfl HN1l.out HN1.out ic_one (by unfold maxLen; omega) (by omega) (by simp) ?_))
        intro v5 w5 hown5 hg5 _
        obtain ⟨a5, c5, rfl, S5⟩ := S1.appL hown5 hg5
        clear hown5 hg5 S1 HI1 HN1 HN1l HG3
        refine Hid.out ?_
        refine (show ∀ {p : Prop}, p → Hid p from fun h => h) ?_
        have B5 := B1.trans (S5.bel.mono B1.size)
        have O5 := own_mono S5.own B1.size
        rw [List.nil_append, HX1.out] at O5
        obtain ⟨g5, c5', hform, _⟩ := O5.form (by omega)
        simp at hform
        obtain ⟨rfl, rfl⟩ := hform
        have e2 : ((q : Int) + 2).toNat = q + 2 := by omega
        have e3 : ((q : Int) + 1).toNat = q + 1 := by omega
        have pw1 : IntKind.i64.wrap ((d : Int) + 1) = (d : Int) + 1 := by rw [IntKind.wrap_i64]; omega
        have pw2 : IntKind.i64.wrap ((q : Int) + 1) = (q : Int) + 1 := by rw [IntKind.wrap_i64]; omega
        have pw3 : IntKind.i64.wrap ((q : Int) + 2) = (q : Int) + 2 := by rw [IntKind.wrap_i64]; omega
        have p3 : (0 : Int) ≤ (q : Int) + 2 := by omega
        have p4 : (q : Int) + 2 ≤ (n : Int) := by omega
        have p6 : (d : Int) + 1 ≤ (q : Int) + 1 := by omega
        have p7 : (q : Int) + 1 ≤ (c : Int) := by omega
        have p8 : (0 : Int) ≤ (q : Int) + 1 := by omega
        have hcd : ¬ (c = d + 1) := by omega
        by_cases hz : c = q + 2
        · have hqd : ¬ (q + 1 = d) := by omega
          obtain ⟨⟨g1, cap1, y1, g1', cap1', z1, rA1, rB1, oA1, oB1, bz1⟩, ⟨g2, cap2, y2, g2', cap2', z2, rA2, rB2, oA2, oB2, bz2⟩, _⟩ := app_two (x := w5.drew) (ad1 := ⟨b, off, none⟩) (k1 := n - (q + 2)) (cc1 := 0) (ad2 := ⟨b, off + (d + 1), none⟩) (k2 := q - d) (cc2 := q + 1 - d) B5.drew (World.ownsRow.drew O5) (xs := t.drop (q + 2)) (by rw [show n - (q + 2) = 0 by omega]; exact Is.none_of (by rw [List.length_drop]; omega)) (by rw [show q - d = q + 1 - (d + 1) by omega]; exact (HI.out.take (show q + 1 ≤ n by omega)).drop (by omega)) rfl rfl (by omega)
          rw [show w5.drew.alloc (.cells #[] 3) = (w5.alloc (.cells #[] 3)).drew from rfl] at rA2
          rw [show w5.drew.heap.size = w5.heap.size from rfl] at rB2
          have F1 := hideIt (And.intro oA1 (And.intro oB1 bz1))
          have F2 := hideIt (And.intro oA2 (And.intro oB2 bz2))
          clear oA1 oB1 bz1 oA2 oB2 bz2 O5 S5 HI B1 S0
          go_wp2
          refine wp_region_any (by kernel_rfl) ?_
          change wpAny _ _ _ _ _ _ _ (World.drew _)
          refine takeOp (i := 0) (v := ?_) rfl (by kernel_rfl) (by kernel_rfl) (by kernel_rfl) (fun _ _ _ h => h) (by kernel_rfl) ?_ ?_
          rotate_left
          · intro w; go_simp; try with_reducible rfl
          refine takeOp (i := 1) (v := ?_) rfl (by kernel_rfl) (by kernel_rfl) (by kernel_rfl) (fun _ _ _ h => h) (by kernel_rfl) ?_ ?_
          rotate_left
          · intro w; go_simp; try with_reducible rfl
          refine takeOp (i := 2) (v := ?_) rfl (by kernel_rfl) (by kernel_rfl) (by kernel_rfl) (fun _ _ _ h => h) (by kernel_rfl) ?_ ?_
          rotate_left
          · intro w; go_simp; try with_reducible rfl
          refine takeOp (i := 3) (v := ?_) rfl (by kernel_rfl) (by kernel_rfl) (by kernel_rfl) (fun _ _ _ h => h) (by kernel_rfl) ?_ ?_
          rotate_left
          · intro w; go_simp; try with_reducible rfl
          refine takeOp (i := 4) (v := ?_) rfl (by kernel_rfl) (by kernel_rfl) (by kernel_rfl) (fun _ _ _ h => h) (by kernel_rfl) ?_ ?_
          rotate_left
          · intro w; go_simp; try with_reducible rfl
          refine takeOp (i := 7) (v := ?_) rfl (by kernel_rfl) (by kernel_rfl) (by kernel_rfl) (fun _ _ _ h => h) (by kernel_rfl) ?_ ?_
          rotate_left
          · intro w; go_simp; try with_reducible rfl
          refine takeOp (i := 8) (v := ?_) rfl (by kernel_rfl) (by kernel_rfl) (by kernel_rfl) (fun _ _ _ h => h) (by kernel_rfl) ?_ ?_
          rotate_left
          · intro w; go_simp; try with_reducible rfl
          refine takeOp (i := 9) (v := ?_) rfl (by kernel_rfl) (by kernel_rfl) (by kernel_rfl) (fun _ _ _ h => h) (by kernel_rfl) ?_ ?_
          rotate_left
          · intro w; go_simp; try with_reducible rfl
          refine takeOp (i := 10) (v := ?_) rfl (by kernel_rfl) (by kernel_rfl) (by kernel_rfl) (fun _ _ _ h => h) (by kernel_rfl) ?_ ?_
          rotate_left
          · intro w; go_simp; try with_reducible rfl
          refine takeOp (i := 11) (v := ?_) rfl (by kernel_rfl) (by kernel_rfl) (by kernel_rfl) (fun _ _ _ h => h) (by kernel_rfl) ?_ ?_
          rotate_left
          · intro w; go_simp; try with_reducible rfl
          refine takeOp (i := 12) (v := ?_) rfl (by kernel_rfl) (by kernel_rfl) (by kernel_rfl) (fun _ _ _ h => h) (by kernel_rfl) ?_ ?_
          rotate_left
          · intro w; go_simp; try with_reducible rfl
          refine wpAny_frame (a' := ?_) ?_ ?_
          rotate_left
          · go_simp; try with_reducible rfl
          refine wpAny_ready (rs := [5, 6]) (by kernel_rfl) (by simp) (AllReady.cons rfl (fun K hK => step_app rfl _ _ 45 rfl rfl rfl rA1 (hK _ _ ?_)) (AllReady.cons rfl (fun K hK => ?_) AllReady.nil))
          · clear hK K rA2 rB2 F2
            refine wpAny_frame (a' := ?_) ?_ ?_
            rotate_left
            · go_simp; try with_reducible rfl
            refine wpAny_ready (rs := [6]) (by kernel_rfl) (by simp) ?_
            refine AllReady.cons rfl (fun K hK => ?_) AllReady.nil
            go_simp
            refine hK _ _ ?_
            clear hK K
            refine wpAny_ready (rs := [13]) (by kernel_rfl) (by simp) (AllReady.cons rfl (fun K hK => step_app rfl _ _ 45 rfl rfl rfl rB1 (hK _ _ ?_)) AllReady.nil)
            clear hK K
            refine wpAny_frame (a' := ?_) ?_ ?_
            rotate_left
            · go_simp; try with_reducible rfl
            refine wpAny_ready (rs := [14]) (by kernel_rfl) (by simp) ?_
            refine AllReady.cons rfl (fun K hK => ?_) AllReady.nil
            go_simp
            refine hK _ _ ?_
            clear hK K
            refine wpAny_ready (rs := [15]) (by kernel_rfl) (by simp) ?_
            refine AllReady.cons rfl (fun K hK => ?_) AllReady.nil
            go_simp
            refine hK _ _ ?_
            clear hK K
            refine wpAny_ready (rs := [16]) (by kernel_rfl) (by simp) ?_
            refine AllReady.cons rfl (fun K hK => ?_) AllReady.nil
            go_simp
            refine hK _ _ ?_
            clear hK K
            refine wpAny_done (by kernel_rfl) ?_ _
            go_wp2
            go_ret3
            exact s2_yes HO.out F1.out.1 F1.out.2.1 F1.out.2.2
          · go_simp
            refine hK _ _ ?_
            clear hK K rA1 rB1 F1
            refine wpAny_ready (rs := [5]) (by kernel_rfl) (by simp) (AllReady.cons rfl (fun K hK => step_app rfl _ _ 45 rfl rfl rfl rA2 (hK _ _ ?_)) AllReady.nil)
            clear hK K
            refine wpAny_frame (a' := ?_) ?_ ?_
            rotate_left
            · go_simp; try with_reducible rfl
            refine wpAny_ready (rs := [13]) (by kernel_rfl) (by simp) (AllReady.cons rfl (fun K hK => step_app rfl _ _ 45 rfl rfl rfl rB2 (hK _ _ ?_)) AllReady.nil)
            clear hK K
            refine wpAny_frame (a' := ?_) ?_ ?_
            rotate_left
            · go_simp; try with_reducible rfl
            refine wpAny_ready (rs := [14]) (by kernel_rfl) (by simp) ?_
            refine AllReady.cons rfl (fun K hK => ?_) AllReady.nil
            go_simp
            refine hK _ _ ?_
            clear hK K
            refine wpAny_ready (rs := [15]) (by kernel_rfl) (by simp) ?_
            refine AllReady.cons rfl (fun K hK => ?_) AllReady.nil
            go_simp
            refine hK _ _ ?_
            clear hK K
            refine wpAny_ready (rs := [16]) (by kernel_rfl) (by simp) ?_
            refine AllReady.cons rfl (fun K hK => ?_) AllReady.nil
            go_simp
            refine hK _ _ ?_
            clear hK K
            refine wpAny_done (by kernel_rfl) ?_ _
            go_wp2
            go_ret3
            exact s2_yes HO.out F2.out.1 F2.out.2.1 F2.out.2.2
        · obtain ⟨⟨g1, cap1, y1, g1', cap1', z1, rA1, rB1, oA1, oB1, bz1⟩, ⟨g2, cap2, y2, g2', cap2', z2, rA2, rB2, oA2, oB2, bz2⟩, _⟩ := app_two (x := w5.drew) (ad1 := ⟨b, off + (q + 2), none⟩) (k1 := n - (q + 2)) (cc1 := c - (q + 2)) (ad2 := ⟨b, off + (d + 1), none⟩) (k2 := q - d) (cc2 := c - (d + 1)) B5.drew (World.ownsRow.drew O5) (HI.out.drop (show q + 2 ≤ n by omega)) (by rw [show q - d = q + 1 - (d + 1) by omega]; exact (HI.out.take (show q + 1 ≤ n by omega)).drop (by omega)) rfl rfl (by omega)
          rw [show w5.drew.alloc (.cells #[] 3) = (w5.alloc (.cells #[] 3)).drew from rfl] at rA2
          rw [show w5.drew.heap.size = w5.heap.size from rfl] at rB2
          have F1 := hideIt (And.intro oA1 (And.intro oB1 bz1))
          have F2 := hideIt (And.intro oA2 (And.intro oB2 bz2))
          clear oA1 oB1 bz1 oA2 oB2 bz2 O5 S5 HI B1 S0
          go_wp2
          refine wp_region_any (by kernel_rfl) ?_
          change wpAny _ _ _ _ _ _ _ (World.drew _)
          refine takeOp (i := 0) (v := ?_) rfl (by kernel_rfl) (by kernel_rfl) (by kernel_rfl) (fun _ _ _ h => h) (by kernel_rfl) ?_ ?_
          rotate_left
          · intro w; go_simp; try with_reducible rfl
          refine takeOp (i := 1) (v := ?_) rfl (by kernel_rfl) (by kernel_rfl) (by kernel_rfl) (fun _ _ _ h => h) (by kernel_rfl) ?_ ?_
          rotate_left
          · intro w; go_simp; try with_reducible rfl
          refine takeOp (i := 2) (v := ?_) rfl (by kernel_rfl) (by kernel_rfl) (by kernel_rfl) (fun _ _ _ h => h) (by kernel_rfl) ?_ ?_
          rotate_left
          · intro w; go_simp; try with_reducible rfl
          refine takeOp (i := 3) (v := ?_) rfl (by kernel_rfl) (by kernel_rfl) (by kernel_rfl) (fun _ _ _ h => h) (by kernel_rfl) ?_ ?_
          rotate_left
          · intro w; go_simp; try with_reducible rfl
          refine takeOp (i := 4) (v := ?_) rfl (by kernel_rfl) (by kernel_rfl) (by kernel_rfl) (fun _ _ _ h => h) (by kernel_rfl) ?_ ?_
          rotate_left
          · intro w; go_simp; try with_reducible rfl
          refine takeOp (i := 7) (v := ?_) rfl (by kernel_rfl) (by kernel_rfl) (by kernel_rfl) (fun _ _ _ h => h) (by kernel_rfl) ?_ ?_
          rotate_left
          · intro w; go_simp; try with_reducible rfl
          refine takeOp (i := 8) (v := ?_) rfl (by kernel_rfl) (by kernel_rfl) (by kernel_rfl) (fun _ _ _ h => h) (by kernel_rfl) ?_ ?_
          rotate_left
          · intro w; go_simp; try with_reducible rfl
          refine takeOp (i := 9) (v := ?_) rfl (by kernel_rfl) (by kernel_rfl) (by kernel_rfl) (fun _ _ _ h => h) (by kernel_rfl) ?_ ?_
          rotate_left
          · intro w; go_simp; try with_reducible rfl
          refine takeOp (i := 10) (v := ?_) rfl (by kernel_rfl) (by kernel_rfl) (by kernel_rfl) (fun _ _ _ h => h) (by kernel_rfl) ?_ ?_
          rotate_left
          · intro w; go_simp; try with_reducible rfl
          refine takeOp (i := 11) (v := ?_) rfl (by kernel_rfl) (by kernel_rfl) (by kernel_rfl) (fun _ _ _ h => h) (by kernel_rfl) ?_ ?_
          rotate_left
          · intro w; go_simp; try with_reducible rfl
          refine takeOp (i := 12) (v := ?_) rfl (by kernel_rfl) (by kernel_rfl) (by kernel_rfl) (fun _ _ _ h => h) (by kernel_rfl) ?_ ?_
          rotate_left
          · intro w; go_simp; try with_reducible rfl
          refine wpAny_frame (a' := ?_) ?_ ?_
          rotate_left
          · go_simp; try with_reducible rfl
          refine wpAny_ready (rs := [5, 6]) (by kernel_rfl) (by simp) (AllReady.cons rfl (fun K hK => step_app rfl _ _ 45 rfl rfl rfl rA1 (hK _ _ ?_)) (AllReady.cons rfl (fun K hK => ?_) AllReady.nil))
          · clear hK K rA2 rB2 F2
            refine wpAny_frame (a' := ?_) ?_ ?_
            rotate_left
            · go_simp; try with_reducible rfl
            refine wpAny_ready (rs := [6]) (by kernel_rfl) (by simp) ?_
            refine AllReady.cons rfl (fun K hK => ?_) AllReady.nil
            go_simp
            refine hK _ _ ?_
            clear hK K
            refine wpAny_ready (rs := [13]) (by kernel_rfl) (by simp) (AllReady.cons rfl (fun K hK => step_app rfl _ _ 45 rfl rfl rfl rB1 (hK _ _ ?_)) AllReady.nil)
            clear hK K
            refine wpAny_frame (a' := ?_) ?_ ?_
            rotate_left
            · go_simp; try with_reducible rfl
            refine wpAny_ready (rs := [14]) (by kernel_rfl) (by simp) ?_
            refine AllReady.cons rfl (fun K hK => ?_) AllReady.nil
            go_simp
            refine hK _ _ ?_
            clear hK K
            refine wpAny_ready (rs := [15]) (by kernel_rfl) (by simp) ?_
            refine AllReady.cons rfl (fun K hK => ?_) AllReady.nil
            go_simp
            refine hK _ _ ?_
            clear hK K
            refine wpAny_ready (rs := [16]) (by kernel_rfl) (by simp) ?_
            refine AllReady.cons rfl (fun K hK => ?_) AllReady.nil
            go_simp
            refine hK _ _ ?_
            clear hK K
            refine wpAny_done (by kernel_rfl) ?_ _
            go_wp2
            go_ret3
            exact s2_yes HO.out F1.out.1 F1.out.2.1 F1.out.2.2
          · go_simp
            refine hK _ _ ?_
            clear hK K rA1 rB1 F1
            refine wpAny_ready (rs := [5]) (by kernel_rfl) (by simp) (AllReady.cons rfl (fun K hK => step_app rfl _ _ 45 rfl rfl rfl rA2 (hK _ _ ?_)) AllReady.nil)
            clear hK K
            refine wpAny_frame (a' := ?_) ?_ ?_
            rotate_left
            · go_simp; try with_reducible rfl
            refine wpAny_ready (rs := [13]) (by kernel_rfl) (by simp) (AllReady.cons rfl (fun K hK => step_app rfl _ _ 45 rfl rfl rfl rB2 (hK _ _ ?_)) AllReady.nil)
            clear hK K
            refine wpAny_frame (a' := ?_) ?_ ?_
            rotate_left
            · go_simp; try with_reducible rfl
            refine wpAny_ready (rs := [14]) (by kernel_rfl) (by simp) ?_
            refine AllReady.cons rfl (fun K hK => ?_) AllReady.nil
            go_simp
            refine hK _ _ ?_
            clear hK K
            refine wpAny_ready (rs := [15]) (by kernel_rfl) (by simp) ?_
            refine AllReady.cons rfl (fun K hK => ?_) AllReady.nil
            go_simp
            refine hK _ _ ?_
            clear hK K
            refine wpAny_ready (rs := [16]) (by kernel_rfl) (by simp) ?_
            refine AllReady.cons rfl (fun K hK => ?_) AllReady.nil
            go_simp
            refine hK _ _ ?_
            clear hK K
            refine wpAny_done (by kernel_rfl) ?_ _
            go_wp2
            go_ret3
            exact s2_yes HO.out F2.out.1 F2.out.2.1 F2.out.2.2
    · have HO := hideIt (show spO t u v = ([], [], false) by unfold spO; rw [if_neg (fun hh => by have := hh.2; omega)])
      rw [hk] at HG1
      clear hT h
      go_enter Try.func24, Try.ntmps24
      go_wp2_with (go_at_call 46; refine HT.out.mono ?_; rintro e w1 ⟨rfl, hb1⟩; refine Hid.out ?_)
      refine (show ∀ {p : Prop}, p → Hid p from fun h => h) ?_
      have B1 := S0.bel.trans (hb1.mono (by simp))
      have O1 := own_up S0.own hb1
      have HG3 := hideIt (HG1.out w1 B1)
      have HG4 := hideIt (HG2.out w1 B1)
      clear HT hb1 HG1 HG2
      go_wp2_with (first | (go_at_call 47; refine HG3.out.mono ?_; clear HG3; rintro e w2 ⟨rfl, hw⟩; have hw' := hw.symm; subst hw'; clear hw) | (go_at_call 47; refine HG4.out.mono ?_; rintro e w2 ⟨rfl, hw⟩; have hw' := hw.symm; subst hw'; clear hw))
      go_ret3
      exact s2_no HO.out O1 B1
end Go.Proofs.Ytcpffonenhhfoab
namespace Go.Proofs.Ytcpffonenhhfoab
open Go.RowKit

theorem cut_sp {t A B : List Int} {u v : Int} (hS : spO t u v = (A, B, true)) : ∃ p c, SpIs t A B p c ∧ v ∈ t := by
  obtain ⟨hB, k, h1, h2⟩ := cut_in hS
  obtain ⟨A', B', p, c, e, _, hs, _⟩ := spl_is hB h1 h2
  rw [hS] at e
  simp only [Prod.mk.injEq, and_true] at e
  obtain ⟨rfl, rfl⟩ := e
  exact ⟨p, c, hs, List.mem_of_getElem? h2⟩
theorem cut_fq {N : Nat} {ts : List (List Int)} (hP : FP (N : Int) ts) {i : Nat} {t A B : List Int} {u v : Int} (hi : ts[i]? = some t) (hS : spO t u v = (A, B, true)) : FQ (N : Int) (woK ts [i] ts.length ++ [A, B]) := by
  obtain ⟨p, c, hs, _⟩ := cut_sp hS
  exact (hP.q.perm (wo_one_all hi).symm).split hs
end Go.Proofs.Ytcpffonenhhfoab
namespace Go.Proofs.Ytcpffonenhhfoab
open Go.RowKit

theorem rans_no {w u : World} {N : Int} {o : Option (List (List Int))} (ho : o = none) (h : Below w.heap.size w u) : RAns w N o (.returned (.tuple #[.agg #[.int .i64 0, .slice none 0 0], .bool false])) u := by
  subst ho
  exact ⟨none, 0, 0, [], rfl, ⟨World.ownsRow_nil _ _ _ _, HdT.nil _ _, by simp⟩, h⟩
/-- a number in a row -/
theorem is_one {w : World} {x : Int} : Is (w.alloc (.cells #[.int .i64 x] 3)) (w.alloc (.cells #[.int .i64 x] 3)).heap.size (some ⟨w.heap.size, 0, none⟩) 1 [x] := ⟨rfl, .inr ⟨w.heap.size, 0, rfl, by simp, fun j z hz => by
  rcases j with _ | j
  · simp at hz; subst hz; simp
  · simp at hz⟩⟩
theorem ts_two {w : World} {x y : Option Addr} {cx cy : Nat} {t s : List Int} (h : Is w w.heap.size x t.length t) (hc : t.length ≤ cx) (h' : Is w w.heap.size y s.length s) (hc' : s.length ≤ cy) : Ts (w.alloc (.cells #[.slice x t.length cx, .slice y s.length cy] 45)) (w.alloc (.cells #[.slice x t.length cx, .slice y s.length cy] 45)).heap.size (some ⟨w.heap.size, 0, none⟩) 2 [t, s] := ⟨rfl, .inr ⟨w.heap.size, 0, rfl, by simp, fun j q hq => by
  rcases j with _ | _ | j
  · simp at hq
    subst hq
    exact ⟨x, cx, by simp, h.up ((Good.refl w).alloc _), hc⟩
  · simp at hq
    subst hq
    exact ⟨y, cy, by simp, h'.up ((Good.refl w).alloc _), hc'⟩
  · simp at hq⟩⟩
set_option maxRecDepth 100000 in
set_option maxHeartbeats 8000000 in
theorem sCut_any (N : Int) (ts : List (List Int)) (f : EdgeV) (n : Nat) (a : Option Addr) (c : Nat) (hn : n + lnS ts ≤ 1048576) (w : World) (h : Ts w w.heap.size a n ts) :
    Calls Try.prog 7 #[.agg #[.int .i64 N, .slice a n c], .agg #[.int .i64 f.1, .int .i64 f.2]] w fun e w' => RAns w N (cutO N ts f) e w' := by
  obtain ⟨W, hW⟩ : ∃ W, W = w3of w N a n c f := ⟨_, rfl⟩
  have hsz : W.heap.size = w.heap.size + 3 := by rw [hW, w3_size]
  have gW : Good w W := by rw [hW]; exact w3_good _ _ _ _ _ _
  have HA := hideIt (h.up gW)
  have HAw := hideIt h
  have hlen := h.1
  have HT : Hid (∀ x u, Good W u → Calls Try.prog 22 #[.agg #[.int .i64 N, .slice a n c], .int .i64 x] u fun e v => e = .returned (.int .i64 (treeO N ts x)) ∧ Good W v) := fun x u hu =>
    (sTreeOf_any N ts x n a c hn u (HA.out.up hu)).mono fun _ _ ⟨he, hb⟩ => ⟨he, hu.up hb⟩
  have HE : Hid (∀ u, Good W u → Calls Try.prog 23 #[.int .i64 N, .agg #[.int .i64 f.1, .int .i64 f.2]] u fun e v => e = .returned (.bool (eB N f)) ∧ Good W v) := fun u hu =>
    (sEdgeOk_any N f u).mono fun _ _ ⟨he, hb⟩ => ⟨he, hu.up hb⟩
  have HC : Hid (∀ u, Good W u → ((u.cell? ⟨w.heap.size, 0, none⟩ = some (.int .i64 N) ∧ u.cell? ⟨w.heap.size, 1, none⟩ = some (.slice a n c)) ∧ u.cell? ⟨w.heap.size + 1, 0, none⟩ = some (.int .i64 f.1) ∧ u.cell? ⟨w.heap.size + 1, 1, none⟩ = some (.int .i64 f.2)) ∧ Good W u) := fun u hu => ⟨w3_cells (hW ▸ hu), hu⟩
  have HO : Hid (∀ u, Below (w.heap.size + 3) W u → (u.cell? ⟨w.heap.size + 2, 0, none⟩ = some (.int .i64 0) ∧ u.cell? ⟨w.heap.size + 2, 1, none⟩ = some (.slice none 0 0)) ∧ u.frozen? ⟨w.heap.size + 2, 0, none⟩ = false ∧ u.frozen? ⟨w.heap.size + 2, 1, none⟩ = false) := fun u hu => w3_out (hW ▸ hu)
  have HNo : Hid (∀ u, Good W u → cutO N ts f = none → RAns w N (cutO N ts f) (.returned (.tuple #[.agg #[.int .i64 0, .slice none 0 0], .bool false])) ((u.setCell ⟨w.heap.size + 2, 0, none⟩ (.int .i64 0)).setCell ⟨w.heap.size + 2, 1, none⟩ (.slice none 0 0))) := fun u hu ho =>
    rans_no ho (((gW.up hu).setCell (p := ⟨w.heap.size + 2, 0, none⟩) (by show w.heap.size ≤ w.heap.size + 2; omega) _).setCell (p := ⟨w.heap.size + 2, 1, none⟩) (by show w.heap.size ≤ w.heap.size + 2; omega) _)
  have HS0 := hideIt (HC.out _ (Good.refl W).drew)
  have HGW := hideIt gW
  go_enter Try.func7, Try.ntmps7
  go_upto_region 1 with fail
  clear h gW
  have hW' : (((w.alloc (.cells #[.int .i64 N, .slice a n c] 28)).alloc (.cells #[.int .i64 f.1, .int .i64 f.2] 32)).alloc (.cells #[.int .i64 0, .slice none 0 0] 28)) = W := hW.symm
  rw [hW']
  clear hW hW'
  obtain ⟨⟨⟨k0, k1⟩, k2, k3⟩, _⟩ := HC.out _ (Good.refl W)
  have HT0 := hideIt (HT.out f.1 W (Good.refl W))
  clear HS0
  go_wp2_with (go_at_call 22; refine HT0.out.mono ?_; rintro e w1 ⟨rfl, G1⟩; refine Hid.out ?_)
  refine (show ∀ {p : Prop}, p → Hid p from fun h => h) ?_
  clear k0 k1 k2 k3 HT0
  · skip
    obtain ⟨⟨⟨k0, k1⟩, k2, k3⟩, _⟩ := HC.out _ G1
    have HE1 := hideIt (HE.out _ G1)
    cases hE : eB N f with
    | false =>
      rw [hE] at HE1
      have HL := hideIt (cutO_no (N := N) (ts := ts) (e := f) (fun h => by rw [hE] at h; exact absurd h.2.1 (by simp)))
      clear hE
      go_wp2_with (go_at_call 23; refine HE1.out.mono ?_; rintro e w2 ⟨rfl, G2⟩; refine Hid.out ?_)
      refine (show ∀ {p : Prop}, p → Hid p from fun h => h) ?_
      obtain ⟨⟨r0, r1⟩, r2, r3⟩ := HO.out _ (by rw [← hsz]; exact G2)
      have HN2 := hideIt (HNo.out _ G2 HL.out)
      clear k0 k1 k2 k3
      go_wp2
      exact bodyPost_ret (v := .tuple #[.agg #[.int .i64 0, .slice none 0 0], .bool false]) (by simp [results, Try.results7, go_sem, r0, r1]) rfl HN2.out
    | true =>
      rw [hE] at HE1
      by_cases hP : FP N ts
      · obtain ⟨M, rfl, hM1, hM2⟩ := FP_nat hP
        obtain ⟨i, j, p, q, hi, hj, hu, hv⟩ := edge_at hP hE
        have e1 : treeO (M : Int) ts f.1 = (i : Int) := (treeO_yes hP f.1).trans (trI_of hP.q hi hu)
        rw [e1]
        have hil := (List.getElem?_eq_some_iff.1 hi).1
        rcases HA.out.2 with hz | ⟨b, off, rfl, hbl, hc⟩
        · omega
        · obtain ⟨x, cx, ci, ii, hcx⟩ := hc i p hi
          have hp := tB_len (hP.q.1 p (List.mem_of_getElem? hi)).1
          have HJ : Hid (∀ u, Good W u → Calls Try.prog 24 #[.slice x p.length cx, .int .i64 f.1, .int .i64 f.2] u fun e v => S2Ans u (spO p f.1 f.2) e v) := fun u hu =>
            sSplitTour_any p f.1 f.2 p.length x cx (by omega) hcx u (ii.up hu)
          have HC4 : Hid (∀ u, Good W u → (((u.cell? ⟨w.heap.size, 0, none⟩ = some (.int .i64 (M : Int)) ∧ u.cell? ⟨w.heap.size, 1, none⟩ = some (.slice (some ⟨b, off, none⟩) n c)) ∧ u.cell? ⟨w.heap.size + 1, 0, none⟩ = some (.int .i64 f.1) ∧ u.cell? ⟨w.heap.size + 1, 1, none⟩ = some (.int .i64 f.2)) ∧ u.cell? ⟨b, off + i, none⟩ = some (.slice x p.length cx)) ∧ Good W u) := fun u hu =>
            ⟨⟨(HC.out u hu).1, by rw [hu.cell hbl]; exact ci⟩, hu⟩
          have b1 : (0 : Int) ≤ (i : Int) := by omega
          have b2 : (i : Int) < (n : Int) := by omega
          have d1 : decide ((i : Int) < 0) = false := decide_eq_false (by omega)
          have HAw2 := HAw
          clear hc ii ci e1
          go_wp2_with (go_at_call 23; refine HE1.out.mono ?_; rintro e w2 ⟨rfl, G2⟩; refine Hid.out ?_)
          refine (show ∀ {p : Prop}, p → Hid p from fun h => h) ?_
          have g2d : Good W w2.drew := G2.drew
          have hS2 := HC4.out _ g2d
          clear k0 k1 k2 k3 HE1
          cases hsp : (spO p f.1 f.2).2.2 with
          | false =>
            have HL := hideIt (cutO_no (N := (M : Int)) (ts := ts) (e := f) (fun h => by
              have h3 := h.2.2
              rw [trI_of hP.q hi hu, tat_at hi, hsp] at h3
              cases h3))
            have HJ2 : Hid (∀ u, Good W u → Calls Try.prog 24 #[.slice x p.length cx, .int .i64 f.1, .int .i64 f.2] u fun e v => ∃ aJ mJ cJ aK mK cK, e = .returned (.tuple #[.slice aJ mJ cJ, .slice aK mK cK, .bool false]) ∧ Good W v) := fun u hu =>
              (HJ.out u hu).mono fun _ _ ⟨aJ, mJ, cJ, aK, mK, cK, he, _, _, hb⟩ => ⟨aJ, mJ, cJ, aK, mK, cK, by rw [he, hsp], hu.up hb⟩
            clear hi hj hu hv hE HJ hP hsp
            go_upto_region 4 with fail
            go_region_held3 (fun u => (((u.cell? ⟨w.heap.size, 0, none⟩ = some (.int .i64 (M : Int)) ∧ u.cell? ⟨w.heap.size, 1, none⟩ = some (.slice (some ⟨b, off, none⟩) n c)) ∧ u.cell? ⟨w.heap.size + 1, 0, none⟩ = some (.int .i64 f.1) ∧ u.cell? ⟨w.heap.size + 1, 1, none⟩ = some (.int .i64 f.2)) ∧ u.cell? ⟨b, off + i, none⟩ = some (.slice x p.length cx)) ∧ Good W u)
              (first | assumption)
              (first | (go_at_call 24; refine (HJ2.out _ (And.right (by assumption))).mono ?_; rintro e w3 ⟨aJ, mJ, cJ, aK, mK, cK, rfl, G3⟩; have hS3 := HC4.out _ G3))
            all_goals
              obtain ⟨⟨r0, r1⟩, r2, r3⟩ := HO.out _ (by rw [← hsz]; exact G3)
              have HN2 := hideIt (HNo.out _ G3 HL.out)
              go_wp2
              exact bodyPost_ret (v := .tuple #[.agg #[.int .i64 0, .slice none 0 0], .bool false]) (by simp [results, Try.results7, go_sem, r0, r1]) rfl HN2.out
          | true =>
            obtain ⟨A, B, hS⟩ : ∃ A B, spO p f.1 f.2 = (A, B, true) := ⟨_, _, by rw [← hsp]⟩
            rw [hS] at HJ
            have HL := hideIt (cutO_yes hP hE hi hu hS)
            obtain ⟨pp, cc, hSp, hvp⟩ := cut_sp hS
            have hAl := tB_len hSp.oka
            have hBl := tB_len hSp.okb
            have hFQ := cut_fq hP hi hS
            have HJ2 : Hid (∀ u, Good W u → Calls Try.prog 24 #[.slice x p.length cx, .int .i64 f.1, .int .i64 f.2] u fun e v => ∃ g cJ g' cK, e = .returned (.tuple #[.slice (some ⟨g, 0, none⟩) A.length cJ, .slice (some ⟨g', 0, none⟩) B.length cK, .bool true]) ∧ ((Is v v.heap.size (some ⟨g, 0, none⟩) A.length A ∧ A.length ≤ cJ) ∧ (Is v v.heap.size (some ⟨g', 0, none⟩) B.length B ∧ B.length ≤ cK)) ∧ (w.heap.size + 3 ≤ g ∧ w.heap.size + 3 ≤ g') ∧ Good W v) := fun u hu =>
              (HJ.out u hu).mono fun _ v ⟨aJ, mJ, cJ, aK, mK, cK, he, hA, hB, hb⟩ => by
                have hm : mJ = A.length := hA.len.symm
                have hm' : mK = B.length := hB.len.symm
                subst hm hm'
                obtain ⟨g, rfl, _, hg⟩ := own_some hA.own (by omega)
                obtain ⟨g', rfl, _, hg'⟩ := own_some hB.own (by omega)
                exact ⟨g, cJ, g', cK, he, ⟨⟨Is_of_own hA.own, (RwB.of_own hA.own).cap⟩, ⟨Is_of_own hB.own, (RwB.of_own hB.own).cap⟩⟩, ⟨by have := hu.size; omega, by have := hu.size; omega⟩, hu.up hb⟩
            have HWi : Hid (∀ u ao bi, Good W u → Is u u.heap.size ao 1 [(i : Int)] → Ts u u.heap.size (some ⟨bi, 0, none⟩) 2 [A, B] → Calls Try.prog 25 #[.agg #[.int .i64 (M : Int), .slice (some ⟨b, off, none⟩) n c], .slice ao 1 1, .slice (some ⟨bi, 0, none⟩) 2 2] u fun e v => ∃ a' m' c' hs, e = .returned (.agg #[.int .i64 (M : Int), .slice a' m' c']) ∧ (v.ownsRow u.heap.size 45 1 (.slice a' m' c') m' hs ∧ HdT v v.heap.size hs (srtK (woK ts [i] ts.length ++ [A, B]) M) ∧ ∀ y ∈ hs, NewOr u bi 0 y) ∧ Good W v) := fun u ao bi hu hI hT => by
              have hFQ' := hFQ
              rw [hlen] at hFQ'
              refine (l07With_any M ts [i] [A, B] n (some ⟨b, off, none⟩) c 1 ao 1 2 bi 0 2 hP hFQ' (by omega) (by omega) (by omega) u (HA.out.up hu) hI hT).mono ?_
              rintro e v ⟨a', m', c', hs, he, h1, h2⟩
              exact ⟨a', m', c', hs, he, by rw [hlen]; exact h1, hu.up h2⟩
            clear hi hj hu hv hE HJ hP hS hsp hSp hvp hFQ
            go_upto_region 4 with fail
            go_region_held3 (fun u => (((u.cell? ⟨w.heap.size, 0, none⟩ = some (.int .i64 (M : Int)) ∧ u.cell? ⟨w.heap.size, 1, none⟩ = some (.slice (some ⟨b, off, none⟩) n c)) ∧ u.cell? ⟨w.heap.size + 1, 0, none⟩ = some (.int .i64 f.1) ∧ u.cell? ⟨w.heap.size + 1, 1, none⟩ = some (.int .i64 f.2)) ∧ u.cell? ⟨b, off + i, none⟩ = some (.slice x p.length cx)) ∧ Good W u)
              (first | assumption)
              (first | (go_at_call 24; refine (HJ2.out _ (And.right (by assumption))).mono ?_; rintro e w3 ⟨g, cJ, g', cK, rfl, hrw, hgg, G3⟩; have hS3 := HC4.out _ G3))
            all_goals
              obtain ⟨⟨⟨k0, k1⟩, k2, k3⟩, _⟩ := HC.out _ G3
              have g4 : Good w3 (w3.alloc (.cells #[.int .i64 (i : Int)] 3)) := (Good.refl w3).alloc _
              have g5 : Good (w3.alloc (.cells #[.int .i64 (i : Int)] 3)) ((w3.alloc (.cells #[.int .i64 (i : Int)] 3)).alloc (.cells #[.slice (some ⟨g, 0, none⟩) A.length cJ, .slice (some ⟨g', 0, none⟩) B.length cK] 45)) := (Good.refl _).alloc _
              have HR3 := hideIt (HWi.out _ _ (w3.heap.size + 1) (G3.up (g4.up g5)) ((is_one (w := w3)).up g5) (by have := ts_two (cx := cJ) (cy := cK) (hrw.1.1.up g4) hrw.1.2 (hrw.2.1.up g4) hrw.2.2; simpa using this))
              have HNO : Hid (∀ y, NewOr ((w3.alloc (.cells #[.int .i64 (i : Int)] 3)).alloc (.cells #[.slice (some ⟨g, 0, none⟩) A.length cJ, .slice (some ⟨g', 0, none⟩) B.length cK] 45)) (w3.heap.size + 1) 0 y → HdL (w.heap.size + 3) y) := fun y hy b off s n c e => by
                have hs3 := G3.size
                rcases hy with hy | ⟨q, hq⟩
                · have := hy b off s n c e
                  simp at this
                  omega
                · have hh : (((w3.alloc (.cells #[.int .i64 (i : Int)] 3)).alloc (.cells #[.slice (some ⟨g, 0, none⟩) A.length cJ, .slice (some ⟨g', 0, none⟩) B.length cK] 45))).heap[w3.heap.size + 1]? = some (.cells #[.slice (some ⟨g, 0, none⟩) A.length cJ, .slice (some ⟨g', 0, none⟩) B.length cK] 45 (0, 0)) := by
                    have := heap_alloc_new (w3.alloc (.cells #[.int .i64 (i : Int)] 3)) (.cells #[.slice (some ⟨g, 0, none⟩) A.length cJ, .slice (some ⟨g', 0, none⟩) B.length cK] 45)
                    simpa using this
                  rw [cell_of_row _ _ _ _ _ _ hh] at hq
                  rcases q with _ | _ | q
                  · simp at hq
                    rw [← hq] at e
                    simp at e
                    have := hgg.1
                    omega
                  · simp at hq
                    rw [← hq] at e
                    simp at e
                    have := hgg.2
                    omega
                  · simp at hq
              clear HWi hrw HJ2 HT HE HC4 hS2 hS3 g4 g5
              go_wp2_with (go_at_call 25; refine HR3.out.mono ?_; rintro e w4 ⟨a4, m4, c4, hs4, rfl, F4, G4⟩; refine Hid.out ?_)
              refine (show ∀ {p : Prop}, p → Hid p from fun h => h) ?_
              obtain ⟨⟨r0, r1⟩, r2, r3⟩ := HO.out _ (by rw [← hsz]; exact G4)
              have hs3 := G3.size
              have HF5 := hideIt (with_set (X := w.heap.size + 2) ⟨F4.1, F4.2.1⟩ (by simp; omega) (fun y hy => (HNO.out y (F4.2.2 y hy)).ne (by omega)) (.int .i64 (M : Int)) (.slice a4 m4 c4))
              have HLo : Hid (∀ y ∈ hs4, HdL w.heap.size y) := fun y hy => (HNO.out y (F4.2.2 y hy)).mono (by omega)
              have hlo5 : w.heap.size ≤ ((w3.alloc (.cells #[.int .i64 (i : Int)] 3)).alloc (.cells #[.slice (some ⟨g, 0, none⟩) A.length cJ, .slice (some ⟨g', 0, none⟩) B.length cK] 45)).heap.size := by simp; omega
              have HB5 : Hid (Below w.heap.size w ((w4.setCell ⟨w.heap.size + 2, 0, none⟩ (.int .i64 (M : Int))).setCell ⟨w.heap.size + 2, 1, none⟩ (.slice a4 m4 c4))) := ((HGW.out.up G4).setCell (p := ⟨w.heap.size + 2, 0, none⟩) (by show w.heap.size ≤ w.heap.size + 2; omega) _).setCell (p := ⟨w.heap.size + 2, 1, none⟩) (by show w.heap.size ≤ w.heap.size + 2; omega) _
              clear F4 G4 k0 k1 k2 k3 HNO
              go_wp2
              exact bodyPost_ret (v := .tuple #[.agg #[.int .i64 (M : Int), .slice a4 m4 c4], .bool true]) (by simp [results, Try.results7, go_sem, r0, r1]) rfl ⟨a4, m4, c4, hs4, by rw [HL.out]; rfl, by rw [HL.out]; exact ⟨own_mono HF5.out.1 hlo5, HF5.out.2, HLo.out⟩, HB5.out⟩
      · have HL := hideIt (cutO_no (N := N) (ts := ts) (e := f) (fun h => hP h.1))
        have e1 := treeO_no hP f.1
        have d1 : decide ((-1 : Int) < 0) = true := by decide
        rw [e1]
        clear hE e1
        go_wp2_with (go_at_call 23; refine HE1.out.mono ?_; rintro e w2 ⟨rfl, G2⟩; refine Hid.out ?_)
        refine (show ∀ {p : Prop}, p → Hid p from fun h => h) ?_
        obtain ⟨⟨r0, r1⟩, r2, r3⟩ := HO.out _ (by rw [← hsz]; exact G2)
        have HN2 := hideIt (HNo.out _ G2 HL.out)
        clear k0 k1 k2 k3
        go_wp2
        exact bodyPost_ret (v := .tuple #[.agg #[.int .i64 0, .slice none 0 0], .bool false]) (by simp [results, Try.results7, go_sem, r0, r1]) rfl HN2.out
end Go.Proofs.Ytcpffonenhhfoab
namespace Go.Proofs.Ytcpffonenhhfoab
open Go.RowKit

set_option maxRecDepth 100000 in
set_option maxHeartbeats 8000000 in
theorem iCut_any (N : Int) (ts : List (List Int)) (f : EdgeV) (n : Nat) (a : Option Addr) (c : Nat) (hn : n + lnS ts ≤ 1048576) (w : World) (h : Ts w w.heap.size a n ts) :
    Calls Try.prog 10 #[.agg #[.int .i64 N, .slice a n c], .agg #[.int .i64 f.1, .int .i64 f.2]] w fun e w' => FAns w N (cutO N ts f) e w' := by
  obtain ⟨W, hW⟩ : ∃ W, W = w3of w N a n c f := ⟨_, rfl⟩
  have hsz : W.heap.size = w.heap.size + 3 := by rw [hW, w3_size]
  have gW : Good w W := by rw [hW]; exact w3_good _ _ _ _ _ _
  have HA := hideIt (h.up gW)
  have HAw := hideIt h
  have hlen := h.1
  have HT : Hid (∀ x u, Good W u → Calls Try.prog 27 #[.agg #[.int .i64 N, .slice a n c], .int .i64 x] u fun e v => e = .returned (.int .i64 (treeO N ts x)) ∧ Good W v) := fun x u hu =>
    (iTreeOf_any N ts x n a c hn u (HA.out.up hu)).mono fun _ _ ⟨he, hb⟩ => ⟨he, hu.up hb⟩
  have HE : Hid (∀ u, Good W u → Calls Try.prog 28 #[.int .i64 N, .agg #[.int .i64 f.1, .int .i64 f.2]] u fun e v => e = .returned (.bool (eB N f)) ∧ Good W v) := fun u hu =>
    (iEdgeOk_any N f u).mono fun _ _ ⟨he, hb⟩ => ⟨he, hu.up hb⟩
  have HC : Hid (∀ u, Good W u → ((u.cell? ⟨w.heap.size, 0, none⟩ = some (.int .i64 N) ∧ u.cell? ⟨w.heap.size, 1, none⟩ = some (.slice a n c)) ∧ u.cell? ⟨w.heap.size + 1, 0, none⟩ = some (.int .i64 f.1) ∧ u.cell? ⟨w.heap.size + 1, 1, none⟩ = some (.int .i64 f.2)) ∧ Good W u) := fun u hu => ⟨w3_cells (hW ▸ hu), hu⟩
  have HO : Hid (∀ u, Below (w.heap.size + 3) W u → (u.cell? ⟨w.heap.size + 2, 0, none⟩ = some (.int .i64 0) ∧ u.cell? ⟨w.heap.size + 2, 1, none⟩ = some (.slice none 0 0)) ∧ u.frozen? ⟨w.heap.size + 2, 0, none⟩ = false ∧ u.frozen? ⟨w.heap.size + 2, 1, none⟩ = false) := fun u hu => w3_out (hW ▸ hu)
  have HNo : Hid (∀ u, Good W u → cutO N ts f = none → FAns w N (cutO N ts f) (.returned (.tuple #[.agg #[.int .i64 0, .slice none 0 0], .bool false])) ((u.setCell ⟨w.heap.size + 2, 0, none⟩ (.int .i64 0)).setCell ⟨w.heap.size + 2, 1, none⟩ (.slice none 0 0))) := fun u hu ho =>
    fans_no ho (((gW.up hu).setCell (p := ⟨w.heap.size + 2, 0, none⟩) (by show w.heap.size ≤ w.heap.size + 2; omega) _).setCell (p := ⟨w.heap.size + 2, 1, none⟩) (by show w.heap.size ≤ w.heap.size + 2; omega) _)
  have HS0 := hideIt (HC.out _ (Good.refl W).drew)
  have HGW := hideIt gW
  go_enter Try.func10, Try.ntmps10
  go_upto_region 1 with fail
  clear h gW
  have hW' : (((w.alloc (.cells #[.int .i64 N, .slice a n c] 28)).alloc (.cells #[.int .i64 f.1, .int .i64 f.2] 32)).alloc (.cells #[.int .i64 0, .slice none 0 0] 28)) = W := hW.symm
  rw [hW']
  clear hW hW'
  obtain ⟨⟨⟨k0, k1⟩, k2, k3⟩, _⟩ := HC.out _ (Good.refl W)
  have HT0 := hideIt (HT.out f.1 W (Good.refl W))
  clear HS0
  go_wp2_with (go_at_call 27; refine HT0.out.mono ?_; rintro e w1 ⟨rfl, G1⟩; refine Hid.out ?_)
  refine (show ∀ {p : Prop}, p → Hid p from fun h => h) ?_
  clear k0 k1 k2 k3 HT0
  · skip
    obtain ⟨⟨⟨k0, k1⟩, k2, k3⟩, _⟩ := HC.out _ G1
    have HE1 := hideIt (HE.out _ G1)
    cases hE : eB N f with
    | false =>
      rw [hE] at HE1
      have HL := hideIt (cutO_no (N := N) (ts := ts) (e := f) (fun h => by rw [hE] at h; exact absurd h.2.1 (by simp)))
      clear hE
      go_wp2_with (go_at_call 28; refine HE1.out.mono ?_; rintro e w2 ⟨rfl, G2⟩; refine Hid.out ?_)
      refine (show ∀ {p : Prop}, p → Hid p from fun h => h) ?_
      obtain ⟨⟨r0, r1⟩, r2, r3⟩ := HO.out _ (by rw [← hsz]; exact G2)
      have HN2 := hideIt (HNo.out _ G2 HL.out)
      clear k0 k1 k2 k3
      go_wp2
      exact bodyPost_ret (v := .tuple #[.agg #[.int .i64 0, .slice none 0 0], .bool false]) (by simp [results, Try.results10, go_sem, r0, r1]) rfl HN2.out
    | true =>
      rw [hE] at HE1
      by_cases hP : FP N ts
      · obtain ⟨M, rfl, hM1, hM2⟩ := FP_nat hP
        obtain ⟨i, j, p, q, hi, hj, hu, hv⟩ := edge_at hP hE
        have e1 : treeO (M : Int) ts f.1 = (i : Int) := (treeO_yes hP f.1).trans (trI_of hP.q hi hu)
        rw [e1]
        have hil := (List.getElem?_eq_some_iff.1 hi).1
        rcases HA.out.2 with hz | ⟨b, off, rfl, hbl, hc⟩
        · omega
        · obtain ⟨x, cx, ci, ii, hcx⟩ := hc i p hi
          have hp := tB_len (hP.q.1 p (List.mem_of_getElem? hi)).1
          have HJ : Hid (∀ u, Good W u → Calls Try.prog 29 #[.slice x p.length cx, .int .i64 f.1, .int .i64 f.2] u fun e v => T2Ans u (spO p f.1 f.2) e v) := fun u hu =>
            iSplitTour_any p f.1 f.2 p.length x cx (by omega) hcx u (ii.up hu)
          have HC4 : Hid (∀ u, Good W u → (((u.cell? ⟨w.heap.size, 0, none⟩ = some (.int .i64 (M : Int)) ∧ u.cell? ⟨w.heap.size, 1, none⟩ = some (.slice (some ⟨b, off, none⟩) n c)) ∧ u.cell? ⟨w.heap.size + 1, 0, none⟩ = some (.int .i64 f.1) ∧ u.cell? ⟨w.heap.size + 1, 1, none⟩ = some (.int .i64 f.2)) ∧ u.cell? ⟨b, off + i, none⟩ = some (.slice x p.length cx)) ∧ Good W u) := fun u hu =>
            ⟨⟨(HC.out u hu).1, by rw [hu.cell hbl]; exact ci⟩, hu⟩
          have b1 : (0 : Int) ≤ (i : Int) := by omega
          have b2 : (i : Int) < (n : Int) := by omega
          have d1 : decide ((i : Int) < 0) = false := decide_eq_false (by omega)
          have HAw2 := HAw
          clear hc ii ci e1
          go_wp2_with (go_at_call 28; refine HE1.out.mono ?_; rintro e w2 ⟨rfl, G2⟩; refine Hid.out ?_)
          refine (show ∀ {p : Prop}, p → Hid p from fun h => h) ?_
          have g2d : Good W w2.drew := G2.drew
          have hS2 := HC4.out _ g2d
          clear k0 k1 k2 k3 HE1
          cases hsp : (spO p f.1 f.2).2.2 with
          | false =>
            have HL := hideIt (cutO_no (N := (M : Int)) (ts := ts) (e := f) (fun h => by
              have h3 := h.2.2
              rw [trI_of hP.q hi hu, tat_at hi, hsp] at h3
              cases h3))
            have HJ2 : Hid (∀ u, Good W u → Calls Try.prog 29 #[.slice x p.length cx, .int .i64 f.1, .int .i64 f.2] u fun e v => ∃ aJ mJ cJ aK mK cK, e = .returned (.tuple #[.slice aJ mJ cJ, .slice aK mK cK, .bool false]) ∧ Good W v) := fun u hu =>
              (HJ.out u hu).mono fun _ _ ⟨aJ, mJ, cJ, aK, mK, cK, _, he, _, _, _, hb⟩ => ⟨aJ, mJ, cJ, aK, mK, cK, by rw [he, hsp], hu.up hb⟩
            clear hi hj hu hv hE HJ hP hsp
            go_upto_region 4 with fail
            go_region_held3 (fun u => (((u.cell? ⟨w.heap.size, 0, none⟩ = some (.int .i64 (M : Int)) ∧ u.cell? ⟨w.heap.size, 1, none⟩ = some (.slice (some ⟨b, off, none⟩) n c)) ∧ u.cell? ⟨w.heap.size + 1, 0, none⟩ = some (.int .i64 f.1) ∧ u.cell? ⟨w.heap.size + 1, 1, none⟩ = some (.int .i64 f.2)) ∧ u.cell? ⟨b, off + i, none⟩ = some (.slice x p.length cx)) ∧ Good W u)
              (first | assumption)
              (first | (go_at_call 29; refine (HJ2.out _ (And.right (by assumption))).mono ?_; rintro e w3 ⟨aJ, mJ, cJ, aK, mK, cK, rfl, G3⟩; have hS3 := HC4.out _ G3))
            all_goals
              obtain ⟨⟨r0, r1⟩, r2, r3⟩ := HO.out _ (by rw [← hsz]; exact G3)
              have HN2 := hideIt (HNo.out _ G3 HL.out)
              go_wp2
              exact bodyPost_ret (v := .tuple #[.agg #[.int .i64 0, .slice none 0 0], .bool false]) (by simp [results, Try.results10, go_sem, r0, r1]) rfl HN2.out
          | true =>
            obtain ⟨A, B, hS⟩ : ∃ A B, spO p f.1 f.2 = (A, B, true) := ⟨_, _, by rw [← hsp]⟩
            rw [hS] at HJ
            have HL := hideIt (cutO_yes hP hE hi hu hS)
            obtain ⟨pp, cc, hSp, hvp⟩ := cut_sp hS
            have hAl := tB_len hSp.oka
            have hBl := tB_len hSp.okb
            have hFQ := cut_fq hP hi hS
            have hWo := wo_stay1 hP.q hi hu hvp
            have HJ2 : Hid (∀ u, Good W u → Calls Try.prog 29 #[.slice x p.length cx, .int .i64 f.1, .int .i64 f.2] u fun e v => ∃ g cJ g' cK, e = .returned (.tuple #[.slice (some ⟨g, 0, none⟩) A.length cJ, .slice (some ⟨g', 0, none⟩) B.length cK, .bool true]) ∧ (RwB v ⟨g, cJ, A⟩ ∧ RwB v ⟨g', cK, B⟩) ∧ (w.heap.size + 3 ≤ g ∧ g < g') ∧ Good W v) := fun u hu =>
              (HJ.out u hu).mono fun _ v ⟨aJ, mJ, cJ, aK, mK, cK, mid, he, hmid, hA, hB, hb⟩ => by
                have hm : mJ = A.length := hA.len.symm
                have hm' : mK = B.length := hB.len.symm
                subst hm hm'
                obtain ⟨g, rfl, _, hg⟩ := own_some hA.own (by omega)
                obtain ⟨g', rfl, _, hg'⟩ := own_some hB.own (by omega)
                have hgm := hA.row g rfl
                exact ⟨g, cJ, g', cK, he, ⟨RwB.of_own hA.own, RwB.of_own hB.own⟩, ⟨by have := hu.size; omega, by omega⟩, hu.up hb⟩
            have HRep : Hid (∀ (u : World) (R0 : List Rw) (a1 : Option Addr) (c1 c2 : Nat × Nat), R0 = [(⟨c1.1, c1.2, A⟩ : Rw), (⟨c2.1, c2.2, B⟩ : Rw)] → Below (w.heap.size + 3) W u → FB u (w.heap.size + 3) u.heap.size a1 2 2 R0 → Calls Try.prog 30 #[.agg #[.int .i64 (M : Int), .slice (some ⟨b, off, none⟩) n c], .agg #[.int .i64 f.1, .int .i64 f.2], .slice a1 2 2] u fun e v => ∃ a' m' c' R, e = .returned (.agg #[.int .i64 (M : Int), .slice a' m' c']) ∧ FB v (w.heap.size + 3) v.heap.size a' m' c' R ∧ rts R = srtK (woK ts [i] ts.length ++ [A, B]) M ∧ Below (w.heap.size + 3) W v) := fun u R0 a1 c1 c2 hR0 hu hF => by
              subst hR0
              have hst : woK ts [i] ts.length = stay ts f.1 f.2 := hWo
              have hpm : (rts [(⟨c1.1, c1.2, A⟩ : Rw), (⟨c2.1, c2.2, B⟩ : Rw)] ++ stay ts f.1 f.2).Perm (woK ts [i] ts.length ++ [A, B]) := by
                rw [hst]
                exact List.perm_append_comm (l₁ := [A, B])
              refine (replanted_any (M : Int) ts f.1 f.2 n (some ⟨b, off, none⟩) c (w.heap.size + 3) _ 2 a1 2 hP (by omega) (by omega) (hFQ.perm hpm.symm) u (by have := hu.size; omega) (((HAw2.out.up HGW.out).mono (Nat.le_of_eq hsz)).below hu (Nat.le_refl _)) hF).mono ?_
              rintro e v ⟨a', m', c', R, he, h1, h2, h3, h4⟩
              exact ⟨a', m', c', R, he, h1, ord_is hM1 hM2 hFQ (h2.trans hpm) h3, hu.trans h4⟩
            clear hi hj hu hv hE HJ hP hS hsp hSp hvp hFQ hWo
            go_upto_region 4 with fail
            go_region_held3 (fun u => (((u.cell? ⟨w.heap.size, 0, none⟩ = some (.int .i64 (M : Int)) ∧ u.cell? ⟨w.heap.size, 1, none⟩ = some (.slice (some ⟨b, off, none⟩) n c)) ∧ u.cell? ⟨w.heap.size + 1, 0, none⟩ = some (.int .i64 f.1) ∧ u.cell? ⟨w.heap.size + 1, 1, none⟩ = some (.int .i64 f.2)) ∧ u.cell? ⟨b, off + i, none⟩ = some (.slice x p.length cx)) ∧ Good W u)
              (first | assumption)
              (first | (go_at_call 29; refine (HJ2.out _ (And.right (by assumption))).mono ?_; rintro e w3 ⟨g, cJ, g', cK, rfl, hrw, hgg, G3⟩; have hS3 := HC4.out _ G3))
            all_goals
              obtain ⟨⟨⟨k0, k1⟩, k2, k3⟩, _⟩ := HC.out _ G3
              have B3 : Below (w.heap.size + 3) W (w3.alloc (.cells #[.slice (some ⟨g, 0, none⟩) A.length cJ, .slice (some ⟨g', 0, none⟩) B.length cK] 45)) := by rw [← hsz]; exact G3.alloc _
              have hs3 := G3.size
              have HFb : FB (w3.alloc (.cells #[.slice (some ⟨g, 0, none⟩) A.length cJ, .slice (some ⟨g', 0, none⟩) B.length cK] 45)) (w.heap.size + 3) (w3.alloc (.cells #[.slice (some ⟨g, 0, none⟩) A.length cJ, .slice (some ⟨g', 0, none⟩) B.length cK] 45)).heap.size (some ⟨w3.heap.size, 0, none⟩) 2 2 [⟨g, cJ, A⟩, ⟨g', cK, B⟩] := by
                have h0 := World.ownsRow_lit (base := w.heap.size + 3) (e := 45) (size := 1) w3 #[.slice (some ⟨g, 0, none⟩) A.length cJ, .slice (some ⟨g', 0, none⟩) B.length cK] 2 (by omega) (by unfold maxLen; omega) (by simp)
                have hup : ∀ r, RwB w3 r → RwB (w3.alloc (.cells #[.slice (some ⟨g, 0, none⟩) A.length cJ, .slice (some ⟨g', 0, none⟩) B.length cK] 45)) r := fun r hr => hr.rng (l2 := r.g + 1) (h2 := r.g + 1) (Rng.of_below ((Below.refl _ _).alloc (Nat.le_refl _) _)) (.inl (Nat.le_refl _))
                have hr1 := hup _ hrw.1
                have hr2 := hup _ hrw.2
                refine ⟨rfl, h0, fun x hx => (h0.lt x hx).2, Nat.le_refl _, fun r hr => ?_, ?_⟩
                · simp at hr
                  rcases hr with rfl | rfl
                  · exact ⟨hr1, hgg.1, hr1.lt⟩
                  · exact ⟨hr2, by show w.heap.size + 3 ≤ g'; omega, hr2.lt⟩
                · simp
                  omega
              have HR3 := hideIt (HRep.out _ _ _ (g, cJ) (g', cK) rfl B3 HFb)
              clear HRep HFb hrw B3 HJ2 HT HE HC4 hS2 hS3
              go_wp2_with (go_at_call 30; refine HR3.out.mono ?_; rintro e w4 ⟨a4, m4, c4, R4, rfl, F4, r4, B4⟩; refine Hid.out ?_)
              refine (show ∀ {p : Prop}, p → Hid p from fun h => h) ?_
              obtain ⟨⟨r0, r1⟩, r2, r3⟩ := HO.out _ B4
              have HF5 := hideIt ((F4.setLow (x := w.heap.size + 2) (by omega) 0 (.int .i64 (M : Int))).setLow (x := w.heap.size + 2) (by omega) 1 (.slice a4 m4 c4))
              have HB5 : Hid (Below w.heap.size w ((w4.setCell ⟨w.heap.size + 2, 0, none⟩ (.int .i64 (M : Int))).setCell ⟨w.heap.size + 2, 1, none⟩ (.slice a4 m4 c4))) := ((HGW.out.trans (B4.mono (by omega))).setCell (p := ⟨w.heap.size + 2, 0, none⟩) (by show w.heap.size ≤ w.heap.size + 2; omega) _).setCell (p := ⟨w.heap.size + 2, 1, none⟩) (by show w.heap.size ≤ w.heap.size + 2; omega) _
              have HR4 := hideIt r4
              clear F4 B4 r4 k0 k1 k2 k3
              go_wp2
              exact bodyPost_ret (v := .tuple #[.agg #[.int .i64 (M : Int), .slice a4 m4 c4], .bool true]) (by simp [results, Try.results10, go_sem, r0, r1]) rfl ⟨a4, m4, c4, R4, by rw [HL.out]; rfl, (HF5.out.lo (by omega)).hi (by simp [World.setCell]) (by simp [World.setCell]), by rw [HL.out, HR4.out]; rfl, HB5.out⟩
      · have HL := hideIt (cutO_no (N := N) (ts := ts) (e := f) (fun h => hP h.1))
        have e1 := treeO_no hP f.1
        have d1 : decide ((-1 : Int) < 0) = true := by decide
        rw [e1]
        clear hE e1
        go_wp2_with (go_at_call 28; refine HE1.out.mono ?_; rintro e w2 ⟨rfl, G2⟩; refine Hid.out ?_)
        refine (show ∀ {p : Prop}, p → Hid p from fun h => h) ?_
        obtain ⟨⟨r0, r1⟩, r2, r3⟩ := HO.out _ (by rw [← hsz]; exact G2)
        have HN2 := hideIt (HNo.out _ G2 HL.out)
        clear k0 k1 k2 k3
        go_wp2
        exact bodyPost_ret (v := .tuple #[.agg #[.int .i64 0, .slice none 0 0], .bool false]) (by simp [results, Try.results10, go_sem, r0, r1]) rfl HN2.out
end Go.Proofs.Ytcpffonenhhfoab
