/- The laws' own functions over webs. The program's raiseTree: ledges turned in place. The program's lesserTree. WebTake's levels, pure: what holds at each of them. The program's takePlace: the Levels downwards, each with its lesser tree raised and its edges beside the forest looked at. The program's takePlace where no edge is left. -/
import Derived.Test.YtkkplppcgnikoaaGreatKSPl9
import Derived.Deep.RegionHeld3
import Derived.Test.YtkkplppcgnikoaaGreatKTl8
import Derived.Test.YtkkplppcgnikoaaGreatKIRo9
import Derived.Test.YtkkplppcgnikoaaGreatKCon9
import Derived.Test.YtkkplppcgnikoaaGreatKSh7
import Derived.Test.YtkkplppcgnikoaaGreatKSAdd9
import Derived.WalkMore
import Derived.ScopeJumps
namespace Go.Proofs.YtkkplppcgnikoaaGreat
open Go.RowKit

end Go.Proofs.YtkkplppcgnikoaaGreat
namespace Go.Proofs.YtkkplppcgnikoaaGreat
open Go.RowKit

theorem lcells_setL : ∀ {ls : List Ld} {k : Nat} {x : Ld} (_ : ls[k]? = some x) (l : Int), (lcells ls).set (k * 4 + 2) (.int .i64 l) = lcells (ls.set k ⟨x.a, x.b, l, x.t⟩)
  | [], k, x, h, l => by simp at h
  | y :: ys, 0, x, h, l => by
    simp at h
    subst h
    simp [lcells, lcell]
  | y :: ys, k + 1, x, h, l => by
    have h' : ys[k]? = some x := by simpa using h
    have ih := lcells_setL h' l
    rw [show (k + 1) * 4 + 2 = k * 4 + 2 + 1 + 1 + 1 + 1 by omega]
    simp only [lcells, lcell, List.flatMap_cons, List.cons_append, List.nil_append, List.set_cons_succ] at ih ⊢
    rw [ih]
theorem lcells_setT : ∀ {ls : List Ld} {k : Nat} {x : Ld} (_ : ls[k]? = some x) (t : Bool), (lcells ls).set (k * 4 + 3) (.bool t) = lcells (ls.set k ⟨x.a, x.b, x.l, t⟩)
  | [], k, x, h, l => by simp at h
  | y :: ys, 0, x, h, l => by
    simp at h
    subst h
    simp [lcells, lcell]
  | y :: ys, k + 1, x, h, t => by
    have h' : ys[k]? = some x := by simpa using h
    have ih := lcells_setT h' t
    rw [show (k + 1) * 4 + 3 = k * 4 + 3 + 1 + 1 + 1 + 1 by omega]
    simp only [lcells, lcell, List.flatMap_cons, List.cons_append, List.nil_append, List.set_cons_succ] at ih ⊢
    rw [ih]
theorem is_mono {w : World} {B C n : Nat} {a : Option Addr} {ls : List Int} (h : Is w B a n ls) (hB : B ≤ C) : Is w C a n ls :=
  ⟨h.1, h.2.imp id fun ⟨b, off, h1, h2, h3⟩ => ⟨b, off, h1, by omega, h3⟩⟩
theorem rsL_no {i : Int} {t : List Int} {x : Ld} (h : ¬ (x.t = true ∧ x.l = i ∧ x.a ∈ t)) : rsL i t x = x := by unfold rsL; rw [if_neg h]
theorem rsL_yes {i : Int} {t : List Int} {x : Ld} (h : x.t = true ∧ x.l = i ∧ x.a ∈ t) : rsL i t x = ⟨x.a, x.b, upL i, x.t⟩ := by unfold rsL; rw [if_pos h]
theorem turn_skip {f : Ld → Ld} {L : List Ld} {k : Nat} {x : Ld} (h : L[k]? = some x) (hf : f x = x) : (L.take (k + 1)).map f ++ L.drop (k + 1) = (L.take k).map f ++ L.drop k := by
  rw [← turn_step h, hf]
  have := turn_at (f := f) h
  obtain ⟨hk, hx⟩ := List.getElem?_eq_some_iff.1 this
  conv => lhs; rw [← hx]
  exact List.set_getElem_self hk

set_option maxRecDepth 100000 in
set_option maxHeartbeats 4000000 in
theorem raiseTree_any (base g c n : Nat) (ls : List Ld) (t : List Int) (m : Nat) (a' : Option Addr) (c' : Nat) (i : Int) (h0 : 0 ≤ i) (h4 : i ≤ 4) (hn : n ≤ 1048576) (hm : m ≤ 1048576) (w : World)
    (h : w.ownsRow base 52 4 (.slice (some ⟨g, 0, none⟩) n c) n (lcells ls)) (ht : Is w w.heap.size a' m t) (hne : ∀ b off s, a' = some ⟨b, off, s⟩ → b ≠ g) :
    Calls Tryz.prog 155 #[.slice (some ⟨g, 0, none⟩) n c, .slice a' m c', .int .i64 i] w fun e w' => e = .returned (.tuple #[]) ∧
      w'.ownsRow base 52 4 (.slice (some ⟨g, 0, none⟩) n c) n (lcells (ls.map (rsL i t))) ∧ w.grownBy w' (some g) := by
  have hlen : ls.length = n := by have := h.1; rw [lcells_length] at this; omega
  have HC : Hid (∀ W v, w.grownBy W (some g) → Calls Tryz.prog 230 #[.slice a' m c', .int .i64 v] W fun e w' => e = .returned (.bool (decide (v ∈ t))) ∧ w' = W) := fun W v hW => conI_any t v m a' c' (by omega) W (is_mono (ht.grown (Nat.le_refl _) hW hne) hW.size)
  have HU := hideIt (levelUp_any i h0 h4)
  have HO0 := hideIt h
  clear h ht
  go_enter Tryz.func155, Tryz.ntmps155
  go_wp2
  go_loopw [10] (fun q wr => ∃ (k : Nat), k ≤ n ∧ q = .int .i64 (k : Int) ∧ wr.ownsRow base 52 4 (.slice (some ⟨g, 0, none⟩) n c) n (lcells ((ls.take k).map (rsL i t) ++ ls.drop k)) ∧ w.grownBy wr (some g)) (fun q _ => n - (intOf q).toNat)
  case atStart => exact ⟨0, by omega, rfl, by simpa using HO0.out, ⟨rfl, rfl, rfl, Nat.le_refl _, fun _ _ _ => rfl⟩⟩
  case round =>
    obtain ⟨k, hk, rfl, hown, hgr⟩ := hrel
    clear HO0
    by_cases hlt : k < n
    · obtain ⟨x, hx⟩ : ∃ x, ls[k]? = some x := ⟨ls[k]'(by omega), List.getElem?_eq_getElem (by omega)⟩
      have hxa := turn_at (f := rsL i t) hx
      have b1 : (0 : Int) ≤ (k : Int) := by omega
      have b2 : (k : Int) < (n : Int) := by omega
      obtain ⟨p0, p1, p2, p3⟩ := lcells_at _ k x hxa
      have hl4 : (lcells ((ls.take k).map (rsL i t) ++ ls.drop k)).length = n * 4 := hown.1
      have e0 : wr.cell? ⟨g, k * 4, none⟩ = some (.int .i64 x.a) := by rw [hown.cellAt (k * 4) (by omega)]; exact p0
      have e1 : wr.cell? ⟨g, k * 4 + 1, none⟩ = some (.int .i64 x.b) := by rw [hown.cellAt (k * 4 + 1) (by omega)]; exact p1
      have e2 : wr.cell? ⟨g, k * 4 + 2, none⟩ = some (.int .i64 x.l) := by rw [hown.cellAt (k * 4 + 2) (by omega)]; exact p2
      have e3 : wr.cell? ⟨g, k * 4 + 3, none⟩ = some (.bool x.t) := by rw [hown.cellAt (k * 4 + 3) (by omega)]; exact p3
      obtain ⟨W1, hW1⟩ : ∃ W1, W1 = wr.alloc (.cells #[.int .i64 x.a, .int .i64 x.b, .int .i64 x.l, .bool x.t] 52) := ⟨_, rfl⟩
      have hG1 : w.grownBy W1 (some g) := by rw [hW1]; exact grown_trans hgr (World.grownBy_alloc wr _ _)
      have hO1 : W1.ownsRow base 52 4 (.slice (some ⟨g, 0, none⟩) n c) n (lcells ((ls.take k).map (rsL i t) ++ ls.drop k)) := by rw [hW1]; exact hown.alloc _
      have q0 : W1.cell? ⟨wr.heap.size, 0, none⟩ = some (.int .i64 x.a) := by rw [hW1]; simp
      have q2 : W1.cell? ⟨wr.heap.size, 2, none⟩ = some (.int .i64 x.l) := by rw [hW1]; simp
      have q3 : W1.cell? ⟨wr.heap.size, 3, none⟩ = some (.bool x.t) := by rw [hW1]; simp
      have f2 := hO1.frozenAt (k * 4 + 2)
      have e2' : W1.cell? ⟨g, k * 4 + 2, none⟩ = some (.int .i64 x.l) := by rw [hO1.cellAt (k * 4 + 2) (by omega)]; exact p2
      have hst := hO1.stored (k * 4 + 2) (.int .i64 (upL i))
      rw [lcells_setL hxa] at hst
      have HO1 := hideIt hO1
      have HG1 := hideIt hG1
      have HSt := hideIt hst
      have hq := hideIt (HC.out W1 x.a hG1)
      clear hown hgr p0 p1 p2 p3 hO1 hG1 hst hl4
      go_upto_region 3 with fail
      rw [← hW1]
      clear hW1 e0 e1 e2 e3
      by_cases ht1 : x.t = true
      · by_cases hl1 : x.l = i
        · by_cases ha1 : x.a ∈ t
          · have hf := rsL_yes (i := i) (t := t) ⟨ht1, hl1, ha1⟩
            have HN := hideIt (turn_step (f := rsL i t) hx)
            rw [decide_eq_true ha1] at hq
            rw [ht1] at q3
            rw [hf] at HN
            have d1 : (x.l == i) = true := by simp [hl1]
            have HUp := hideIt (HU.out W1)
            clear hf ht1 hl1 ha1 hxa hx
            go_wp2_with (go_at_call 230; refine hq.out.mono ?_; rintro e w1 ⟨rfl, hw1⟩; have hw1' := hw1.symm; subst hw1'; refine Hid.out ?_)
            refine (show ∀ {p : Prop}, p → Hid p from fun h => h) ?_
            go_wp2_with (go_at_call 157; refine HUp.out.mono ?_; rintro e w2 ⟨rfl, hw2⟩; have hw2' := hw2.symm; subst hw2'; refine Hid.out ?_)
            refine (show ∀ {p : Prop}, p → Hid p from fun h => h) ?_
            go_wp2
            exact ⟨⟨k + 1, by omega, by go_num, by rw [← HN.out]; exact HSt.out.1, grown_trans HG1.out HSt.out.2⟩, by simp [intOf]; omega⟩
          · have HN := hideIt (turn_skip hx (rsL_no (i := i) (t := t) fun h => ha1 h.2.2))
            rw [decide_eq_false ha1] at hq
            rw [ht1] at q3
            have d1 : (x.l == i) = true := by simp [hl1]
            clear ht1 hl1 ha1 hxa hx
            go_wp2_with (go_at_call 230; refine hq.out.mono ?_; rintro e w1 ⟨rfl, hw1⟩; have hw1' := hw1.symm; subst hw1'; refine Hid.out ?_)
            refine (show ∀ {p : Prop}, p → Hid p from fun h => h) ?_
            go_wp2
            exact ⟨⟨k + 1, by omega, by go_num, by rw [HN.out]; exact HO1.out, HG1.out⟩, by simp [intOf]; omega⟩
        · have HN := hideIt (turn_skip hx (rsL_no (i := i) (t := t) fun h => hl1 h.2.1))
          rw [ht1] at q3
          have d1 : (x.l == i) = false := by simp [hl1]
          clear ht1 hl1 hxa hx
          go_wp2
          exact ⟨⟨k + 1, by omega, by go_num, by rw [HN.out]; exact HO1.out, HG1.out⟩, by simp [intOf]; omega⟩
      · have HN := hideIt (turn_skip hx (rsL_no (i := i) (t := t) fun h => ht1 h.1))
        rw [show x.t = false by simpa using ht1] at q3
        clear ht1 hxa hx
        go_wp2
        exact ⟨⟨k + 1, by omega, by go_num, by rw [HN.out]; exact HO1.out, HG1.out⟩, by simp [intOf]; omega⟩
    · obtain rfl : k = n := by omega
      have HO : Hid (wr.ownsRow base 52 4 (.slice (some ⟨g, 0, none⟩) k c) k (lcells (ls.map (rsL i t)))) := by
        show _
        rw [List.take_of_length_le (by omega), List.drop_eq_nil_of_le (by omega), List.append_nil] at hown
        exact hown
      have HG := hideIt hgr
      clear hown hgr
      go_wp2
      exact bodyPost_end (v := .tuple #[]) (results_none rfl _ _ _) rfl ⟨rfl, HO.out, HG.out⟩
end Go.Proofs.YtkkplppcgnikoaaGreat
namespace Go.Proofs.YtkkplppcgnikoaaGreat
open Go.RowKit

/-- a vertex's tree -/
theorem FtAll.at {es : List EdgeV} {n : Nat} {ts : List (List Int)} (h : FtAll es n ts) {v : Int} (h0 : 0 ≤ v) (h1 : v < (n : Int)) : ∃ (k : Nat) (t : List Int), ts[k]? = some t ∧ trI ts v = (k : Int) ∧ treeO (n : Int) ts v = (k : Int) ∧ sizeO (n : Int) ts v = ((vsL t).length : Int) := by
  rcases trI_cases ts v with ⟨k, t, hk, _, e⟩ | ⟨hn, _⟩
  · have ht : treeO (n : Int) ts v = (k : Int) := by rw [treeO_yes h.fp, e]
    exact ⟨k, t, hk, e, ht, sizeO_yes ht hk⟩
  · obtain ⟨t, ht, hv⟩ := h.cov v h0 h1
    exact absurd hv (hn t ht)

theorem len_le {t : List Int} {B : Nat} : ∀ {ts : List (List Int)}, t ∈ ts → lnS ts ≤ B → t.length ≤ B
  | [], h, _ => by simp at h
  | x :: xs, h, hB => by
    have hs : lnS (x :: xs) = x.length + lnS xs := by simp [lnS]
    rw [hs] at hB
    rcases List.mem_cons.1 h with rfl | h
    · omega
    · exact len_le h (by omega)
/-- what lesserTree answers: a row that is new -/
def LtA (w : World) (t : List Int) (e : Ending) (w' : World) : Prop :=
  ∃ g m c, e = .returned (.slice (some ⟨g, 0, none⟩) m c) ∧ Is w' w'.heap.size (some ⟨g, 0, none⟩) m t ∧ w.heap.size ≤ g ∧ m ≤ 1048576 ∧ Below w.heap.size w w'

set_option maxRecDepth 100000 in
set_option maxHeartbeats 8000000 in
theorem lesserTree_any (nn : Nat) (ls : List Ld) (e : EdgeV) (lv : Int) (n : Nat) (a : Option Addr) (c : Nat) (hG : gB (nn : Int) (gE ls) = true) (hl : ∀ x ∈ ls, 0 ≤ x.l) (hB : Bridge (fE ls 0)) (hlv : 0 ≤ lv) (ts : List (List Int)) (hts : ftK (fE ls lv) nn nn = some ts) (hA : FtAll (fE ls lv) nn ts)
    (he1 : 0 ≤ e.1 ∧ e.1 < (nn : Int)) (he2 : 0 ≤ e.2 ∧ e.2 < (nn : Int)) (w : World) (h : Ls w w.heap.size a n ls) :
    Calls Tryz.prog 154 #[.agg #[.int .i64 (nn : Int), .slice a n c], .agg #[.int .i64 e.1, .int .i64 e.2], .int .i64 lv] w (LtA w (smT ts e)) := by
  obtain ⟨k1, t1, hk1, i1, o1, s1⟩ := hA.at he1.1 he1.2
  obtain ⟨k2, t2, hk2, i2, o2, s2⟩ := hA.at he2.1 he2.2
  have hsm : smT ts e = if (vsL t2).length < (vsL t1).length then t2 else t1 := by
    unfold smT
    rw [i1, i2, Int.toNat_natCast, Int.toNat_natCast]
    simp only [List.getD_eq_getElem?_getD, hk1, hk2, Option.getD_some]
  have hsmall := FP_small hA.fp
  obtain ⟨W2, hW2⟩ : ∃ W2, W2 = (w.alloc (.cells #[.int .i64 (nn : Int), .slice a n c] 26)).alloc (.cells #[.int .i64 e.1, .int .i64 e.2] 28) := ⟨_, rfl⟩
  have G2 : Good w W2 := by rw [hW2]; exact ((Good.refl w).alloc _).alloc _
  have X2 : Box7 W2 w.heap.size 26 (.int .i64 (nn : Int)) (.slice a n c) := by rw [hW2]; exact (Box7.new w _ _ _ _ rfl).alloc _
  have E2 : Box7 W2 (w.heap.size + 1) 28 (.int .i64 e.1) (.int .i64 e.2) := by rw [hW2]; exact Box7.new _ _ _ _ _ (by simp)
  have HF := hideIt (iForestAt_yes nn ls lv n a c hG hl hB hlv ts hts W2 (h.up G2))
  have q0 := X2.cell0
  have q1 := X2.cell1
  have HG2 := hideIt G2
  have HZ2 : Hid (w.heap.size ≤ W2.heap.size) := G2.size
  clear h hG hl hB hts hA X2 G2
  go_enter Tryz.func154, Tryz.ntmps154
  go_upto_region 1 with fail
  rw [← hW2]
  clear hW2
  go_wp2_with (go_at_call 163; refine HF.out.mono ?_; rintro x w3 ⟨a3, m3, c3, R, rfl, hFB, hR, hb3⟩; refine Hid.out ?_)
  refine (show ∀ {p : Prop}, p → Hid p from fun h => h) ?_
  simp only [Option.getD_some] at hR
  subst hR
  have hFt : ∀ (k : Nat) (t : List Int), (rts R)[k]? = some t → ∃ r, R[k]? = some r ∧ r.t = t := fun k t hk => by
    have hkl : k < R.length := by rw [← rts_len]; exact (List.getElem?_eq_some_iff.1 hk).1
    have hr : R[k]? = some R[k] := List.getElem?_eq_getElem hkl
    exact ⟨_, hr, Option.some.inj ((rts_at hr).symm.trans hk)⟩
  obtain ⟨r1, hr1, rfl⟩ := hFt k1 t1 hk1
  obtain ⟨r2, hr2, rfl⟩ := hFt k2 t2 hk2
  have hkm1 : k1 < m3 := by have := (List.getElem?_eq_some_iff.1 hr1).1; have := hFB.len; omega
  have hkm2 : k2 < m3 := by have := (List.getElem?_eq_some_iff.1 hr2).1; have := hFB.len; omega
  obtain ⟨gR, rfl⟩ : ∃ gR, a3 = some ⟨gR, 0, none⟩ := by
    rcases hFB.own.2 with ⟨_, h0⟩ | ⟨g, cap, cur, hv, _⟩
    · omega
    · simp at hv
      exact ⟨g, hv.1⟩
  have g23 : Good W2 w3 := hb3
  obtain ⟨W4, hW4⟩ : ∃ W4, W4 = w3.alloc (.cells #[.int .i64 (nn : Int), .slice (some ⟨gR, 0, none⟩) m3 c3] 127) := ⟨_, rfl⟩
  have g34 : Good w3 W4 := by rw [hW4]; exact (Good.refl w3).alloc _
  have F4 : Box7 W4 w3.heap.size 127 (.int .i64 (nn : Int)) (.slice (some ⟨gR, 0, none⟩) m3 c3) := by rw [hW4]; exact Box7.new _ _ _ _ _ rfl
  have E4 := (E2.up g23).up g34
  have hFB4 := hFB.up g34
  have HG4 := hideIt ((HG2.out.up g23).up g34)
  have hln : m3 + lnS (rts R) ≤ 1048576 := by have := hFB.len; rw [← rts_len] at this; omega
  have HSz : Hid (∀ v u, Good W4 u → Calls Tryz.prog 229 #[.agg #[.int .i64 (nn : Int), .slice (some ⟨gR, 0, none⟩) m3 c3], .int .i64 v] u fun x v' => x = .returned (.int .i64 (sizeO (nn : Int) (rts R) v)) ∧ Good W4 v') := fun v u hu => (iSizeOf_any _ (rts R) v m3 (some ⟨gR, 0, none⟩) c3 hln u (hFB4.ts.up hu)).mono fun _ _ ⟨hx, hb⟩ => ⟨hx, hu.up hb⟩
  have HTr : Hid (∀ v u, Good W4 u → Calls Tryz.prog 76 #[.agg #[.int .i64 (nn : Int), .slice (some ⟨gR, 0, none⟩) m3 c3], .int .i64 v] u fun x v' => x = .returned (.int .i64 (treeO (nn : Int) (rts R) v)) ∧ Good W4 v') := fun v u hu => (iTreeOf_any _ (rts R) v m3 (some ⟨gR, 0, none⟩) c3 hln u (hFB4.ts.up hu)).mono fun _ _ ⟨hx, hb⟩ => ⟨hx, hu.up hb⟩
  have HFB := hideIt hFB4
  clear HF hFB hb3 q0 q1 g23 HG2 E2 hFB4 hsmall
  go_upto_region 2 with fail
  rw [← hW4]
  clear hW4 g34
  have c1 : W4.cell? ⟨gR, k1, none⟩ = some (.slice (some ⟨r1.g, 0, none⟩) r1.t.length r1.cp) := by rw [HFB.out.own.cellAt k1 (by omega)]; exact rhs_at hr1
  have c2 : W4.cell? ⟨gR, k2, none⟩ = some (.slice (some ⟨r2.g, 0, none⟩) r2.t.length r2.cp) := by rw [HFB.out.own.cellAt k2 (by omega)]; exact rhs_at hr2
  have hgl : gR < W4.heap.size := (HFB.out.own.lt gR rfl).2
  have HC : Hid (∀ u, Good W4 u → ((u.cell? ⟨w3.heap.size, 0, none⟩ = some (.int .i64 (nn : Int)) ∧ u.cell? ⟨w3.heap.size, 1, none⟩ = some (.slice (some ⟨gR, 0, none⟩) m3 c3)) ∧ (u.cell? ⟨w.heap.size + 1, 0, none⟩ = some (.int .i64 e.1) ∧ u.cell? ⟨w.heap.size + 1, 1, none⟩ = some (.int .i64 e.2)) ∧ (u.cell? ⟨gR, k1, none⟩ = some (.slice (some ⟨r1.g, 0, none⟩) r1.t.length r1.cp) ∧ u.cell? ⟨gR, k2, none⟩ = some (.slice (some ⟨r2.g, 0, none⟩) r2.t.length r2.cp))) ∧ Good W4 u) := fun u hu => ⟨⟨⟨(F4.up hu).cell0, (F4.up hu).cell1⟩, ⟨(E4.up hu).cell0, (E4.up hu).cell1⟩, by rw [hu.cell hgl]; exact c1, by rw [hu.cell hgl]; exact c2⟩, hu⟩
  have HI1 : Hid (∀ u, Good W4 u → Is u u.heap.size (some ⟨r1.g, 0, none⟩) r1.t.length r1.t) := fun u hu => (HFB.out.ins r1 (List.mem_of_getElem? hr1)).1.is.up hu
  have HI2 : Hid (∀ u, Good W4 u → Is u u.heap.size (some ⟨r2.g, 0, none⟩) r2.t.length r2.t) := fun u hu => (HFB.out.ins r2 (List.mem_of_getElem? hr2)).1.is.up hu
  have HL : Hid (w.heap.size ≤ r1.g ∧ w.heap.size ≤ r2.g) := ⟨Nat.le_trans HZ2.out (HFB.out.ins r1 (List.mem_of_getElem? hr1)).2.1, Nat.le_trans HZ2.out (HFB.out.ins r2 (List.mem_of_getElem? hr2)).2.1⟩
  have HM : Hid (r1.t.length ≤ 1048576 ∧ r2.t.length ≤ 1048576) := ⟨len_le (List.mem_of_getElem? hk1) (by omega), len_le (List.mem_of_getElem? hk2) (by omega)⟩
  obtain ⟨z1, hz1⟩ : ∃ z1 : Int, z1 = ((vsL r1.t).length : Int) := ⟨_, rfl⟩
  obtain ⟨z2, hz2⟩ : ∃ z2 : Int, z2 = ((vsL r2.t).length : Int) := ⟨_, rfl⟩
  rw [← hz1] at s1
  rw [← hz2] at s2
  have HZs := hideIt (And.intro s1 s2)
  have HZz := hideIt (And.intro hz1 hz2)
  clear hz1 hz2
  have HOs := hideIt (And.intro o1 o2)
  have HSm := hideIt hsm
  have qe := E4.cell0
  clear s1 s2 o1 o2 hsm c1 c2 HFB hr1 hr2 hk1 hk2 i1 i2 F4 E4 hgl hln hFt
  go_upto_region 3 with fail
  have hS0 := HC.out _ (Good.refl W4).drew
  clear qe
  go_region_held3 (fun u => ((u.cell? ⟨w3.heap.size, 0, none⟩ = some (.int .i64 (nn : Int)) ∧ u.cell? ⟨w3.heap.size, 1, none⟩ = some (.slice (some ⟨gR, 0, none⟩) m3 c3)) ∧ (u.cell? ⟨w.heap.size + 1, 0, none⟩ = some (.int .i64 e.1) ∧ u.cell? ⟨w.heap.size + 1, 1, none⟩ = some (.int .i64 e.2)) ∧ (u.cell? ⟨gR, k1, none⟩ = some (.slice (some ⟨r1.g, 0, none⟩) r1.t.length r1.cp) ∧ u.cell? ⟨gR, k2, none⟩ = some (.slice (some ⟨r2.g, 0, none⟩) r2.t.length r2.cp))) ∧ Good W4 u)
    (first | with_reducible assumption)
    ((go_at_call 229; refine (HSz.out _ _ (And.right (by assumption))).mono ?_; rintro x w6 ⟨rfl, hg6⟩; have hS6 := HC.out _ hg6))
  all_goals
    obtain ⟨⟨_, ⟨ee0, ee1⟩, _⟩, hg7⟩ := hS6
    simp only [HZs.out.1, HZs.out.2]
    clear HZs HSz
    by_cases hz : z2 < z1
    · have hd : decide (z2 < z1) = true := decide_eq_true hz
      have HT : Hid (∀ u, Good W4 u → Calls Tryz.prog 76 #[.agg #[.int .i64 (nn : Int), .slice (some ⟨gR, 0, none⟩) m3 c3], .int .i64 e.2] u fun x v' => x = .returned (.int .i64 (k2 : Int)) ∧ Good W4 v') := fun u hu => (HTr.out _ u hu).mono fun _ _ ⟨hx, hb⟩ => ⟨by rw [hx, HOs.out.2], hb⟩
      have HSv : Hid (smT (rts R) e = r2.t) := by show _ = _; rw [HSm.out, if_pos (by have := HZz.out; omega)]
      have b1 : (0 : Int) ≤ (k2 : Int) := by omega
      have b2 : (k2 : Int) < (m3 : Int) := by omega
      clear hz HTr HOs HSm
      rw [hd]
      clear hd
      go_wp2
      have hS0 := HC.out _ hg7.drew
      clear ee0 ee1 hg7
      go_region_held3 (fun u => ((u.cell? ⟨w3.heap.size, 0, none⟩ = some (.int .i64 (nn : Int)) ∧ u.cell? ⟨w3.heap.size, 1, none⟩ = some (.slice (some ⟨gR, 0, none⟩) m3 c3)) ∧ (u.cell? ⟨w.heap.size + 1, 0, none⟩ = some (.int .i64 e.1) ∧ u.cell? ⟨w.heap.size + 1, 1, none⟩ = some (.int .i64 e.2)) ∧ (u.cell? ⟨gR, k1, none⟩ = some (.slice (some ⟨r1.g, 0, none⟩) r1.t.length r1.cp) ∧ u.cell? ⟨gR, k2, none⟩ = some (.slice (some ⟨r2.g, 0, none⟩) r2.t.length r2.cp))) ∧ Good W4 u)
        (first | with_reducible assumption)
        ((go_at_call 76; refine (HT.out _ (And.right (by assumption))).mono ?_; rintro x w8 ⟨rfl, hg8⟩; have hS8 := HC.out _ hg8))
      all_goals
        go_wp2
        go_ret
        exact ⟨r2.g, _, _, rfl, by rw [HSv.out]; exact HI2.out _ hg8, HL.out.2, HM.out.2, HG4.out.up hg8⟩
    · have hd : decide (z2 < z1) = false := decide_eq_false hz
      have HT : Hid (∀ u, Good W4 u → Calls Tryz.prog 76 #[.agg #[.int .i64 (nn : Int), .slice (some ⟨gR, 0, none⟩) m3 c3], .int .i64 e.1] u fun x v' => x = .returned (.int .i64 (k1 : Int)) ∧ Good W4 v') := fun u hu => (HTr.out _ u hu).mono fun _ _ ⟨hx, hb⟩ => ⟨by rw [hx, HOs.out.1], hb⟩
      have HSv : Hid (smT (rts R) e = r1.t) := by show _ = _; rw [HSm.out, if_neg (by have := HZz.out; omega)]
      have b1 : (0 : Int) ≤ (k1 : Int) := by omega
      have b2 : (k1 : Int) < (m3 : Int) := by omega
      clear hz HTr HOs HSm
      rw [hd]
      clear hd
      go_wp2
      have hS0 := HC.out _ hg7.drew
      clear ee0 ee1 hg7
      go_region_held3 (fun u => ((u.cell? ⟨w3.heap.size, 0, none⟩ = some (.int .i64 (nn : Int)) ∧ u.cell? ⟨w3.heap.size, 1, none⟩ = some (.slice (some ⟨gR, 0, none⟩) m3 c3)) ∧ (u.cell? ⟨w.heap.size + 1, 0, none⟩ = some (.int .i64 e.1) ∧ u.cell? ⟨w.heap.size + 1, 1, none⟩ = some (.int .i64 e.2)) ∧ (u.cell? ⟨gR, k1, none⟩ = some (.slice (some ⟨r1.g, 0, none⟩) r1.t.length r1.cp) ∧ u.cell? ⟨gR, k2, none⟩ = some (.slice (some ⟨r2.g, 0, none⟩) r2.t.length r2.cp))) ∧ Good W4 u)
        (first | with_reducible assumption)
        ((go_at_call 76; refine (HT.out _ (And.right (by assumption))).mono ?_; rintro x w8 ⟨rfl, hg8⟩; have hS8 := HC.out _ hg8))
      all_goals
        go_wp2
        go_ret
        exact ⟨r1.g, _, _, rfl, by rw [HSv.out]; exact HI1.out _ hg8, HL.out.1, HM.out.1, HG4.out.up hg8⟩
end Go.Proofs.YtkkplppcgnikoaaGreat
namespace Go.Proofs.YtkkplppcgnikoaaGreat

theorem asc_pair {es : List EdgeV} : Asc es ↔ es.Pairwise fun d e => lt d e = true := by
  rw [List.pairwise_iff_getElem]
  exact ⟨fun h i j hi hj hij => h i j _ _ hij (List.getElem?_eq_getElem hi) (List.getElem?_eq_getElem hj), fun h i j d e hij hd he => by
    obtain ⟨hi, rfl⟩ := List.getElem?_eq_some_iff.1 hd
    obtain ⟨hj, rfl⟩ := List.getElem?_eq_some_iff.1 he
    exact h i j hi hj hij⟩
/-- right edges without one of them are right -/
theorem gB_out {N : Int} {es : List EdgeV} (h : gB N es = true) (e : EdgeV) : gB N (outE es e) = true := by
  obtain ⟨h1, h2, h3⟩ := gB_chk h
  have hc : chk N (outE es e) = true := chk_of (fun d hd => chk_eB h2 (List.mem_filter.1 hd).1) (asc_pair.2 ((asc_pair.1 (asc_of_chk h2)).filter _))
  have hl := outE_length es e
  unfold gB
  rw [decide_eq_true h1, hc, decide_eq_true (show (outE es e).length ≤ 66 by omega)]
  rfl
theorem gE_out (ls : List Ld) (e : EdgeV) : gE (ouL ls e) = outE (gE ls) e := by
  unfold gE ouL outE
  rw [List.filter_map]
  rfl
theorem Stg.of {n : Nat} {ls : List Ld} (h : WOk (n : Int) ls) : Stg n ls := ⟨h.1, h.2.1, h.bridge⟩
theorem Stg.out {n : Nat} {ls : List Ld} (h : Stg n ls) (e : EdgeV) : Stg n (ouL ls e) :=
  ⟨by rw [gE_out]; exact gB_out h.g e, fun x hx => h.l x (List.mem_filter.1 hx).1, h.br.sub fun d hd => by
    obtain ⟨x, hx, h1, h2, h3⟩ := fE_mem.1 hd
    exact fE_mem.2 ⟨x, (List.mem_filter.1 hx).1, h1, h2, h3⟩⟩
/-- each Level has its trees -/
theorem Stg.trees {n : Nat} {ls : List Ld} (h : Stg n ls) {i : Int} (hi : 0 ≤ i) : ftK (fE ls i) n n = some (lvT n ls i) ∧ FtAll (fE ls i) n (lvT n ls i) := by
  obtain ⟨m, hm, h1, h2⟩ := gB_n h.g
  have hmn : m = n := by omega
  subst hmn
  have he := fE_ends h.g i
  obtain ⟨ts, hts⟩ := (ft_iff he h1 h2).2 (h.br.sub fun d hd => fE_low hi hd)
  have e : lvT m ls i = ts := by unfold lvT; rw [hts]; rfl
  rw [e]
  exact ⟨hts, ft_all he h1 h2 hts⟩
/-- a Level at which nothing takes the place -/
theorem lvO_none {n : Nat} {e : EdgeV} {i : Int} {ls : List Ld} (h : ∀ x ∈ ls.map (rsL i (smT (lvT n ls i) e)), ¬ hitL i (smT (lvT n ls i) e) x) :
    lvO n e i ls = ((ls.map (rsL i (smT (lvT n ls i) e))).map (srL i (smT (lvT n ls i) e)), none) := by unfold lvO; exact srO_none h
theorem Stg.down {n : Nat} {ls : List Ld} (h : Stg n ls) {i : Int} (hi : 0 ≤ i ∧ i ≤ 4) (t s : List Int) : Stg n ((ls.map (rsL i t)).map (srL i s)) := (h.keep (keep_rs hi t)).keep (keep_sr hi s)
end Go.Proofs.YtkkplppcgnikoaaGreat
namespace Go.Proofs.YtkkplppcgnikoaaGreat
open Go.RowKit

/-- a scope that is left by a goto to one label at most once: what stands behind the label is walked where the goto stands -/
theorem wp_scope_once {P : Program} {a : Go.Act} {w : World} {Q : Exit → Go.Act → World → Prop} {c rest : Go.Code} (l : Nat) (hf : findLabel c l = some rest)
    (first : c.wp P (Exit.jump l (fun a w => rest.wp P (Exit.noGoto Q) a w) Q) a w) : (Go.Code.scope c).wp P Q a w :=
  wp_scope_jumps l (fun a w => rest.wp P (Exit.noGoto Q) a w) (fun _ _ => 0) hf first fun a w h => wp_mono h fun e a w hq => by
    cases e <;> first | exact hq | exact hq.elim
theorem jump_goto {l : Nat} {J : Go.Act → World → Prop} {Q : Exit → Go.Act → World → Prop} {a : Go.Act} {w : World} (h : J a w) : Exit.jump l J Q (.goto l) a w := ⟨rfl, h⟩
theorem jump_ret {l : Nat} {J : Go.Act → World → Prop} {Q : Exit → Go.Act → World → Prop} {a : Go.Act} {w : World} : Exit.jump l J Q .ret a w = Q .ret a w := rfl
theorem Box4.grown {w w' : World} {b : Nat} {x : Ld} {row : Option Nat} (h : Box4 w b x) (hg : w.grownBy w' row) (hr : some b ≠ row) : Box4 w' b x := by
  unfold Box4
  rw [hg.block b h.lt hr]
  exact h
theorem srL_no {i : Int} {t : List Int} {x : Ld} (h : ¬ (x.t = false ∧ x.l = i ∧ x.a ∈ t ∧ x.b ∈ t)) : srL i t x = x := by unfold srL; rw [if_neg h]
theorem srL_yes {i : Int} {t : List Int} {x : Ld} (h : x.t = false ∧ x.l = i ∧ x.a ∈ t ∧ x.b ∈ t) : srL i t x = ⟨x.a, x.b, upL i, x.t⟩ := by unfold srL; rw [if_pos h]
/-- an edge is put where the turning stands -/
theorem turn_put {f : Ld → Ld} {L : List Ld} {k : Nat} {x : Ld} (h : L[k]? = some x) (y : Ld) : ((L.take k).map f ++ L.drop k).set k y = (L.take k).map f ++ y :: L.drop (k + 1) := by
  have hk : k < L.length := (List.getElem?_eq_some_iff.1 h).1
  rw [List.set_append_right _ _ (by simp; omega)]
  have : k - ((L.take k).map f).length = 0 := by simp; omega
  rw [this, List.drop_eq_getElem_cons hk]
  rfl
theorem turn_last {f : Ld → Ld} {L : List Ld} {k : Nat} {x : Ld} (h : L[k]? = some x) (y : Ld) : ((L.take k).map f ++ y :: L.drop (k + 1))[k]? = some y := by
  have hk : k < L.length := (List.getElem?_eq_some_iff.1 h).1
  rw [List.getElem?_append_right (by simp; omega)]
  have : k - ((L.take k).map f).length = 0 := by simp; omega
  rw [this]
  rfl
theorem nohit_step {i : Int} {t : List Int} {L : List Ld} {k : Nat} {x : Ld} (h : L[k]? = some x) (hn : ∀ y ∈ L.take k, ¬ hitL i t y) (hx : ¬ hitL i t x) : ∀ y ∈ L.take (k + 1), ¬ hitL i t y := by
  intro y hy
  rw [List.take_add_one, h] at hy
  rcases List.mem_append.1 hy with h1 | h1
  · exact hn y h1
  · simp at h1
    subst h1
    exact hx
/-- the answer of takePlace -/
def TpA (w : World) (g base n c : Nat) (r : List Ld × Option EdgeV) (e : Ending) (w' : World) : Prop :=
  e = .returned (.tuple #[.agg #[.int .i64 (r.2.getD (0, 0)).1, .int .i64 (r.2.getD (0, 0)).2], .bool r.2.isSome]) ∧ w'.ownsRow base 52 4 (.slice (some ⟨g, 0, none⟩) n c) n (lcells r.1) ∧ w.grownBy w' (some g)

set_option maxRecDepth 100000 in
set_option maxHeartbeats 8000000 in
theorem takePlace_any (nn : Nat) (ls : List Ld) (x : Ld) (base g n c : Nat) (hS : Stg nn ls) (hx : 0 ≤ x.l ∧ x.l ≤ 4) (he1 : 0 ≤ x.a ∧ x.a < (nn : Int)) (he2 : 0 ≤ x.b ∧ x.b < (nn : Int)) (hn : n ≤ 1048576) (w : World)
    (h : w.ownsRow base 52 4 (.slice (some ⟨g, 0, none⟩) n c) n (lcells ls)) :
    Calls Tryz.prog 71 #[.agg #[.int .i64 (nn : Int), .slice (some ⟨g, 0, none⟩) n c], .agg #[.int .i64 x.a, .int .i64 x.b, .int .i64 x.l, .bool x.t]] w (TpA w g base n c (tkO nn x.e (x.l.toNat + 1) ls)) := by
  have hgl : g < w.heap.size := (h.lt g rfl).2
  obtain ⟨W3, hW3⟩ : ∃ W3, W3 = ((w.alloc (.cells #[.int .i64 (nn : Int), .slice (some ⟨g, 0, none⟩) n c] 26)).alloc (.cells #[.int .i64 x.a, .int .i64 x.b, .int .i64 x.l, .bool x.t] 52)).alloc (.cells #[.int .i64 0, .int .i64 0] 28) := ⟨_, rfl⟩
  have G3 : Good w W3 := by rw [hW3]; exact (((Good.refl w).alloc _).alloc _).alloc _
  have X3 : Box7 W3 w.heap.size 26 (.int .i64 (nn : Int)) (.slice (some ⟨g, 0, none⟩) n c) := by rw [hW3]; exact ((Box7.new w _ _ _ _ rfl).alloc _).alloc _
  have L3 : Box4 W3 (w.heap.size + 1) x := by rw [hW3]; exact (Box4.new _ x _ (by simp)).up ((Below.refl _ _).alloc (Nat.le_refl _) _)
  have R3 : Box7 W3 (w.heap.size + 2) 28 (.int .i64 0) (.int .i64 0) := by rw [hW3]; exact Box7.new _ _ _ _ _ (by simp)
  have O3 := own_up h G3
  have HX : Hid (∀ u, W3.grownBy u (some g) → Box7 u w.heap.size 26 (.int .i64 (nn : Int)) (.slice (some ⟨g, 0, none⟩) n c) ∧ Box4 u (w.heap.size + 1) x ∧ Box7 u (w.heap.size + 1 + 1) 28 (.int .i64 0) (.int .i64 0)) := fun u hu =>
    ⟨X3.grown hu (by simp; omega), L3.grown hu (by simp; omega), R3.grown hu (by simp; omega)⟩
  have HG3 := hideIt G3
  have HO3 := hideIt O3
  have HS := hideIt hS
  obtain ⟨_, _, q2, _⟩ := L3.cells
  have HU := hideIt (fun (i : Int) (h0 : 0 ≤ i) (h1 : i ≤ 4) => levelUp_any i h0 h1)
  have HZ : Hid (w.heap.size + 2 < W3.heap.size) := R3.lt
  clear hS h X3 L3 R3 O3 G3
  go_enter Tryz.func71, Tryz.ntmps71
  go_wp2
  refine wp_scope_once 0 (by rfl) ?_
  go_wp2
  rw [← hW3]
  clear hW3 q2
  go_loopw [7] (fun lev wr => ∃ (k : Nat) (l : Int) (L : List Ld), Hid (l + 1 = (k : Int) ∧ l ≤ 4) ∧ lev = .int .i64 l ∧ Hid (Stg nn L ∧ tkO nn x.e (x.l.toNat + 1) ls = tkO nn x.e k L) ∧ Hid (wr.ownsRow base 52 4 (.slice (some ⟨g, 0, none⟩) n c) n (lcells L)) ∧ Hid (W3.grownBy wr (some g))) (fun lev _ => (intOf lev + 1).toNat)
  case atStart => exact ⟨x.l.toNat + 1, x.l, ls, (by show _ ∧ _; omega : _ ∧ _), rfl, ⟨HS.out, rfl⟩, HO3.out, World.grownBy.refl _ _⟩
  case round =>
    obtain ⟨k, l, L, HK, rfl, HL, HO, HG⟩ := hrel
    clear HS HO3
    obtain ⟨bw, bl, br⟩ := HX.out wr HG.out
    by_cases hl0 : 0 ≤ l
    · obtain ⟨j, rfl⟩ : ∃ j : Nat, l = (j : Int) := ⟨l.toNat, by omega⟩
      have hj4 : (j : Int) ≤ 4 := HK.out.2
      have HKj : Hid (k = j + 1) := by show _ = _; have := HK.out.1; omega
      clear HK hl0
      have hj0 : (0 : Int) ≤ (j : Int) := by omega
      obtain ⟨t, ht⟩ : ∃ t, t = smT (lvT nn L (j : Int)) x.e := ⟨_, rfl⟩
      have HLe : Hid (∀ u, Good wr u → Calls Tryz.prog 67 #[.agg #[.int .i64 x.a, .int .i64 x.b, .int .i64 x.l, .bool x.t]] u fun e w' => e = .returned (.agg #[.int .i64 x.a, .int .i64 x.b]) ∧ Good wr w') := fun u hu => (ledgeEdge_any x u).mono fun _ _ ⟨he, hb⟩ => ⟨he, hu.up hb⟩
      have HLt : Hid (∀ u, Good wr u → Calls Tryz.prog 154 #[.agg #[.int .i64 (nn : Int), .slice (some ⟨g, 0, none⟩) n c], .agg #[.int .i64 x.a, .int .i64 x.b], .int .i64 (j : Int)] u fun e w' => ∃ gt m ct, e = .returned (.slice (some ⟨gt, 0, none⟩) m ct) ∧ Hid (Is w' w'.heap.size (some ⟨gt, 0, none⟩) m t ∧ g < gt ∧ m ≤ 1048576) ∧ Good wr w') := fun u hu => by
        obtain ⟨hts, hA⟩ := HL.out.1.trees (i := (j : Int)) hj0
        rw [ht]
        refine (lesserTree_any nn L x.e (j : Int) n (some ⟨g, 0, none⟩) c HL.out.1.g (fun y hy => (HL.out.1.l y hy).1) HL.out.1.br hj0 (lvT nn L (j : Int)) hts hA he1 he2 u (Ls_of_own (own_up HO.out hu))).mono fun e w' ⟨gt, m, ct, h1, h2, h3, h4, h5⟩ => ⟨gt, m, ct, h1, ⟨h2, ?_, h4⟩, hu.up h5⟩
        have := hu.size
        have := HG.out.size
        have := HZ.out
        omega
      have HC : Hid (∀ u, Good wr u → ((u.cell? ⟨w.heap.size, 0, none⟩ = some (.int .i64 (nn : Int)) ∧ u.cell? ⟨w.heap.size, 1, none⟩ = some (.slice (some ⟨g, 0, none⟩) n c)) ∧ (u.cell? ⟨w.heap.size + 1, 0, none⟩ = some (.int .i64 x.a) ∧ u.cell? ⟨w.heap.size + 1, 1, none⟩ = some (.int .i64 x.b) ∧ u.cell? ⟨w.heap.size + 1, 2, none⟩ = some (.int .i64 x.l) ∧ u.cell? ⟨w.heap.size + 1, 3, none⟩ = some (.bool x.t))) ∧ Good wr u) := fun u hu => ⟨⟨⟨(bw.up hu).cell0, (bw.up hu).cell1⟩, (bl.up hu).cells⟩, hu⟩
      have hS0 := HC.out _ (Good.refl wr).drew
      clear bw bl br
      have HT := hideIt ht
      clear ht
      go_upto_region 5 with fail
      go_region_held3 (fun u => ((u.cell? ⟨w.heap.size, 0, none⟩ = some (.int .i64 (nn : Int)) ∧ u.cell? ⟨w.heap.size, 1, none⟩ = some (.slice (some ⟨g, 0, none⟩) n c)) ∧ (u.cell? ⟨w.heap.size + 1, 0, none⟩ = some (.int .i64 x.a) ∧ u.cell? ⟨w.heap.size + 1, 1, none⟩ = some (.int .i64 x.b) ∧ u.cell? ⟨w.heap.size + 1, 2, none⟩ = some (.int .i64 x.l) ∧ u.cell? ⟨w.heap.size + 1, 3, none⟩ = some (.bool x.t))) ∧ Good wr u)
        (first | with_reducible assumption)
        (first
          | (go_at_call 67; refine (HLe.out _ (And.right (by assumption))).mono ?_; rintro e w4 ⟨rfl, hg4⟩; have hS4 := HC.out _ hg4)
          | (go_at_call 154; refine (HLt.out _ (And.right (by assumption))).mono ?_; rintro e w5 ⟨gt, m, ct, rfl, HI, hg5⟩; have hS5 := HC.out _ hg5))
      have ⟨⟨⟨_, cw⟩, _⟩, _⟩ := hS5
      have HRt := hideIt (raiseTree_any base g c n L t m (some ⟨gt, 0, none⟩) ct (j : Int) hj0 hj4 hn HI.out.2.2 w5 (own_up HO.out hg5) HI.out.1 (fun b off s h => by have h1 := HI.out.2.1; simp at h; omega))
      have HG5 := hideIt (grown_trans HG.out (grown_of_below hg5 (some g)))
      clear hS4 hS5 hg4 hg5 HC HLe HLt HO HG hS0
      go_wp2_with (go_at_call 155; refine HRt.out.mono ?_; rintro e w6 ⟨rfl, ho6, hg6⟩; refine Hid.out ?_)
      refine (show ∀ {p : Prop}, p → Hid p from fun h => h) ?_
      obtain ⟨L1, hL1⟩ : ∃ L1, L1 = L.map (rsL (j : Int) t) := ⟨_, rfl⟩
      rw [← hL1] at ho6
      have HL1 := hideIt hL1
      have HO6 := hideIt ho6
      have HG6 := hideIt (grown_trans HG5.out hg6)
      have hlen : Hid (L1.length = n) := by show _ = _; have := ho6.1; rw [lcells_length] at this; omega
      have HI6 : Hid (∀ u, w6.grownBy u (some g) → Is u u.heap.size (some ⟨gt, 0, none⟩) m t) := fun u hu => is_mono (HI.out.1.grown (Nat.le_refl _) (grown_trans hg6 hu) (fun b off s h => by have h1 := HI.out.2.1; simp at h; omega)) (Nat.le_trans hg6.size hu.size)
      have hm := HI.out.2.2
      have cw6 := (HX.out w6 HG6.out).1.cell1
      clear hL1 ho6 hg6 HRt HG5 cw
      go_wp2
      go_loopw [28] (fun q wz => ∃ d : Nat, d ≤ n ∧ q = .int .i64 (d : Int) ∧ Hid (wz.ownsRow base 52 4 (.slice (some ⟨g, 0, none⟩) n c) n (lcells ((L1.take d).map (srL (j : Int) t) ++ L1.drop d))) ∧ Hid (w6.grownBy wz (some g)) ∧ Hid (∀ y ∈ L1.take d, ¬ hitL (j : Int) t y)) (fun q _ => n - (intOf q).toNat)
      case atStart => exact ⟨0, by omega, rfl, hideIt (by simpa using HO6.out), World.grownBy.refl _ _, fun y hy => by simp at hy⟩
      case round =>
        obtain ⟨d, hd, rfl, HOz, HGz, HNz⟩ := hrel
        clear HO6 cw6
        have bwz := (HX.out wr (grown_trans HG6.out HGz.out)).1
        have cwz := bwz.cell1
        by_cases hlt : d < n
        · obtain ⟨y, hy⟩ : ∃ y, L1[d]? = some y := ⟨L1[d]'(by have := hlen.out; omega), List.getElem?_eq_getElem (by have := hlen.out; omega)⟩
          have hya := turn_at (f := srL (j : Int) t) hy
          have b1 : (0 : Int) ≤ (d : Int) := by omega
          have b2 : (d : Int) < (n : Int) := by omega
          obtain ⟨p0, p1, p2, p3⟩ := lcells_at _ d y hya
          have hl4 : (lcells ((L1.take d).map (srL (j : Int) t) ++ L1.drop d)).length = n * 4 := HOz.out.1
          have e0 : wr.cell? ⟨g, d * 4, none⟩ = some (.int .i64 y.a) := by rw [HOz.out.cellAt (d * 4) (by omega)]; exact p0
          have e1 : wr.cell? ⟨g, d * 4 + 1, none⟩ = some (.int .i64 y.b) := by rw [HOz.out.cellAt (d * 4 + 1) (by omega)]; exact p1
          have e2 : wr.cell? ⟨g, d * 4 + 2, none⟩ = some (.int .i64 y.l) := by rw [HOz.out.cellAt (d * 4 + 2) (by omega)]; exact p2
          have e3 : wr.cell? ⟨g, d * 4 + 3, none⟩ = some (.bool y.t) := by rw [HOz.out.cellAt (d * 4 + 3) (by omega)]; exact p3
          have HYa := hideIt hya
          have HYy := hideIt hy
          clear p0 p1 p2 p3 hl4 hya hy
          by_cases ht1 : y.t = false
          · rw [ht1] at e3
            by_cases hl1 : y.l = (j : Int)
            · have d1 : (y.l != (j : Int)) = false := by simp [hl1]
              have hE := endsIn_any t y m (some ⟨gt, 0, none⟩) ct hm wr (HI6.out wr HGz.out)
              rw [ht1] at hE
              have k12 := endK_two t y
              have k3 := endK_le t y 2
              by_cases hab : y.a ∈ t ∧ y.b ∈ t
              · have HE : Hid (Calls Tryz.prog 156 #[.slice (some ⟨gt, 0, none⟩) m ct, .agg #[.int .i64 y.a, .int .i64 y.b, .int .i64 y.l, .bool false]] wr fun e w' => e = .returned (.int .i64 2) ∧ Below wr.heap.size wr w') := hE.mono fun _ _ ⟨he, hb⟩ => ⟨by rw [he, k12.1.2 hab]; rfl, hb⟩
                have hf := srL_yes (i := (j : Int)) (t := t) ⟨ht1, hl1, hab⟩
                have HN2 := hideIt (nohit_step HYy.out HNz.out fun h => h.2.2.1 hab)
                have HN := hideIt (turn_step (f := srL (j : Int) t) HYy.out)
                rw [hf] at HN
                have HUp := hideIt (HU.out (j : Int) hj0 hj4)
                clear hf hab k12 k3 hE ht1 hl1
                go_wp2_with (go_at_call 156; refine HE.out.mono ?_; rintro e w7 ⟨rfl, hb7⟩; refine Hid.out ?_)
                refine (show ∀ {p : Prop}, p → Hid p from fun h => h) ?_
                have hO7 := own_up HOz.out hb7
                have c7 := (bwz.up hb7).cell1
                have e7 : w7.cell? ⟨g, d * 4 + 2, none⟩ = some (.int .i64 y.l) := by rw [bcell hb7 |>.1 _ _ (HOz.out.lt g rfl).2]; exact e2
                have f7 := hO7.frozenAt (d * 4 + 2)
                have hst := hO7.stored (d * 4 + 2) (.int .i64 (upL (j : Int)))
                rw [lcells_setL HYa.out] at hst
                have HSt := hideIt hst
                have HG7 := hideIt (grown_trans HGz.out (grown_of_below hb7 (some g)))
                clear hst hO7 e0 e1 e2 e3 hb7 HE cwz bwz
                go_upto_region 13 with fail
                go_region_with (go_at_call 157; refine (HUp.out _).mono ?_; rintro e w8 ⟨rfl, hw8⟩; have hw8' := hw8.symm; subst hw8')
                all_goals
                  go_wp2
                  exact ⟨⟨d + 1, by omega, by go_num, hideIt (by rw [← HN.out]; exact HSt.out.1), hideIt (grown_trans HG7.out (grown_trans HSt.out.2 ⟨rfl, rfl, rfl, Nat.le_refl _, fun _ _ _ => rfl⟩)), HN2⟩, by simp [intOf]; omega⟩
              · by_cases hor : y.a ∈ t ∨ y.b ∈ t
                · have HE : Hid (Calls Tryz.prog 156 #[.slice (some ⟨gt, 0, none⟩) m ct, .agg #[.int .i64 y.a, .int .i64 y.b, .int .i64 y.l, .bool false]] wr fun e w' => e = .returned (.int .i64 1) ∧ Below wr.heap.size wr w') := hE.mono fun _ _ ⟨he, hb⟩ => ⟨by rw [he, k12.2.2 ⟨hab, hor⟩]; rfl, hb⟩
                  have HV : Hid (tkO nn x.e (x.l.toNat + 1) ls = ((L1.take d).map (srL (j : Int) t) ++ ⟨y.a, y.b, y.l, true⟩ :: L1.drop (d + 1), some y.e)) := by
                    show _ = _
                    have h1 := srO_hit HYy.out ⟨ht1, hl1, hab, hor⟩ HNz.out
                    have h2 : lvO nn x.e (j : Int) L = srO (j : Int) t L1 := by rw [HL1.out, HT.out]; rfl
                    rw [HL.out.2, HKj.out, tkO_found (f := y.e) (by rw [h2, h1]), h2, h1]
                  have HN := hideIt (turn_put (f := srL (j : Int) t) HYy.out ⟨y.a, y.b, y.l, true⟩)
                  clear hab hor k12 k3 hE ht1 hl1
                  go_wp2_with (go_at_call 156; refine HE.out.mono ?_; rintro e w7 ⟨rfl, hb7⟩; refine Hid.out ?_)
                  refine (show ∀ {p : Prop}, p → Hid p from fun h => h) ?_
                  go_wp2
                  go_step3
                  refine jump_goto (Q := fun _ _ _ => True) ?_
                  have hO7 := own_up HOz.out hb7
                  have c7 := (bwz.up hb7).cell1
                  have hgl7 := (HOz.out.lt g rfl).2
                  have e7 : w7.cell? ⟨g, d * 4 + 3, none⟩ = some (.bool false) := by rw [bcell hb7 |>.1 _ _ hgl7]; exact e3
                  have f7 := hO7.frozenAt (d * 4 + 3)
                  have hst := hO7.stored (d * 4 + 3) (.bool true)
                  rw [lcells_setT HYa.out, HN.out] at hst
                  have HG8 := hideIt (grown_trans HG6.out (grown_trans (grown_trans HGz.out (grown_of_below hb7 (some g))) hst.2))
                  obtain ⟨W8, hW8⟩ : ∃ W8, W8 = w7.setCell ⟨g, d * 4 + 3, none⟩ (.bool true) := ⟨_, rfl⟩
                  rw [← hW8] at hst HG8
                  have hgl8 := (hst.1.lt g rfl).2
                  obtain ⟨b8, _, r8⟩ := HX.out W8 HG8.out
                  have c8 := b8.cell1
                  obtain ⟨p0, p1, p2, p3⟩ := lcells_at _ d _ (turn_last (f := srL (j : Int) t) HYy.out ⟨y.a, y.b, y.l, true⟩)
                  have hl4 : (lcells ((L1.take d).map (srL (j : Int) t) ++ ⟨y.a, y.b, y.l, true⟩ :: L1.drop (d + 1))).length = n * 4 := hst.1.1
                  have v0 : W8.cell? ⟨g, d * 4, none⟩ = some (.int .i64 y.a) := by rw [hst.1.cellAt (d * 4) (by omega)]; exact p0
                  have v1 : W8.cell? ⟨g, d * 4 + 1, none⟩ = some (.int .i64 y.b) := by rw [hst.1.cellAt (d * 4 + 1) (by omega)]; exact p1
                  have v2 : W8.cell? ⟨g, d * 4 + 2, none⟩ = some (.int .i64 y.l) := by rw [hst.1.cellAt (d * 4 + 2) (by omega)]; exact p2
                  have v3 : W8.cell? ⟨g, d * 4 + 3, none⟩ = some (.bool true) := by rw [hst.1.cellAt (d * 4 + 3) (by omega)]; exact p3
                  have HLe : Hid (Calls Tryz.prog 67 #[.agg #[.int .i64 y.a, .int .i64 y.b, .int .i64 y.l, .bool true]] W8 fun e w' => e = .returned (.agg #[.int .i64 y.a, .int .i64 y.b]) ∧ Below W8.heap.size W8 w') := ledgeEdge_any ⟨y.a, y.b, y.l, true⟩ W8
                  have HSt := hideIt hst.1
                  have HHG := HG3.out
                  clear p0 p1 p2 p3 hl4 hst hO7 e0 e1 e2 e3 HE cwz bwz b8 HOz HGz HG6 hb7 hgl7
                  go_upto_region 18 with fail
                  rw [← hW8]
                  clear hW8 c7 e7 f7
                  go_wp2_with (go_at_call 67; refine HLe.out.mono ?_; rintro e w9 ⟨rfl, hb9⟩; refine Hid.out ?_)
                  refine (show ∀ {p : Prop}, p → Hid p from fun h => h) ?_
                  have r9 := r8.up hb9
                  have q0 := r9.cell0
                  have q1 := r9.cell1
                  have q2 := r9.frozen 0
                  have q3 := r9.frozen 1
                  have s2 := r9.set2 (.int .i64 y.a) (.int .i64 y.b)
                  have s0 := s2.cell0
                  have s1 := s2.cell1
                  have HF : Hid (TpA w g base n c (tkO nn x.e (x.l.toNat + 1) ls) (.returned (.tuple #[.agg #[.int .i64 y.a, .int .i64 y.b], .bool true])) ((w9.setCell ⟨w.heap.size + 1 + 1, 0, none⟩ (.int .i64 y.a)).setCell ⟨w.heap.size + 1 + 1, 1, none⟩ (.int .i64 y.b))) := by
                    rw [HV.out]
                    exact ⟨rfl, own_setOther (own_setOther (own_up HSt.out hb9) _ 0 _ (by omega)) _ 1 _ (by omega), grown_up7 (grown_trans (grown_trans (grown_of_below HHG (some g)) HG8.out) (grown_of_below hb9 (some g))) (((Below.refl _ _).setCell (by show _ ≤ w.heap.size + 1 + 1; omega) _).setCell (by show _ ≤ w.heap.size + 1 + 1; omega) _)⟩
                  clear HV s2 r8 r9 hb9 HHG c8 v0 v1 v2 v3
                  go_wp2
                  rw [Exit.noGoto_ret]
                  exact bodyPost_ret (v := .tuple #[.agg #[.int .i64 y.a, .int .i64 y.b], .bool true]) (by simp [results, Tryz.results71, go_sem, s0, s1]) rfl HF.out
                · have HE : Hid (Calls Tryz.prog 156 #[.slice (some ⟨gt, 0, none⟩) m ct, .agg #[.int .i64 y.a, .int .i64 y.b, .int .i64 y.l, .bool false]] wr fun e w' => e = .returned (.int .i64 0) ∧ Below wr.heap.size wr w') := hE.mono fun _ _ ⟨he, hb⟩ => ⟨by
                    have h1 : ¬ endK t y 2 = 2 := fun h => hab (k12.1.1 h)
                    have h2 : ¬ endK t y 2 = 1 := fun h => hor (k12.2.1 h).2
                    have h3 : endK t y 2 = 0 := by omega
                    rw [he, h3]
                    rfl, hb⟩
                  have HN := hideIt (turn_skip HYy.out (srL_no (i := (j : Int)) (t := t) fun h => hab h.2.2))
                  have HN2 := hideIt (nohit_step HYy.out HNz.out fun h => hor h.2.2.2)
                  clear hab hor k12 k3 hE ht1 hl1
                  go_wp2_with (go_at_call 156; refine HE.out.mono ?_; rintro e w7 ⟨rfl, hb7⟩; refine Hid.out ?_)
                  refine (show ∀ {p : Prop}, p → Hid p from fun h => h) ?_
                  have HO7 := hideIt (own_up HOz.out hb7)
                  have HG7 := hideIt (grown_trans HGz.out (grown_of_below hb7 (some g)))
                  clear hb7 HE
                  go_wp2
                  exact ⟨⟨d + 1, by omega, by go_num, hideIt (by rw [HN.out]; exact HO7.out), HG7, HN2⟩, by simp [intOf]; omega⟩
            · have d1 : (y.l != (j : Int)) = true := by simp [hl1]
              have HN := hideIt (turn_skip HYy.out (srL_no (i := (j : Int)) (t := t) fun h => hl1 h.2.1))
              have HN2 := hideIt (nohit_step HYy.out HNz.out fun h => hl1 h.2.1)
              clear hl1
              go_wp2
              exact ⟨⟨d + 1, by omega, by go_num, hideIt (by rw [HN.out]; exact HOz.out), HGz, HN2⟩, by simp [intOf]; omega⟩
          · have HN := hideIt (turn_skip HYy.out (srL_no (i := (j : Int)) (t := t) fun h => ht1 h.1))
            have HN2 := hideIt (nohit_step HYy.out HNz.out fun h => ht1 h.1)
            rw [show y.t = true by simpa using ht1] at e3
            clear ht1
            go_wp2
            exact ⟨⟨d + 1, by omega, by go_num, hideIt (by rw [HN.out]; exact HOz.out), HGz, HN2⟩, by simp [intOf]; omega⟩
        · obtain rfl : d = n := by omega
          have HO7 : Hid (wr.ownsRow base 52 4 (.slice (some ⟨g, 0, none⟩) d c) d (lcells (L1.map (srL (j : Int) t)))) := by
            have h1 := HOz.out
            rw [List.take_of_length_le (by have := hlen.out; omega), List.drop_eq_nil_of_le (by have := hlen.out; omega), List.append_nil] at h1
            exact h1
          have HV : Hid (lvO nn x.e (j : Int) L = (L1.map (srL (j : Int) t), none)) := by
            show _ = _
            have h1 := HNz.out
            rw [List.take_of_length_le (by have := hlen.out; omega), HL1.out, HT.out] at h1
            rw [lvO_none h1, HL1.out, HT.out]
          have HL7 : Hid (Stg nn (L1.map (srL (j : Int) t)) ∧ tkO nn x.e (x.l.toNat + 1) ls = tkO nn x.e j (L1.map (srL (j : Int) t))) := by
            refine ⟨by rw [HL1.out]; exact HL.out.1.down ⟨hj0, hj4⟩ t t, ?_⟩
            rw [HL.out.2, HKj.out, tkO_down (by rw [HV.out]), HV.out]
          have HG7 := hideIt (grown_trans HG6.out HGz.out)
          have HK7 : Hid ((j : Int) - 1 + 1 = (j : Int) ∧ (j : Int) - 1 ≤ 4) := by constructor <;> omega
          clear HNz HOz HGz HG6 HV HL HKj HL1 HT HI6 HI hlen hlt
          go_wp2
          exact ⟨⟨j, (j : Int) - 1, _, HK7, rfl, HL7, HO7, HG7⟩, by simp [intOf]⟩
    · have hk0 : k = 0 := by have := HK.out.1; omega
      have hl1 : l = -1 := by have := HK.out.1; omega
      subst hk0 hl1
      have HV : Hid (tkO nn x.e (x.l.toNat + 1) ls = (L, none)) := HL.out.2
      have r0 := br.cell0
      have r1 := br.cell1
      have r2 := br.frozen 0
      have r3 := br.frozen 1
      have s2 := br.set2 (.int .i64 0) (.int .i64 0)
      have s0 := s2.cell0
      have s1 := s2.cell1
      have HF : Hid (TpA w g base n c (tkO nn x.e (x.l.toNat + 1) ls) (.returned (.tuple #[.agg #[.int .i64 0, .int .i64 0], .bool false])) ((wr.setCell ⟨w.heap.size + 1 + 1, 0, none⟩ (.int .i64 0)).setCell ⟨w.heap.size + 1 + 1, 1, none⟩ (.int .i64 0))) := by
        rw [HV.out]
        exact ⟨rfl, own_setOther (own_setOther HO.out _ 0 _ (by omega)) _ 1 _ (by omega), grown_up7 (grown_trans (grown_of_below HG3.out (some g)) HG.out) (((Below.refl _ _).setCell (by show _ ≤ w.heap.size + 1 + 1; omega) _).setCell (by show _ ≤ w.heap.size + 1 + 1; omega) _)⟩
      clear HV HL HO HG HK s2 br bw bl hl0
      go_wp2
      rw [jump_ret]
      exact bodyPost_ret (v := .tuple #[.agg #[.int .i64 0, .int .i64 0], .bool false]) (by simp [results, Tryz.results71, go_sem, s0, s1]) rfl HF.out
end Go.Proofs.YtkkplppcgnikoaaGreat
namespace Go.Proofs.YtkkplppcgnikoaaGreat
open Go.RowKit

theorem tkO_nil (n : Nat) (e : EdgeV) : ∀ k : Nat, tkO n e k [] = ([], none)
  | 0 => rfl
  | k + 1 => by rw [tkO_down (by simp [lvO, srO]), show (lvO n e (k : Int) []).1 = [] by simp [lvO, srO]]; exact tkO_nil n e k
set_option maxRecDepth 100000 in
theorem raiseTree_nil (a' : Option Addr) (m c' : Nat) (i : Int) (w : World) : Calls Tryz.prog 155 #[.slice none 0 0, .slice a' m c', .int .i64 i] w fun e w' => e = .returned (.tuple #[]) ∧ w' = w := by
  go_enter Tryz.func155, Tryz.ntmps155
  go_wp2
  go_loopw [10] (fun q wr => q = .int .i64 0 ∧ wr = w) (fun _ _ => 0)
  case atStart => exact ⟨rfl, rfl⟩
  case round =>
    obtain ⟨rfl, rfl⟩ := hrel
    go_wp2
    exact bodyPost_end (v := .tuple #[]) (results_none rfl _ _ _) rfl ⟨rfl, rfl⟩
/-- the answer where no edge is left -/
def TpN (w : World) (e : Ending) (w' : World) : Prop := e = .returned (.tuple #[.agg #[.int .i64 0, .int .i64 0], .bool false]) ∧ Below w.heap.size w w'
set_option maxRecDepth 100000 in
set_option maxHeartbeats 8000000 in
theorem takePlace_nil (nn : Nat) (x : Ld) (hS : Stg nn []) (hx : 0 ≤ x.l ∧ x.l ≤ 4) (he1 : 0 ≤ x.a ∧ x.a < (nn : Int)) (he2 : 0 ≤ x.b ∧ x.b < (nn : Int)) (w : World) :
    Calls Tryz.prog 71 #[.agg #[.int .i64 (nn : Int), .slice none 0 0], .agg #[.int .i64 x.a, .int .i64 x.b, .int .i64 x.l, .bool x.t]] w (TpN w) := by
  obtain ⟨W3, hW3⟩ : ∃ W3, W3 = ((w.alloc (.cells #[.int .i64 (nn : Int), .slice none 0 0] 26)).alloc (.cells #[.int .i64 x.a, .int .i64 x.b, .int .i64 x.l, .bool x.t] 52)).alloc (.cells #[.int .i64 0, .int .i64 0] 28) := ⟨_, rfl⟩
  have G3 : Good w W3 := by rw [hW3]; exact (((Good.refl w).alloc _).alloc _).alloc _
  have X3 : Box7 W3 w.heap.size 26 (.int .i64 (nn : Int)) (.slice none 0 0) := by rw [hW3]; exact ((Box7.new w _ _ _ _ rfl).alloc _).alloc _
  have L3 : Box4 W3 (w.heap.size + 1) x := by rw [hW3]; exact (Box4.new _ x _ (by simp)).up ((Below.refl _ _).alloc (Nat.le_refl _) _)
  have R3 : Box7 W3 (w.heap.size + 2) 28 (.int .i64 0) (.int .i64 0) := by rw [hW3]; exact Box7.new _ _ _ _ _ (by simp)
  have HX : Hid (∀ u, Good W3 u → Box7 u w.heap.size 26 (.int .i64 (nn : Int)) (.slice none 0 0) ∧ Box4 u (w.heap.size + 1) x ∧ Box7 u (w.heap.size + 1 + 1) 28 (.int .i64 0) (.int .i64 0)) := fun u hu => ⟨X3.up hu, L3.up hu, R3.up hu⟩
  have HG3 := hideIt G3
  have HS := hideIt hS
  obtain ⟨_, _, q2, _⟩ := L3.cells
  clear hS X3 L3 R3 G3
  go_enter Tryz.func71, Tryz.ntmps71
  go_wp2
  go_step3
  go_wp2
  rw [← hW3]
  clear hW3 q2
  go_loopw [7] (fun lev wr => ∃ (l : Int), (-1 ≤ l ∧ l ≤ 4) ∧ lev = .int .i64 l ∧ Hid (Good W3 wr)) (fun lev _ => (intOf lev + 1).toNat)
  case atStart => exact ⟨x.l, by omega, rfl, Good.refl _⟩
  case round =>
    obtain ⟨l, hl, rfl, HG⟩ := hrel
    obtain ⟨bw, bl, br⟩ := HX.out wr HG.out
    by_cases hl0 : 0 ≤ l
    · obtain ⟨j, rfl⟩ : ∃ j : Nat, l = (j : Int) := ⟨l.toNat, by omega⟩
      have hj4 : (j : Int) ≤ 4 := hl.2
      clear hl hl0
      have hj0 : (0 : Int) ≤ (j : Int) := by omega
      have HLe : Hid (∀ u, Good wr u → Calls Tryz.prog 67 #[.agg #[.int .i64 x.a, .int .i64 x.b, .int .i64 x.l, .bool x.t]] u fun e w' => e = .returned (.agg #[.int .i64 x.a, .int .i64 x.b]) ∧ Good wr w') := fun u hu => (ledgeEdge_any x u).mono fun _ _ ⟨he, hb⟩ => ⟨he, hu.up hb⟩
      have HLt : Hid (∀ u, Good wr u → Calls Tryz.prog 154 #[.agg #[.int .i64 (nn : Int), .slice none 0 0], .agg #[.int .i64 x.a, .int .i64 x.b], .int .i64 (j : Int)] u fun e w' => ∃ gt m ct, e = .returned (.slice (some ⟨gt, 0, none⟩) m ct) ∧ Good wr w') := fun u hu => by
        obtain ⟨hts, hA⟩ := HS.out.trees (i := (j : Int)) hj0
        exact (lesserTree_any nn [] x.e (j : Int) 0 none 0 HS.out.g (fun y hy => (HS.out.l y hy).1) HS.out.br hj0 (lvT nn [] (j : Int)) hts hA he1 he2 u ⟨rfl, .inl rfl⟩).mono fun e w' ⟨gt, m, ct, h1, h2, h3, h4, h5⟩ => ⟨gt, m, ct, h1, hu.up h5⟩
      have HC : Hid (∀ u, Good wr u → ((u.cell? ⟨w.heap.size, 0, none⟩ = some (.int .i64 (nn : Int)) ∧ u.cell? ⟨w.heap.size, 1, none⟩ = some (.slice none 0 0)) ∧ (u.cell? ⟨w.heap.size + 1, 0, none⟩ = some (.int .i64 x.a) ∧ u.cell? ⟨w.heap.size + 1, 1, none⟩ = some (.int .i64 x.b) ∧ u.cell? ⟨w.heap.size + 1, 2, none⟩ = some (.int .i64 x.l) ∧ u.cell? ⟨w.heap.size + 1, 3, none⟩ = some (.bool x.t))) ∧ Good wr u) := fun u hu => ⟨⟨⟨(bw.up hu).cell0, (bw.up hu).cell1⟩, (bl.up hu).cells⟩, hu⟩
      have hS0 := HC.out _ (Good.refl wr).drew
      clear bw bl br
      go_upto_region 5 with fail
      go_region_held3 (fun u => ((u.cell? ⟨w.heap.size, 0, none⟩ = some (.int .i64 (nn : Int)) ∧ u.cell? ⟨w.heap.size, 1, none⟩ = some (.slice none 0 0)) ∧ (u.cell? ⟨w.heap.size + 1, 0, none⟩ = some (.int .i64 x.a) ∧ u.cell? ⟨w.heap.size + 1, 1, none⟩ = some (.int .i64 x.b) ∧ u.cell? ⟨w.heap.size + 1, 2, none⟩ = some (.int .i64 x.l) ∧ u.cell? ⟨w.heap.size + 1, 3, none⟩ = some (.bool x.t))) ∧ Good wr u)
        (first | with_reducible assumption)
        (first
          | (go_at_call 67; refine (HLe.out _ (And.right (by assumption))).mono ?_; rintro e w4 ⟨rfl, hg4⟩; have hS4 := HC.out _ hg4)
          | (go_at_call 154; refine (HLt.out _ (And.right (by assumption))).mono ?_; rintro e w5 ⟨gt, m, ct, rfl, hg5⟩; have hS5 := HC.out _ hg5))
      have ⟨⟨⟨_, cw⟩, _⟩, _⟩ := hS5
      have HRt := hideIt (raiseTree_nil (some ⟨gt, 0, none⟩) m ct (j : Int) w5)
      have HG5 := hideIt (HG.out.up hg5)
      clear hS4 hS5 hg4 hg5 HC HLe HLt HG hS0
      go_wp2_with (go_at_call 155; refine HRt.out.mono ?_; rintro e w6 ⟨rfl, hw6⟩; have hw6' := hw6.symm; subst hw6'; refine Hid.out ?_)
      refine (show ∀ {p : Prop}, p → Hid p from fun h => h) ?_
      go_wp2
      go_loopw [28] (fun q wz => q = .int .i64 0 ∧ wz = w5) (fun _ _ => 0)
      case atStart => exact ⟨rfl, rfl⟩
      case round =>
        obtain ⟨rfl, rfl⟩ := hrel
        go_wp2
        exact ⟨⟨(j : Int) - 1, by omega, rfl, HG5⟩, by simp [intOf]⟩
    · have hl1 : l = -1 := by omega
      subst hl1
      have r0 := br.cell0
      have r1 := br.cell1
      have r2 := br.frozen 0
      have r3 := br.frozen 1
      have s2 := br.set2 (.int .i64 0) (.int .i64 0)
      have s0 := s2.cell0
      have s1 := s2.cell1
      have HF : Hid (TpN w (.returned (.tuple #[.agg #[.int .i64 0, .int .i64 0], .bool false])) ((wr.setCell ⟨w.heap.size + 1 + 1, 0, none⟩ (.int .i64 0)).setCell ⟨w.heap.size + 1 + 1, 1, none⟩ (.int .i64 0))) :=
        ⟨rfl, (Below.setCell (HG3.out.up HG.out) (by show _ ≤ w.heap.size + 1 + 1; omega) _).setCell (by show _ ≤ w.heap.size + 1 + 1; omega) _⟩
      clear HG s2 br bw bl hl0 hl
      go_wp2
      rw [Exit.noGoto_ret]
      exact bodyPost_ret (v := .tuple #[.agg #[.int .i64 0, .int .i64 0], .bool false]) (by simp [results, Tryz.results71, go_sem, s0, s1]) rfl HF.out
/-- takePlace's answer, whether edges are left or not -/
def TpO (w : World) (base : Nat) (v : Value) (n : Nat) (r : List Ld × Option EdgeV) (e : Ending) (w' : World) : Prop :=
  e = .returned (.tuple #[.agg #[.int .i64 (r.2.getD (0, 0)).1, .int .i64 (r.2.getD (0, 0)).2], .bool r.2.isSome]) ∧ w'.ownsRow base 52 4 v n (lcells r.1) ∧ w.grownBy w' v.ownBlock
theorem takePlace_opt (nn : Nat) (ls : List Ld) (x : Ld) (base : Nat) (a : Option Addr) (n c : Nat) (hS : Stg nn ls) (hx : 0 ≤ x.l ∧ x.l ≤ 4) (he1 : 0 ≤ x.a ∧ x.a < (nn : Int)) (he2 : 0 ≤ x.b ∧ x.b < (nn : Int)) (hn : n ≤ 1048576) (w : World)
    (h : w.ownsRow base 52 4 (.slice a n c) n (lcells ls)) :
    Calls Tryz.prog 71 #[.agg #[.int .i64 (nn : Int), .slice a n c], .agg #[.int .i64 x.a, .int .i64 x.b, .int .i64 x.l, .bool x.t]] w (TpO w base (.slice a n c) n (tkO nn x.e (x.l.toNat + 1) ls)) := by
  rcases h.2 with ⟨hv, h0⟩ | ⟨g, cap, cur, hv, _⟩
  · simp at hv
    obtain ⟨rfl, _, rfl⟩ := hv
    subst h0
    have e0 : ls = [] := by
      have := h.1
      rw [lcells_length] at this
      exact List.length_eq_zero_iff.1 (by omega)
    subst e0
    refine (takePlace_nil nn x hS hx he1 he2 w).mono fun e w' ⟨h1, h2⟩ => ?_
    rw [tkO_nil]
    exact ⟨h1, World.ownsRow_nil _ _ _ _, grown_of_below h2 _⟩
  · simp at hv
    obtain ⟨rfl, rfl⟩ := hv
    exact takePlace_any nn ls x base g n c hS hx he1 he2 hn w h
end Go.Proofs.YtkkplppcgnikoaaGreat
