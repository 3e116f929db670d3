/- What a right web's ground tells: labels, together, height: pure. The specification's HeightOf. The program's HeightOf. The walk of FnExactHeightOf. A web that comes in. -/
import Derived.Test.YtgjngaaibcmgmacGreatKWb9
import Derived.Test.YtgjngaaibcmgmacGreatKSWo9
import Derived.Test.YtgjngaaibcmgmacGreatKBx7
import Derived.WalkKit
import Derived.ProofKit
import Derived.OpenShut
import Derived.ChangeOld
import Derived.ChangeArms
import Derived.Below
import Derived.ChangeSlices
namespace Go.Proofs.YtgjngaaibcmgmacGreat
open Go.RowKit

/-- the least vertex of each vertex's tour -/
def labW (ts : List (List Int)) (nn : Nat) : List Int := (List.range nn).map fun v : Nat => mnV ((ts[(trI ts (v : Int)).toNat]?).getD [])
theorem labW_len (ts : List (List Int)) (nn : Nat) : (labW ts nn).length = nn := by simp [labW]
theorem labW_at {es : List EdgeV} {nn : Nat} {ts : List (List Int)} (h : FtAll es nn ts) {v : Nat} (hv : v < nn) {t : List Int} (ht : t ∈ ts) (hvt : (v : Int) ∈ t) : (labW ts nn)[v]? = some (mnV t) := by
  obtain ⟨k, hk⟩ := List.mem_iff_getElem?.1 ht
  have e := trI_of h.fp.q hk hvt
  simp [labW, hv, e, hk]
/-- a list that tells each tour's first number for each of its vertices is that of the labels -/
theorem labW_of {es : List EdgeV} {nn : Nat} {ts : List (List Int)} (h : FtAll es nn ts) {L : List Int} (hl : L.length = nn) (hL : ∀ t ∈ ts, ∀ v : Nat, (v : Int) ∈ t → L[v]? = t[0]?) : L = labW ts nn := by
  apply List.ext_getElem?
  intro v
  by_cases hv : v < nn
  · obtain ⟨t, ht, hvt⟩ := h.cov (v : Int) (by omega) (by omega)
    rw [hL t ht v hvt, labW_at h hv ht hvt, ← List.head?_eq_getElem?]
    exact h.mn t ht
  · rw [List.getElem?_eq_none (by omega), List.getElem?_eq_none (by rw [labW_len]; omega)]
/-- the ground's trees -/
def gndT (N : Int) (ls : List Ld) : List (List Int) := (ftK (fE ls 0) N.toNat N.toNat).getD []
noncomputable def lbO (N : Int) (ls : List Ld) : List Int := @ite _ (WOk N ls) (Classical.propDecidable _) (labW (gndT N ls) N.toNat) []
theorem lbO_yes {nn : Nat} {ls : List Ld} (h : WOk (nn : Int) ls) {ts : List (List Int)} (hts : ftK (fE ls 0) nn nn = some ts) : lbO (nn : Int) ls = labW ts nn := by
  unfold lbO gndT; rw [if_pos h, Int.toNat_natCast, hts]; rfl
theorem lbO_no {N : Int} {ls : List Ld} (h : ¬ WOk N ls) : lbO N ls = [] := by unfold lbO; rw [if_neg h]
theorem lbO_len (N : Int) (ls : List Ld) : (lbO N ls).length ≤ 12 := by
  by_cases h : WOk N ls
  · obtain ⟨nn, rfl, _, h12⟩ := gB_n h.1
    unfold lbO
    rw [if_pos h, labW_len, Int.toNat_natCast]
    exact h12
  · rw [lbO_no h]; simp
/-- both are in one tree -/
noncomputable def tgB (N : Int) (ls : List Ld) (x y : Int) : Bool := @decide (WOk N ls ∧ (0 ≤ x ∧ x < N) ∧ (0 ≤ y ∧ y < N) ∧ trI (gndT N ls) x = trI (gndT N ls) y) (Classical.propDecidable _)
theorem tgB_iff {N : Int} {ls : List Ld} {x y : Int} : tgB N ls x y = true ↔ (WOk N ls ∧ (0 ≤ x ∧ x < N) ∧ (0 ≤ y ∧ y < N) ∧ trI (gndT N ls) x = trI (gndT N ls) y) := by
  unfold tgB; exact @decide_eq_true_iff _ (Classical.propDecidable _)
theorem tgB_is {N : Int} {ls : List Ld} {x y : Int} {b : Bool} (h : b = true ↔ (WOk N ls ∧ (0 ≤ x ∧ x < N) ∧ (0 ≤ y ∧ y < N) ∧ trI (gndT N ls) x = trI (gndT N ls) y)) : b = tgB N ls x y := by
  rw [Bool.eq_iff_iff, h, tgB_iff]
theorem gndT_is {nn : Nat} {ls : List Ld} {ts : List (List Int)} (hts : ftK (fE ls 0) nn nn = some ts) : gndT (nn : Int) ls = ts := by unfold gndT; rw [Int.toNat_natCast, hts]; rfl
/-- a right web's trees -/
theorem WOk.trees {nn : Nat} {ls : List Ld} (h : WOk (nn : Int) ls) (i : Nat) (hi : i < 5) : ∃ ts, ftK (fE ls (i : Int)) nn nn = some ts ∧ FtAll (fE ls (i : Int)) nn ts := by
  obtain ⟨ts, h1, _⟩ := h.2.2 i hi
  rw [Int.toNat_natCast] at h1
  have hg := (gB_chk h.1).1
  exact ⟨ts, h1, ft_all (fE_ends h.1 _) (by omega) (by omega) h1⟩
/-- the greatest level -/
def htK : List Ld → Int → Int
  | [], m => m
  | x :: r, m => htK r (if m < x.l then x.l else m)
noncomputable def htO (N : Int) (ls : List Ld) : Int := @ite _ (WOk N ls) (Classical.propDecidable _) (htK ls (-1)) (-1)
theorem htO_yes {N : Int} {ls : List Ld} (h : WOk N ls) : htO N ls = htK ls (-1) := by unfold htO; rw [if_pos h]
theorem htO_no {N : Int} {ls : List Ld} (h : ¬ WOk N ls) : htO N ls = -1 := by unfold htO; rw [if_neg h]
theorem htK_drop {ls : List Ld} {k : Nat} {x : Ld} (h : ls[k]? = some x) (m : Int) : htK (ls.drop k) m = htK (ls.drop (k + 1)) (if m < x.l then x.l else m) := by
  obtain ⟨hk, e⟩ := List.getElem?_eq_some_iff.1 h
  rw [List.drop_eq_getElem_cons hk, htK, e]
end Go.Proofs.YtgjngaaibcmgmacGreat
namespace Go.Proofs.YtgjngaaibcmgmacGreat
open Go.RowKit

set_option maxRecDepth 100000 in
set_option maxHeartbeats 4000000 in
theorem sHeightOf_any (N : Int) (ls : List Ld) (n : Nat) (a : Option Addr) (c : Nat) (hn : n ≤ 1048576) (w : World) (h : Ls w w.heap.size a n ls) :
    Calls Tryz.prog 5 #[.agg #[.int .i64 N, .slice a n c]] w fun e w' => e = .returned (.int .i64 (htO N ls)) ∧ Below w.heap.size w w' := by
  have hfa : Good w (wW w N a n c) := wW_good w N a n c
  have hlen := h.1
  have HR := hideIt (h.up hfa)
  have HO : Hid (∀ u, Good (wW w N a n c) u → Calls Tryz.prog 10 #[.agg #[.int .i64 N, .slice a n c]] u fun e w' => e = .returned (.bool (wB N ls)) ∧ Below u.heap.size u w') := fun u hu => sWebOk_any N ls n a c hn u (HR.out.up hu)
  have HC : Hid (∀ u, Good (wW w N a n c) u → u.cell? ⟨w.heap.size, 0, none⟩ = some (.int .i64 N) ∧ u.cell? ⟨w.heap.size, 1, none⟩ = some (.slice a n c)) := fun u hu => by
    unfold Good at hu
    rw [wW_size] at hu
    exact wW_cells hu
  by_cases hW : WOk N ls
  · rw [wB_yes hW] at HO
    have HV := hideIt (htO_yes hW)
    clear h hW
    go_enter Tryz.func5, Tryz.ntmps5
    go_wp2
    go_loopw [3, 4] (fun m i wr => ∃ (k : Nat) (y : Int), k ≤ n ∧ i = .int .i64 (k : Int) ∧ m = .int .i64 y ∧ Hid (htK (ls.drop k) y = htO N ls) ∧ Good (wW w N a n c) wr) (fun _ i _ => n - (intOf i).toNat)
    case atStart => exact ⟨0, -1, by omega, rfl, rfl, by show _ = _; rw [HV.out]; rfl, Good.refl _⟩
    case round =>
      obtain ⟨k, y, hk, rfl, rfl, HK, hg⟩ := hrel
      obtain ⟨cw0, cw1⟩ := HC.out wr hg
      by_cases hlt : k < n
      · have HO1 := hideIt (HO.out wr hg)
        have b1 : (0 : Int) ≤ (k : Int) := by omega
        have b2 : (k : Int) < (n : Int) := by omega
        have HG := hideIt hg
        clear hg
        go_wp2_with (go_at_call 10; refine HO1.out.mono ?_; rintro e w1 ⟨rfl, hb1⟩; refine Hid.out ?_)
        refine (show ∀ {p : Prop}, p → Hid p from fun h => h) ?_
        have g1 := HG.out.up hb1
        obtain ⟨b, off, x, rfl, hbl, hxk, hat⟩ := (HR.out.up g1).at hlt
        obtain ⟨cv0, cv1⟩ := HC.out w1 g1
        have e2 := hat.cl
        have hd := HK.out
        rw [htK_drop hxk] at hd
        clear cw0 cw1 HO1
        by_cases hyl : y < x.l
        · rw [if_pos hyl] at hd
          have HK2 : Hid (htK (ls.drop (k + 1)) x.l = htO N ls) := hd
          clear HK hd hxk hat
          go_wp2
          exact ⟨⟨k + 1, _, by omega, by go_num, rfl, HK2, g1⟩, by simp [intOf]; omega⟩
        · rw [if_neg hyl] at hd
          have HK2 : Hid (htK (ls.drop (k + 1)) y = htO N ls) := hd
          clear HK hd hxk hat
          go_wp2
          exact ⟨⟨k + 1, _, by omega, by go_num, rfl, HK2, g1⟩, by simp [intOf]; omega⟩
      · obtain rfl : k = n := by omega
        have HY : Hid (y = htO N ls) := by
          show _ = _
          have := HK.out
          rw [List.drop_eq_nil_of_le (by omega), htK] at this
          exact this
        clear HK
        go_wp2
        go_ret
        exact ⟨by rw [← HY.out]; rfl, hfa.up hg⟩
  · rw [wB_no hW] at HO
    have HV := hideIt (htO_no hW)
    clear h hW
    go_enter Tryz.func5, Tryz.ntmps5
    go_wp2
    go_loopw [3, 4] (fun m i wr => i = .int .i64 0 ∧ m = .int .i64 (-1) ∧ Good (wW w N a n c) wr) (fun _ i _ => n - (intOf i).toNat)
    case atStart => exact ⟨rfl, rfl, Good.refl _⟩
    case round =>
      obtain ⟨rfl, rfl, hg⟩ := hrel
      obtain ⟨cw0, cw1⟩ := HC.out wr hg
      by_cases hlt : 0 < n
      · have b2 : (0 : Int) < (n : Int) := by omega
        have HO1 := hideIt (HO.out wr hg)
        have HG := hideIt hg
        clear hg
        go_wp2_with (go_at_call 10; refine HO1.out.mono ?_; rintro e w1 ⟨rfl, hb1⟩)
        go_ret
        exact ⟨by rw [HV.out]; rfl, hfa.up (HG.out.up hb1)⟩
      · obtain rfl : n = 0 := by omega
        go_wp2
        go_ret
        exact ⟨by rw [HV.out]; rfl, hfa.up hg⟩
end Go.Proofs.YtgjngaaibcmgmacGreat
namespace Go.Proofs.YtgjngaaibcmgmacGreat
open Go.RowKit

set_option maxRecDepth 100000 in
set_option maxHeartbeats 4000000 in
theorem iHeightOf_any (N : Int) (ls : List Ld) (n : Nat) (a : Option Addr) (c : Nat) (hn : n ≤ 1048576) (w : World) (h : Ls w w.heap.size a n ls) :
    Calls Tryz.prog 7 #[.agg #[.int .i64 N, .slice a n c]] w fun e w' => e = .returned (.int .i64 (htO N ls)) ∧ Below w.heap.size w w' := by
  have hfa : Good w (wW w N a n c) := wW_good w N a n c
  have HO := iWebOk_any N ls n a c hn _ (h.up hfa)
  have hlen := h.1
  have HR := hideIt (h.up hfa)
  by_cases hW : WOk N ls
  · rw [wB_yes hW] at HO
    have HO := hideIt HO
    have HV := hideIt (htO_yes hW)
    clear h hW
    go_enter Tryz.func7, Tryz.ntmps7
    go_wp2_with (go_at_call 12; refine HO.out.mono ?_; rintro e w1 ⟨rfl, hb1⟩; refine Hid.out ?_)
    refine (show ∀ {p : Prop}, p → Hid p from fun h => h) ?_
    have G1 : Good (wW w N a n c) w1 := hb1
    rw [wW_size] at hb1
    obtain ⟨cw0, cw1⟩ := wW_cells hb1
    clear HO hb1
    go_wp2
    go_loopw [3, 11] (fun m i wr => ∃ (k : Nat) (y : Int), k ≤ n ∧ i = .int .i64 (k : Int) ∧ m = .int .i64 y ∧ Hid (htK (ls.drop k) y = htO N ls) ∧ Good (wW w N a n c) wr) (fun _ i _ => n - (intOf i).toNat)
    case atStart => exact ⟨0, -1, by omega, rfl, rfl, by show _ = _; rw [HV.out]; rfl, G1⟩
    case round =>
      obtain ⟨k, y, hk, rfl, rfl, HK, hg⟩ := hrel
      clear G1 cw0 cw1
      by_cases hlt : k < n
      · obtain ⟨b, off, x, rfl, hbl, hxk, hat⟩ := (HR.out.up hg).at hlt
        have e0 := hat.ca
        have e1 := hat.cb
        have e2 := hat.cl
        have e3 := hat.ct
        have b1 : (0 : Int) ≤ (k : Int) := by omega
        have b2 : (k : Int) < (n : Int) := by omega
        have HGa := hideIt (hg.alloc (.cells #[.int .i64 x.a, .int .i64 x.b, .int .i64 x.l, .bool x.t] 36))
        have hd := HK.out
        rw [htK_drop hxk] at hd
        by_cases hyl : y < x.l
        · rw [if_pos hyl] at hd
          have HK2 : Hid (htK (ls.drop (k + 1)) x.l = htO N ls) := hd
          have hm : max y x.l = x.l := by omega
          clear HK hd hxk hat hg
          go_wp2
          exact ⟨⟨k + 1, _, by omega, by go_num, by first | rfl | (congr 1; omega), HK2, HGa.out⟩, by simp [intOf]; omega⟩
        · rw [if_neg hyl] at hd
          have HK2 : Hid (htK (ls.drop (k + 1)) y = htO N ls) := hd
          have hm : max y x.l = y := by omega
          clear HK hd hxk hat hg
          go_wp2
          exact ⟨⟨k + 1, _, by omega, by go_num, by first | rfl | (congr 1; omega), HK2, HGa.out⟩, by simp [intOf]; omega⟩
      · obtain rfl : k = n := by omega
        have HY : Hid (y = htO N ls) := by
          show _ = _
          have := HK.out
          rw [List.drop_eq_nil_of_le (by omega), htK] at this
          exact this
        clear HK
        go_wp2
        go_ret
        exact ⟨by rw [← HY.out]; rfl, hfa.up hg⟩
  · rw [wB_no hW] at HO
    have HO := hideIt HO
    have HV := hideIt (htO_no hW)
    clear h hW
    go_enter Tryz.func7, Tryz.ntmps7
    go_wp2_with (go_at_call 12; refine HO.out.mono ?_; rintro e w1 ⟨rfl, hb1⟩)
    go_ret
    exact ⟨by rw [HV.out]; rfl, hfa.up hb1⟩
end Go.Proofs.YtgjngaaibcmgmacGreat
namespace Go.Proofs.YtgjngaaibcmgmacGreat
open Go.RowKit

set_option maxRecDepth 100000 in
set_option maxHeartbeats 4000000 in
theorem fnExactHeightOf.walk (N : Int) (_hN : (Lit.int .i64 N).wf = true) (ls : List Ld) (n : Nat) (a : Option Addr) (c : Nat) (hn : n ≤ maxLen) (w : World) (h : Ls w w.heap.size a n ls) :
    Calls Tryz.prog 3 #[.agg #[.int .i64 N, .slice a n c]] w fun e w' => e = .returned (.bool true) ∧ Below w.heap.size w w' := by
  have b0 : Good w (w.alloc (.cells #[.int .i64 N, .slice a n c] 24)) := (Good.refl w).alloc _
  have HS := hideIt (szWeb_any N n a c hn (w.alloc (.cells #[.int .i64 N, .slice a n c] 24)))
  have HB0 := hideIt b0
  have HA := hideIt (h.up b0)
  have HC0 : Hid (∀ u, Good (w.alloc (.cells #[.int .i64 N, .slice a n c] 24)) u → u.cell? ⟨w.heap.size, 0, none⟩ = some (.int .i64 N) ∧ u.cell? ⟨w.heap.size, 1, none⟩ = some (.slice a n c)) := fun u hu => ⟨by rw [hu.cell (by simp)]; simp, by rw [hu.cell (by simp)]; simp⟩
  clear h b0
  by_cases g1 : n ≤ 1048576
  · have d1 : decide (szw n < 0) = false := decide_eq_false (by unfold szw; rw [if_pos g1]; omega)
    have HT := hideIt (fun u (hu : Good (w.alloc (.cells #[.int .i64 N, .slice a n c] 24)) u) => toWeb_any N ls n a c g1 u (HA.out.up hu))
    obtain ⟨r, HRs, HRi⟩ : ∃ r : Int, Hid (∀ u g, Good (w.alloc (.cells #[.int .i64 N, .slice a n c] 24)) u → Ls u u.heap.size (some ⟨g, 0, none⟩) n ls → Calls Tryz.prog 5 #[.agg #[.int .i64 N, .slice (some ⟨g, 0, none⟩) n n]] u fun e v => e = .returned (.int .i64 r) ∧ Good u v) ∧ Hid (∀ u g, Good (w.alloc (.cells #[.int .i64 N, .slice a n c] 24)) u → Ls u u.heap.size (some ⟨g, 0, none⟩) n ls → Calls Tryz.prog 7 #[.agg #[.int .i64 N, .slice (some ⟨g, 0, none⟩) n n]] u fun e v => e = .returned (.int .i64 r) ∧ Good u v) :=
      ⟨htO N ls, fun u g _ hT => sHeightOf_any N ls n _ n g1 u hT, fun u g _ hT => iHeightOf_any N ls n _ n g1 u hT⟩
    have dr : (r != r) = false := by simp
    generalize szw n = z at *
    go_enter Tryz.func3, Tryz.ntmps3
    go_wp2_with (go_at_call 4; refine HS.out.mono ?_; rintro e w2 ⟨rfl, hg2⟩; refine Hid.out ?_)
    refine (show ∀ {p : Prop}, p → Hid p from fun h => h) ?_
    have G2 : Good (w.alloc (.cells #[.int .i64 N, .slice a n c] 24)) w2 := hg2
    obtain ⟨k0, k1⟩ := HC0.out w2 G2
    have HT2 := hideIt (HT.out w2 G2)
    clear HS hg2
    go_wp2_with (go_at_call 6; refine HT2.out.mono ?_; rintro e w3 ⟨g3, rfl, F3, hb3⟩; refine Hid.out ?_)
    refine (show ∀ {p : Prop}, p → Hid p from fun h => h) ?_
    have G3 := G2.up hb3
    have HS3 := hideIt (HRs.out w3 g3 G3 (Ls_of_own F3))
    clear HT2 F3 hb3 k0 k1 G2
    go_wp2_with (go_at_call 5; refine HS3.out.mono ?_; rintro e w4 ⟨rfl, hg4⟩; refine Hid.out ?_)
    refine (show ∀ {p : Prop}, p → Hid p from fun h => h) ?_
    have G4 := G3.up hg4
    obtain ⟨k0, k1⟩ := HC0.out w4 G4
    have HT4 := hideIt (HT.out w4 G4)
    clear HS3 hg4 G3
    go_wp2_with (go_at_call 6; refine HT4.out.mono ?_; rintro e w5 ⟨g5, rfl, F5, hb5⟩; refine Hid.out ?_)
    refine (show ∀ {p : Prop}, p → Hid p from fun h => h) ?_
    have G5 := G4.up hb5
    have HX5 := hideIt (Ls_of_own F5)
    have bx : Good w5 (w5.alloc (.cells #[.int .i64 N, .slice (some ⟨g5, 0, none⟩) n n] 29)) := (Good.refl w5).alloc _
    have HI5 := hideIt (HRi.out _ g5 (G5.up bx) (HX5.out.up bx))
    have HB5 := hideIt bx
    clear HT4 F5 hb5 k0 k1 G4 bx
    go_wp2_with (go_at_call 7; refine HI5.out.mono ?_; rintro e w6 ⟨rfl, hg6⟩; refine Hid.out ?_)
    refine (show ∀ {p : Prop}, p → Hid p from fun h => h) ?_
    have G6 := hideIt (G5.up (HB5.out.up hg6))
    have X6 := hideIt (HX5.out.up (HB5.out.up hg6))
    have HC6 : Hid (∀ u, Good w6 u → (u.cell? ⟨w5.heap.size, 0, none⟩ = some (.int .i64 N) ∧ u.cell? ⟨w5.heap.size, 1, none⟩ = some (.slice (some ⟨g5, 0, none⟩) n n)) ∧ u.cell? ⟨w.heap.size, 0, none⟩ = some (.int .i64 N) ∧ u.cell? ⟨w.heap.size, 1, none⟩ = some (.slice a n c)) := fun u hu =>
      ⟨⟨by rw [Good.cell (Good.up hg6 hu) (by simp)]; simp, by rw [Good.cell (Good.up hg6 hu) (by simp)]; simp⟩, HC0.out u (G6.out.up hu)⟩
    have HT6 := hideIt (fun u (hu : Good w6 u) => (HT.out u (G6.out.up hu)).mono fun e v ⟨g7, he, F7, hb7⟩ => (show ∃ g, e = Ending.returned (.agg #[.int .i64 N, .slice (some ⟨g, 0, none⟩) n n]) ∧ Ls v v.heap.size (some ⟨g, 0, none⟩) n ls ∧ Good w6 v from ⟨g7, he, Ls_of_own F7, hu.up hb7⟩))
    have HE6 := hideIt (fun u g' (hu : Good w6 u) (hT : Ls u u.heap.size (some ⟨g', 0, none⟩) n ls) => (eqWeb_same N ls n _ _ n n g1 u (X6.out.up hu) hT).mono fun e v ⟨he, hb⟩ => (show e = Ending.returned (.bool true) ∧ Good w6 v from ⟨he, hu.up hb⟩))
    have S6 := (Good.refl w6).drew
    have hS6 := HC6.out _ S6
    clear HI5 hg6 G5 HB5 HX5
    go_wp2
    go_region_held3 (fun u => (u.cell? ⟨w5.heap.size, 0, none⟩ = some (.int .i64 N) ∧ u.cell? ⟨w5.heap.size, 1, none⟩ = some (.slice (some ⟨g5, 0, none⟩) n n)) ∧ u.cell? ⟨w.heap.size, 0, none⟩ = some (.int .i64 N) ∧ u.cell? ⟨w.heap.size, 1, none⟩ = some (.slice a n c))
      (first | assumption)
      (first
      | (go_at_call 6; refine (HT6.out _ S6).mono ?_; rintro e w7 ⟨g7, rfl, f7, S7⟩; have hS7 := HC6.out _ S7)
      | (go_at_call 8; refine (HE6.out _ g7 S7 f7).mono ?_; rintro e w8 ⟨rfl, S8⟩; have hS8 := HC6.out _ S8))
    go_wp2
    go_ret
    exact ⟨rfl, HB0.out.up (G6.out.up S8)⟩
  · have HV : Hid (szw n = -1) := by show _ = _; unfold szw; rw [if_neg g1]
    have d1 : decide (szw n < 0) = true := decide_eq_true (by have := HV.out; omega)
    generalize szw n = z at *
    go_enter Tryz.func3, Tryz.ntmps3
    go_wp2_with (go_at_call 4; refine HS.out.mono ?_; rintro e w2 ⟨rfl, hg2⟩)
    go_ret
    exact ⟨rfl, HB0.out.up hg2⟩
end Go.Proofs.YtgjngaaibcmgmacGreat
namespace Go.Proofs.YtgjngaaibcmgmacGreat
open Go.RowKit Go.ChangeShapes Go.WideShapes Go.ChangeAt

theorem two7 {α : Type} {l : List α} (h : l.length = 2) : ∃ a b, l = [a, b] := by
  match l, h with
  | [a, b], _ => exact ⟨a, b, rfl⟩
theorem four9 {α : Type} {l : List α} (h : l.length = 4) : ∃ a b c d, l = [a, b, c, d] := by
  match l, h with
  | [a, b, c, d], _ => exact ⟨a, b, c, d, rfl⟩
theorem open_ledge1 {H : Type} {enc : TypeId × Value → H} {W : World} {fuel : Nat} {cs : List Value} {y : DataW H × List MemPlace}
    (h : DataW.trod enc Tryz.prog W 0 (fun _ => true) true fuel 54 cs = some y) : ∃ x : Ld, cs = [.int .i64 x.a, .int .i64 x.b, .int .i64 x.l, .bool x.t] := by
  obtain ⟨xs, n, _, _, hl, hlen, hf⟩ := DataW.trod_struct Tryz.underlying54 h
  rw [show Tryz.prog.cellsOf 54 = 4 by kernel_rfl] at hl
  obtain ⟨c0, c1, c2, c3, rfl⟩ := four9 hl
  have h0 : DataW.trod enc Tryz.prog W 0 (fun _ => true) true n 3 (([c0, c1, c2, c3].drop 0).take (Tryz.prog.cellsOf 3)) = xs[0]? := hf 0 _ rfl
  have h1 : DataW.trod enc Tryz.prog W 0 (fun _ => true) true n 3 (([c0, c1, c2, c3].drop 1).take (Tryz.prog.cellsOf 3)) = xs[1]? := hf 1 _ rfl
  have h2 : DataW.trod enc Tryz.prog W 0 (fun _ => true) true n 3 (([c0, c1, c2, c3].drop 2).take (Tryz.prog.cellsOf 3)) = xs[2]? := hf 2 _ rfl
  have h3 : DataW.trod enc Tryz.prog W 0 (fun _ => true) true n 4 (([c0, c1, c2, c3].drop 3).take (Tryz.prog.cellsOf 4)) = xs[3]? := hf 3 _ rfl
  rw [show Tryz.prog.cellsOf 3 = 1 by kernel_rfl] at h0 h1 h2
  rw [show Tryz.prog.cellsOf 4 = 1 by kernel_rfl] at h3
  have g : ∀ i, i < 4 → ∃ z, xs[i]? = some z := fun i hi => ⟨xs[i]'(by simp at hlen; omega), List.getElem?_eq_getElem _⟩
  obtain ⟨z0, e0⟩ := g 0 (by omega)
  obtain ⟨z1, e1⟩ := g 1 (by omega)
  obtain ⟨z2, e2⟩ := g 2 (by omega)
  obtain ⟨z3, e3⟩ := g 3 (by omega)
  rw [e0] at h0
  rw [e1] at h1
  rw [e2] at h2
  rw [e3] at h3
  obtain ⟨k0, hk0, _⟩ := DataW.trod_int Tryz.underlying3 h0
  obtain ⟨k1, hk1, _⟩ := DataW.trod_int Tryz.underlying3 h1
  obtain ⟨k2, hk2, _⟩ := DataW.trod_int Tryz.underlying3 h2
  obtain ⟨k3, hk3, _⟩ := DataW.trod_bool Tryz.underlying4 h3
  simp at hk0 hk1 hk2 hk3
  subst hk0 hk1 hk2 hk3
  exact ⟨⟨k0, k1, k2, k3⟩, rfl⟩
theorem open_ledgeS {H : Type} {enc : TypeId × Value → H} {W : World} {a : Option Addr} {len cap fuel : Nat} {x : DataW H × List MemPlace}
    (h : DataW.trod enc Tryz.prog W 0 (fun _ => true) true fuel 22 [.slice a len cap] = some x) : len ≤ maxLen ∧ ∃ ls : List Ld, Ls W W.heap.size a len ls := by
  rcases DataW.trod_slice Tryz.underlying22 h with ⟨hcs, _⟩ | ⟨ad, l, c, elems, rest, n, _, hcs, _, _, hlc, hm, hel, hei, _, _⟩
  · simp at hcs
    obtain ⟨rfl, rfl, rfl⟩ := hcs
    exact ⟨by unfold maxLen; omega, [], ⟨rfl, .inl rfl⟩⟩
  · simp at hcs
    obtain ⟨rfl, rfl, rfl⟩ := hcs
    refine ⟨by omega, ?_⟩
    have each : ∀ i, i < len → ∃ x : Ld, W.cell? ((ad.add (i * 4)).add 0) = some (.int .i64 x.a) ∧ W.cell? ((ad.add (i * 4)).add 1) = some (.int .i64 x.b) ∧ W.cell? ((ad.add (i * 4)).add 2) = some (.int .i64 x.l) ∧ W.cell? ((ad.add (i * 4)).add 3) = some (.bool x.t) := by
      intro i hi
      have h1 := hei i hi
      obtain ⟨y, hy⟩ : ∃ y, elems[i]? = some y := ⟨elems[i]'(by omega), List.getElem?_eq_getElem _⟩
      rw [hy, Option.bind_eq_some_iff] at h1
      obtain ⟨cs', hc, ht⟩ := h1
      obtain ⟨x, rfl⟩ := open_ledge1 ht
      rw [show Tryz.prog.cellsOf 54 = 4 by kernel_rfl] at hc
      have hcell := (World.cells?_some hc).2.2
      exact ⟨x, by simpa using hcell 0 (by omega), by simpa using hcell 1 (by omega), by simpa using hcell 2 (by omega), by simpa using hcell 3 (by omega)⟩
    by_cases h0 : len = 0
    · subst h0
      exact ⟨[], ⟨rfl, .inl rfl⟩⟩
    · obtain ⟨f0, hc0, _⟩ := each 0 (by omega)
      obtain ⟨b, off, spot⟩ := ad
      have hspot : spot = none := by simpa [Addr.add] using World.cell?_spot hc0
      subst hspot
      have hb : b < W.heap.size := by
        have := World.block_lt_of_cell? W _ hc0
        simpa [Addr.add] using this
      obtain ⟨F, hF⟩ := Classical.axiomOfChoice (fun i : Fin len => each i.1 i.2)
      refine ⟨List.ofFn F, ⟨by simp, .inr ⟨b, off, rfl, hb, fun j f hf => ?_⟩⟩⟩
      obtain ⟨hj, rfl⟩ := List.getElem?_eq_some_iff.1 hf
      have hj' : j < len := by simpa using hj
      obtain ⟨c0, c1, c2, c3⟩ := hF ⟨j, hj'⟩
      rw [add_plain, add_plain] at c0 c1 c2 c3
      simp only [List.getElem_ofFn]
      exact ⟨c0, c1, c2, c3⟩
set_option maxRecDepth 100000 in
/-- a web that comes in -/
theorem open_web {H : Type} {enc : TypeId × Value → H} {W : World} {r : Reach} {base : Nat} {v : Value} {d : DataW H} {p : List MemPlace}
    (hv : Value.okWide Tryz.prog W r base 24 v) (h : DataW.Trod enc Tryz.prog W 0 (fun _ => true) true 24 v d p) :
    ∃ (N : Int) (a : Option Addr) (n c : Nat) (ls : List Ld), v = .agg #[.int .i64 N, .slice a n c] ∧ (Lit.int .i64 N).wf = true ∧ n ≤ maxLen ∧ Ls W W.heap.size a n ls := by
  obtain ⟨cs, rfl, hcs⟩ := okWide_struct Tryz.underlying24 hv
  obtain ⟨fuel, hf⟩ := h
  obtain ⟨xs, n, _, _, hl, hlen, hfi⟩ := DataW.trod_struct Tryz.underlying24 hf
  rw [show Tryz.prog.cellsOf 24 = 2 by kernel_rfl] at hcs hl
  obtain ⟨l⟩ := cs
  obtain ⟨c0, c1, rfl⟩ := two7 (by simpa using hcs : l.length = 2)
  have ec : (Value.agg (List.toArray [c0, c1])).cells.toList = [c0, c1] := by simp [Value.cells]
  rw [ec] at hfi
  have h0 : DataW.trod enc Tryz.prog W 0 (fun _ => true) true n 3 (([c0, c1].drop 0).take (Tryz.prog.cellsOf 3)) = xs[0]? := hfi 0 _ rfl
  have h1 : DataW.trod enc Tryz.prog W 0 (fun _ => true) true n 22 (([c0, c1].drop 1).take (Tryz.prog.cellsOf 22)) = xs[1]? := hfi 1 _ rfl
  rw [show Tryz.prog.cellsOf 3 = 1 by kernel_rfl] at h0
  rw [show Tryz.prog.cellsOf 22 = 1 by kernel_rfl] at h1
  have g : ∀ i, i < 2 → ∃ z, xs[i]? = some z := fun i hi => ⟨xs[i]'(by simp at hlen; omega), List.getElem?_eq_getElem _⟩
  obtain ⟨z0, e0⟩ := g 0 (by omega)
  obtain ⟨z1, e1⟩ := g 1 (by omega)
  rw [e0] at h0
  rw [e1] at h1
  obtain ⟨k0, hk0, _, w0⟩ := DataW.trod_int Tryz.underlying3 h0
  simp at hk0
  subst hk0
  have h1' : DataW.trod enc Tryz.prog W 0 (fun _ => true) true n 22 [c1] = some z1 := by simpa using h1
  rcases DataW.trod_slice Tryz.underlying22 h1' with ⟨hx, _⟩ | ⟨ad, l, c, _, _, _, _, hx, _⟩
  · simp at hx
    subst hx
    obtain ⟨q1, fs, q2⟩ := open_ledgeS h1'
    exact ⟨k0, _, _, _, fs, rfl, w0, q1, q2⟩
  · simp at hx
    subst hx
    obtain ⟨q1, fs, q2⟩ := open_ledgeS h1'
    exact ⟨k0, _, _, _, fs, rfl, w0, q1, q2⟩
end Go.Proofs.YtgjngaaibcmgmacGreat
