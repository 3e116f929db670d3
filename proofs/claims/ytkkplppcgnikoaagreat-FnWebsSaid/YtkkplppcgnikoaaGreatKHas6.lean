/- A drawn region walked state by state: what is shown of a state once serves wherever the walk comes to it. The program's WebTake. What WebAdd and WebTake leave of a right web: its graph, its levels, what hangs together; pure. What WebTake leaves of trees and levels; pure. sameWeb: a web is the same as itself, laid elsewhere. Whether an edge is in a list: the law's own look. -/
import Derived.Test.YtkkplppcgnikoaaGreatKTourP
import Derived.Test.YtkkplppcgnikoaaGreatKRw12
import Derived.Test.YtkkplppcgnikoaaGreatKDt12
import Derived.Test.YtkkplppcgnikoaaGreatKLb9
import Derived.Test.YtkkplppcgnikoaaGreatKSPl9
import Derived.Test.YtkkplppcgnikoaaGreatKBx7
namespace Go.Proofs.YtkkplppcgnikoaaGreat
open Go.RowKit

structure Bx (T : Prop) : Prop where
  out : T
theorem viaT {T G : Prop} (main : Bx T → G) (p : T) : G := main ⟨p⟩
theorem hidp {p : Prop} (h : p) : Hid p := h
theorem lstH {P : Program} {md : Region.Mode} {ops : Array Oper} {Q : Exit → Go.Act → World → Prop} {S : World → Prop} {fuel : Nat} {l l' : Array Bool} {a : Go.Act} {w : World} (h : l = l') (H : wpAnyH P md ops Q S fuel l' a w) : wpAnyH P md ops Q S fuel l a w := h ▸ H
end Go.Proofs.YtkkplppcgnikoaaGreat
namespace Go.Proofs.YtkkplppcgnikoaaGreat
open Go.RowKit

theorem keepP {u v : World} {bs : Nat} {x y : Value} (h : (u.cell? ⟨bs, 0, none⟩ = some x ∧ u.cell? ⟨bs, 1, none⟩ = some y) ∧ bs < u.heap.size) (hb : Below u.heap.size u v) : (v.cell? ⟨bs, 0, none⟩ = some x ∧ v.cell? ⟨bs, 1, none⟩ = some y) ∧ bs < v.heap.size := by
  rw [hb.cell h.2, hb.cell h.2]
  exact ⟨h.1, Nat.lt_of_lt_of_le h.2 hb.size⟩
section
variable {W u : World} {b9 b10 : Nat} {y : Ld} {v0 v1 : Value} {a' : Option Addr} {m' c' : Nat} {L : List Ld}
theorem own_at {w : World} {B e s n b j : Nat} {v u : Value} {xs : List Value} (h : w.ownsRow B e s v n xs) (hne : v.ownBlock ≠ some b) : (w.setCell ⟨b, j, none⟩ u).ownsRow B e s v n xs :=
  h.kept (grownSet w b j u) (.inr hne)
theorem ob_ne (h : ∀ g, a' = some ⟨g, 0, none⟩ → g ≠ b9) {u : World} {B e s n : Nat} {xs : List Value} (ho : u.ownsRow B e s (.slice a' m' c') n xs) : (Value.slice a' m' c').ownBlock ≠ some b9 := fun e => by
  rcases ho.2 with ⟨hv, _⟩ | ⟨g, cap, cur, hv, _⟩
  · simp at hv
    rw [hv.1] at e
    simp [Value.ownBlock] at e
  · simp at hv
    rw [hv.1] at e
    simp [Value.ownBlock] at e
    exact h g hv.1 e
/-- the lost edge is laid into its box -/
theorem tk_one (GU : Good W u) (B9 : Box4 u b9 y) (B10 : Box7 u b10 26 v0 v1) (RW : u.ownsRow W.heap.size 52 4 (.slice a' m' c') m' (lcells L)) (L9 : W.heap.size ≤ b9) (NE : b9 ≠ b10) (N9 : ∀ g, a' = some ⟨g, 0, none⟩ → g ≠ b9) (x : Ld) :
    Good W ((((u.setCell ⟨b9, 0, none⟩ (.int .i64 x.a)).setCell ⟨b9, 1, none⟩ (.int .i64 x.b)).setCell ⟨b9, 2, none⟩ (.int .i64 x.l)).setCell ⟨b9, 3, none⟩ (.bool x.t)) ∧ Box4 ((((u.setCell ⟨b9, 0, none⟩ (.int .i64 x.a)).setCell ⟨b9, 1, none⟩ (.int .i64 x.b)).setCell ⟨b9, 2, none⟩ (.int .i64 x.l)).setCell ⟨b9, 3, none⟩ (.bool x.t)) b9 x ∧ Box7 ((((u.setCell ⟨b9, 0, none⟩ (.int .i64 x.a)).setCell ⟨b9, 1, none⟩ (.int .i64 x.b)).setCell ⟨b9, 2, none⟩ (.int .i64 x.l)).setCell ⟨b9, 3, none⟩ (.bool x.t)) b10 26 v0 v1 ∧ ((((u.setCell ⟨b9, 0, none⟩ (.int .i64 x.a)).setCell ⟨b9, 1, none⟩ (.int .i64 x.b)).setCell ⟨b9, 2, none⟩ (.int .i64 x.l)).setCell ⟨b9, 3, none⟩ (.bool x.t)).ownsRow W.heap.size 52 4 (.slice a' m' c') m' (lcells L) :=
  ⟨Good.set4 GU _ _ _ _ _ L9, B9.set4 x, (((B10.setOther _ NE.symm).setOther _ NE.symm).setOther _ NE.symm).setOther _ NE.symm, own_at (own_at (own_at (own_at RW (ob_ne N9 RW)) (ob_ne N9 RW)) (ob_ne N9 RW)) (ob_ne N9 RW)⟩
/-- and the web without it -/
theorem tk_two {x : Ld} (h : Good W u ∧ Box4 u b9 x ∧ Box7 u b10 26 v0 v1 ∧ u.ownsRow W.heap.size 52 4 (.slice a' m' c') m' (lcells L)) (L9 : W.heap.size ≤ b9) (L10 : W.heap.size ≤ b10) (NE : b9 ≠ b10) (N9 : ∀ g, a' = some ⟨g, 0, none⟩ → g ≠ b9) (N10 : ∀ g, a' = some ⟨g, 0, none⟩ → g ≠ b10) (N : Int) :
    Tk5 W ((u.setCell ⟨b10, 0, none⟩ (.int .i64 N)).setCell ⟨b10, 1, none⟩ (.slice a' m' c')) b9 b10 x N a' m' c' L :=
  ⟨Good.set2 h.1 _ _ _ L10, (h.2.1.setOther _ NE).setOther _ NE, h.2.2.1.set2 _ _, own_at (own_at h.2.2.2 (ob_ne N10 h.2.2.2)) (ob_ne N10 h.2.2.2), L9, L10, fun g hg => ⟨N9 g hg, N10 g hg⟩⟩
end
theorem wta_drew {w u : World} {N : Int} {o : Option (List Ld × Option EdgeV)} {e : Ending} (h : WtA w N o e u) : WtA w N o e u.drew := by
  obtain ⟨a, m, c, h1, h2, h3⟩ := h
  exact ⟨a, m, c, h1, h2, h3.drew⟩
theorem good_grown {W u v : World} {row : Option Nat} (h : Good W u) (hg : u.grownBy v row) (hr : ∀ g, row = some g → W.heap.size ≤ g) : Good W v :=
  ⟨hg.os.trans h.os, hg.tape.trans h.tape, hg.output.trans h.output, Nat.le_trans h.size hg.size, fun k hk => (hg.block k (Nat.lt_of_lt_of_le hk h.size) (fun e => by have := hr k e.symm; omega)).trans (h.block k hk)⟩

set_option maxRecDepth 100000 in
set_option maxHeartbeats 8000000 in
theorem iWebTake_any (N : Int) (ls : List Ld) (f : EdgeV) (n : Nat) (a : Option Addr) (c : Nat) (hsl : Sl a n c) (hn : n ≤ 1048576) (w : World) (h : Ls w w.heap.size a n ls) :
    Calls Tryz.prog 14 #[.agg #[.int .i64 N, .slice a n c], .agg #[.int .i64 f.1, .int .i64 f.2]] w fun e w' => WtA w N (wtO N ls f) e w' := by
  have hA : Hid (∀ u, In4 w N a n c f u → Ls u u.heap.size a n ls) := fun u hu => h.up hu.below
  have HGr : Hid (∀ u, In4 w N a n c f u → Calls Tryz.prog 12 #[.agg #[.int .i64 N, .slice a n c]] u fun e v => ∃ g, e = .returned (.agg #[.int .i64 N, .slice (some ⟨g, 0, none⟩) n n]) ∧ Hid (Es v v.heap.size (some ⟨g, 0, none⟩) n (gE ls)) ∧ In4 w N a n c f v) := fun u hu =>
    (iGraphOf_any N ls n a c hn u (hA.out u hu)).mono fun _ _ ⟨g, he, ho, hb⟩ => ⟨g, he, Es_of_own ho, hu.up hb⟩
  obtain ⟨I, hI⟩ : ∃ I, I = idxE (gE ls) f := ⟨_, rfl⟩
  have HIx : Hid (∀ g u, In4 w N a n c f u → Hid (Es u u.heap.size (some ⟨g, 0, none⟩) n (gE ls)) → Calls Tryz.prog 69 #[.slice (some ⟨g, 0, none⟩) n n, .agg #[.int .i64 f.1, .int .i64 f.2]] u fun e v => e = .returned (.int .i64 I) ∧ In4 w N a n c f v) := fun g u hu he =>
    (Index_any (gE ls) f n (some ⟨g, 0, none⟩) n hn u he.out).mono fun _ _ ⟨h1, h2⟩ => ⟨by rw [h1, hI], hu.up h2⟩
  have HOk : Hid (∀ u, In4 w N a n c f u → Calls Tryz.prog 18 #[.agg #[.int .i64 N, .slice a n c]] u fun e v => e = .returned (.bool (wB N ls)) ∧ In4 w N a n c f v) := fun u hu =>
    (iWebOk_any N ls n a c hn u (hA.out u hu)).mono fun _ _ ⟨he, hb⟩ => ⟨he, hu.up hb⟩
  have HI := hideIt hI
  have S1 := In4.start w N a n c f
  have HK : Hid (∀ u, In4 w N a n c f u → ((u.cell? ⟨w.heap.size, 0, none⟩ = some (.int .i64 N) ∧ u.cell? ⟨w.heap.size, 1, none⟩ = some (.slice a n c)) ∧ (u.cell? ⟨w.heap.size + 1, 0, none⟩ = some (.int .i64 f.1) ∧ u.cell? ⟨w.heap.size + 1, 1, none⟩ = some (.int .i64 f.2))) ∧ In4 w N a n c f u) := fun u hu => ⟨hu.cells, hu⟩
  have Hls := hideIt h
  have Hsl := hideIt hsl
  clear h hI hsl
  have hfd : ∀ (u : World) (g : Nat), (Instr.field 33 (.agg #[.int .i64 N, .slice (some ⟨g, 0, none⟩) n n]) 1).run Tryz.prog u = .ok (.slice (some ⟨g, 0, none⟩) n n) u := fun _ _ => by kernel_rfl
  go_enter Tryz.func14, Tryz.ntmps14
  go_upto_region 1 with fail
  obtain ⟨W, hW⟩ : ∃ W, W = w4w w N a n c f := ⟨_, rfl⟩
  have hW' : ((((w.alloc (.cells #[.int .i64 N, .slice a n c] 26)).alloc (.cells #[.int .i64 f.1, .int .i64 f.2] 28)).alloc (.cells #[.int .i64 0, .slice none 0 0] 26)).alloc (.cells #[.int .i64 0, .int .i64 0] 28)) = W := hW.symm
  rw [hW']
  rw [← hW] at S1
  clear hW hW'
  have hS1 := HK.out _ S1.drew
  go_region_held3 (fun u => ((u.cell? ⟨w.heap.size, 0, none⟩ = some (.int .i64 N) ∧ u.cell? ⟨w.heap.size, 1, none⟩ = some (.slice a n c)) ∧ (u.cell? ⟨w.heap.size + 1, 0, none⟩ = some (.int .i64 f.1) ∧ u.cell? ⟨w.heap.size + 1, 1, none⟩ = some (.int .i64 f.2))) ∧ In4 w N a n c f u)
    (first | with_reducible assumption)
    (first
      | (go_at_call 12; refine (HGr.out _ (And.right (by assumption))).mono ?_; rintro e w3 ⟨g3, rfl, ho3, hg3⟩; have hS3 := HK.out _ hg3)
      | (go_at_call 69; refine (HIx.out _ _ (And.right (by assumption)) (by assumption)).mono ?_; rintro e w4 ⟨rfl, hg4⟩; have hS4 := HK.out _ hg4))
  obtain ⟨⟨⟨k0, k1⟩, _⟩, S4⟩ := hS4
  have HO4 := hideIt (HOk.out _ S4)
  clear HGr HIx HOk hS1 hS3 hg3 hg4 ho3 S1
  by_cases hW : WOk N ls
  · rw [wB_yes hW] at HO4
    by_cases hh : hasB (gE ls) f = true
    · obtain ⟨nn, rfl, hn1, hn12⟩ := gB_n hW.1
      obtain ⟨k, x, hk, hxe, hIk, hou, hfi⟩ := take_at hW hh
      have HW := hideIt (wtO_yes hW hh hfi)
      have hI2 : I = (k : Int) := HI.out.trans hIk
      subst hI2
      have hlen : ls.length = n := Hls.out.1
      have hkn : k < n := by have := (List.getElem?_eq_some_iff.1 hk).1; omega
      have HS := hideIt (Stg.of hW)
      have Hxl : Hid (0 ≤ x.l ∧ x.l ≤ 4) := hW.2.1 x (List.mem_of_getElem? hk)
      have Hxe : Hid ((0 ≤ x.a ∧ x.a < (nn : Int)) ∧ 0 ≤ x.b ∧ x.b < (nn : Int)) := by
        have := chk_eB (gB_chk hW.1).2.1 (gE_mem (List.mem_of_getElem? hk))
        have h2 := (eB_iff7 _ _).1 this
        simp only [Ld.e] at h2
        exact ⟨⟨h2.2.2.1, by omega⟩, by omega, h2.2.2.2.2⟩
      have HXe := hideIt hxe
      have HOu := hideIt hou
      have HKx := hideIt hk
      clear hW hh hxe hou hfi hIk HI
      go_wp2_with (go_at_call 18; refine HO4.out.mono ?_; rintro e w5 ⟨rfl, S5⟩; refine Hid.out ?_)
      refine (show ∀ {p : Prop}, p → Hid p from fun h => h) ?_
      obtain ⟨ba, off, y, rfl, _, hy, _⟩ := Hls.out.at hkn
      obtain ⟨hnc, hcm, _⟩ := Hsl.out
      unfold maxLen at hcm
      have HL5 : Hid (∀ u, Good w5 u → Ls u u.heap.size (some ⟨ba, off, none⟩) n ls) := fun u hu => (hA.out w5 S5).up hu
      have HC : Hid (∀ u, Good w5 u → ((u.cell? ⟨w.heap.size, 0, none⟩ = some (.int .i64 (nn : Int)) ∧ u.cell? ⟨w.heap.size, 1, none⟩ = some (.slice (some ⟨ba, off, none⟩) n c)) ∧ (u.cell? ⟨ba, off + k * 4, none⟩ = some (.int .i64 x.a) ∧ u.cell? ⟨ba, off + k * 4 + 1, none⟩ = some (.int .i64 x.b) ∧ u.cell? ⟨ba, off + k * 4 + 2, none⟩ = some (.int .i64 x.l) ∧ u.cell? ⟨ba, off + k * 4 + 3, none⟩ = some (.bool x.t))) ∧ Good w5 u) := fun u hu => ⟨⟨(S5.up hu).cells.1, by
        rcases (HL5.out u hu).2 with h0 | ⟨b', o', hb', _, h2⟩
        · omega
        · simp at hb'
          obtain ⟨rfl, rfl⟩ := hb'
          exact h2 k x HKx.out⟩, hu⟩
      have hS5 := HC.out _ (Good.refl w5).drew
      obtain ⟨p, hp⟩ : ∃ p : Nat, p = k + 1 := ⟨_, rfl⟩
      have hwp : IntKind.i64.wrap ((k : Int) + 1) = (p : Int) := by rw [IntKind.wrap_i64]; omega
      have Hp := hideIt hp
      have b1 : (0 : Int) ≤ (k : Int) := by omega
      have b2 : (k : Int) < (n : Int) := by omega
      have b3 : (k : Int) ≤ (c : Int) := by omega
      have b4 : (0 : Int) ≤ (p : Int) := by omega
      have b5 : (p : Int) ≤ (n : Int) := by omega
      have b6 : (n : Int) ≤ (c : Int) := by omega
      have b7 : (p : Int) ≤ (c : Int) := by omega
      have z5 := S5.size
      clear hk hy hp Hls Hsl hA S4 k0 k1
      go_upto_region 4 with fail
      go_cut [9, 10] (fun q9 q10 wx => ∃ b9 b10 a' m' c', q9 = .pointer (some ⟨b9, 0, none⟩) ∧ q10 = .pointer (some ⟨b10, 0, none⟩) ∧ Hid (Tk5 w5 wx b9 b10 x (nn : Int) a' m' c' (ouL ls f)))
      case first =>
        by_cases hck : c = p
        · subst hck
          obtain rfl : n = c := by omega
          have HCc : Hid (∀ (u : World) (bs : Nat), Good w5 u → ((u.cell? ⟨bs, 0, none⟩ = some (.slice (some ⟨ba, off, none⟩) k n) ∧ u.cell? ⟨bs, 1, none⟩ = some (.slice (some ⟨ba, off, none⟩) 0 0)) ∧ bs < u.heap.size) → Calls Tryz.prog 70 #[.slice (some ⟨bs, 0, none⟩) 2 2] u fun e v => ∃ a' m' c', e = .returned (.slice a' m' c') ∧ Hid (v.ownsRow u.heap.size 52 4 (.slice a' m' c') m' (lcells (ouL ls f))) ∧ Below u.heap.size u v) := fun u bs hu ⟨⟨h0, h1⟩, h2⟩ => by
            have hL := HL5.out u hu
            refine (ConcatL_any [⟨some ⟨ba, off, none⟩, k, n, ls.take k⟩, ⟨some ⟨ba, off, none⟩, 0, 0, ls.drop n⟩] bs 2 rfl (by omega) u ⟨h2, fun j q hq => ?_⟩ (by simp [pLenL]; omega)).mono fun e v ⟨a', m', c', he, ho, hb⟩ => ⟨a', m', c', he, ?_, hb⟩
            · rcases j with _ | _ | j
              · simp at hq; subst hq
                exact ⟨h0, hL.take (show k ≤ n by omega), fun h => by cases h⟩
              · simp at hq; subst hq
                exact ⟨h1, ⟨by show (ls.drop n).length = 0; rw [List.length_drop]; omega, .inl rfl⟩, fun h => by cases h⟩
              · simp at hq
            · have hp2 : pAllL [⟨some ⟨ba, off, none⟩, k, n, ls.take k⟩, ⟨some ⟨ba, off, none⟩, 0, 0, ls.drop n⟩] = ouL ls f := by rw [← HOu.out, ← Hp.out]; simp [pAllL]
              rw [hp2] at ho
              exact ho
          clear HL5 HOu HKx hlen Hp
          (
 apply viaT
 intro t16_17_19_20_
 apply viaT
 intro t16_17_19_
 apply viaT
 intro t16_17_20_
 apply viaT
 intro t16_19_20_
 apply viaT
 intro t16_17_
 apply viaT
 intro t16_19_
 apply viaT
 intro t16_20_
 apply viaT
 intro t19_20_
 apply viaT
 intro t16_
 apply viaT
 intro t19_
 apply viaT
 intro t20_
 focus (
 refine wp_region_held_drew (S := (fun u => ((u.cell? ⟨w.heap.size, 0, none⟩ = some (.int .i64 (nn : Int)) ∧ u.cell? ⟨w.heap.size, 1, none⟩ = some (.slice (some ⟨ba, off, none⟩) n n)) ∧ (u.cell? ⟨ba, off + k * 4, none⟩ = some (.int .i64 x.a) ∧ u.cell? ⟨ba, off + k * 4 + 1, none⟩ = some (.int .i64 x.b) ∧ u.cell? ⟨ba, off + k * 4 + 2, none⟩ = some (.int .i64 x.l) ∧ u.cell? ⟨ba, off + k * 4 + 3, none⟩ = some (.bool x.t))) ∧ Good w5 u)) (by kernel_rfl) hS5 (fun hHeld => ?_)
 refine wpAnyH_take (i := 0) (v := ?_) rfl (by kernel_rfl) (by kernel_rfl) (by kernel_rfl) (fun _ _ _ h => h) (Or.inl ⟨by rfl, ?_⟩) (by assumption) ?_
 rotate_left
 · intro w hSw; (try dsimp only at hSw); go_simp; try with_reducible rfl
 try simp only [Act.put, List.getElem_toArray, List.getElem_cons_zero, List.setIfInBounds_toArray, List.set_cons_zero, List.set_cons_succ]
 refine wpAnyH_take (i := 1) (v := ?_) rfl (by kernel_rfl) (by kernel_rfl) (by kernel_rfl) (fun _ _ _ h => h) (Or.inl ⟨by rfl, ?_⟩) (by assumption) ?_
 rotate_left
 · intro w hSw; (try dsimp only at hSw); go_simp; try with_reducible rfl
 try simp only [Act.put, List.getElem_toArray, List.getElem_cons_succ, List.getElem_cons_zero, List.setIfInBounds_toArray, List.set_cons_zero, List.set_cons_succ]
 refine wpAnyH_take (i := 2) (v := ?_) rfl (by kernel_rfl) (by kernel_rfl) (by kernel_rfl) (fun _ _ _ h => h) (Or.inl ⟨by rfl, ?_⟩) (by assumption) ?_
 rotate_left
 · intro w hSw; (try dsimp only at hSw); go_simp; try with_reducible rfl
 try simp only [Act.put, List.getElem_toArray, List.getElem_cons_succ, List.getElem_cons_zero, List.setIfInBounds_toArray, List.set_cons_zero, List.set_cons_succ]
 refine wpAnyH_take (i := 3) (v := ?_) rfl (by kernel_rfl) (by kernel_rfl) (by kernel_rfl) (fun _ _ _ h => h) (Or.inl ⟨by rfl, ?_⟩) (by assumption) ?_
 rotate_left
 · intro w hSw; (try dsimp only at hSw); go_simp; try with_reducible rfl
 try simp only [Act.put, List.getElem_toArray, List.getElem_cons_succ, List.getElem_cons_zero, List.setIfInBounds_toArray, List.set_cons_zero, List.set_cons_succ]
 refine wpAnyH_take (i := 4) (v := ?_) rfl (by kernel_rfl) (by kernel_rfl) (by kernel_rfl) (fun _ _ _ h => h) (Or.inl ⟨by rfl, ?_⟩) (by assumption) ?_
 rotate_left
 · intro w hSw; (try dsimp only at hSw); go_simp; try with_reducible rfl
 try simp only [Act.put, List.getElem_toArray, List.getElem_cons_succ, List.getElem_cons_zero, List.setIfInBounds_toArray, List.set_cons_zero, List.set_cons_succ]
 refine wpAnyH_take (i := 5) (v := ?_) rfl (by kernel_rfl) (by kernel_rfl) (by kernel_rfl) (fun _ _ _ h => h) (Or.inl ⟨by rfl, ?_⟩) (by assumption) ?_
 rotate_left
 · intro w hSw; (try dsimp only at hSw); go_simp; try with_reducible rfl
 try simp only [Act.put, List.getElem_toArray, List.getElem_cons_succ, List.getElem_cons_zero, List.setIfInBounds_toArray, List.set_cons_zero, List.set_cons_succ]
 refine wpAnyH_take (i := 6) (v := ?_) rfl (by kernel_rfl) (by kernel_rfl) (by kernel_rfl) (fun _ _ _ h => h) (Or.inl ⟨by rfl, ?_⟩) (by assumption) ?_
 rotate_left
 · intro w hSw; (try dsimp only at hSw); go_simp; try with_reducible rfl
 try simp only [Act.put, List.getElem_toArray, List.getElem_cons_succ, List.getElem_cons_zero, List.setIfInBounds_toArray, List.set_cons_zero, List.set_cons_succ]
 refine wpAnyH_take (i := 7) (v := ?_) rfl (by kernel_rfl) (by kernel_rfl) (by kernel_rfl) (fun _ _ _ h => h) (Or.inl ⟨by rfl, ?_⟩) (by assumption) ?_
 rotate_left
 · intro w hSw; (try dsimp only at hSw); go_simp; try with_reducible rfl
 try simp only [Act.put, List.getElem_toArray, List.getElem_cons_succ, List.getElem_cons_zero, List.setIfInBounds_toArray, List.set_cons_zero, List.set_cons_succ]
 refine wpAnyH_take (i := 8) (v := ?_) rfl (by kernel_rfl) (by kernel_rfl) (by kernel_rfl) (fun _ _ _ h => h) (Or.inl ⟨by rfl, ?_⟩) (by assumption) ?_
 rotate_left
 · intro w hSw; (try dsimp only at hSw); go_simp; try with_reducible rfl
 try simp only [Act.put, List.getElem_toArray, List.getElem_cons_succ, List.getElem_cons_zero, List.setIfInBounds_toArray, List.set_cons_zero, List.set_cons_succ]
 refine wpAnyH_take (i := 9) (v := ?_) rfl (by kernel_rfl) (by kernel_rfl) (by kernel_rfl) (fun _ _ _ h => h) (Or.inl ⟨by rfl, ?_⟩) (by assumption) ?_
 rotate_left
 · intro w hSw; (try dsimp only at hSw); go_simp; try with_reducible rfl
 try simp only [Act.put, List.getElem_toArray, List.getElem_cons_succ, List.getElem_cons_zero, List.setIfInBounds_toArray, List.set_cons_zero, List.set_cons_succ]
 refine wpAnyH_take (i := 10) (v := ?_) rfl (by kernel_rfl) (by kernel_rfl) (by kernel_rfl) (fun _ _ _ h => h) (Or.inl ⟨by rfl, ?_⟩) (by assumption) ?_
 rotate_left
 · intro w hSw; (try dsimp only at hSw); go_simp; try with_reducible rfl
 try simp only [Act.put, List.getElem_toArray, List.getElem_cons_succ, List.getElem_cons_zero, List.setIfInBounds_toArray, List.set_cons_zero, List.set_cons_succ]
 refine wpAnyH_take (i := 11) (v := ?_) rfl (by kernel_rfl) (by kernel_rfl) (by kernel_rfl) (fun _ _ _ h => h) (Or.inl ⟨by rfl, ?_⟩) (by assumption) ?_
 rotate_left
 · intro w hSw; (try dsimp only at hSw); go_simp; try with_reducible rfl
 try simp only [Act.put, List.getElem_toArray, List.getElem_cons_succ, List.getElem_cons_zero, List.setIfInBounds_toArray, List.set_cons_zero, List.set_cons_succ]
 refine wpAnyH_take (i := 12) (v := ?_) rfl (by kernel_rfl) (by kernel_rfl) (by kernel_rfl) (fun _ _ _ h => h) (Or.inl ⟨by rfl, ?_⟩) (by assumption) ?_
 rotate_left
 · intro w hSw; (try dsimp only at hSw); go_simp; try with_reducible rfl
 try simp only [Act.put, List.getElem_toArray, List.getElem_cons_succ, List.getElem_cons_zero, List.setIfInBounds_toArray, List.set_cons_zero, List.set_cons_succ]
 refine wpAnyH_take (i := 13) (v := ?_) rfl (by kernel_rfl) (by kernel_rfl) (by kernel_rfl) (fun _ _ _ h => h) (Or.inl ⟨by rfl, ?_⟩) (by assumption) ?_
 rotate_left
 · intro w hSw; (try dsimp only at hSw); go_simp; try with_reducible rfl
 try simp only [Act.put, List.getElem_toArray, List.getElem_cons_succ, List.getElem_cons_zero, List.setIfInBounds_toArray, List.set_cons_zero, List.set_cons_succ]
 refine wpAnyH_take (i := 14) (v := ?_) rfl (by kernel_rfl) (by kernel_rfl) (by kernel_rfl) (fun _ _ _ h => h) (Or.inl ⟨by rfl, ?_⟩) (by assumption) ?_
 rotate_left
 · intro w hSw; (try dsimp only at hSw); go_simp; try with_reducible rfl
 try simp only [Act.put, List.getElem_toArray, List.getElem_cons_succ, List.getElem_cons_zero, List.setIfInBounds_toArray, List.set_cons_zero, List.set_cons_succ]
 refine wpAnyH_take (i := 15) (v := ?_) rfl (by kernel_rfl) (by kernel_rfl) (by kernel_rfl) (fun _ _ _ h => h) (Or.inl ⟨by rfl, ?_⟩) (by assumption) ?_
 rotate_left
 · intro w hSw; (try dsimp only at hSw); go_simp; try with_reducible rfl
 try simp only [Act.put, List.getElem_toArray, List.getElem_cons_succ, List.getElem_cons_zero, List.setIfInBounds_toArray, List.set_cons_zero, List.set_cons_succ]
 obtain ⟨y, hy⟩ : ∃ y, y = w5.drew := ⟨_, rfl⟩
 have GU : Good w5 y := by rw [hy]; exact (Good.refl _).drew
 rw [← hy]
 clear hy hHeld
 refine wpAnyH_ready (rs := [16, 19, 20]) (by kernel_rfl) (by simp) ?_
 refine AllReadyH.cons rfl (fun K hK => ?_) (AllReadyH.cons rfl (fun K hK => ?_) (AllReadyH.cons rfl (fun K hK => ?_) AllReadyH.nil))
 focus (
 go_simp
 refine hK.out _ _ (HC.out _ (GU.alloc _)) (fun hHeld => ?_)
 clear hK K
 try simp only [Act.put, List.getElem_toArray, List.getElem_cons_succ, List.getElem_cons_zero, List.setIfInBounds_toArray, List.set_cons_zero, List.set_cons_succ]
 obtain ⟨z, hz⟩ : ∃ z, z = y.alloc (.cells #[.slice (some ⟨ba, off, none⟩) k n, .slice (some ⟨ba, off, none⟩) 0 0] 24) := ⟨_, rfl⟩
 have gg : Below y.heap.size y z := by rw [hz]; exact (Below.refl _ _).alloc (Nat.le_refl _) _
 have PS : (z.cell? ⟨y.heap.size, 0, none⟩ = some (.slice (some ⟨ba, off, none⟩) k n) ∧ z.cell? ⟨y.heap.size, 1, none⟩ = some (.slice (some ⟨ba, off, none⟩) 0 0)) ∧ y.heap.size < z.heap.size := by rw [hz]; simp [go_sem]
 replace GU := Good.up GU gg
 rw [← hz]
 clear hz gg hHeld
 generalize y.heap.size = bs at *
 refine lstH (l' := #[true, true, true, true, true, true, true, true, true, true, true, true, true, true, true, true, true, false, false, false, false, false, false]) (by kernel_rfl) ?_
 have F := And.intro GU PS
 clear GU PS
 revert F
 revert bs
 revert z
 exact t16_.out
 )
 focus (
 go_simp
 refine hK.out _ _ (HC.out _ (GU.alloc _)) (fun hHeld => ?_)
 clear hK K
 try simp only [Act.put, List.getElem_toArray, List.getElem_cons_succ, List.getElem_cons_zero, List.setIfInBounds_toArray, List.set_cons_zero, List.set_cons_succ]
 obtain ⟨z, hz⟩ : ∃ z, z = y.alloc (.cells #[.int .i64 0, .int .i64 0, .int .i64 0, .bool false] 52) := ⟨_, rfl⟩
 have gg : Below y.heap.size y z := by rw [hz]; exact (Below.refl _ _).alloc (Nat.le_refl _) _
 have B9 : Box4 z y.heap.size ⟨0, 0, 0, false⟩ := by rw [hz]; exact Box4.z _ _ rfl
 have L9 : w5.heap.size ≤ y.heap.size := GU.size
 replace GU := Good.up GU gg
 rw [← hz]
 clear hz gg hHeld
 generalize y.heap.size = b9 at *
 refine lstH (l' := #[true, true, true, true, true, true, true, true, true, true, true, true, true, true, true, true, false, false, false, true, false, false, false]) (by kernel_rfl) ?_
 have F := And.intro GU (And.intro B9 L9)
 clear GU B9 L9
 revert F
 revert b9
 revert z
 exact t19_.out
 )
 focus (
 go_simp
 refine hK.out _ _ (HC.out _ (GU.alloc _)) (fun hHeld => ?_)
 clear hK K
 try simp only [Act.put, List.getElem_toArray, List.getElem_cons_succ, List.getElem_cons_zero, List.setIfInBounds_toArray, List.set_cons_zero, List.set_cons_succ]
 obtain ⟨z, hz⟩ : ∃ z, z = y.alloc (.cells #[.int .i64 0, .slice none 0 0] 26) := ⟨_, rfl⟩
 have gg : Below y.heap.size y z := by rw [hz]; exact (Below.refl _ _).alloc (Nat.le_refl _) _
 have B10 : Box7 z y.heap.size 26 (.int .i64 0) (.slice none 0 0) := by rw [hz]; exact Box7.z _ _ rfl
 have L10 : w5.heap.size ≤ y.heap.size := GU.size
 replace GU := Good.up GU gg
 rw [← hz]
 clear hz gg hHeld
 generalize y.heap.size = b10 at *
 refine lstH (l' := #[true, true, true, true, true, true, true, true, true, true, true, true, true, true, true, true, false, false, false, false, true, false, false]) (by kernel_rfl) ?_
 have F := And.intro GU (And.intro B10 L10)
 clear GU B10 L10
 revert F
 revert b10
 revert z
 exact t20_.out
 )
 )
 focus (
 intro y b10 F
 obtain ⟨GU, B10, L10⟩ := F
 have hHeld := HC.out _ GU
 clear hHeld
 refine wpAnyH_ready (rs := [16, 19]) (by kernel_rfl) (by simp) ?_
 refine AllReadyH.cons rfl (fun K hK => ?_) (AllReadyH.cons rfl (fun K hK => ?_) AllReadyH.nil)
 focus (
 go_simp
 refine hK.out _ _ (HC.out _ (GU.alloc _)) (fun hHeld => ?_)
 clear hK K
 try simp only [List.setIfInBounds_toArray, List.set_cons_zero, List.set_cons_succ]
 obtain ⟨z, hz⟩ : ∃ z, z = y.alloc (.cells #[.slice (some ⟨ba, off, none⟩) k n, .slice (some ⟨ba, off, none⟩) 0 0] 24) := ⟨_, rfl⟩
 have gg : Below y.heap.size y z := by rw [hz]; exact (Below.refl _ _).alloc (Nat.le_refl _) _
 have PS : (z.cell? ⟨y.heap.size, 0, none⟩ = some (.slice (some ⟨ba, off, none⟩) k n) ∧ z.cell? ⟨y.heap.size, 1, none⟩ = some (.slice (some ⟨ba, off, none⟩) 0 0)) ∧ y.heap.size < z.heap.size := by rw [hz]; simp [go_sem]
 replace GU := Good.up GU gg
 replace B10 := B10.up gg
 rw [← hz]
 clear hz gg hHeld
 generalize y.heap.size = bs at *
 refine lstH (l' := #[true, true, true, true, true, true, true, true, true, true, true, true, true, true, true, true, true, false, false, false, true, false, false]) (by kernel_rfl) ?_
 have F := And.intro GU (And.intro PS (And.intro B10 L10))
 clear GU PS B10 L10
 revert F
 revert b10
 revert bs
 revert z
 exact t16_20_.out
 )
 focus (
 go_simp
 refine hK.out _ _ (HC.out _ (GU.alloc _)) (fun hHeld => ?_)
 clear hK K
 try simp only [List.setIfInBounds_toArray, List.set_cons_zero, List.set_cons_succ]
 obtain ⟨z, hz⟩ : ∃ z, z = y.alloc (.cells #[.int .i64 0, .int .i64 0, .int .i64 0, .bool false] 52) := ⟨_, rfl⟩
 have gg : Below y.heap.size y z := by rw [hz]; exact (Below.refl _ _).alloc (Nat.le_refl _) _
 have B9 : Box4 z y.heap.size ⟨0, 0, 0, false⟩ := by rw [hz]; exact Box4.z _ _ rfl
 have L9 : w5.heap.size ≤ y.heap.size := GU.size
 have NE : y.heap.size ≠ b10 := by have := B10.lt; omega
 replace GU := Good.up GU gg
 replace B10 := B10.up gg
 rw [← hz]
 clear hz gg hHeld
 generalize y.heap.size = b9 at *
 refine lstH (l' := #[true, true, true, true, true, true, true, true, true, true, true, true, true, true, true, true, false, false, false, true, true, false, false]) (by kernel_rfl) ?_
 have F := And.intro GU (And.intro B9 (And.intro L9 (And.intro B10 (And.intro L10 NE))))
 clear GU B9 L9 B10 L10 NE
 revert F
 revert b10
 revert b9
 revert z
 exact t19_20_.out
 )
 )
 focus (
 intro y b9 F
 obtain ⟨GU, B9, L9⟩ := F
 have hHeld := HC.out _ GU
 clear hHeld
 refine wpAnyH_ready (rs := [16, 20]) (by kernel_rfl) (by simp) ?_
 refine AllReadyH.cons rfl (fun K hK => ?_) (AllReadyH.cons rfl (fun K hK => ?_) AllReadyH.nil)
 focus (
 go_simp
 refine hK.out _ _ (HC.out _ (GU.alloc _)) (fun hHeld => ?_)
 clear hK K
 try simp only [List.setIfInBounds_toArray, List.set_cons_zero, List.set_cons_succ]
 obtain ⟨z, hz⟩ : ∃ z, z = y.alloc (.cells #[.slice (some ⟨ba, off, none⟩) k n, .slice (some ⟨ba, off, none⟩) 0 0] 24) := ⟨_, rfl⟩
 have gg : Below y.heap.size y z := by rw [hz]; exact (Below.refl _ _).alloc (Nat.le_refl _) _
 have PS : (z.cell? ⟨y.heap.size, 0, none⟩ = some (.slice (some ⟨ba, off, none⟩) k n) ∧ z.cell? ⟨y.heap.size, 1, none⟩ = some (.slice (some ⟨ba, off, none⟩) 0 0)) ∧ y.heap.size < z.heap.size := by rw [hz]; simp [go_sem]
 replace GU := Good.up GU gg
 replace B9 := B9.up gg
 rw [← hz]
 clear hz gg hHeld
 generalize y.heap.size = bs at *
 refine lstH (l' := #[true, true, true, true, true, true, true, true, true, true, true, true, true, true, true, true, true, false, false, true, false, false, false]) (by kernel_rfl) ?_
 have F := And.intro GU (And.intro PS (And.intro B9 L9))
 clear GU PS B9 L9
 revert F
 revert b9
 revert bs
 revert z
 exact t16_19_.out
 )
 focus (
 go_simp
 refine hK.out _ _ (HC.out _ (GU.alloc _)) (fun hHeld => ?_)
 clear hK K
 try simp only [List.setIfInBounds_toArray, List.set_cons_zero, List.set_cons_succ]
 obtain ⟨z, hz⟩ : ∃ z, z = y.alloc (.cells #[.int .i64 0, .slice none 0 0] 26) := ⟨_, rfl⟩
 have gg : Below y.heap.size y z := by rw [hz]; exact (Below.refl _ _).alloc (Nat.le_refl _) _
 have B10 : Box7 z y.heap.size 26 (.int .i64 0) (.slice none 0 0) := by rw [hz]; exact Box7.z _ _ rfl
 have L10 : w5.heap.size ≤ y.heap.size := GU.size
 have NE : b9 ≠ y.heap.size := by have := B9.lt; omega
 replace GU := Good.up GU gg
 replace B9 := B9.up gg
 rw [← hz]
 clear hz gg hHeld
 generalize y.heap.size = b10 at *
 refine lstH (l' := #[true, true, true, true, true, true, true, true, true, true, true, true, true, true, true, true, false, false, false, true, true, false, false]) (by kernel_rfl) ?_
 have F := And.intro GU (And.intro B9 (And.intro L9 (And.intro B10 (And.intro L10 NE))))
 clear GU B9 L9 B10 L10 NE
 revert F
 revert b10
 revert b9
 revert z
 exact t19_20_.out
 )
 )
 focus (
 intro y bs F
 obtain ⟨GU, PS⟩ := F
 have hHeld := HC.out _ GU
 clear hHeld
 refine wpAnyH_ready (rs := [17, 19, 20]) (by kernel_rfl) (by simp) ?_
 refine AllReadyH.cons rfl (fun K hK => ?_) (AllReadyH.cons rfl (fun K hK => ?_) (AllReadyH.cons rfl (fun K hK => ?_) AllReadyH.nil))
 focus (
 rw [if_pos]
 rotate_left
 · kernel_rfl
 have HCall := hideIt (HCc.out _ bs GU PS)
 go_wp2_with (go_at_call 70; refine HCall.out.mono ?_; rintro e z ⟨a', m', c', rfl, RW0, gg⟩; refine Hid.out ?_)
 refine hidp ?_
 refine hK.out _ _ (HC.out _ (Good.up GU gg)) (fun hHeld => ?_)
 clear hK K HCall
 try simp only [List.setIfInBounds_toArray, List.set_cons_zero, List.set_cons_succ]
 have RW := own_mono RW0.out GU.size
 clear RW0
 replace GU := Good.up GU gg
 clear gg PS
 replace hHeld := HC.out _ GU
 refine wpAnyH_take (i := 18) (v := ?_) rfl (by kernel_rfl) (by kernel_rfl) (by kernel_rfl) (fun _ _ _ h => h) (Or.inl ⟨by rfl, ?_⟩) (by assumption) ?_
 rotate_left
 · intro w hSw; (try dsimp only at hSw); go_simp; try with_reducible rfl
 try simp only [Act.put, List.getElem_toArray, List.getElem_cons_succ, List.getElem_cons_zero, List.setIfInBounds_toArray, List.set_cons_zero, List.set_cons_succ]
 clear hHeld
 refine lstH (l' := #[true, true, true, true, true, true, true, true, true, true, true, true, true, true, true, true, true, true, true, false, false, false, false]) (by kernel_rfl) ?_
 have F := And.intro GU RW
 clear GU RW
 revert F
 revert c'
 revert m'
 revert a'
 revert bs
 revert z
 exact t16_17_.out
 )
 focus (
 go_simp
 refine hK.out _ _ (HC.out _ (GU.alloc _)) (fun hHeld => ?_)
 clear hK K
 try simp only [List.setIfInBounds_toArray, List.set_cons_zero, List.set_cons_succ]
 obtain ⟨z, hz⟩ : ∃ z, z = y.alloc (.cells #[.int .i64 0, .int .i64 0, .int .i64 0, .bool false] 52) := ⟨_, rfl⟩
 have gg : Below y.heap.size y z := by rw [hz]; exact (Below.refl _ _).alloc (Nat.le_refl _) _
 have B9 : Box4 z y.heap.size ⟨0, 0, 0, false⟩ := by rw [hz]; exact Box4.z _ _ rfl
 have L9 : w5.heap.size ≤ y.heap.size := GU.size
 replace GU := Good.up GU gg
 replace PS := keepP PS gg
 rw [← hz]
 clear hz gg hHeld
 generalize y.heap.size = b9 at *
 refine lstH (l' := #[true, true, true, true, true, true, true, true, true, true, true, true, true, true, true, true, true, false, false, true, false, false, false]) (by kernel_rfl) ?_
 have F := And.intro GU (And.intro PS (And.intro B9 L9))
 clear GU PS B9 L9
 revert F
 revert b9
 revert bs
 revert z
 exact t16_19_.out
 )
 focus (
 go_simp
 refine hK.out _ _ (HC.out _ (GU.alloc _)) (fun hHeld => ?_)
 clear hK K
 try simp only [List.setIfInBounds_toArray, List.set_cons_zero, List.set_cons_succ]
 obtain ⟨z, hz⟩ : ∃ z, z = y.alloc (.cells #[.int .i64 0, .slice none 0 0] 26) := ⟨_, rfl⟩
 have gg : Below y.heap.size y z := by rw [hz]; exact (Below.refl _ _).alloc (Nat.le_refl _) _
 have B10 : Box7 z y.heap.size 26 (.int .i64 0) (.slice none 0 0) := by rw [hz]; exact Box7.z _ _ rfl
 have L10 : w5.heap.size ≤ y.heap.size := GU.size
 replace GU := Good.up GU gg
 replace PS := keepP PS gg
 rw [← hz]
 clear hz gg hHeld
 generalize y.heap.size = b10 at *
 refine lstH (l' := #[true, true, true, true, true, true, true, true, true, true, true, true, true, true, true, true, true, false, false, false, true, false, false]) (by kernel_rfl) ?_
 have F := And.intro GU (And.intro PS (And.intro B10 L10))
 clear GU PS B10 L10
 revert F
 revert b10
 revert bs
 revert z
 exact t16_20_.out
 )
 )
 focus (
 intro y b9 b10 F
 obtain ⟨GU, B9, L9, B10, L10, NE⟩ := F
 have hHeld := HC.out _ GU
 clear hHeld
 refine wpAnyH_ready (rs := [16]) (by kernel_rfl) (by simp) ?_
 refine AllReadyH.cons rfl (fun K hK => ?_) AllReadyH.nil
 focus (
 go_simp
 refine hK.out _ _ (HC.out _ (GU.alloc _)) (fun hHeld => ?_)
 clear hK K
 try simp only [List.setIfInBounds_toArray, List.set_cons_zero, List.set_cons_succ]
 obtain ⟨z, hz⟩ : ∃ z, z = y.alloc (.cells #[.slice (some ⟨ba, off, none⟩) k n, .slice (some ⟨ba, off, none⟩) 0 0] 24) := ⟨_, rfl⟩
 have gg : Below y.heap.size y z := by rw [hz]; exact (Below.refl _ _).alloc (Nat.le_refl _) _
 have PS : (z.cell? ⟨y.heap.size, 0, none⟩ = some (.slice (some ⟨ba, off, none⟩) k n) ∧ z.cell? ⟨y.heap.size, 1, none⟩ = some (.slice (some ⟨ba, off, none⟩) 0 0)) ∧ y.heap.size < z.heap.size := by rw [hz]; simp [go_sem]
 replace GU := Good.up GU gg
 replace B9 := B9.up gg
 replace B10 := B10.up gg
 rw [← hz]
 clear hz gg hHeld
 generalize y.heap.size = bs at *
 refine lstH (l' := #[true, true, true, true, true, true, true, true, true, true, true, true, true, true, true, true, true, false, false, true, true, false, false]) (by kernel_rfl) ?_
 have F := And.intro GU (And.intro PS (And.intro B9 (And.intro L9 (And.intro B10 (And.intro L10 NE)))))
 clear GU PS B9 L9 B10 L10 NE
 revert F
 revert b10
 revert b9
 revert bs
 revert z
 exact t16_19_20_.out
 )
 )
 focus (
 intro y bs b10 F
 obtain ⟨GU, PS, B10, L10⟩ := F
 have hHeld := HC.out _ GU
 clear hHeld
 refine wpAnyH_ready (rs := [17, 19]) (by kernel_rfl) (by simp) ?_
 refine AllReadyH.cons rfl (fun K hK => ?_) (AllReadyH.cons rfl (fun K hK => ?_) AllReadyH.nil)
 focus (
 rw [if_pos]
 rotate_left
 · kernel_rfl
 have HCall := hideIt (HCc.out _ bs GU PS)
 go_wp2_with (go_at_call 70; refine HCall.out.mono ?_; rintro e z ⟨a', m', c', rfl, RW0, gg⟩; refine Hid.out ?_)
 refine hidp ?_
 refine hK.out _ _ (HC.out _ (Good.up GU gg)) (fun hHeld => ?_)
 clear hK K HCall
 try simp only [List.setIfInBounds_toArray, List.set_cons_zero, List.set_cons_succ]
 have N10 : ∀ g, a' = some ⟨g, 0, none⟩ → g ≠ b10 := fun g hg => by have := own_lo RW0.out hg; have := B10.lt; omega
 have RW := own_mono RW0.out GU.size
 clear RW0
 replace GU := Good.up GU gg
 replace B10 := B10.up gg
 clear gg PS
 replace hHeld := HC.out _ GU
 refine wpAnyH_take (i := 18) (v := ?_) rfl (by kernel_rfl) (by kernel_rfl) (by kernel_rfl) (fun _ _ _ h => h) (Or.inl ⟨by rfl, ?_⟩) (by assumption) ?_
 rotate_left
 · intro w hSw; (try dsimp only at hSw); go_simp; try with_reducible rfl
 try simp only [Act.put, List.getElem_toArray, List.getElem_cons_succ, List.getElem_cons_zero, List.setIfInBounds_toArray, List.set_cons_zero, List.set_cons_succ]
 clear hHeld
 refine lstH (l' := #[true, true, true, true, true, true, true, true, true, true, true, true, true, true, true, true, true, true, true, false, true, false, false]) (by kernel_rfl) ?_
 have F := And.intro GU (And.intro B10 (And.intro L10 (And.intro RW N10)))
 clear GU B10 L10 RW N10
 revert F
 revert b10
 revert c'
 revert m'
 revert a'
 revert bs
 revert z
 exact t16_17_20_.out
 )
 focus (
 go_simp
 refine hK.out _ _ (HC.out _ (GU.alloc _)) (fun hHeld => ?_)
 clear hK K
 try simp only [List.setIfInBounds_toArray, List.set_cons_zero, List.set_cons_succ]
 obtain ⟨z, hz⟩ : ∃ z, z = y.alloc (.cells #[.int .i64 0, .int .i64 0, .int .i64 0, .bool false] 52) := ⟨_, rfl⟩
 have gg : Below y.heap.size y z := by rw [hz]; exact (Below.refl _ _).alloc (Nat.le_refl _) _
 have B9 : Box4 z y.heap.size ⟨0, 0, 0, false⟩ := by rw [hz]; exact Box4.z _ _ rfl
 have L9 : w5.heap.size ≤ y.heap.size := GU.size
 have NE : y.heap.size ≠ b10 := by have := B10.lt; omega
 replace GU := Good.up GU gg
 replace PS := keepP PS gg
 replace B10 := B10.up gg
 rw [← hz]
 clear hz gg hHeld
 generalize y.heap.size = b9 at *
 refine lstH (l' := #[true, true, true, true, true, true, true, true, true, true, true, true, true, true, true, true, true, false, false, true, true, false, false]) (by kernel_rfl) ?_
 have F := And.intro GU (And.intro PS (And.intro B9 (And.intro L9 (And.intro B10 (And.intro L10 NE)))))
 clear GU PS B9 L9 B10 L10 NE
 revert F
 revert b10
 revert b9
 revert bs
 revert z
 exact t16_19_20_.out
 )
 )
 focus (
 intro y bs b9 F
 obtain ⟨GU, PS, B9, L9⟩ := F
 have hHeld := HC.out _ GU
 clear hHeld
 refine wpAnyH_ready (rs := [17, 20]) (by kernel_rfl) (by simp) ?_
 refine AllReadyH.cons rfl (fun K hK => ?_) (AllReadyH.cons rfl (fun K hK => ?_) AllReadyH.nil)
 focus (
 rw [if_pos]
 rotate_left
 · kernel_rfl
 have HCall := hideIt (HCc.out _ bs GU PS)
 go_wp2_with (go_at_call 70; refine HCall.out.mono ?_; rintro e z ⟨a', m', c', rfl, RW0, gg⟩; refine Hid.out ?_)
 refine hidp ?_
 refine hK.out _ _ (HC.out _ (Good.up GU gg)) (fun hHeld => ?_)
 clear hK K HCall
 try simp only [List.setIfInBounds_toArray, List.set_cons_zero, List.set_cons_succ]
 have N9 : ∀ g, a' = some ⟨g, 0, none⟩ → g ≠ b9 := fun g hg => by have := own_lo RW0.out hg; have := B9.lt; omega
 have RW := own_mono RW0.out GU.size
 clear RW0
 replace GU := Good.up GU gg
 replace B9 := B9.up gg
 clear gg PS
 replace hHeld := HC.out _ GU
 refine wpAnyH_take (i := 18) (v := ?_) rfl (by kernel_rfl) (by kernel_rfl) (by kernel_rfl) (fun _ _ _ h => h) (Or.inl ⟨by rfl, ?_⟩) (by assumption) ?_
 rotate_left
 · intro w hSw; (try dsimp only at hSw); go_simp; try with_reducible rfl
 try simp only [Act.put, List.getElem_toArray, List.getElem_cons_succ, List.getElem_cons_zero, List.setIfInBounds_toArray, List.set_cons_zero, List.set_cons_succ]
 clear hHeld
 refine lstH (l' := #[true, true, true, true, true, true, true, true, true, true, true, true, true, true, true, true, true, true, true, true, false, false, false]) (by kernel_rfl) ?_
 have F := And.intro GU (And.intro B9 (And.intro L9 (And.intro RW N9)))
 clear GU B9 L9 RW N9
 revert F
 revert b9
 revert c'
 revert m'
 revert a'
 revert bs
 revert z
 exact t16_17_19_.out
 )
 focus (
 go_simp
 refine hK.out _ _ (HC.out _ (GU.alloc _)) (fun hHeld => ?_)
 clear hK K
 try simp only [List.setIfInBounds_toArray, List.set_cons_zero, List.set_cons_succ]
 obtain ⟨z, hz⟩ : ∃ z, z = y.alloc (.cells #[.int .i64 0, .slice none 0 0] 26) := ⟨_, rfl⟩
 have gg : Below y.heap.size y z := by rw [hz]; exact (Below.refl _ _).alloc (Nat.le_refl _) _
 have B10 : Box7 z y.heap.size 26 (.int .i64 0) (.slice none 0 0) := by rw [hz]; exact Box7.z _ _ rfl
 have L10 : w5.heap.size ≤ y.heap.size := GU.size
 have NE : b9 ≠ y.heap.size := by have := B9.lt; omega
 replace GU := Good.up GU gg
 replace PS := keepP PS gg
 replace B9 := B9.up gg
 rw [← hz]
 clear hz gg hHeld
 generalize y.heap.size = b10 at *
 refine lstH (l' := #[true, true, true, true, true, true, true, true, true, true, true, true, true, true, true, true, true, false, false, true, true, false, false]) (by kernel_rfl) ?_
 have F := And.intro GU (And.intro PS (And.intro B9 (And.intro L9 (And.intro B10 (And.intro L10 NE)))))
 clear GU PS B9 L9 B10 L10 NE
 revert F
 revert b10
 revert b9
 revert bs
 revert z
 exact t16_19_20_.out
 )
 )
 focus (
 intro y bs a' m' c' F
 obtain ⟨GU, RW⟩ := F
 have hHeld := HC.out _ GU
 clear hHeld
 refine wpAnyH_ready (rs := [19, 20]) (by kernel_rfl) (by simp) ?_
 refine AllReadyH.cons rfl (fun K hK => ?_) (AllReadyH.cons rfl (fun K hK => ?_) AllReadyH.nil)
 focus (
 go_simp
 refine hK.out _ _ (HC.out _ (GU.alloc _)) (fun hHeld => ?_)
 clear hK K
 try simp only [List.setIfInBounds_toArray, List.set_cons_zero, List.set_cons_succ]
 obtain ⟨z, hz⟩ : ∃ z, z = y.alloc (.cells #[.int .i64 0, .int .i64 0, .int .i64 0, .bool false] 52) := ⟨_, rfl⟩
 have gg : Below y.heap.size y z := by rw [hz]; exact (Below.refl _ _).alloc (Nat.le_refl _) _
 have B9 : Box4 z y.heap.size ⟨0, 0, 0, false⟩ := by rw [hz]; exact Box4.z _ _ rfl
 have L9 : w5.heap.size ≤ y.heap.size := GU.size
 have N9 : ∀ g, a' = some ⟨g, 0, none⟩ → g ≠ y.heap.size := fun g hg => by have := own_lo RW hg; omega
 replace GU := Good.up GU gg
 replace RW := own_up RW gg
 rw [← hz]
 clear hz gg hHeld
 generalize y.heap.size = b9 at *
 refine lstH (l' := #[true, true, true, true, true, true, true, true, true, true, true, true, true, true, true, true, true, true, true, true, false, false, false]) (by kernel_rfl) ?_
 have F := And.intro GU (And.intro B9 (And.intro L9 (And.intro RW N9)))
 clear GU B9 L9 RW N9
 revert F
 revert b9
 revert c'
 revert m'
 revert a'
 revert bs
 revert z
 exact t16_17_19_.out
 )
 focus (
 go_simp
 refine hK.out _ _ (HC.out _ (GU.alloc _)) (fun hHeld => ?_)
 clear hK K
 try simp only [List.setIfInBounds_toArray, List.set_cons_zero, List.set_cons_succ]
 obtain ⟨z, hz⟩ : ∃ z, z = y.alloc (.cells #[.int .i64 0, .slice none 0 0] 26) := ⟨_, rfl⟩
 have gg : Below y.heap.size y z := by rw [hz]; exact (Below.refl _ _).alloc (Nat.le_refl _) _
 have B10 : Box7 z y.heap.size 26 (.int .i64 0) (.slice none 0 0) := by rw [hz]; exact Box7.z _ _ rfl
 have L10 : w5.heap.size ≤ y.heap.size := GU.size
 have N10 : ∀ g, a' = some ⟨g, 0, none⟩ → g ≠ y.heap.size := fun g hg => by have := own_lo RW hg; omega
 replace GU := Good.up GU gg
 replace RW := own_up RW gg
 rw [← hz]
 clear hz gg hHeld
 generalize y.heap.size = b10 at *
 refine lstH (l' := #[true, true, true, true, true, true, true, true, true, true, true, true, true, true, true, true, true, true, true, false, true, false, false]) (by kernel_rfl) ?_
 have F := And.intro GU (And.intro B10 (And.intro L10 (And.intro RW N10)))
 clear GU B10 L10 RW N10
 revert F
 revert b10
 revert c'
 revert m'
 revert a'
 revert bs
 revert z
 exact t16_17_20_.out
 )
 )
 focus (
 intro y bs b9 b10 F
 obtain ⟨GU, PS, B9, L9, B10, L10, NE⟩ := F
 have hHeld := HC.out _ GU
 clear hHeld
 refine wpAnyH_ready (rs := [17]) (by kernel_rfl) (by simp) ?_
 refine AllReadyH.cons rfl (fun K hK => ?_) AllReadyH.nil
 focus (
 rw [if_pos]
 rotate_left
 · kernel_rfl
 have HCall := hideIt (HCc.out _ bs GU PS)
 go_wp2_with (go_at_call 70; refine HCall.out.mono ?_; rintro e z ⟨a', m', c', rfl, RW0, gg⟩; refine Hid.out ?_)
 refine hidp ?_
 refine hK.out _ _ (HC.out _ (Good.up GU gg)) (fun hHeld => ?_)
 clear hK K HCall
 try simp only [List.setIfInBounds_toArray, List.set_cons_zero, List.set_cons_succ]
 have N9 : ∀ g, a' = some ⟨g, 0, none⟩ → g ≠ b9 := fun g hg => by have := own_lo RW0.out hg; have := B9.lt; omega
 have N10 : ∀ g, a' = some ⟨g, 0, none⟩ → g ≠ b10 := fun g hg => by have := own_lo RW0.out hg; have := B10.lt; omega
 have RW := own_mono RW0.out GU.size
 clear RW0
 replace GU := Good.up GU gg
 replace B9 := B9.up gg
 replace B10 := B10.up gg
 clear gg PS
 replace hHeld := HC.out _ GU
 refine wpAnyH_take (i := 18) (v := ?_) rfl (by kernel_rfl) (by kernel_rfl) (by kernel_rfl) (fun _ _ _ h => h) (Or.inl ⟨by rfl, ?_⟩) (by assumption) ?_
 rotate_left
 · intro w hSw; (try dsimp only at hSw); go_simp; try with_reducible rfl
 try simp only [Act.put, List.getElem_toArray, List.getElem_cons_succ, List.getElem_cons_zero, List.setIfInBounds_toArray, List.set_cons_zero, List.set_cons_succ]
 clear hHeld
 refine lstH (l' := #[true, true, true, true, true, true, true, true, true, true, true, true, true, true, true, true, true, true, true, true, true, false, false]) (by kernel_rfl) ?_
 have F := And.intro GU (And.intro B9 (And.intro L9 (And.intro B10 (And.intro L10 (And.intro NE (And.intro RW (And.intro N9 N10)))))))
 clear GU B9 L9 B10 L10 NE RW N9 N10
 revert F
 revert b10
 revert b9
 revert c'
 revert m'
 revert a'
 revert bs
 revert z
 exact t16_17_19_20_.out
 )
 )
 focus (
 intro y bs a' m' c' b10 F
 obtain ⟨GU, B10, L10, RW, N10⟩ := F
 have hHeld := HC.out _ GU
 clear hHeld
 refine wpAnyH_ready (rs := [19]) (by kernel_rfl) (by simp) ?_
 refine AllReadyH.cons rfl (fun K hK => ?_) AllReadyH.nil
 focus (
 go_simp
 refine hK.out _ _ (HC.out _ (GU.alloc _)) (fun hHeld => ?_)
 clear hK K
 try simp only [List.setIfInBounds_toArray, List.set_cons_zero, List.set_cons_succ]
 obtain ⟨z, hz⟩ : ∃ z, z = y.alloc (.cells #[.int .i64 0, .int .i64 0, .int .i64 0, .bool false] 52) := ⟨_, rfl⟩
 have gg : Below y.heap.size y z := by rw [hz]; exact (Below.refl _ _).alloc (Nat.le_refl _) _
 have B9 : Box4 z y.heap.size ⟨0, 0, 0, false⟩ := by rw [hz]; exact Box4.z _ _ rfl
 have L9 : w5.heap.size ≤ y.heap.size := GU.size
 have N9 : ∀ g, a' = some ⟨g, 0, none⟩ → g ≠ y.heap.size := fun g hg => by have := own_lo RW hg; omega
 have NE : y.heap.size ≠ b10 := by have := B10.lt; omega
 replace GU := Good.up GU gg
 replace B10 := B10.up gg
 replace RW := own_up RW gg
 rw [← hz]
 clear hz gg hHeld
 generalize y.heap.size = b9 at *
 refine lstH (l' := #[true, true, true, true, true, true, true, true, true, true, true, true, true, true, true, true, true, true, true, true, true, false, false]) (by kernel_rfl) ?_
 have F := And.intro GU (And.intro B9 (And.intro L9 (And.intro B10 (And.intro L10 (And.intro NE (And.intro RW (And.intro N9 N10)))))))
 clear GU B9 L9 B10 L10 NE RW N9 N10
 revert F
 revert b10
 revert b9
 revert c'
 revert m'
 revert a'
 revert bs
 revert z
 exact t16_17_19_20_.out
 )
 )
 focus (
 intro y bs a' m' c' b9 F
 obtain ⟨GU, B9, L9, RW, N9⟩ := F
 have hHeld := HC.out _ GU
 clear hHeld
 refine wpAnyH_ready (rs := [20]) (by kernel_rfl) (by simp) ?_
 refine AllReadyH.cons rfl (fun K hK => ?_) AllReadyH.nil
 focus (
 go_simp
 refine hK.out _ _ (HC.out _ (GU.alloc _)) (fun hHeld => ?_)
 clear hK K
 try simp only [List.setIfInBounds_toArray, List.set_cons_zero, List.set_cons_succ]
 obtain ⟨z, hz⟩ : ∃ z, z = y.alloc (.cells #[.int .i64 0, .slice none 0 0] 26) := ⟨_, rfl⟩
 have gg : Below y.heap.size y z := by rw [hz]; exact (Below.refl _ _).alloc (Nat.le_refl _) _
 have B10 : Box7 z y.heap.size 26 (.int .i64 0) (.slice none 0 0) := by rw [hz]; exact Box7.z _ _ rfl
 have L10 : w5.heap.size ≤ y.heap.size := GU.size
 have N10 : ∀ g, a' = some ⟨g, 0, none⟩ → g ≠ y.heap.size := fun g hg => by have := own_lo RW hg; omega
 have NE : b9 ≠ y.heap.size := by have := B9.lt; omega
 replace GU := Good.up GU gg
 replace B9 := B9.up gg
 replace RW := own_up RW gg
 rw [← hz]
 clear hz gg hHeld
 generalize y.heap.size = b10 at *
 refine lstH (l' := #[true, true, true, true, true, true, true, true, true, true, true, true, true, true, true, true, true, true, true, true, true, false, false]) (by kernel_rfl) ?_
 have F := And.intro GU (And.intro B9 (And.intro L9 (And.intro B10 (And.intro L10 (And.intro NE (And.intro RW (And.intro N9 N10)))))))
 clear GU B9 L9 B10 L10 NE RW N9 N10
 revert F
 revert b10
 revert b9
 revert c'
 revert m'
 revert a'
 revert bs
 revert z
 exact t16_17_19_20_.out
 )
 )
 focus (
 intro y bs a' m' c' b9 b10 F
 obtain ⟨GU, B9, L9, B10, L10, NE, RW, N9, N10⟩ := F
 have hHeld := HC.out _ GU
 obtain ⟨bc0, bc1, bc2, bc3⟩ := B9.cells
 have bz0 := B9.frozen 0
 have bz1 := B9.frozen 1
 have bz2 := B9.frozen 2
 have bz3 := B9.frozen 3
 refine wpAnyH_ready (rs := [21]) (by kernel_rfl) (by simp) ?_
 refine AllReadyH.cons rfl (fun K hK => ?_) AllReadyH.nil
 go_simp
 refine hK.out _ _ (HC.out _ (Good.set4 GU _ _ _ _ _ L9)) (fun hHeld => ?_)
 clear hK K
 try simp only [List.setIfInBounds_toArray, List.set_cons_zero, List.set_cons_succ]
 obtain ⟨uf, huf⟩ : ∃ uf, uf = (((y.setCell ⟨b9, 0, none⟩ (.int .i64 x.a)).setCell ⟨b9, 1, none⟩ (.int .i64 x.b)).setCell ⟨b9, 2, none⟩ (.int .i64 x.l)).setCell ⟨b9, 3, none⟩ (.bool x.t) := ⟨_, rfl⟩
 have TF := tk_one GU B9 B10 RW L9 NE N9 x
 rw [← huf] at TF hHeld ⊢
 clear huf bc0 bc1 bc2 bc3 bz0 bz1 bz2 bz3
 have bd0 := TF.2.2.1.cell0
 have bd1 := TF.2.2.1.cell1
 have be0 := TF.2.2.1.frozen 0
 have be1 := TF.2.2.1.frozen 1
 have HTF := hideIt TF
 have GF := TF.1
 clear TF
 refine wpAnyH_ready (rs := [22]) (by kernel_rfl) (by simp) ?_
 refine AllReadyH.cons rfl (fun K hK => ?_) AllReadyH.nil
 go_simp
 refine hK.out _ _ (HC.out _ (Good.set2 GF _ _ _ L10)) (fun hHeld => ?_)
 clear hK K
 try simp only [List.setIfInBounds_toArray, List.set_cons_zero, List.set_cons_succ]
 refine wpAnyH_done (by kernel_rfl) ?_ _
 have HZ := hideIt (tk_two HTF.out L9 L10 NE N9 N10 (nn : Int))
 clear HTF GF bd0 bd1 be0 be1 hHeld
 go_wp2_with fail
 go_meet
 exact ⟨b9, b10, a', m', c', rfl, rfl, HZ⟩
 )
          )
        · have HCc : Hid (∀ (u : World) (bs : Nat), Good w5 u → ((u.cell? ⟨bs, 0, none⟩ = some (.slice (some ⟨ba, off, none⟩) k c) ∧ u.cell? ⟨bs, 1, none⟩ = some (.slice (some ⟨ba, off + p * 4, none⟩) (n - p) (c - p))) ∧ bs < u.heap.size) → Calls Tryz.prog 70 #[.slice (some ⟨bs, 0, none⟩) 2 2] u fun e v => ∃ a' m' c', e = .returned (.slice a' m' c') ∧ Hid (v.ownsRow u.heap.size 52 4 (.slice a' m' c') m' (lcells (ouL ls f))) ∧ Below u.heap.size u v) := fun u bs hu ⟨⟨h0, h1⟩, h2⟩ => by
            have hL := HL5.out u hu
            refine (ConcatL_any [⟨some ⟨ba, off, none⟩, k, c, ls.take k⟩, ⟨some ⟨ba, off + p * 4, none⟩, n - p, c - p, ls.drop p⟩] bs 2 rfl (by omega) u ⟨h2, fun j q hq => ?_⟩ (by simp [pLenL]; omega)).mono fun e v ⟨a', m', c', he, ho, hb⟩ => ⟨a', m', c', he, ?_, hb⟩
            · rcases j with _ | _ | j
              · simp at hq; subst hq
                exact ⟨h0, hL.take (show k ≤ n by omega), fun h => by cases h⟩
              · simp at hq; subst hq
                exact ⟨h1, hL.drop p (show p ≤ n by omega), fun h => by cases h⟩
              · simp at hq
            · have hp2 : pAllL [⟨some ⟨ba, off, none⟩, k, c, ls.take k⟩, ⟨some ⟨ba, off + p * 4, none⟩, n - p, c - p, ls.drop p⟩] = ouL ls f := by rw [← HOu.out, ← Hp.out]; simp [pAllL]
              rw [hp2] at ho
              exact ho
          clear HL5 HOu HKx hlen Hp
          (
 apply viaT
 intro t16_17_19_20_
 apply viaT
 intro t16_17_19_
 apply viaT
 intro t16_17_20_
 apply viaT
 intro t16_19_20_
 apply viaT
 intro t16_17_
 apply viaT
 intro t16_19_
 apply viaT
 intro t16_20_
 apply viaT
 intro t19_20_
 apply viaT
 intro t16_
 apply viaT
 intro t19_
 apply viaT
 intro t20_
 focus (
 refine wp_region_held_drew (S := (fun u => ((u.cell? ⟨w.heap.size, 0, none⟩ = some (.int .i64 (nn : Int)) ∧ u.cell? ⟨w.heap.size, 1, none⟩ = some (.slice (some ⟨ba, off, none⟩) n c)) ∧ (u.cell? ⟨ba, off + k * 4, none⟩ = some (.int .i64 x.a) ∧ u.cell? ⟨ba, off + k * 4 + 1, none⟩ = some (.int .i64 x.b) ∧ u.cell? ⟨ba, off + k * 4 + 2, none⟩ = some (.int .i64 x.l) ∧ u.cell? ⟨ba, off + k * 4 + 3, none⟩ = some (.bool x.t))) ∧ Good w5 u)) (by kernel_rfl) hS5 (fun hHeld => ?_)
 refine wpAnyH_take (i := 0) (v := ?_) rfl (by kernel_rfl) (by kernel_rfl) (by kernel_rfl) (fun _ _ _ h => h) (Or.inl ⟨by rfl, ?_⟩) (by assumption) ?_
 rotate_left
 · intro w hSw; (try dsimp only at hSw); go_simp; try with_reducible rfl
 try simp only [Act.put, List.getElem_toArray, List.getElem_cons_zero, List.setIfInBounds_toArray, List.set_cons_zero, List.set_cons_succ]
 refine wpAnyH_take (i := 1) (v := ?_) rfl (by kernel_rfl) (by kernel_rfl) (by kernel_rfl) (fun _ _ _ h => h) (Or.inl ⟨by rfl, ?_⟩) (by assumption) ?_
 rotate_left
 · intro w hSw; (try dsimp only at hSw); go_simp; try with_reducible rfl
 try simp only [Act.put, List.getElem_toArray, List.getElem_cons_succ, List.getElem_cons_zero, List.setIfInBounds_toArray, List.set_cons_zero, List.set_cons_succ]
 refine wpAnyH_take (i := 2) (v := ?_) rfl (by kernel_rfl) (by kernel_rfl) (by kernel_rfl) (fun _ _ _ h => h) (Or.inl ⟨by rfl, ?_⟩) (by assumption) ?_
 rotate_left
 · intro w hSw; (try dsimp only at hSw); go_simp; try with_reducible rfl
 try simp only [Act.put, List.getElem_toArray, List.getElem_cons_succ, List.getElem_cons_zero, List.setIfInBounds_toArray, List.set_cons_zero, List.set_cons_succ]
 refine wpAnyH_take (i := 3) (v := ?_) rfl (by kernel_rfl) (by kernel_rfl) (by kernel_rfl) (fun _ _ _ h => h) (Or.inl ⟨by rfl, ?_⟩) (by assumption) ?_
 rotate_left
 · intro w hSw; (try dsimp only at hSw); go_simp; try with_reducible rfl
 try simp only [Act.put, List.getElem_toArray, List.getElem_cons_succ, List.getElem_cons_zero, List.setIfInBounds_toArray, List.set_cons_zero, List.set_cons_succ]
 refine wpAnyH_take (i := 4) (v := ?_) rfl (by kernel_rfl) (by kernel_rfl) (by kernel_rfl) (fun _ _ _ h => h) (Or.inl ⟨by rfl, ?_⟩) (by assumption) ?_
 rotate_left
 · intro w hSw; (try dsimp only at hSw); go_simp; try with_reducible rfl
 try simp only [Act.put, List.getElem_toArray, List.getElem_cons_succ, List.getElem_cons_zero, List.setIfInBounds_toArray, List.set_cons_zero, List.set_cons_succ]
 refine wpAnyH_take (i := 5) (v := ?_) rfl (by kernel_rfl) (by kernel_rfl) (by kernel_rfl) (fun _ _ _ h => h) (Or.inl ⟨by rfl, ?_⟩) (by assumption) ?_
 rotate_left
 · intro w hSw; (try dsimp only at hSw); go_simp; try with_reducible rfl
 try simp only [Act.put, List.getElem_toArray, List.getElem_cons_succ, List.getElem_cons_zero, List.setIfInBounds_toArray, List.set_cons_zero, List.set_cons_succ]
 refine wpAnyH_take (i := 6) (v := ?_) rfl (by kernel_rfl) (by kernel_rfl) (by kernel_rfl) (fun _ _ _ h => h) (Or.inl ⟨by rfl, ?_⟩) (by assumption) ?_
 rotate_left
 · intro w hSw; (try dsimp only at hSw); go_simp; try with_reducible rfl
 try simp only [Act.put, List.getElem_toArray, List.getElem_cons_succ, List.getElem_cons_zero, List.setIfInBounds_toArray, List.set_cons_zero, List.set_cons_succ]
 refine wpAnyH_take (i := 7) (v := ?_) rfl (by kernel_rfl) (by kernel_rfl) (by kernel_rfl) (fun _ _ _ h => h) (Or.inl ⟨by rfl, ?_⟩) (by assumption) ?_
 rotate_left
 · intro w hSw; (try dsimp only at hSw); go_simp; try with_reducible rfl
 try simp only [Act.put, List.getElem_toArray, List.getElem_cons_succ, List.getElem_cons_zero, List.setIfInBounds_toArray, List.set_cons_zero, List.set_cons_succ]
 refine wpAnyH_take (i := 8) (v := ?_) rfl (by kernel_rfl) (by kernel_rfl) (by kernel_rfl) (fun _ _ _ h => h) (Or.inl ⟨by rfl, ?_⟩) (by assumption) ?_
 rotate_left
 · intro w hSw; (try dsimp only at hSw); go_simp; try with_reducible rfl
 try simp only [Act.put, List.getElem_toArray, List.getElem_cons_succ, List.getElem_cons_zero, List.setIfInBounds_toArray, List.set_cons_zero, List.set_cons_succ]
 refine wpAnyH_take (i := 9) (v := ?_) rfl (by kernel_rfl) (by kernel_rfl) (by kernel_rfl) (fun _ _ _ h => h) (Or.inl ⟨by rfl, ?_⟩) (by assumption) ?_
 rotate_left
 · intro w hSw; (try dsimp only at hSw); go_simp; try with_reducible rfl
 try simp only [Act.put, List.getElem_toArray, List.getElem_cons_succ, List.getElem_cons_zero, List.setIfInBounds_toArray, List.set_cons_zero, List.set_cons_succ]
 refine wpAnyH_take (i := 10) (v := ?_) rfl (by kernel_rfl) (by kernel_rfl) (by kernel_rfl) (fun _ _ _ h => h) (Or.inl ⟨by rfl, ?_⟩) (by assumption) ?_
 rotate_left
 · intro w hSw; (try dsimp only at hSw); go_simp; try with_reducible rfl
 try simp only [Act.put, List.getElem_toArray, List.getElem_cons_succ, List.getElem_cons_zero, List.setIfInBounds_toArray, List.set_cons_zero, List.set_cons_succ]
 refine wpAnyH_take (i := 11) (v := ?_) rfl (by kernel_rfl) (by kernel_rfl) (by kernel_rfl) (fun _ _ _ h => h) (Or.inl ⟨by rfl, ?_⟩) (by assumption) ?_
 rotate_left
 · intro w hSw; (try dsimp only at hSw); go_simp; try with_reducible rfl
 try simp only [Act.put, List.getElem_toArray, List.getElem_cons_succ, List.getElem_cons_zero, List.setIfInBounds_toArray, List.set_cons_zero, List.set_cons_succ]
 refine wpAnyH_take (i := 12) (v := ?_) rfl (by kernel_rfl) (by kernel_rfl) (by kernel_rfl) (fun _ _ _ h => h) (Or.inl ⟨by rfl, ?_⟩) (by assumption) ?_
 rotate_left
 · intro w hSw; (try dsimp only at hSw); go_simp; try with_reducible rfl
 try simp only [Act.put, List.getElem_toArray, List.getElem_cons_succ, List.getElem_cons_zero, List.setIfInBounds_toArray, List.set_cons_zero, List.set_cons_succ]
 refine wpAnyH_take (i := 13) (v := ?_) rfl (by kernel_rfl) (by kernel_rfl) (by kernel_rfl) (fun _ _ _ h => h) (Or.inl ⟨by rfl, ?_⟩) (by assumption) ?_
 rotate_left
 · intro w hSw; (try dsimp only at hSw); go_simp; try with_reducible rfl
 try simp only [Act.put, List.getElem_toArray, List.getElem_cons_succ, List.getElem_cons_zero, List.setIfInBounds_toArray, List.set_cons_zero, List.set_cons_succ]
 refine wpAnyH_take (i := 14) (v := ?_) rfl (by kernel_rfl) (by kernel_rfl) (by kernel_rfl) (fun _ _ _ h => h) (Or.inl ⟨by rfl, ?_⟩) (by assumption) ?_
 rotate_left
 · intro w hSw; (try dsimp only at hSw); go_simp; try with_reducible rfl
 try simp only [Act.put, List.getElem_toArray, List.getElem_cons_succ, List.getElem_cons_zero, List.setIfInBounds_toArray, List.set_cons_zero, List.set_cons_succ]
 refine wpAnyH_take (i := 15) (v := ?_) rfl (by kernel_rfl) (by kernel_rfl) (by kernel_rfl) (fun _ _ _ h => h) (Or.inl ⟨by rfl, ?_⟩) (by assumption) ?_
 rotate_left
 · intro w hSw; (try dsimp only at hSw); go_simp; try with_reducible rfl
 try simp only [Act.put, List.getElem_toArray, List.getElem_cons_succ, List.getElem_cons_zero, List.setIfInBounds_toArray, List.set_cons_zero, List.set_cons_succ]
 obtain ⟨y, hy⟩ : ∃ y, y = w5.drew := ⟨_, rfl⟩
 have GU : Good w5 y := by rw [hy]; exact (Good.refl _).drew
 rw [← hy]
 clear hy hHeld
 refine wpAnyH_ready (rs := [16, 19, 20]) (by kernel_rfl) (by simp) ?_
 refine AllReadyH.cons rfl (fun K hK => ?_) (AllReadyH.cons rfl (fun K hK => ?_) (AllReadyH.cons rfl (fun K hK => ?_) AllReadyH.nil))
 focus (
 go_simp
 refine hK.out _ _ (HC.out _ (GU.alloc _)) (fun hHeld => ?_)
 clear hK K
 try simp only [Act.put, List.getElem_toArray, List.getElem_cons_succ, List.getElem_cons_zero, List.setIfInBounds_toArray, List.set_cons_zero, List.set_cons_succ]
 obtain ⟨z, hz⟩ : ∃ z, z = y.alloc (.cells #[.slice (some ⟨ba, off, none⟩) k c, .slice (some ⟨ba, off + p * 4, none⟩) (n - p) (c - p)] 24) := ⟨_, rfl⟩
 have gg : Below y.heap.size y z := by rw [hz]; exact (Below.refl _ _).alloc (Nat.le_refl _) _
 have PS : (z.cell? ⟨y.heap.size, 0, none⟩ = some (.slice (some ⟨ba, off, none⟩) k c) ∧ z.cell? ⟨y.heap.size, 1, none⟩ = some (.slice (some ⟨ba, off + p * 4, none⟩) (n - p) (c - p))) ∧ y.heap.size < z.heap.size := by rw [hz]; simp [go_sem]
 replace GU := Good.up GU gg
 rw [← hz]
 clear hz gg hHeld
 generalize y.heap.size = bs at *
 refine lstH (l' := #[true, true, true, true, true, true, true, true, true, true, true, true, true, true, true, true, true, false, false, false, false, false, false]) (by kernel_rfl) ?_
 have F := And.intro GU PS
 clear GU PS
 revert F
 revert bs
 revert z
 exact t16_.out
 )
 focus (
 go_simp
 refine hK.out _ _ (HC.out _ (GU.alloc _)) (fun hHeld => ?_)
 clear hK K
 try simp only [Act.put, List.getElem_toArray, List.getElem_cons_succ, List.getElem_cons_zero, List.setIfInBounds_toArray, List.set_cons_zero, List.set_cons_succ]
 obtain ⟨z, hz⟩ : ∃ z, z = y.alloc (.cells #[.int .i64 0, .int .i64 0, .int .i64 0, .bool false] 52) := ⟨_, rfl⟩
 have gg : Below y.heap.size y z := by rw [hz]; exact (Below.refl _ _).alloc (Nat.le_refl _) _
 have B9 : Box4 z y.heap.size ⟨0, 0, 0, false⟩ := by rw [hz]; exact Box4.z _ _ rfl
 have L9 : w5.heap.size ≤ y.heap.size := GU.size
 replace GU := Good.up GU gg
 rw [← hz]
 clear hz gg hHeld
 generalize y.heap.size = b9 at *
 refine lstH (l' := #[true, true, true, true, true, true, true, true, true, true, true, true, true, true, true, true, false, false, false, true, false, false, false]) (by kernel_rfl) ?_
 have F := And.intro GU (And.intro B9 L9)
 clear GU B9 L9
 revert F
 revert b9
 revert z
 exact t19_.out
 )
 focus (
 go_simp
 refine hK.out _ _ (HC.out _ (GU.alloc _)) (fun hHeld => ?_)
 clear hK K
 try simp only [Act.put, List.getElem_toArray, List.getElem_cons_succ, List.getElem_cons_zero, List.setIfInBounds_toArray, List.set_cons_zero, List.set_cons_succ]
 obtain ⟨z, hz⟩ : ∃ z, z = y.alloc (.cells #[.int .i64 0, .slice none 0 0] 26) := ⟨_, rfl⟩
 have gg : Below y.heap.size y z := by rw [hz]; exact (Below.refl _ _).alloc (Nat.le_refl _) _
 have B10 : Box7 z y.heap.size 26 (.int .i64 0) (.slice none 0 0) := by rw [hz]; exact Box7.z _ _ rfl
 have L10 : w5.heap.size ≤ y.heap.size := GU.size
 replace GU := Good.up GU gg
 rw [← hz]
 clear hz gg hHeld
 generalize y.heap.size = b10 at *
 refine lstH (l' := #[true, true, true, true, true, true, true, true, true, true, true, true, true, true, true, true, false, false, false, false, true, false, false]) (by kernel_rfl) ?_
 have F := And.intro GU (And.intro B10 L10)
 clear GU B10 L10
 revert F
 revert b10
 revert z
 exact t20_.out
 )
 )
 focus (
 intro y b10 F
 obtain ⟨GU, B10, L10⟩ := F
 have hHeld := HC.out _ GU
 clear hHeld
 refine wpAnyH_ready (rs := [16, 19]) (by kernel_rfl) (by simp) ?_
 refine AllReadyH.cons rfl (fun K hK => ?_) (AllReadyH.cons rfl (fun K hK => ?_) AllReadyH.nil)
 focus (
 go_simp
 refine hK.out _ _ (HC.out _ (GU.alloc _)) (fun hHeld => ?_)
 clear hK K
 try simp only [List.setIfInBounds_toArray, List.set_cons_zero, List.set_cons_succ]
 obtain ⟨z, hz⟩ : ∃ z, z = y.alloc (.cells #[.slice (some ⟨ba, off, none⟩) k c, .slice (some ⟨ba, off + p * 4, none⟩) (n - p) (c - p)] 24) := ⟨_, rfl⟩
 have gg : Below y.heap.size y z := by rw [hz]; exact (Below.refl _ _).alloc (Nat.le_refl _) _
 have PS : (z.cell? ⟨y.heap.size, 0, none⟩ = some (.slice (some ⟨ba, off, none⟩) k c) ∧ z.cell? ⟨y.heap.size, 1, none⟩ = some (.slice (some ⟨ba, off + p * 4, none⟩) (n - p) (c - p))) ∧ y.heap.size < z.heap.size := by rw [hz]; simp [go_sem]
 replace GU := Good.up GU gg
 replace B10 := B10.up gg
 rw [← hz]
 clear hz gg hHeld
 generalize y.heap.size = bs at *
 refine lstH (l' := #[true, true, true, true, true, true, true, true, true, true, true, true, true, true, true, true, true, false, false, false, true, false, false]) (by kernel_rfl) ?_
 have F := And.intro GU (And.intro PS (And.intro B10 L10))
 clear GU PS B10 L10
 revert F
 revert b10
 revert bs
 revert z
 exact t16_20_.out
 )
 focus (
 go_simp
 refine hK.out _ _ (HC.out _ (GU.alloc _)) (fun hHeld => ?_)
 clear hK K
 try simp only [List.setIfInBounds_toArray, List.set_cons_zero, List.set_cons_succ]
 obtain ⟨z, hz⟩ : ∃ z, z = y.alloc (.cells #[.int .i64 0, .int .i64 0, .int .i64 0, .bool false] 52) := ⟨_, rfl⟩
 have gg : Below y.heap.size y z := by rw [hz]; exact (Below.refl _ _).alloc (Nat.le_refl _) _
 have B9 : Box4 z y.heap.size ⟨0, 0, 0, false⟩ := by rw [hz]; exact Box4.z _ _ rfl
 have L9 : w5.heap.size ≤ y.heap.size := GU.size
 have NE : y.heap.size ≠ b10 := by have := B10.lt; omega
 replace GU := Good.up GU gg
 replace B10 := B10.up gg
 rw [← hz]
 clear hz gg hHeld
 generalize y.heap.size = b9 at *
 refine lstH (l' := #[true, true, true, true, true, true, true, true, true, true, true, true, true, true, true, true, false, false, false, true, true, false, false]) (by kernel_rfl) ?_
 have F := And.intro GU (And.intro B9 (And.intro L9 (And.intro B10 (And.intro L10 NE))))
 clear GU B9 L9 B10 L10 NE
 revert F
 revert b10
 revert b9
 revert z
 exact t19_20_.out
 )
 )
 focus (
 intro y b9 F
 obtain ⟨GU, B9, L9⟩ := F
 have hHeld := HC.out _ GU
 clear hHeld
 refine wpAnyH_ready (rs := [16, 20]) (by kernel_rfl) (by simp) ?_
 refine AllReadyH.cons rfl (fun K hK => ?_) (AllReadyH.cons rfl (fun K hK => ?_) AllReadyH.nil)
 focus (
 go_simp
 refine hK.out _ _ (HC.out _ (GU.alloc _)) (fun hHeld => ?_)
 clear hK K
 try simp only [List.setIfInBounds_toArray, List.set_cons_zero, List.set_cons_succ]
 obtain ⟨z, hz⟩ : ∃ z, z = y.alloc (.cells #[.slice (some ⟨ba, off, none⟩) k c, .slice (some ⟨ba, off + p * 4, none⟩) (n - p) (c - p)] 24) := ⟨_, rfl⟩
 have gg : Below y.heap.size y z := by rw [hz]; exact (Below.refl _ _).alloc (Nat.le_refl _) _
 have PS : (z.cell? ⟨y.heap.size, 0, none⟩ = some (.slice (some ⟨ba, off, none⟩) k c) ∧ z.cell? ⟨y.heap.size, 1, none⟩ = some (.slice (some ⟨ba, off + p * 4, none⟩) (n - p) (c - p))) ∧ y.heap.size < z.heap.size := by rw [hz]; simp [go_sem]
 replace GU := Good.up GU gg
 replace B9 := B9.up gg
 rw [← hz]
 clear hz gg hHeld
 generalize y.heap.size = bs at *
 refine lstH (l' := #[true, true, true, true, true, true, true, true, true, true, true, true, true, true, true, true, true, false, false, true, false, false, false]) (by kernel_rfl) ?_
 have F := And.intro GU (And.intro PS (And.intro B9 L9))
 clear GU PS B9 L9
 revert F
 revert b9
 revert bs
 revert z
 exact t16_19_.out
 )
 focus (
 go_simp
 refine hK.out _ _ (HC.out _ (GU.alloc _)) (fun hHeld => ?_)
 clear hK K
 try simp only [List.setIfInBounds_toArray, List.set_cons_zero, List.set_cons_succ]
 obtain ⟨z, hz⟩ : ∃ z, z = y.alloc (.cells #[.int .i64 0, .slice none 0 0] 26) := ⟨_, rfl⟩
 have gg : Below y.heap.size y z := by rw [hz]; exact (Below.refl _ _).alloc (Nat.le_refl _) _
 have B10 : Box7 z y.heap.size 26 (.int .i64 0) (.slice none 0 0) := by rw [hz]; exact Box7.z _ _ rfl
 have L10 : w5.heap.size ≤ y.heap.size := GU.size
 have NE : b9 ≠ y.heap.size := by have := B9.lt; omega
 replace GU := Good.up GU gg
 replace B9 := B9.up gg
 rw [← hz]
 clear hz gg hHeld
 generalize y.heap.size = b10 at *
 refine lstH (l' := #[true, true, true, true, true, true, true, true, true, true, true, true, true, true, true, true, false, false, false, true, true, false, false]) (by kernel_rfl) ?_
 have F := And.intro GU (And.intro B9 (And.intro L9 (And.intro B10 (And.intro L10 NE))))
 clear GU B9 L9 B10 L10 NE
 revert F
 revert b10
 revert b9
 revert z
 exact t19_20_.out
 )
 )
 focus (
 intro y bs F
 obtain ⟨GU, PS⟩ := F
 have hHeld := HC.out _ GU
 clear hHeld
 refine wpAnyH_ready (rs := [17, 19, 20]) (by kernel_rfl) (by simp) ?_
 refine AllReadyH.cons rfl (fun K hK => ?_) (AllReadyH.cons rfl (fun K hK => ?_) (AllReadyH.cons rfl (fun K hK => ?_) AllReadyH.nil))
 focus (
 rw [if_pos]
 rotate_left
 · kernel_rfl
 have HCall := hideIt (HCc.out _ bs GU PS)
 go_wp2_with (go_at_call 70; refine HCall.out.mono ?_; rintro e z ⟨a', m', c', rfl, RW0, gg⟩; refine Hid.out ?_)
 refine hidp ?_
 refine hK.out _ _ (HC.out _ (Good.up GU gg)) (fun hHeld => ?_)
 clear hK K HCall
 try simp only [List.setIfInBounds_toArray, List.set_cons_zero, List.set_cons_succ]
 have RW := own_mono RW0.out GU.size
 clear RW0
 replace GU := Good.up GU gg
 clear gg PS
 replace hHeld := HC.out _ GU
 refine wpAnyH_take (i := 18) (v := ?_) rfl (by kernel_rfl) (by kernel_rfl) (by kernel_rfl) (fun _ _ _ h => h) (Or.inl ⟨by rfl, ?_⟩) (by assumption) ?_
 rotate_left
 · intro w hSw; (try dsimp only at hSw); go_simp; try with_reducible rfl
 try simp only [Act.put, List.getElem_toArray, List.getElem_cons_succ, List.getElem_cons_zero, List.setIfInBounds_toArray, List.set_cons_zero, List.set_cons_succ]
 clear hHeld
 refine lstH (l' := #[true, true, true, true, true, true, true, true, true, true, true, true, true, true, true, true, true, true, true, false, false, false, false]) (by kernel_rfl) ?_
 have F := And.intro GU RW
 clear GU RW
 revert F
 revert c'
 revert m'
 revert a'
 revert bs
 revert z
 exact t16_17_.out
 )
 focus (
 go_simp
 refine hK.out _ _ (HC.out _ (GU.alloc _)) (fun hHeld => ?_)
 clear hK K
 try simp only [List.setIfInBounds_toArray, List.set_cons_zero, List.set_cons_succ]
 obtain ⟨z, hz⟩ : ∃ z, z = y.alloc (.cells #[.int .i64 0, .int .i64 0, .int .i64 0, .bool false] 52) := ⟨_, rfl⟩
 have gg : Below y.heap.size y z := by rw [hz]; exact (Below.refl _ _).alloc (Nat.le_refl _) _
 have B9 : Box4 z y.heap.size ⟨0, 0, 0, false⟩ := by rw [hz]; exact Box4.z _ _ rfl
 have L9 : w5.heap.size ≤ y.heap.size := GU.size
 replace GU := Good.up GU gg
 replace PS := keepP PS gg
 rw [← hz]
 clear hz gg hHeld
 generalize y.heap.size = b9 at *
 refine lstH (l' := #[true, true, true, true, true, true, true, true, true, true, true, true, true, true, true, true, true, false, false, true, false, false, false]) (by kernel_rfl) ?_
 have F := And.intro GU (And.intro PS (And.intro B9 L9))
 clear GU PS B9 L9
 revert F
 revert b9
 revert bs
 revert z
 exact t16_19_.out
 )
 focus (
 go_simp
 refine hK.out _ _ (HC.out _ (GU.alloc _)) (fun hHeld => ?_)
 clear hK K
 try simp only [List.setIfInBounds_toArray, List.set_cons_zero, List.set_cons_succ]
 obtain ⟨z, hz⟩ : ∃ z, z = y.alloc (.cells #[.int .i64 0, .slice none 0 0] 26) := ⟨_, rfl⟩
 have gg : Below y.heap.size y z := by rw [hz]; exact (Below.refl _ _).alloc (Nat.le_refl _) _
 have B10 : Box7 z y.heap.size 26 (.int .i64 0) (.slice none 0 0) := by rw [hz]; exact Box7.z _ _ rfl
 have L10 : w5.heap.size ≤ y.heap.size := GU.size
 replace GU := Good.up GU gg
 replace PS := keepP PS gg
 rw [← hz]
 clear hz gg hHeld
 generalize y.heap.size = b10 at *
 refine lstH (l' := #[true, true, true, true, true, true, true, true, true, true, true, true, true, true, true, true, true, false, false, false, true, false, false]) (by kernel_rfl) ?_
 have F := And.intro GU (And.intro PS (And.intro B10 L10))
 clear GU PS B10 L10
 revert F
 revert b10
 revert bs
 revert z
 exact t16_20_.out
 )
 )
 focus (
 intro y b9 b10 F
 obtain ⟨GU, B9, L9, B10, L10, NE⟩ := F
 have hHeld := HC.out _ GU
 clear hHeld
 refine wpAnyH_ready (rs := [16]) (by kernel_rfl) (by simp) ?_
 refine AllReadyH.cons rfl (fun K hK => ?_) AllReadyH.nil
 focus (
 go_simp
 refine hK.out _ _ (HC.out _ (GU.alloc _)) (fun hHeld => ?_)
 clear hK K
 try simp only [List.setIfInBounds_toArray, List.set_cons_zero, List.set_cons_succ]
 obtain ⟨z, hz⟩ : ∃ z, z = y.alloc (.cells #[.slice (some ⟨ba, off, none⟩) k c, .slice (some ⟨ba, off + p * 4, none⟩) (n - p) (c - p)] 24) := ⟨_, rfl⟩
 have gg : Below y.heap.size y z := by rw [hz]; exact (Below.refl _ _).alloc (Nat.le_refl _) _
 have PS : (z.cell? ⟨y.heap.size, 0, none⟩ = some (.slice (some ⟨ba, off, none⟩) k c) ∧ z.cell? ⟨y.heap.size, 1, none⟩ = some (.slice (some ⟨ba, off + p * 4, none⟩) (n - p) (c - p))) ∧ y.heap.size < z.heap.size := by rw [hz]; simp [go_sem]
 replace GU := Good.up GU gg
 replace B9 := B9.up gg
 replace B10 := B10.up gg
 rw [← hz]
 clear hz gg hHeld
 generalize y.heap.size = bs at *
 refine lstH (l' := #[true, true, true, true, true, true, true, true, true, true, true, true, true, true, true, true, true, false, false, true, true, false, false]) (by kernel_rfl) ?_
 have F := And.intro GU (And.intro PS (And.intro B9 (And.intro L9 (And.intro B10 (And.intro L10 NE)))))
 clear GU PS B9 L9 B10 L10 NE
 revert F
 revert b10
 revert b9
 revert bs
 revert z
 exact t16_19_20_.out
 )
 )
 focus (
 intro y bs b10 F
 obtain ⟨GU, PS, B10, L10⟩ := F
 have hHeld := HC.out _ GU
 clear hHeld
 refine wpAnyH_ready (rs := [17, 19]) (by kernel_rfl) (by simp) ?_
 refine AllReadyH.cons rfl (fun K hK => ?_) (AllReadyH.cons rfl (fun K hK => ?_) AllReadyH.nil)
 focus (
 rw [if_pos]
 rotate_left
 · kernel_rfl
 have HCall := hideIt (HCc.out _ bs GU PS)
 go_wp2_with (go_at_call 70; refine HCall.out.mono ?_; rintro e z ⟨a', m', c', rfl, RW0, gg⟩; refine Hid.out ?_)
 refine hidp ?_
 refine hK.out _ _ (HC.out _ (Good.up GU gg)) (fun hHeld => ?_)
 clear hK K HCall
 try simp only [List.setIfInBounds_toArray, List.set_cons_zero, List.set_cons_succ]
 have N10 : ∀ g, a' = some ⟨g, 0, none⟩ → g ≠ b10 := fun g hg => by have := own_lo RW0.out hg; have := B10.lt; omega
 have RW := own_mono RW0.out GU.size
 clear RW0
 replace GU := Good.up GU gg
 replace B10 := B10.up gg
 clear gg PS
 replace hHeld := HC.out _ GU
 refine wpAnyH_take (i := 18) (v := ?_) rfl (by kernel_rfl) (by kernel_rfl) (by kernel_rfl) (fun _ _ _ h => h) (Or.inl ⟨by rfl, ?_⟩) (by assumption) ?_
 rotate_left
 · intro w hSw; (try dsimp only at hSw); go_simp; try with_reducible rfl
 try simp only [Act.put, List.getElem_toArray, List.getElem_cons_succ, List.getElem_cons_zero, List.setIfInBounds_toArray, List.set_cons_zero, List.set_cons_succ]
 clear hHeld
 refine lstH (l' := #[true, true, true, true, true, true, true, true, true, true, true, true, true, true, true, true, true, true, true, false, true, false, false]) (by kernel_rfl) ?_
 have F := And.intro GU (And.intro B10 (And.intro L10 (And.intro RW N10)))
 clear GU B10 L10 RW N10
 revert F
 revert b10
 revert c'
 revert m'
 revert a'
 revert bs
 revert z
 exact t16_17_20_.out
 )
 focus (
 go_simp
 refine hK.out _ _ (HC.out _ (GU.alloc _)) (fun hHeld => ?_)
 clear hK K
 try simp only [List.setIfInBounds_toArray, List.set_cons_zero, List.set_cons_succ]
 obtain ⟨z, hz⟩ : ∃ z, z = y.alloc (.cells #[.int .i64 0, .int .i64 0, .int .i64 0, .bool false] 52) := ⟨_, rfl⟩
 have gg : Below y.heap.size y z := by rw [hz]; exact (Below.refl _ _).alloc (Nat.le_refl _) _
 have B9 : Box4 z y.heap.size ⟨0, 0, 0, false⟩ := by rw [hz]; exact Box4.z _ _ rfl
 have L9 : w5.heap.size ≤ y.heap.size := GU.size
 have NE : y.heap.size ≠ b10 := by have := B10.lt; omega
 replace GU := Good.up GU gg
 replace PS := keepP PS gg
 replace B10 := B10.up gg
 rw [← hz]
 clear hz gg hHeld
 generalize y.heap.size = b9 at *
 refine lstH (l' := #[true, true, true, true, true, true, true, true, true, true, true, true, true, true, true, true, true, false, false, true, true, false, false]) (by kernel_rfl) ?_
 have F := And.intro GU (And.intro PS (And.intro B9 (And.intro L9 (And.intro B10 (And.intro L10 NE)))))
 clear GU PS B9 L9 B10 L10 NE
 revert F
 revert b10
 revert b9
 revert bs
 revert z
 exact t16_19_20_.out
 )
 )
 focus (
 intro y bs b9 F
 obtain ⟨GU, PS, B9, L9⟩ := F
 have hHeld := HC.out _ GU
 clear hHeld
 refine wpAnyH_ready (rs := [17, 20]) (by kernel_rfl) (by simp) ?_
 refine AllReadyH.cons rfl (fun K hK => ?_) (AllReadyH.cons rfl (fun K hK => ?_) AllReadyH.nil)
 focus (
 rw [if_pos]
 rotate_left
 · kernel_rfl
 have HCall := hideIt (HCc.out _ bs GU PS)
 go_wp2_with (go_at_call 70; refine HCall.out.mono ?_; rintro e z ⟨a', m', c', rfl, RW0, gg⟩; refine Hid.out ?_)
 refine hidp ?_
 refine hK.out _ _ (HC.out _ (Good.up GU gg)) (fun hHeld => ?_)
 clear hK K HCall
 try simp only [List.setIfInBounds_toArray, List.set_cons_zero, List.set_cons_succ]
 have N9 : ∀ g, a' = some ⟨g, 0, none⟩ → g ≠ b9 := fun g hg => by have := own_lo RW0.out hg; have := B9.lt; omega
 have RW := own_mono RW0.out GU.size
 clear RW0
 replace GU := Good.up GU gg
 replace B9 := B9.up gg
 clear gg PS
 replace hHeld := HC.out _ GU
 refine wpAnyH_take (i := 18) (v := ?_) rfl (by kernel_rfl) (by kernel_rfl) (by kernel_rfl) (fun _ _ _ h => h) (Or.inl ⟨by rfl, ?_⟩) (by assumption) ?_
 rotate_left
 · intro w hSw; (try dsimp only at hSw); go_simp; try with_reducible rfl
 try simp only [Act.put, List.getElem_toArray, List.getElem_cons_succ, List.getElem_cons_zero, List.setIfInBounds_toArray, List.set_cons_zero, List.set_cons_succ]
 clear hHeld
 refine lstH (l' := #[true, true, true, true, true, true, true, true, true, true, true, true, true, true, true, true, true, true, true, true, false, false, false]) (by kernel_rfl) ?_
 have F := And.intro GU (And.intro B9 (And.intro L9 (And.intro RW N9)))
 clear GU B9 L9 RW N9
 revert F
 revert b9
 revert c'
 revert m'
 revert a'
 revert bs
 revert z
 exact t16_17_19_.out
 )
 focus (
 go_simp
 refine hK.out _ _ (HC.out _ (GU.alloc _)) (fun hHeld => ?_)
 clear hK K
 try simp only [List.setIfInBounds_toArray, List.set_cons_zero, List.set_cons_succ]
 obtain ⟨z, hz⟩ : ∃ z, z = y.alloc (.cells #[.int .i64 0, .slice none 0 0] 26) := ⟨_, rfl⟩
 have gg : Below y.heap.size y z := by rw [hz]; exact (Below.refl _ _).alloc (Nat.le_refl _) _
 have B10 : Box7 z y.heap.size 26 (.int .i64 0) (.slice none 0 0) := by rw [hz]; exact Box7.z _ _ rfl
 have L10 : w5.heap.size ≤ y.heap.size := GU.size
 have NE : b9 ≠ y.heap.size := by have := B9.lt; omega
 replace GU := Good.up GU gg
 replace PS := keepP PS gg
 replace B9 := B9.up gg
 rw [← hz]
 clear hz gg hHeld
 generalize y.heap.size = b10 at *
 refine lstH (l' := #[true, true, true, true, true, true, true, true, true, true, true, true, true, true, true, true, true, false, false, true, true, false, false]) (by kernel_rfl) ?_
 have F := And.intro GU (And.intro PS (And.intro B9 (And.intro L9 (And.intro B10 (And.intro L10 NE)))))
 clear GU PS B9 L9 B10 L10 NE
 revert F
 revert b10
 revert b9
 revert bs
 revert z
 exact t16_19_20_.out
 )
 )
 focus (
 intro y bs a' m' c' F
 obtain ⟨GU, RW⟩ := F
 have hHeld := HC.out _ GU
 clear hHeld
 refine wpAnyH_ready (rs := [19, 20]) (by kernel_rfl) (by simp) ?_
 refine AllReadyH.cons rfl (fun K hK => ?_) (AllReadyH.cons rfl (fun K hK => ?_) AllReadyH.nil)
 focus (
 go_simp
 refine hK.out _ _ (HC.out _ (GU.alloc _)) (fun hHeld => ?_)
 clear hK K
 try simp only [List.setIfInBounds_toArray, List.set_cons_zero, List.set_cons_succ]
 obtain ⟨z, hz⟩ : ∃ z, z = y.alloc (.cells #[.int .i64 0, .int .i64 0, .int .i64 0, .bool false] 52) := ⟨_, rfl⟩
 have gg : Below y.heap.size y z := by rw [hz]; exact (Below.refl _ _).alloc (Nat.le_refl _) _
 have B9 : Box4 z y.heap.size ⟨0, 0, 0, false⟩ := by rw [hz]; exact Box4.z _ _ rfl
 have L9 : w5.heap.size ≤ y.heap.size := GU.size
 have N9 : ∀ g, a' = some ⟨g, 0, none⟩ → g ≠ y.heap.size := fun g hg => by have := own_lo RW hg; omega
 replace GU := Good.up GU gg
 replace RW := own_up RW gg
 rw [← hz]
 clear hz gg hHeld
 generalize y.heap.size = b9 at *
 refine lstH (l' := #[true, true, true, true, true, true, true, true, true, true, true, true, true, true, true, true, true, true, true, true, false, false, false]) (by kernel_rfl) ?_
 have F := And.intro GU (And.intro B9 (And.intro L9 (And.intro RW N9)))
 clear GU B9 L9 RW N9
 revert F
 revert b9
 revert c'
 revert m'
 revert a'
 revert bs
 revert z
 exact t16_17_19_.out
 )
 focus (
 go_simp
 refine hK.out _ _ (HC.out _ (GU.alloc _)) (fun hHeld => ?_)
 clear hK K
 try simp only [List.setIfInBounds_toArray, List.set_cons_zero, List.set_cons_succ]
 obtain ⟨z, hz⟩ : ∃ z, z = y.alloc (.cells #[.int .i64 0, .slice none 0 0] 26) := ⟨_, rfl⟩
 have gg : Below y.heap.size y z := by rw [hz]; exact (Below.refl _ _).alloc (Nat.le_refl _) _
 have B10 : Box7 z y.heap.size 26 (.int .i64 0) (.slice none 0 0) := by rw [hz]; exact Box7.z _ _ rfl
 have L10 : w5.heap.size ≤ y.heap.size := GU.size
 have N10 : ∀ g, a' = some ⟨g, 0, none⟩ → g ≠ y.heap.size := fun g hg => by have := own_lo RW hg; omega
 replace GU := Good.up GU gg
 replace RW := own_up RW gg
 rw [← hz]
 clear hz gg hHeld
 generalize y.heap.size = b10 at *
 refine lstH (l' := #[true, true, true, true, true, true, true, true, true, true, true, true, true, true, true, true, true, true, true, false, true, false, false]) (by kernel_rfl) ?_
 have F := And.intro GU (And.intro B10 (And.intro L10 (And.intro RW N10)))
 clear GU B10 L10 RW N10
 revert F
 revert b10
 revert c'
 revert m'
 revert a'
 revert bs
 revert z
 exact t16_17_20_.out
 )
 )
 focus (
 intro y bs b9 b10 F
 obtain ⟨GU, PS, B9, L9, B10, L10, NE⟩ := F
 have hHeld := HC.out _ GU
 clear hHeld
 refine wpAnyH_ready (rs := [17]) (by kernel_rfl) (by simp) ?_
 refine AllReadyH.cons rfl (fun K hK => ?_) AllReadyH.nil
 focus (
 rw [if_pos]
 rotate_left
 · kernel_rfl
 have HCall := hideIt (HCc.out _ bs GU PS)
 go_wp2_with (go_at_call 70; refine HCall.out.mono ?_; rintro e z ⟨a', m', c', rfl, RW0, gg⟩; refine Hid.out ?_)
 refine hidp ?_
 refine hK.out _ _ (HC.out _ (Good.up GU gg)) (fun hHeld => ?_)
 clear hK K HCall
 try simp only [List.setIfInBounds_toArray, List.set_cons_zero, List.set_cons_succ]
 have N9 : ∀ g, a' = some ⟨g, 0, none⟩ → g ≠ b9 := fun g hg => by have := own_lo RW0.out hg; have := B9.lt; omega
 have N10 : ∀ g, a' = some ⟨g, 0, none⟩ → g ≠ b10 := fun g hg => by have := own_lo RW0.out hg; have := B10.lt; omega
 have RW := own_mono RW0.out GU.size
 clear RW0
 replace GU := Good.up GU gg
 replace B9 := B9.up gg
 replace B10 := B10.up gg
 clear gg PS
 replace hHeld := HC.out _ GU
 refine wpAnyH_take (i := 18) (v := ?_) rfl (by kernel_rfl) (by kernel_rfl) (by kernel_rfl) (fun _ _ _ h => h) (Or.inl ⟨by rfl, ?_⟩) (by assumption) ?_
 rotate_left
 · intro w hSw; (try dsimp only at hSw); go_simp; try with_reducible rfl
 try simp only [Act.put, List.getElem_toArray, List.getElem_cons_succ, List.getElem_cons_zero, List.setIfInBounds_toArray, List.set_cons_zero, List.set_cons_succ]
 clear hHeld
 refine lstH (l' := #[true, true, true, true, true, true, true, true, true, true, true, true, true, true, true, true, true, true, true, true, true, false, false]) (by kernel_rfl) ?_
 have F := And.intro GU (And.intro B9 (And.intro L9 (And.intro B10 (And.intro L10 (And.intro NE (And.intro RW (And.intro N9 N10)))))))
 clear GU B9 L9 B10 L10 NE RW N9 N10
 revert F
 revert b10
 revert b9
 revert c'
 revert m'
 revert a'
 revert bs
 revert z
 exact t16_17_19_20_.out
 )
 )
 focus (
 intro y bs a' m' c' b10 F
 obtain ⟨GU, B10, L10, RW, N10⟩ := F
 have hHeld := HC.out _ GU
 clear hHeld
 refine wpAnyH_ready (rs := [19]) (by kernel_rfl) (by simp) ?_
 refine AllReadyH.cons rfl (fun K hK => ?_) AllReadyH.nil
 focus (
 go_simp
 refine hK.out _ _ (HC.out _ (GU.alloc _)) (fun hHeld => ?_)
 clear hK K
 try simp only [List.setIfInBounds_toArray, List.set_cons_zero, List.set_cons_succ]
 obtain ⟨z, hz⟩ : ∃ z, z = y.alloc (.cells #[.int .i64 0, .int .i64 0, .int .i64 0, .bool false] 52) := ⟨_, rfl⟩
 have gg : Below y.heap.size y z := by rw [hz]; exact (Below.refl _ _).alloc (Nat.le_refl _) _
 have B9 : Box4 z y.heap.size ⟨0, 0, 0, false⟩ := by rw [hz]; exact Box4.z _ _ rfl
 have L9 : w5.heap.size ≤ y.heap.size := GU.size
 have N9 : ∀ g, a' = some ⟨g, 0, none⟩ → g ≠ y.heap.size := fun g hg => by have := own_lo RW hg; omega
 have NE : y.heap.size ≠ b10 := by have := B10.lt; omega
 replace GU := Good.up GU gg
 replace B10 := B10.up gg
 replace RW := own_up RW gg
 rw [← hz]
 clear hz gg hHeld
 generalize y.heap.size = b9 at *
 refine lstH (l' := #[true, true, true, true, true, true, true, true, true, true, true, true, true, true, true, true, true, true, true, true, true, false, false]) (by kernel_rfl) ?_
 have F := And.intro GU (And.intro B9 (And.intro L9 (And.intro B10 (And.intro L10 (And.intro NE (And.intro RW (And.intro N9 N10)))))))
 clear GU B9 L9 B10 L10 NE RW N9 N10
 revert F
 revert b10
 revert b9
 revert c'
 revert m'
 revert a'
 revert bs
 revert z
 exact t16_17_19_20_.out
 )
 )
 focus (
 intro y bs a' m' c' b9 F
 obtain ⟨GU, B9, L9, RW, N9⟩ := F
 have hHeld := HC.out _ GU
 clear hHeld
 refine wpAnyH_ready (rs := [20]) (by kernel_rfl) (by simp) ?_
 refine AllReadyH.cons rfl (fun K hK => ?_) AllReadyH.nil
 focus (
 go_simp
 refine hK.out _ _ (HC.out _ (GU.alloc _)) (fun hHeld => ?_)
 clear hK K
 try simp only [List.setIfInBounds_toArray, List.set_cons_zero, List.set_cons_succ]
 obtain ⟨z, hz⟩ : ∃ z, z = y.alloc (.cells #[.int .i64 0, .slice none 0 0] 26) := ⟨_, rfl⟩
 have gg : Below y.heap.size y z := by rw [hz]; exact (Below.refl _ _).alloc (Nat.le_refl _) _
 have B10 : Box7 z y.heap.size 26 (.int .i64 0) (.slice none 0 0) := by rw [hz]; exact Box7.z _ _ rfl
 have L10 : w5.heap.size ≤ y.heap.size := GU.size
 have N10 : ∀ g, a' = some ⟨g, 0, none⟩ → g ≠ y.heap.size := fun g hg => by have := own_lo RW hg; omega
 have NE : b9 ≠ y.heap.size := by have := B9.lt; omega
 replace GU := Good.up GU gg
 replace B9 := B9.up gg
 replace RW := own_up RW gg
 rw [← hz]
 clear hz gg hHeld
 generalize y.heap.size = b10 at *
 refine lstH (l' := #[true, true, true, true, true, true, true, true, true, true, true, true, true, true, true, true, true, true, true, true, true, false, false]) (by kernel_rfl) ?_
 have F := And.intro GU (And.intro B9 (And.intro L9 (And.intro B10 (And.intro L10 (And.intro NE (And.intro RW (And.intro N9 N10)))))))
 clear GU B9 L9 B10 L10 NE RW N9 N10
 revert F
 revert b10
 revert b9
 revert c'
 revert m'
 revert a'
 revert bs
 revert z
 exact t16_17_19_20_.out
 )
 )
 focus (
 intro y bs a' m' c' b9 b10 F
 obtain ⟨GU, B9, L9, B10, L10, NE, RW, N9, N10⟩ := F
 have hHeld := HC.out _ GU
 obtain ⟨bc0, bc1, bc2, bc3⟩ := B9.cells
 have bz0 := B9.frozen 0
 have bz1 := B9.frozen 1
 have bz2 := B9.frozen 2
 have bz3 := B9.frozen 3
 refine wpAnyH_ready (rs := [21]) (by kernel_rfl) (by simp) ?_
 refine AllReadyH.cons rfl (fun K hK => ?_) AllReadyH.nil
 go_simp
 refine hK.out _ _ (HC.out _ (Good.set4 GU _ _ _ _ _ L9)) (fun hHeld => ?_)
 clear hK K
 try simp only [List.setIfInBounds_toArray, List.set_cons_zero, List.set_cons_succ]
 obtain ⟨uf, huf⟩ : ∃ uf, uf = (((y.setCell ⟨b9, 0, none⟩ (.int .i64 x.a)).setCell ⟨b9, 1, none⟩ (.int .i64 x.b)).setCell ⟨b9, 2, none⟩ (.int .i64 x.l)).setCell ⟨b9, 3, none⟩ (.bool x.t) := ⟨_, rfl⟩
 have TF := tk_one GU B9 B10 RW L9 NE N9 x
 rw [← huf] at TF hHeld ⊢
 clear huf bc0 bc1 bc2 bc3 bz0 bz1 bz2 bz3
 have bd0 := TF.2.2.1.cell0
 have bd1 := TF.2.2.1.cell1
 have be0 := TF.2.2.1.frozen 0
 have be1 := TF.2.2.1.frozen 1
 have HTF := hideIt TF
 have GF := TF.1
 clear TF
 refine wpAnyH_ready (rs := [22]) (by kernel_rfl) (by simp) ?_
 refine AllReadyH.cons rfl (fun K hK => ?_) AllReadyH.nil
 go_simp
 refine hK.out _ _ (HC.out _ (Good.set2 GF _ _ _ L10)) (fun hHeld => ?_)
 clear hK K
 try simp only [List.setIfInBounds_toArray, List.set_cons_zero, List.set_cons_succ]
 refine wpAnyH_done (by kernel_rfl) ?_ _
 have HZ := hideIt (tk_two HTF.out L9 L10 NE N9 N10 (nn : Int))
 clear HTF GF bd0 bd1 be0 be1 hHeld
 go_wp2_with fail
 go_meet
 exact ⟨b9, b10, a', m', c', rfl, rfl, HZ⟩
 )
          )
      case rest =>
        obtain ⟨b9, b10, a', m', c', rfl, rfl, HT⟩ := hcut
        obtain ⟨_, _, _, q3⟩ := HT.out.bx.cells
        have d0 := HT.out.bw.cell0
        have d1 := HT.out.bw.cell1
        have S6 := S5.up HT.out.good
        by_cases hxt : x.t = true
        · rw [hxt] at q3 HW
          obtain ⟨q0, q1, q2, _⟩ := HT.out.bx.cells
          have hm : m' ≤ 1048576 := by
            have h1 := HT.out.own.1
            rw [lcells_length] at h1
            have h2 : (ouL ls f).length ≤ ls.length := List.length_filter_le _ _
            omega
          have hTp := takePlace_opt nn (ouL ls f) x w5.heap.size a' m' c' (HS.out.out f) Hxl.out Hxe.out.1 Hxe.out.2 hm wc HT.out.own
          rw [hxt] at hTp
          have hl10 := HT.out.l10
          obtain ⟨r, hr⟩ : ∃ r, r = tkO nn x.e (x.l.toNat + 1) (ouL ls f) := ⟨_, rfl⟩
          rw [← hr] at hTp
          have HW2 : Hid (wtO (nn : Int) ls f = some r) := by
            show _ = _
            rw [HW.out, hr, HXe.out]
            rfl
          obtain ⟨d, hd⟩ : ∃ d, d = r.2.getD (0, 0) := ⟨_, rfl⟩
          obtain ⟨fd, hfd2⟩ : ∃ fd, fd = r.2.isSome := ⟨_, rfl⟩
          have HTp : Hid (Calls Tryz.prog 71 #[.agg #[.int .i64 (nn : Int), .slice a' m' c'], .agg #[.int .i64 x.a, .int .i64 x.b, .int .i64 x.l, .bool true]] wc fun e w' => e = .returned (.tuple #[.agg #[.int .i64 d.1, .int .i64 d.2], .bool fd]) ∧ Hid (w'.ownsRow w5.heap.size 52 4 (.slice a' m' c') m' (lcells r.1)) ∧ Box7 w' b10 26 (.int .i64 (nn : Int)) (.slice a' m' c') ∧ In4 w (nn : Int) (some ⟨ba, off, none⟩) n c f w') := hTp.mono fun e w' ⟨h1, h2, h3⟩ => by
            have hz : ∀ g, (Value.slice a' m' c').ownBlock = some g → w5.heap.size ≤ g ∧ g ≠ b10 := fun g hg => by
              rcases HT.out.own.2 with ⟨hv, _⟩ | ⟨g', cap, cur, hv, hl, _⟩
              · simp at hv
                rw [hv.1] at hg
                simp [Value.ownBlock] at hg
              · simp at hv
                rw [hv.1] at hg
                simp [Value.ownBlock] at hg
                subst hg
                exact ⟨hl, (HT.out.ne g' hv.1).2⟩
            exact ⟨by rw [h1, hd, hfd2], h2, HT.out.bw.grown h3 (fun e => (hz b10 e.symm).2 rfl), ⟨good_grown S6.good h3 fun g hg => by have := (hz g hg).1; rw [w4w_size]; omega⟩⟩
          have Hd := hideIt hd
          have Hf := hideIt hfd2
          clear hTp hr hd hfd2 HT hm HC hS5
          go_wp2_with (go_at_call 71; refine HTp.out.mono ?_; rintro e w9 ⟨rfl, ho9, bw9, S9⟩; refine Hid.out ?_)
          refine (show ∀ {p : Prop}, p → Hid p from fun h => h) ?_
          obtain ⟨W10, hW10⟩ : ∃ W10, W10 = w9.alloc (.cells #[.int .i64 d.1, .int .i64 d.2] 28) := ⟨_, rfl⟩
          have g10 : Good w9 W10 := by rw [hW10]; exact (Good.refl w9).alloc _
          have S10 := S9.up g10
          have z9 := S9.size
          have bw10 := bw9.up g10
          have be10 : Box7 W10 w9.heap.size 28 (.int .i64 d.1) (.int .i64 d.2) := by rw [hW10]; exact Box7.new _ _ _ _ _ rfl
          have ho10 := hideIt (own_up ho9.out g10)
          have v0 := bw10.cell0
          have v1 := bw10.cell1
          have v2 := be10.cell0
          have v3 := be10.cell1
          have r0 := S10.rw.cell0
          have r1 := S10.rw.cell1
          have r2 := S10.rw.frozen 0
          have r3 := S10.rw.frozen 1
          have r4 := S10.re.cell0
          have r5 := S10.re.cell1
          have r6 := S10.re.frozen 0
          have r7 := S10.re.frozen 1
          obtain ⟨⟨t0, t1⟩, t2, t3⟩ := putR_cells (M := (nn : Int)) (a' := a') (m' := m') (c' := c') (d := d) S10.rw S10.re
          have HA := hideIt (wta_yes (N := (nn : Int)) HW2.out z5 S10.below ho10.out Hd.out Hf.out)
          unfold putR at t0 t1 t2 t3 HA
          clear q0 q1 q2 q3 d0 d1 S6 S9 bw9 g10 HTp ho9 ho10 S10 bw10 be10 S5
          have HSet : Hid (∀ (u : World) (b j : Nat) (v : Value), b < w.heap.size + 4 → ((u.cell? ⟨b10, 0, none⟩ = some (.int .i64 (nn : Int)) ∧ u.cell? ⟨b10, 1, none⟩ = some (.slice a' m' c')) ∧ (u.cell? ⟨w9.heap.size, 0, none⟩ = some (.int .i64 d.1) ∧ u.cell? ⟨w9.heap.size, 1, none⟩ = some (.int .i64 d.2))) → (((u.setCell ⟨b, j, none⟩ v).cell? ⟨b10, 0, none⟩ = some (.int .i64 (nn : Int)) ∧ (u.setCell ⟨b, j, none⟩ v).cell? ⟨b10, 1, none⟩ = some (.slice a' m' c')) ∧ ((u.setCell ⟨b, j, none⟩ v).cell? ⟨w9.heap.size, 0, none⟩ = some (.int .i64 d.1) ∧ (u.setCell ⟨b, j, none⟩ v).cell? ⟨w9.heap.size, 1, none⟩ = some (.int .i64 d.2)))) := fun u b j v hb h => by
            rw [set_other (by omega), set_other (by omega), set_other (by omega), set_other (by omega)]
            exact h
          have hS0 : (W10.drew.cell? ⟨b10, 0, none⟩ = some (.int .i64 (nn : Int)) ∧ W10.drew.cell? ⟨b10, 1, none⟩ = some (.slice a' m' c')) ∧ (W10.drew.cell? ⟨w9.heap.size, 0, none⟩ = some (.int .i64 d.1) ∧ W10.drew.cell? ⟨w9.heap.size, 1, none⟩ = some (.int .i64 d.2)) := ⟨⟨v0, v1⟩, v2, v3⟩
          have hS1 : (((W10.setCell ⟨w.heap.size + 1 + 1, 0, none⟩ (.int .i64 (nn : Int))).setCell ⟨w.heap.size + 1 + 1, 1, none⟩ (.slice a' m' c')).drew.cell? ⟨b10, 0, none⟩ = some (.int .i64 (nn : Int)) ∧ ((W10.setCell ⟨w.heap.size + 1 + 1, 0, none⟩ (.int .i64 (nn : Int))).setCell ⟨w.heap.size + 1 + 1, 1, none⟩ (.slice a' m' c')).drew.cell? ⟨b10, 1, none⟩ = some (.slice a' m' c')) ∧ (((W10.setCell ⟨w.heap.size + 1 + 1, 0, none⟩ (.int .i64 (nn : Int))).setCell ⟨w.heap.size + 1 + 1, 1, none⟩ (.slice a' m' c')).drew.cell? ⟨w9.heap.size, 0, none⟩ = some (.int .i64 d.1) ∧ ((W10.setCell ⟨w.heap.size + 1 + 1, 0, none⟩ (.int .i64 (nn : Int))).setCell ⟨w.heap.size + 1 + 1, 1, none⟩ (.slice a' m' c')).drew.cell? ⟨w9.heap.size, 1, none⟩ = some (.int .i64 d.2)) := HSet.out _ _ _ _ (by omega) (HSet.out W10 _ _ _ (by omega) ⟨⟨v0, v1⟩, v2, v3⟩)
          have hS2 : (((((W10.setCell ⟨w.heap.size + 1 + 1, 0, none⟩ (.int .i64 (nn : Int))).setCell ⟨w.heap.size + 1 + 1, 1, none⟩ (.slice a' m' c')).setCell ⟨w.heap.size + 1 + 1 + 1, 0, none⟩ (.int .i64 d.1)).setCell ⟨w.heap.size + 1 + 1 + 1, 1, none⟩ (.int .i64 d.2)).drew.cell? ⟨b10, 0, none⟩ = some (.int .i64 (nn : Int)) ∧ ((((W10.setCell ⟨w.heap.size + 1 + 1, 0, none⟩ (.int .i64 (nn : Int))).setCell ⟨w.heap.size + 1 + 1, 1, none⟩ (.slice a' m' c')).setCell ⟨w.heap.size + 1 + 1 + 1, 0, none⟩ (.int .i64 d.1)).setCell ⟨w.heap.size + 1 + 1 + 1, 1, none⟩ (.int .i64 d.2)).drew.cell? ⟨b10, 1, none⟩ = some (.slice a' m' c')) ∧ (((((W10.setCell ⟨w.heap.size + 1 + 1, 0, none⟩ (.int .i64 (nn : Int))).setCell ⟨w.heap.size + 1 + 1, 1, none⟩ (.slice a' m' c')).setCell ⟨w.heap.size + 1 + 1 + 1, 0, none⟩ (.int .i64 d.1)).setCell ⟨w.heap.size + 1 + 1 + 1, 1, none⟩ (.int .i64 d.2)).drew.cell? ⟨w9.heap.size, 0, none⟩ = some (.int .i64 d.1) ∧ ((((W10.setCell ⟨w.heap.size + 1 + 1, 0, none⟩ (.int .i64 (nn : Int))).setCell ⟨w.heap.size + 1 + 1, 1, none⟩ (.slice a' m' c')).setCell ⟨w.heap.size + 1 + 1 + 1, 0, none⟩ (.int .i64 d.1)).setCell ⟨w.heap.size + 1 + 1 + 1, 1, none⟩ (.int .i64 d.2)).drew.cell? ⟨w9.heap.size, 1, none⟩ = some (.int .i64 d.2)) := HSet.out _ _ _ _ (by omega) (HSet.out _ _ _ _ (by omega) (HSet.out _ _ _ _ (by omega) (HSet.out W10 _ _ _ (by omega) ⟨⟨v0, v1⟩, v2, v3⟩)))
          go_upto_region 8 with fail
          rw [← hW10]
          clear hW10 v0 v1 v2 v3
          go_region_held3 (fun u => (u.cell? ⟨b10, 0, none⟩ = some (.int .i64 (nn : Int)) ∧ u.cell? ⟨b10, 1, none⟩ = some (.slice a' m' c')) ∧ (u.cell? ⟨w9.heap.size, 0, none⟩ = some (.int .i64 d.1) ∧ u.cell? ⟨w9.heap.size, 1, none⟩ = some (.int .i64 d.2)))
            (first | with_reducible assumption | with_reducible exact HSet.out _ _ _ _ (by omega) (HSet.out _ _ _ _ (by omega) (by assumption)) | with_reducible exact HSet.out _ _ _ _ (by omega) (HSet.out _ _ _ _ (by omega) (HSet.out _ _ _ _ (by omega) (HSet.out _ _ _ _ (by omega) (by assumption)))))
            (fail)
          all_goals
            go_wp2
            exact bodyPost_ret (v := .tuple #[.agg #[.int .i64 (nn : Int), .slice a' m' c'], .agg #[.int .i64 d.1, .int .i64 d.2], .bool fd, .bool true]) (by simp [results, Tryz.results14, go_sem, t0, t1, t2, t3]) rfl (wta_drew HA.out)
        · rw [show x.t = false by simpa using hxt] at q3 HW
          have r0 := S6.rw.cell0
          have r1 := S6.rw.cell1
          have r2 := S6.rw.frozen 0
          have r3 := S6.rw.frozen 1
          have r4 := S6.re.cell0
          have r5 := S6.re.cell1
          have r6 := S6.re.frozen 0
          have r7 := S6.re.frozen 1
          obtain ⟨⟨t0, t1⟩, t2, t3⟩ := putR_cells (M := (nn : Int)) (a' := a') (m' := m') (c' := c') (d := (0, 0)) S6.rw S6.re
          have HA := hideIt (wta_yes (N := (nn : Int)) (r := (ouL ls f, none)) HW.out z5 S6.below HT.out.own (d := (0, 0)) rfl (t := false) rfl)
          unfold putR at t0 t1 t2 t3 HA
          clear HT S5 S6 hS5 HC
          go_wp2
          exact bodyPost_ret (v := .tuple #[.agg #[.int .i64 (nn : Int), .slice a' m' c'], .agg #[.int .i64 0, .int .i64 0], .bool false, .bool true]) (by simp [results, Tryz.results14, go_sem, t0, t1, t2, t3]) rfl HA.out
    · have HW := hideIt (wtO_no (N := N) (ls := ls) (f := f) (fun h => hh h.2))
      have hI1 : I = -1 := by
        rw [HI.out]
        unfold idxE
        rw [if_neg]
        intro hm
        apply hh
        unfold hasB
        simpa using hm
      subst hI1
      clear hW hh
      go_wp2_with (go_at_call 18; refine HO4.out.mono ?_; rintro e w5 ⟨rfl, S5⟩; refine Hid.out ?_)
      refine (show ∀ {p : Prop}, p → Hid p from fun h => h) ?_
      have r0 := S5.rw.cell0
      have r1 := S5.rw.cell1
      have r2 := S5.rw.frozen 0
      have r3 := S5.rw.frozen 1
      have r4 := S5.re.cell0
      have r5 := S5.re.cell1
      have r6 := S5.re.frozen 0
      have r7 := S5.re.frozen 1
      obtain ⟨⟨t0, t1⟩, t2, t3⟩ := putR_cells (M := 0) (a' := none) (m' := 0) (c' := 0) (d := (0, 0)) S5.rw S5.re
      have HA := hideIt (wta_no (N := N) HW.out S5.below)
      unfold putR at t0 t1 t2 t3 HA
      clear k0 k1 S4 S5
      go_wp2
      exact bodyPost_ret (v := .tuple #[.agg #[.int .i64 0, .slice none 0 0], .agg #[.int .i64 0, .int .i64 0], .bool false, .bool false]) (by simp [results, Tryz.results14, go_sem, t0, t1, t2, t3]) rfl HA.out
  · rw [wB_no hW] at HO4
    have HW := hideIt (wtO_no (N := N) (ls := ls) (f := f) (fun h => hW h.1))
    clear hW
    go_wp2_with (go_at_call 18; refine HO4.out.mono ?_; rintro e w5 ⟨rfl, S5⟩; refine Hid.out ?_)
    refine (show ∀ {p : Prop}, p → Hid p from fun h => h) ?_
    have r0 := S5.rw.cell0
    have r1 := S5.rw.cell1
    have r2 := S5.rw.frozen 0
    have r3 := S5.rw.frozen 1
    have r4 := S5.re.cell0
    have r5 := S5.re.cell1
    have r6 := S5.re.frozen 0
    have r7 := S5.re.frozen 1
    obtain ⟨⟨t0, t1⟩, t2, t3⟩ := putR_cells (M := 0) (a' := none) (m' := 0) (c' := 0) (d := (0, 0)) S5.rw S5.re
    have HA := hideIt (wta_no (N := N) HW.out S5.below)
    unfold putR at t0 t1 t2 t3 HA
    clear k0 k1 S4 S5
    go_wp2
    exact bodyPost_ret (v := .tuple #[.agg #[.int .i64 0, .slice none 0 0], .agg #[.int .i64 0, .int .i64 0], .bool false, .bool false]) (by simp [results, Tryz.results14, go_sem, t0, t1, t2, t3]) rfl HA.out
end Go.Proofs.YtkkplppcgnikoaaGreat
namespace Go.Proofs.YtkkplppcgnikoaaGreat
open Go.RowKit

theorem gE_putL (ls : List Ld) (x : Ld) : gE (putL ls x) = putE (gE ls) x.e := by
  unfold gE putL putE
  rw [List.map_append, List.map_append, List.filter_map, List.filter_map]
  rfl
theorem gE_cons (x : Ld) (xs : List Ld) : gE (x :: xs) = x.e :: gE xs := rfl
theorem gE_srO {i : Int} {t : List Int} : ∀ L : List Ld, gE (srO i t L).1 = gE L
  | [] => rfl
  | x :: xs => by
    rw [srO]
    split
    · rfl
    · show gE (srL i t x :: (srO i t xs).1) = _
      rw [gE_cons, gE_cons, gE_srO xs]
      have := gE_srmap (i := i) (t := t) [x]
      rw [List.map_cons, List.map_nil, gE_cons, gE_cons] at this
      rw [(List.cons.inj this).1]
theorem gE_lvO {n : Nat} {e : EdgeV} {i : Int} (ls : List Ld) : gE (lvO n e i ls).1 = gE ls := by
  unfold lvO
  rw [gE_srO, gE_rsmap]
theorem gE_tkO {n : Nat} {e : EdgeV} : ∀ (k : Nat) (ls : List Ld), gE (tkO n e k ls).1 = gE ls
  | 0, _ => rfl
  | k + 1, ls => by
    rw [tkO]
    split
    · exact gE_lvO ls
    · rw [gE_tkO k, gE_lvO]
theorem gE_wtO {N : Int} {ls L : List Ld} {e : EdgeV} {r : Option EdgeV} (h : wtO N ls e = some (L, r)) : gE L = outE (gE ls) e := by
  unfold wtO at h
  split at h
  · injection h with h
    split at h
    · split at h
      · rename_i z _ _
        have := gE_tkO (n := N.toNat) (e := e) (z.l.toNat + 1) (ouL ls e)
        rw [h] at this
        rw [this, gE_out]
      · cases h
        exact gE_out ls e
    · cases h
      exact gE_out ls e
  · cases h
theorem gE_waO {N : Int} {ls L : List Ld} {e : EdgeV} (h : waO N ls e = some L) : gE L = putE (gE ls) e := by
  unfold waO at h
  split at h
  · injection h with h
    rw [← h, gE_putL]
    rfl
  · cases h
theorem conn_gE {n : Nat} {ls : List Ld} (h : WOk (n : Int) ls) {u v : Int} : Conn (gE ls) u v ↔ Conn (fE ls 0) u v := by
  have hc := WC.of h
  constructor
  · refine fun hcn => conn_sub hcn fun d hd => ?_
    unfold gE at hd
    obtain ⟨x, hx, rfl⟩ := List.mem_map.1 hd
    have hl := (h.2.1 x hx).1
    cases ht : x.t with
    | true =>
      refine Conn.edge (e := x.e) ?_
      unfold fE
      refine List.mem_map.2 ⟨x, List.mem_filter.2 ⟨hx, ?_⟩, rfl⟩
      unfold fP
      rw [ht, decide_eq_true hl]
      rfl
    | false =>
      refine (hc.nt x hx ht).more fun e he => ?_
      unfold fE at he ⊢
      obtain ⟨y, hy, rfl⟩ := List.mem_map.1 he
      obtain ⟨y1, y2⟩ := List.mem_filter.1 hy
      refine List.mem_map.2 ⟨y, List.mem_filter.2 ⟨y1, ?_⟩, rfl⟩
      unfold fP at y2 ⊢
      simp only [Bool.and_eq_true, decide_eq_true_eq] at y2 ⊢
      exact ⟨y2.1, by omega⟩
  · exact fun hcn => hcn.more fun e he => fE_g he
/-- two vertices are told together where they hang together -/
theorem tg_conn {n : Nat} {ls : List Ld} (h : WOk (n : Int) ls) {x y : Int} (hx : 0 ≤ x ∧ x < (n : Int)) (hy : 0 ≤ y ∧ y < (n : Int)) : tgB (n : Int) ls x y = true ↔ Conn (gE ls) x y := by
  obtain ⟨ts, hts, hall⟩ := h.trees 0 (by omega)
  have e0 : ((0 : Nat) : Int) = 0 := rfl
  rw [e0] at hts hall
  rw [tgB_iff, gndT_is hts, conn_gE h]
  obtain ⟨t, ht, hxt⟩ := hall.cov x hx.1 hx.2
  obtain ⟨s, hs, hys⟩ := hall.cov y hy.1 hy.2
  obtain ⟨k, hk⟩ := List.mem_iff_getElem?.1 ht
  obtain ⟨j, hj⟩ := List.mem_iff_getElem?.1 hs
  rw [trI_of hall.fp.q hk hxt, trI_of hall.fp.q hj hys]
  constructor
  · rintro ⟨_, _, _, e⟩
    have : k = j := by omega
    subst this
    rw [hk] at hj
    cases hj
    exact (hall.conn t ht x hxt y).1 hys
  · intro hc
    have hyt := (hall.conn t ht x hxt y).2 hc
    exact ⟨h, hx, hy, by rw [hall.fp.q.place hk hj hyt hys]⟩
end Go.Proofs.YtkkplppcgnikoaaGreat
namespace Go.Proofs.YtkkplppcgnikoaaGreat
open Go.RowKit

end Go.Proofs.YtkkplppcgnikoaaGreat
namespace Go.Proofs.YtkkplppcgnikoaaGreat
open Go.RowKit

end Go.Proofs.YtkkplppcgnikoaaGreat
namespace Go.Proofs.YtkkplppcgnikoaaGreat
open Go.RowKit
end Go.Proofs.YtkkplppcgnikoaaGreat
