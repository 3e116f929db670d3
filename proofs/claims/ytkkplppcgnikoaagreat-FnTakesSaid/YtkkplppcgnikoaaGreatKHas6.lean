/- A drawn region walked state by state: what is shown of a state once serves wherever the walk comes to it. The program's WebTake. What WebAdd and WebTake leave of a right web: its graph, its levels, what hangs together; pure. What WebTake leaves of trees and levels; pure. sameWeb: a web is the same as itself, laid elsewhere. Whether an edge is in a list: the law's own look. -/
import Derived.Test.YtkkplppcgnikoaaGreatKTourP
import Derived.Test.YtkkplppcgnikoaaGreatKRw12
import Derived.Test.YtkkplppcgnikoaaGreatKDt12
import Derived.Test.YtkkplppcgnikoaaGreatKLb9
import Derived.Test.YtkkplppcgnikoaaGreatKSPl9
import Derived.Test.YtkkplppcgnikoaaGreatKBx7
namespace Go.Proofs.YtkkplppcgnikoaaGreat
open Go.RowKit

structure Bx (T : Prop) : Prop where
  out : T
theorem viaT {T G : Prop} (main : Bx T → G) (p : T) : G := main ⟨p⟩
theorem hidp {p : Prop} (h : p) : Hid p := h
theorem lstH {P : Program} {md : Region.Mode} {ops : Array Oper} {Q : Exit → Go.Act → World → Prop} {S : World → Prop} {fuel : Nat} {l l' : Array Bool} {a : Go.Act} {w : World} (h : l = l') (H : wpAnyH P md ops Q S fuel l' a w) : wpAnyH P md ops Q S fuel l a w := h ▸ H
end Go.Proofs.YtkkplppcgnikoaaGreat
namespace Go.Proofs.YtkkplppcgnikoaaGreat
open Go.RowKit

theorem keepP {u v : World} {bs : Nat} {x y : Value} (h : (u.cell? ⟨bs, 0, none⟩ = some x ∧ u.cell? ⟨bs, 1, none⟩ = some y) ∧ bs < u.heap.size) (hb : Below u.heap.size u v) : (v.cell? ⟨bs, 0, none⟩ = some x ∧ v.cell? ⟨bs, 1, none⟩ = some y) ∧ bs < v.heap.size := by
  rw [hb.cell h.2, hb.cell h.2]
  exact ⟨h.1, Nat.lt_of_lt_of_le h.2 hb.size⟩
section
variable {W u : World} {b9 b10 : Nat} {y : Ld} {v0 v1 : Value} {a' : Option Addr} {m' c' : Nat} {L : List Ld}
theorem own_at {w : World} {B e s n b j : Nat} {v u : Value} {xs : List Value} (h : w.ownsRow B e s v n xs) (hne : v.ownBlock ≠ some b) : (w.setCell ⟨b, j, none⟩ u).ownsRow B e s v n xs :=
  h.kept (grownSet w b j u) (.inr hne)
theorem ob_ne (h : ∀ g, a' = some ⟨g, 0, none⟩ → g ≠ b9) {u : World} {B e s n : Nat} {xs : List Value} (ho : u.ownsRow B e s (.slice a' m' c') n xs) : (Value.slice a' m' c').ownBlock ≠ some b9 := fun e => by
  rcases ho.2 with ⟨hv, _⟩ | ⟨g, cap, cur, hv, _⟩
  · simp at hv
    rw [hv.1] at e
    simp [Value.ownBlock] at e
  · simp at hv
    rw [hv.1] at e
    simp [Value.ownBlock] at e
    exact h g hv.1 e
/-- the lost edge is laid into its box -/
theorem tk_one (GU : Good W u) (B9 : Box4 u b9 y) (B10 : Box7 u b10 26 v0 v1) (RW : u.ownsRow W.heap.size 52 4 (.slice a' m' c') m' (lcells L)) (L9 : W.heap.size ≤ b9) (NE : b9 ≠ b10) (N9 : ∀ g, a' = some ⟨g, 0, none⟩ → g ≠ b9) (x : Ld) :
    Good W ((((u.setCell ⟨b9, 0, none⟩ (.int .i64 x.a)).setCell ⟨b9, 1, none⟩ (.int .i64 x.b)).setCell ⟨b9, 2, none⟩ (.int .i64 x.l)).setCell ⟨b9, 3, none⟩ (.bool x.t)) ∧ Box4 ((((u.setCell ⟨b9, 0, none⟩ (.int .i64 x.a)).setCell ⟨b9, 1, none⟩ (.int .i64 x.b)).setCell ⟨b9, 2, none⟩ (.int .i64 x.l)).setCell ⟨b9, 3, none⟩ (.bool x.t)) b9 x ∧ Box7 ((((u.setCell ⟨b9, 0, none⟩ (.int .i64 x.a)).setCell ⟨b9, 1, none⟩ (.int .i64 x.b)).setCell ⟨b9, 2, none⟩ (.int .i64 x.l)).setCell ⟨b9, 3, none⟩ (.bool x.t)) b10 26 v0 v1 ∧ ((((u.setCell ⟨b9, 0, none⟩ (.int .i64 x.a)).setCell ⟨b9, 1, none⟩ (.int .i64 x.b)).setCell ⟨b9, 2, none⟩ (.int .i64 x.l)).setCell ⟨b9, 3, none⟩ (.bool x.t)).ownsRow W.heap.size 52 4 (.slice a' m' c') m' (lcells L) :=
  ⟨Good.set4 GU _ _ _ _ _ L9, B9.set4 x, (((B10.setOther _ NE.symm).setOther _ NE.symm).setOther _ NE.symm).setOther _ NE.symm, own_at (own_at (own_at (own_at RW (ob_ne N9 RW)) (ob_ne N9 RW)) (ob_ne N9 RW)) (ob_ne N9 RW)⟩
/-- and the web without it -/
theorem tk_two {x : Ld} (h : Good W u ∧ Box4 u b9 x ∧ Box7 u b10 26 v0 v1 ∧ u.ownsRow W.heap.size 52 4 (.slice a' m' c') m' (lcells L)) (L9 : W.heap.size ≤ b9) (L10 : W.heap.size ≤ b10) (NE : b9 ≠ b10) (N9 : ∀ g, a' = some ⟨g, 0, none⟩ → g ≠ b9) (N10 : ∀ g, a' = some ⟨g, 0, none⟩ → g ≠ b10) (N : Int) :
    Tk5 W ((u.setCell ⟨b10, 0, none⟩ (.int .i64 N)).setCell ⟨b10, 1, none⟩ (.slice a' m' c')) b9 b10 x N a' m' c' L :=
  ⟨Good.set2 h.1 _ _ _ L10, (h.2.1.setOther _ NE).setOther _ NE, h.2.2.1.set2 _ _, own_at (own_at h.2.2.2 (ob_ne N10 h.2.2.2)) (ob_ne N10 h.2.2.2), L9, L10, fun g hg => ⟨N9 g hg, N10 g hg⟩⟩
end
theorem Box4.d {w : World} {b : Nat} {x : Ld} (h : Box4 w b x) : Box4 w.drew b x := h
theorem Box7.d {w : World} {b : Nat} {t : TypeId} {v0 v1 : Value} (h : Box7 w b t v0 v1) : Box7 w.drew b t v0 v1 := h
theorem wta_drew {w u : World} {N : Int} {o : Option (List Ld × Option EdgeV)} {e : Ending} (h : WtA w N o e u) : WtA w N o e u.drew := by
  obtain ⟨a, m, c, h1, h2, h3⟩ := h
  exact ⟨a, m, c, h1, h2, h3.drew⟩
theorem good_grown {W u v : World} {row : Option Nat} (h : Good W u) (hg : u.grownBy v row) (hr : ∀ g, row = some g → W.heap.size ≤ g) : Good W v :=
  ⟨hg.os.trans h.os, hg.tape.trans h.tape, hg.output.trans h.output, Nat.le_trans h.size hg.size, fun k hk => (hg.block k (Nat.lt_of_lt_of_le hk h.size) (fun e => by have := hr k e.symm; omega)).trans (h.block k hk)⟩

set_option maxRecDepth 100000 in
set_option maxHeartbeats 8000000 in
theorem iWebTake_any (N : Int) (ls : List Ld) (f : EdgeV) (n : Nat) (a : Option Addr) (c : Nat) (hsl : Sl a n c) (hn : n ≤ 1048576) (w : World) (h : Ls w w.heap.size a n ls) :
    Calls Tryz.prog 14 #[.agg #[.int .i64 N, .slice a n c], .agg #[.int .i64 f.1, .int .i64 f.2]] w fun e w' => WtA w N (wtO N ls f) e w' := by
  have hA : Hid (∀ u, In4 w N a n c f u → Ls u u.heap.size a n ls) := fun u hu => h.up hu.below
  have HGr : Hid (∀ u, In4 w N a n c f u → Calls Tryz.prog 12 #[.agg #[.int .i64 N, .slice a n c]] u fun e v => ∃ g, e = .returned (.agg #[.int .i64 N, .slice (some ⟨g, 0, none⟩) n n]) ∧ Hid (Es v v.heap.size (some ⟨g, 0, none⟩) n (gE ls)) ∧ In4 w N a n c f v) := fun u hu =>
    (iGraphOf_any N ls n a c hn u (hA.out u hu)).mono fun _ _ ⟨g, he, ho, hb⟩ => ⟨g, he, Es_of_own ho, hu.up hb⟩
  obtain ⟨I, hI⟩ : ∃ I, I = idxE (gE ls) f := ⟨_, rfl⟩
  have HIx : Hid (∀ g u, In4 w N a n c f u → Hid (Es u u.heap.size (some ⟨g, 0, none⟩) n (gE ls)) → Calls Tryz.prog 69 #[.slice (some ⟨g, 0, none⟩) n n, .agg #[.int .i64 f.1, .int .i64 f.2]] u fun e v => e = .returned (.int .i64 I) ∧ In4 w N a n c f v) := fun g u hu he =>
    (Index_any (gE ls) f n (some ⟨g, 0, none⟩) n hn u he.out).mono fun _ _ ⟨h1, h2⟩ => ⟨by rw [h1, hI], hu.up h2⟩
  have HOk : Hid (∀ u, In4 w N a n c f u → Calls Tryz.prog 18 #[.agg #[.int .i64 N, .slice a n c]] u fun e v => e = .returned (.bool (wB N ls)) ∧ In4 w N a n c f v) := fun u hu =>
    (iWebOk_any N ls n a c hn u (hA.out u hu)).mono fun _ _ ⟨he, hb⟩ => ⟨he, hu.up hb⟩
  have HI := hideIt hI
  have S1 := In4.start w N a n c f
  have HK : Hid (∀ u, In4 w N a n c f u → ((u.cell? ⟨w.heap.size, 0, none⟩ = some (.int .i64 N) ∧ u.cell? ⟨w.heap.size, 1, none⟩ = some (.slice a n c)) ∧ (u.cell? ⟨w.heap.size + 1, 0, none⟩ = some (.int .i64 f.1) ∧ u.cell? ⟨w.heap.size + 1, 1, none⟩ = some (.int .i64 f.2))) ∧ In4 w N a n c f u) := fun u hu => ⟨hu.cells, hu⟩
  have Hls := hideIt h
  have Hsl := hideIt hsl
  clear h hI hsl
  have hfd : ∀ (u : World) (g : Nat), (Instr.field 33 (.agg #[.int .i64 N, .slice (some ⟨g, 0, none⟩) n n]) 1).run Tryz.prog u = .ok (.slice (some ⟨g, 0, none⟩) n n) u := fun _ _ => by kernel_rfl
  go_enter Tryz.func14, Tryz.ntmps14
  go_upto_region 1 with fail
  obtain ⟨W, hW⟩ : ∃ W, W = w4w w N a n c f := ⟨_, rfl⟩
  have hW' : ((((w.alloc (.cells #[.int .i64 N, .slice a n c] 26)).alloc (.cells #[.int .i64 f.1, .int .i64 f.2] 28)).alloc (.cells #[.int .i64 0, .slice none 0 0] 26)).alloc (.cells #[.int .i64 0, .int .i64 0] 28)) = W := hW.symm
  rw [hW']
  rw [← hW] at S1
  clear hW hW'
  have hS1 := HK.out _ S1.drew
  go_region_held3 (fun u => ((u.cell? ⟨w.heap.size, 0, none⟩ = some (.int .i64 N) ∧ u.cell? ⟨w.heap.size, 1, none⟩ = some (.slice a n c)) ∧ (u.cell? ⟨w.heap.size + 1, 0, none⟩ = some (.int .i64 f.1) ∧ u.cell? ⟨w.heap.size + 1, 1, none⟩ = some (.int .i64 f.2))) ∧ In4 w N a n c f u)
    (first | with_reducible assumption)
    (first
      | (go_at_call 12; refine (HGr.out _ (And.right (by assumption))).mono ?_; rintro e w3 ⟨g3, rfl, ho3, hg3⟩; have hS3 := HK.out _ hg3)
      | (go_at_call 69; refine (HIx.out _ _ (And.right (by assumption)) (by assumption)).mono ?_; rintro e w4 ⟨rfl, hg4⟩; have hS4 := HK.out _ hg4))
  obtain ⟨⟨⟨k0, k1⟩, _⟩, S4⟩ := hS4
  have HO4 := hideIt (HOk.out _ S4)
  clear HGr HIx HOk hS1 hS3 hg3 hg4 ho3 S1
  by_cases hW : WOk N ls
  · rw [wB_yes hW] at HO4
    by_cases hh : hasB (gE ls) f = true
    · obtain ⟨nn, rfl, hn1, hn12⟩ := gB_n hW.1
      obtain ⟨k, x, hk, hxe, hIk, hou, hfi⟩ := take_at hW hh
      have HW := hideIt (wtO_yes hW hh hfi)
      have hI2 : I = (k : Int) := HI.out.trans hIk
      subst hI2
      have hlen : ls.length = n := Hls.out.1
      have hkn : k < n := by have := (List.getElem?_eq_some_iff.1 hk).1; omega
      have HS := hideIt (Stg.of hW)
      have Hxl : Hid (0 ≤ x.l ∧ x.l ≤ 4) := hW.2.1 x (List.mem_of_getElem? hk)
      have Hxe : Hid ((0 ≤ x.a ∧ x.a < (nn : Int)) ∧ 0 ≤ x.b ∧ x.b < (nn : Int)) := by
        have := chk_eB (gB_chk hW.1).2.1 (gE_mem (List.mem_of_getElem? hk))
        have h2 := (eB_iff7 _ _).1 this
        simp only [Ld.e] at h2
        exact ⟨⟨h2.2.2.1, by omega⟩, by omega, h2.2.2.2.2⟩
      have HXe := hideIt hxe
      have HOu := hideIt hou
      have HKx := hideIt hk
      clear hW hh hxe hou hfi hIk HI
      go_wp2_with (go_at_call 18; refine HO4.out.mono ?_; rintro e w5 ⟨rfl, S5⟩; refine Hid.out ?_)
      refine (show ∀ {p : Prop}, p → Hid p from fun h => h) ?_
      obtain ⟨ba, off, y, rfl, _, hy, _⟩ := Hls.out.at hkn
      obtain ⟨hnc, hcm, _⟩ := Hsl.out
      unfold maxLen at hcm
      have HL5 : Hid (∀ u, Good w5 u → Ls u u.heap.size (some ⟨ba, off, none⟩) n ls) := fun u hu => (hA.out w5 S5).up hu
      have HC : Hid (∀ u, Good w5 u → ((u.cell? ⟨w.heap.size, 0, none⟩ = some (.int .i64 (nn : Int)) ∧ u.cell? ⟨w.heap.size, 1, none⟩ = some (.slice (some ⟨ba, off, none⟩) n c)) ∧ (u.cell? ⟨ba, off + k * 4, none⟩ = some (.int .i64 x.a) ∧ u.cell? ⟨ba, off + k * 4 + 1, none⟩ = some (.int .i64 x.b) ∧ u.cell? ⟨ba, off + k * 4 + 2, none⟩ = some (.int .i64 x.l) ∧ u.cell? ⟨ba, off + k * 4 + 3, none⟩ = some (.bool x.t))) ∧ Good w5 u) := fun u hu => ⟨⟨(S5.up hu).cells.1, by
        rcases (HL5.out u hu).2 with h0 | ⟨b', o', hb', _, h2⟩
        · omega
        · simp at hb'
          obtain ⟨rfl, rfl⟩ := hb'
          exact h2 k x HKx.out⟩, hu⟩
      have hS5 := HC.out _ (Good.refl w5).drew
      obtain ⟨p, hp⟩ : ∃ p : Nat, p = k + 1 := ⟨_, rfl⟩
      have hwp : IntKind.i64.wrap ((k : Int) + 1) = (p : Int) := by rw [IntKind.wrap_i64]; omega
      have Hp := hideIt hp
      have b1 : (0 : Int) ≤ (k : Int) := by omega
      have b2 : (k : Int) < (n : Int) := by omega
      have b3 : (k : Int) ≤ (c : Int) := by omega
      have b4 : (0 : Int) ≤ (p : Int) := by omega
      have b5 : (p : Int) ≤ (n : Int) := by omega
      have b6 : (n : Int) ≤ (c : Int) := by omega
      have b7 : (p : Int) ≤ (c : Int) := by omega
      have z5 := S5.size
      clear hk hy hp Hls Hsl hA S4 k0 k1
      go_upto_region 4 with fail
      go_cut [9, 10] (fun q9 q10 wx => ∃ b9 b10 a' m' c', q9 = .pointer (some ⟨b9, 0, none⟩) ∧ q10 = .pointer (some ⟨b10, 0, none⟩) ∧ Hid (Tk5 w5 wx b9 b10 x (nn : Int) a' m' c' (ouL ls f)))
      case first =>
        by_cases hck : c = p
        · subst hck
          obtain rfl : n = c := by omega
          have HCc : Hid (∀ (u : World) (bs : Nat), Good w5 u → ((u.cell? ⟨bs, 0, none⟩ = some (.slice (some ⟨ba, off, none⟩) k n) ∧ u.cell? ⟨bs, 1, none⟩ = some (.slice (some ⟨ba, off, none⟩) 0 0)) ∧ bs < u.heap.size) → Calls Tryz.prog 70 #[.slice (some ⟨bs, 0, none⟩) 2 2] u fun e v => ∃ a' m' c', e = .returned (.slice a' m' c') ∧ Hid (v.ownsRow u.heap.size 52 4 (.slice a' m' c') m' (lcells (ouL ls f))) ∧ Below u.heap.size u v) := fun u bs hu ⟨⟨h0, h1⟩, h2⟩ => by
            have hL := HL5.out u hu
            refine (ConcatL_any [⟨some ⟨ba, off, none⟩, k, n, ls.take k⟩, ⟨some ⟨ba, off, none⟩, 0, 0, ls.drop n⟩] bs 2 rfl (by omega) u ⟨h2, fun j q hq => ?_⟩ (by simp [pLenL]; omega)).mono fun e v ⟨a', m', c', he, ho, hb⟩ => ⟨a', m', c', he, ?_, hb⟩
            · rcases j with _ | _ | j
              · simp at hq; subst hq
                exact ⟨h0, hL.take (show k ≤ n by omega), fun h => by cases h⟩
              · simp at hq; subst hq
                exact ⟨h1, ⟨by show (ls.drop n).length = 0; rw [List.length_drop]; omega, .inl rfl⟩, fun h => by cases h⟩
              · simp at hq
            · have hp2 : pAllL [⟨some ⟨ba, off, none⟩, k, n, ls.take k⟩, ⟨some ⟨ba, off, none⟩, 0, 0, ls.drop n⟩] = ouL ls f := by rw [← HOu.out, ← Hp.out]; simp [pAllL]
              rw [hp2] at ho
              exact ho
          clear HL5 HOu HKx hlen Hp
          (
 apply viaT
 intro t16_17_19_20_
 apply viaT
 intro t16_17_19_
 apply viaT
 intro t16_17_20_
 apply viaT
 intro t16_19_20_
 apply viaT
 intro t16_17_
 apply viaT
 intro t16_19_
 apply viaT
 intro t16_20_
 apply viaT
 intro t19_20_
 apply viaT
 intro t16_
 apply viaT
 intro t19_
 apply viaT
 intro t20_
 focus (
 refine wp_region_held_drew (S := (fun u => ((u.cell? ⟨w.heap.size, 0, none⟩ = some (.int .i64 (nn : Int)) ∧ u.cell? ⟨w.heap.size, 1, none⟩ = some (.slice (some ⟨ba, off, none⟩) n n)) ∧ (u.cell? ⟨ba, off + k * 4, none⟩ = some (.int .i64 x.a) ∧ u.cell? ⟨ba, off + k * 4 + 1, none⟩ = some (.int .i64 x.b) ∧ u.cell? ⟨ba, off + k * 4 + 2, none⟩ = some (.int .i64 x.l) ∧ u.cell? ⟨ba, off + k * 4 + 3, none⟩ = some (.bool x.t))) ∧ Good w5 u)) (by kernel_rfl) hS5 (fun hHeld => ?_)
 refine wpAnyH_take (i := 0) (v := ?_) rfl (by kernel_rfl) (by kernel_rfl) (by kernel_rfl) (fun _ _ _ h => h) (Or.inl ⟨by rfl, ?_⟩) (by assumption) ?_
 rotate_left
 · intro w hSw; (try dsimp only at hSw); go_simp; try with_reducible rfl
 try simp only [Act.put, List.getElem_toArray, List.getElem_cons_zero, List.setIfInBounds_toArray, List.set_cons_zero, List.set_cons_succ]
 refine wpAnyH_take (i := 1) (v := ?_) rfl (by kernel_rfl) (by kernel_rfl) (by kernel_rfl) (fun _ _ _ h => h) (Or.inl ⟨by rfl, ?_⟩) (by assumption) ?_
 rotate_left
 · intro w hSw; (try dsimp only at hSw); go_simp; try with_reducible rfl
 try simp only [Act.put, List.getElem_toArray, List.getElem_cons_succ, List.getElem_cons_zero, List.setIfInBounds_toArray, List.set_cons_zero, List.set_cons_succ]
 refine wpAnyH_take (i := 2) (v := ?_) rfl (by kernel_rfl) (by kernel_rfl) (by kernel_rfl) (fun _ _ _ h => h) (Or.inl ⟨by rfl, ?_⟩) (by assumption) ?_
 rotate_left
 · intro w hSw; (try dsimp only at hSw); go_simp; try with_reducible rfl
 try simp only [Act.put, List.getElem_toArray, List.getElem_cons_succ, List.getElem_cons_zero, List.setIfInBounds_toArray, List.set_cons_zero, List.set_cons_succ]
 refine wpAnyH_take (i := 3) (v := ?_) rfl (by kernel_rfl) (by kernel_rfl) (by kernel_rfl) (fun _ _ _ h => h) (Or.inl ⟨by rfl, ?_⟩) (by assumption) ?_
 rotate_left
 · intro w hSw; (try dsimp only at hSw); go_simp; try with_reducible rfl
 try simp only [Act.put, List.getElem_toArray, List.getElem_cons_succ, List.getElem_cons_zero, List.setIfInBounds_toArray, List.set_cons_zero, List.set_cons_succ]
 refine wpAnyH_take (i := 4) (v := ?_) rfl (by kernel_rfl) (by kernel_rfl) (by kernel_rfl) (fun _ _ _ h => h) (Or.inl ⟨by rfl, ?_⟩) (by assumption) ?_
 rotate_left
 · intro w hSw; (try dsimp only at hSw); go_simp; try with_reducible rfl
 try simp only [Act.put, List.getElem_toArray, List.getElem_cons_succ, List.getElem_cons_zero, List.setIfInBounds_toArray, List.set_cons_zero, List.set_cons_succ]
 refine wpAnyH_take (i := 5) (v := ?_) rfl (by kernel_rfl) (by kernel_rfl) (by kernel_rfl) (fun _ _ _ h => h) (Or.inl ⟨by rfl, ?_⟩) (by assumption) ?_
 rotate_left
 · intro w hSw; (try dsimp only at hSw); go_simp; try with_reducible rfl
 try simp only [Act.put, List.getElem_toArray, List.getElem_cons_succ, List.getElem_cons_zero, List.setIfInBounds_toArray, List.set_cons_zero, List.set_cons_succ]
 refine wpAnyH_take (i := 6) (v := ?_) rfl (by kernel_rfl) (by kernel_rfl) (by kernel_rfl) (fun _ _ _ h => h) (Or.inl ⟨by rfl, ?_⟩) (by assumption) ?_
 rotate_left
 · intro w hSw; (try dsimp only at hSw); go_simp; try with_reducible rfl
 try simp only [Act.put, List.getElem_toArray, List.getElem_cons_succ, List.getElem_cons_zero, List.setIfInBounds_toArray, List.set_cons_zero, List.set_cons_succ]
 refine wpAnyH_take (i := 7) (v := ?_) rfl (by kernel_rfl) (by kernel_rfl) (by kernel_rfl) (fun _ _ _ h => h) (Or.inl ⟨by rfl, ?_⟩) (by assumption) ?_
 rotate_left
 · intro w hSw; (try dsimp only at hSw); go_simp; try with_reducible rfl
 try simp only [Act.put, List.getElem_toArray, List.getElem_cons_succ, List.getElem_cons_zero, List.setIfInBounds_toArray, List.set_cons_zero, List.set_cons_succ]
 refine wpAnyH_take (i := 8) (v := ?_) rfl (by kernel_rfl) (by kernel_rfl) (by kernel_rfl) (fun _ _ _ h => h) (Or.inl ⟨by rfl, ?_⟩) (by assumption) ?_
 rotate_left
 · intro w hSw; (try dsimp only at hSw); go_simp; try with_reducible rfl
 try simp only [Act.put, List.getElem_toArray, List.getElem_cons_succ, List.getElem_cons_zero, List.setIfInBounds_toArray, List.set_cons_zero, List.set_cons_succ]
 refine wpAnyH_take (i := 9) (v := ?_) rfl (by kernel_rfl) (by kernel_rfl) (by kernel_rfl) (fun _ _ _ h => h) (Or.inl ⟨by rfl, ?_⟩) (by assumption) ?_
 rotate_left
 · intro w hSw; (try dsimp only at hSw); go_simp; try with_reducible rfl
 try simp only [Act.put, List.getElem_toArray, List.getElem_cons_succ, List.getElem_cons_zero, List.setIfInBounds_toArray, List.set_cons_zero, List.set_cons_succ]
 refine wpAnyH_take (i := 10) (v := ?_) rfl (by kernel_rfl) (by kernel_rfl) (by kernel_rfl) (fun _ _ _ h => h) (Or.inl ⟨by rfl, ?_⟩) (by assumption) ?_
 rotate_left
 · intro w hSw; (try dsimp only at hSw); go_simp; try with_reducible rfl
 try simp only [Act.put, List.getElem_toArray, List.getElem_cons_succ, List.getElem_cons_zero, List.setIfInBounds_toArray, List.set_cons_zero, List.set_cons_succ]
 refine wpAnyH_take (i := 11) (v := ?_) rfl (by kernel_rfl) (by kernel_rfl) (by kernel_rfl) (fun _ _ _ h => h) (Or.inl ⟨by rfl, ?_⟩) (by assumption) ?_
 rotate_left
 · intro w hSw; (try dsimp only at hSw); go_simp; try with_reducible rfl
 try simp only [Act.put, List.getElem_toArray, List.getElem_cons_succ, List.getElem_cons_zero, List.setIfInBounds_toArray, List.set_cons_zero, List.set_cons_succ]
 refine wpAnyH_take (i := 12) (v := ?_) rfl (by kernel_rfl) (by kernel_rfl) (by kernel_rfl) (fun _ _ _ h => h) (Or.inl ⟨by rfl, ?_⟩) (by assumption) ?_
 rotate_left
 · intro w hSw; (try dsimp only at hSw); go_simp; try with_reducible rfl
 try simp only [Act.put, List.getElem_toArray, List.getElem_cons_succ, List.getElem_cons_zero, List.setIfInBounds_toArray, List.set_cons_zero, List.set_cons_succ]
 refine wpAnyH_take (i := 13) (v := ?_) rfl (by kernel_rfl) (by kernel_rfl) (by kernel_rfl) (fun _ _ _ h => h) (Or.inl ⟨by rfl, ?_⟩) (by assumption) ?_
 rotate_left
 · intro w hSw; (try dsimp only at hSw); go_simp; try with_reducible rfl
 try simp only [Act.put, List.getElem_toArray, List.getElem_cons_succ, List.getElem_cons_zero, List.setIfInBounds_toArray, List.set_cons_zero, List.set_cons_succ]
 refine wpAnyH_take (i := 14) (v := ?_) rfl (by kernel_rfl) (by kernel_rfl) (by kernel_rfl) (fun _ _ _ h => h) (Or.inl ⟨by rfl, ?_⟩) (by assumption) ?_
 rotate_left
 · intro w hSw; (try dsimp only at hSw); go_simp; try with_reducible rfl
 try simp only [Act.put, List.getElem_toArray, List.getElem_cons_succ, List.getElem_cons_zero, List.setIfInBounds_toArray, List.set_cons_zero, List.set_cons_succ]
 refine wpAnyH_take (i := 15) (v := ?_) rfl (by kernel_rfl) (by kernel_rfl) (by kernel_rfl) (fun _ _ _ h => h) (Or.inl ⟨by rfl, ?_⟩) (by assumption) ?_
 rotate_left
 · intro w hSw; (try dsimp only at hSw); go_simp; try with_reducible rfl
 try simp only [Act.put, List.getElem_toArray, List.getElem_cons_succ, List.getElem_cons_zero, List.setIfInBounds_toArray, List.set_cons_zero, List.set_cons_succ]
 obtain ⟨y, hy⟩ : ∃ y, y = w5.drew := ⟨_, rfl⟩
 have GU : Good w5 y := by rw [hy]; exact (Good.refl _).drew
 rw [← hy]
 clear hy hHeld
 refine wpAnyH_ready (rs := [16, 19, 20]) (by kernel_rfl) (by simp) ?_
 refine AllReadyH.cons rfl (fun K hK => ?_) (AllReadyH.cons rfl (fun K hK => ?_) (AllReadyH.cons rfl (fun K hK => ?_) AllReadyH.nil))
 focus (
 go_simp
 refine hK.out _ _ (HC.out _ (GU.alloc _)) (fun hHeld => ?_)
 clear hK K
 try simp only [Act.put, List.getElem_toArray, List.getElem_cons_succ, List.getElem_cons_zero, List.setIfInBounds_toArray, List.set_cons_zero, List.set_cons_succ]
 obtain ⟨z, hz⟩ : ∃ z, z = y.alloc (.cells #[.slice (some ⟨ba, off, none⟩) k n, .slice (some ⟨ba, off, none⟩) 0 0] 24) := ⟨_, rfl⟩
 have gg : Below y.heap.size y z := by rw [hz]; exact (Below.refl _ _).alloc (Nat.le_refl _) _
 have PS : (z.cell? ⟨y.heap.size, 0, none⟩ = some (.slice (some ⟨ba, off, none⟩) k n) ∧ z.cell? ⟨y.heap.size, 1, none⟩ = some (.slice (some ⟨ba, off, none⟩) 0 0)) ∧ y.heap.size < z.heap.size := by rw [hz]; simp [go_sem]
 replace GU := Good.up GU gg
 rw [← hz]
 clear hz gg hHeld
 generalize y.heap.size = bs at *
 refine lstH (l' := #[true, true, true, true, true, true, true, true, true, true, true, true, true, true, true, true, true, false, false, false, false, false, false]) (by kernel_rfl) ?_
 have F := And.intro GU PS
 clear GU PS
 revert F
 revert bs
 revert z
 exact t16_.out
 )
 focus (
 go_simp
 refine hK.out _ _ (HC.out _ (GU.alloc _)) (fun hHeld => ?_)
 clear hK K
 try simp only [Act.put, List.getElem_toArray, List.getElem_cons_succ, List.getElem_cons_zero, List.setIfInBounds_toArray, List.set_cons_zero, List.set_cons_succ]
 obtain ⟨z, hz⟩ : ∃ z, z = y.alloc (.cells #[.int .i64 0, .int .i64 0, .int .i64 0, .bool false] 52) := ⟨_, rfl⟩
 have gg : Below y.heap.size y z := by rw [hz]; exact (Below.refl _ _).alloc (Nat.le_refl _) _
 have B9 : Box4 z y.heap.size ⟨0, 0, 0, false⟩ := by rw [hz]; exact Box4.z _ _ rfl
 have L9 : w5.heap.size ≤ y.heap.size := GU.size
 replace GU := Good.up GU gg
 rw [← hz]
 clear hz gg hHeld
 generalize y.heap.size = b9 at *
 refine lstH (l' := #[true, true, true, true, true, true, true, true, true, true, true, true, true, true, true, true, false, false, false, true, false, false, false]) (by kernel_rfl) ?_
 have F := And.intro GU (And.intro B9 L9)
 clear GU B9 L9
 revert F
 revert b9
 revert z
 exact t19_.out
 )
 focus (
 go_simp
 refine hK.out _ _ (HC.out _ (GU.alloc _)) (fun hHeld => ?_)
 clear hK K
 try simp only [Act.put, List.getElem_toArray, List.getElem_cons_succ, List.getElem_cons_zero, List.setIfInBounds_toArray, List.set_cons_zero, List.set_cons_succ]
 obtain ⟨z, hz⟩ : ∃ z, z = y.alloc (.cells #[.int .i64 0, .slice none 0 0] 26) := ⟨_, rfl⟩
 have gg : Below y.heap.size y z := by rw [hz]; exact (Below.refl _ _).alloc (Nat.le_refl _) _
 have B10 : Box7 z y.heap.size 26 (.int .i64 0) (.slice none 0 0) := by rw [hz]; exact Box7.z _ _ rfl
 have L10 : w5.heap.size ≤ y.heap.size := GU.size
 replace GU := Good.up GU gg
 rw [← hz]
 clear hz gg hHeld
 generalize y.heap.size = b10 at *
 refine lstH (l' := #[true, true, true, true, true, true, true, true, true, true, true, true, true, true, true, true, false, false, false, false, true, false, false]) (by kernel_rfl) ?_
 have F := And.intro GU (And.intro B10 L10)
 clear GU B10 L10
 revert F
 revert b10
 revert z
 exact t20_.out
 )
 )
 focus (
 intro y b10 F
 obtain ⟨GU, B10, L10⟩ := F
 have hHeld := HC.out _ GU
 clear hHeld
 refine wpAnyH_ready (rs := [16, 19]) (by kernel_rfl) (by simp) ?_
 refine AllReadyH.cons rfl (fun K hK => ?_) (AllReadyH.cons rfl (fun K hK => ?_) AllReadyH.nil)
 focus (
 go_simp
 refine hK.out _ _ (HC.out _ (GU.alloc _)) (fun hHeld => ?_)
 clear hK K
 try simp only [List.setIfInBounds_toArray, List.set_cons_zero, List.set_cons_succ]
 obtain ⟨z, hz⟩ : ∃ z, z = y.alloc (.cells #[.slice (some ⟨ba, off, none⟩) k n, .slice (some ⟨ba, off, none⟩) 0 0] 24) := ⟨_, rfl⟩
 have gg : Below y.heap.size y z := by rw [hz]; exact (Below.refl _ _).alloc (Nat.le_refl _) _
 have PS : (z.cell? ⟨y.heap.size, 0, none⟩ = some (.slice (some ⟨ba, off, none⟩) k n) ∧ z.cell? ⟨y.heap.size, 1, none⟩ = some (.slice (some ⟨ba, off, none⟩) 0 0)) ∧ y.heap.size < z.heap.size := by rw [hz]; simp [go_sem]
 replace GU := Good.up GU gg
 replace B10 := B10.up gg
 rw [← hz]
 clear hz gg hHeld
 generalize y.heap.size = bs at *
 refine lstH (l' := #[true, true, true, true, true, true, true, true, true, true, true, true, true, true, true, true, true, false, false, false, true, false, false]) (by kernel_rfl) ?_
 have F := And.intro GU (And.intro PS (And.intro B10 L10))
 clear GU PS B10 L10
 revert F
 revert b10
 revert bs
 revert z
 exact t16_20_.out
 )
 focus (
 go_simp
 refine hK.out _ _ (HC.out _ (GU.alloc _)) (fun hHeld => ?_)
 clear hK K
 try simp only [List.setIfInBounds_toArray, List.set_cons_zero, List.set_cons_succ]
 obtain ⟨z, hz⟩ : ∃ z, z = y.alloc (.cells #[.int .i64 0, .int .i64 0, .int .i64 0, .bool false] 52) := ⟨_, rfl⟩
 have gg : Below y.heap.size y z := by rw [hz]; exact (Below.refl _ _).alloc (Nat.le_refl _) _
 have B9 : Box4 z y.heap.size ⟨0, 0, 0, false⟩ := by rw [hz]; exact Box4.z _ _ rfl
 have L9 : w5.heap.size ≤ y.heap.size := GU.size
 have NE : y.heap.size ≠ b10 := by have := B10.lt; omega
 replace GU := Good.up GU gg
 replace B10 := B10.up gg
 rw [← hz]
 clear hz gg hHeld
 generalize y.heap.size = b9 at *
 refine lstH (l' := #[true, true, true, true, true, true, true, true, true, true, true, true, true, true, true, true, false, false, false, true, true, false, false]) (by kernel_rfl) ?_
 have F := And.intro GU (And.intro B9 (And.intro L9 (And.intro B10 (And.intro L10 NE))))
 clear GU B9 L9 B10 L10 NE
 revert F
 revert b10
 revert b9
 revert z
 exact t19_20_.out
 )
 )
 focus (
 intro y b9 F
 obtain ⟨GU, B9, L9⟩ := F
 have hHeld := HC.out _ GU
 clear hHeld
 refine wpAnyH_ready (rs := [16, 20]) (by kernel_rfl) (by simp) ?_
 refine AllReadyH.cons rfl (fun K hK => ?_) (AllReadyH.cons rfl (fun K hK => ?_) AllReadyH.nil)
 focus (
 go_simp
 refine hK.out _ _ (HC.out _ (GU.alloc _)) (fun hHeld => ?_)
 clear hK K
 try simp only [List.setIfInBounds_toArray, List.set_cons_zero, List.set_cons_succ]
 obtain ⟨z, hz⟩ : ∃ z, z = y.alloc (.cells #[.slice (some ⟨ba, off, none⟩) k n, .slice (some ⟨ba, off, none⟩) 0 0] 24) := ⟨_, rfl⟩
 have gg : Below y.heap.size y z := by rw [hz]; exact (Below.refl _ _).alloc (Nat.le_refl _) _
 have PS : (z.cell? ⟨y.heap.size, 0, none⟩ = some (.slice (some ⟨ba, off, none⟩) k n) ∧ z.cell? ⟨y.heap.size, 1, none⟩ = some (.slice (some ⟨ba, off, none⟩) 0 0)) ∧ y.heap.size < z.heap.size := by rw [hz]; simp [go_sem]
 replace GU := Good.up GU gg
 replace B9 := B9.up gg
 rw [← hz]
 clear hz gg hHeld
 generalize y.heap.size = bs at *
 refine lstH (l' := #[true, true, true, true, true, true, true, true, true, true, true, true, true, true, true, true, true, false, false, true, false, false, false]) (by kernel_rfl) ?_
 have F := And.intro GU (And.intro PS (And.intro B9 L9))
 clear GU PS B9 L9
 revert F
 revert b9
 revert bs
 revert z
 exact t16_19_.out
 )
 focus (
 go_simp
 refine hK.out _ _ (HC.out _ (GU.alloc _)) (fun hHeld => ?_)
 clear hK K
 try simp only [List.setIfInBounds_toArray, List.set_cons_zero, List.set_cons_succ]
 obtain ⟨z, hz⟩ : ∃ z, z = y.alloc (.cells #[.int .i64 0, .slice none 0 0] 26) := ⟨_, rfl⟩
 have gg : Below y.heap.size y z := by rw [hz]; exact (Below.refl _ _).alloc (Nat.le_refl _) _
 have B10 : Box7 z y.heap.size 26 (.int .i64 0) (.slice none 0 0) := by rw [hz]; exact Box7.z _ _ rfl
 have L10 : w5.heap.size ≤ y.heap.size := GU.size
 have NE : b9 ≠ y.heap.size := by have := B9.lt; omega
 replace GU := Good.up GU gg
 replace B9 := B9.up gg
 rw [← hz]
 clear hz gg hHeld
 generalize y.heap.size = b10 at *
 refine lstH (l' := #[true, true, true, true, true, true, true, true, true, true, true, true, true, true, true, true, false, false, false, true, true, false, false]) (by kernel_rfl) ?_
 have F := And.intro GU (And.intro B9 (And.intro L9 (And.intro B10 (And.intro L10 NE))))
 clear GU B9 L9 B10 L10 NE
 revert F
 revert b10
 revert b9
 revert z
 exact t19_20_.out
 )
 )
 focus (
 intro y bs F
 obtain ⟨GU, PS⟩ := F
 have hHeld := HC.out _ GU
 clear hHeld
 refine wpAnyH_ready (rs := [17, 19, 20]) (by kernel_rfl) (by simp) ?_
 refine AllReadyH.cons rfl (fun K hK => ?_) (AllReadyH.cons rfl (fun K hK => ?_) (AllReadyH.cons rfl (fun K hK => ?_) AllReadyH.nil))
 focus (
 rw [if_pos]
 rotate_left
 · kernel_rfl
 have HCall := hideIt (HCc.out _ bs GU PS)
 go_wp2_with (go_at_call 70; refine HCall.out.mono ?_; rintro e z ⟨a', m', c', rfl, RW0, gg⟩; refine Hid.out ?_)
 refine hidp ?_
 refine hK.out _ _ (HC.out _ (Good.up GU gg)) (fun hHeld => ?_)
 clear hK K HCall
 try simp only [List.setIfInBounds_toArray, List.set_cons_zero, List.set_cons_succ]
 have RW := own_mono RW0.out GU.size
 clear RW0
 replace GU := Good.up GU gg
 clear gg PS
 replace hHeld := HC.out _ GU
 refine wpAnyH_take (i := 18) (v := ?_) rfl (by kernel_rfl) (by kernel_rfl) (by kernel_rfl) (fun _ _ _ h => h) (Or.inl ⟨by rfl, ?_⟩) (by assumption) ?_
 rotate_left
 · intro w hSw; (try dsimp only at hSw); go_simp; try with_reducible rfl
 try simp only [Act.put, List.getElem_toArray, List.getElem_cons_succ, List.getElem_cons_zero, List.setIfInBounds_toArray, List.set_cons_zero, List.set_cons_succ]
 clear hHeld
 refine lstH (l' := #[true, true, true, true, true, true, true, true, true, true, true, true, true, true, true, true, true, true, true, false, false, false, false]) (by kernel_rfl) ?_
 have F := And.intro GU RW
 clear GU RW
 revert F
 revert c'
 revert m'
 revert a'
 revert bs
 revert z
 exact t16_17_.out
 )
 focus (
 go_simp
 refine hK.out _ _ (HC.out _ (GU.alloc _)) (fun hHeld => ?_)
 clear hK K
 try simp only [List.setIfInBounds_toArray, List.set_cons_zero, List.set_cons_succ]
 obtain ⟨z, hz⟩ : ∃ z, z = y.alloc (.cells #[.int .i64 0, .int .i64 0, .int .i64 0, .bool false] 52) := ⟨_, rfl⟩
 have gg : Below y.heap.size y z := by rw [hz]; exact (Below.refl _ _).alloc (Nat.le_refl _) _
 have B9 : Box4 z y.heap.size ⟨0, 0, 0, false⟩ := by rw [hz]; exact Box4.z _ _ rfl
 have L9 : w5.heap.size ≤ y.heap.size := GU.size
 replace GU := Good.up GU gg
 replace PS := keepP PS gg
 rw [← hz]
 clear hz gg hHeld
 generalize y.heap.size = b9 at *
 refine lstH (l' := #[true, true, true, true, true, true, true, true, true, true, true, true, true, true, true, true, true, false, false, true, false, false, false]) (by kernel_rfl) ?_
 have F := And.intro GU (And.intro PS (And.intro B9 L9))
 clear GU PS B9 L9
 revert F
 revert b9
 revert bs
 revert z
 exact t16_19_.out
 )
 focus (
 go_simp
 refine hK.out _ _ (HC.out _ (GU.alloc _)) (fun hHeld => ?_)
 clear hK K
 try simp only [List.setIfInBounds_toArray, List.set_cons_zero, List.set_cons_succ]
 obtain ⟨z, hz⟩ : ∃ z, z = y.alloc (.cells #[.int .i64 0, .slice none 0 0] 26) := ⟨_, rfl⟩
 have gg : Below y.heap.size y z := by rw [hz]; exact (Below.refl _ _).alloc (Nat.le_refl _) _
 have B10 : Box7 z y.heap.size 26 (.int .i64 0) (.slice none 0 0) := by rw [hz]; exact Box7.z _ _ rfl
 have L10 : w5.heap.size ≤ y.heap.size := GU.size
 replace GU := Good.up GU gg
 replace PS := keepP PS gg
 rw [← hz]
 clear hz gg hHeld
 generalize y.heap.size = b10 at *
 refine lstH (l' := #[true, true, true, true, true, true, true, true, true, true, true, true, true, true, true, true, true, false, false, false, true, false, false]) (by kernel_rfl) ?_
 have F := And.intro GU (And.intro PS (And.intro B10 L10))
 clear GU PS B10 L10
 revert F
 revert b10
 revert bs
 revert z
 exact t16_20_.out
 )
 )
 focus (
 intro y b9 b10 F
 obtain ⟨GU, B9, L9, B10, L10, NE⟩ := F
 have hHeld := HC.out _ GU
 clear hHeld
 refine wpAnyH_ready (rs := [16]) (by kernel_rfl) (by simp) ?_
 refine AllReadyH.cons rfl (fun K hK => ?_) AllReadyH.nil
 focus (
 go_simp
 refine hK.out _ _ (HC.out _ (GU.alloc _)) (fun hHeld => ?_)
 clear hK K
 try simp only [List.setIfInBounds_toArray, List.set_cons_zero, List.set_cons_succ]
 obtain ⟨z, hz⟩ : ∃ z, z = y.alloc (.cells #[.slice (some ⟨ba, off, none⟩) k n, .slice (some ⟨ba, off, none⟩) 0 0] 24) := ⟨_, rfl⟩
 have gg : Below y.heap.size y z := by rw [hz]; exact (Below.refl _ _).alloc (Nat.le_refl _) _
 have PS : (z.cell? ⟨y.heap.size, 0, none⟩ = some (.slice (some ⟨ba, off, none⟩) k n) ∧ z.cell? ⟨y.heap.size, 1, none⟩ = some (.slice (some ⟨ba, off, none⟩) 0 0)) ∧ y.heap.size < z.heap.size := by rw [hz]; simp [go_sem]
 replace GU := Good.up GU gg
 replace B9 := B9.up gg
 replace B10 := B10.up gg
 rw [← hz]
 clear hz gg hHeld
 generalize y.heap.size = bs at *
 refine lstH (l' := #[true, true, true, true, true, true, true, true, true, true, true, true, true, true, true, true, true, false, false, true, true, false, false]) (by kernel_rfl) ?_
 have F := And.intro GU (And.intro PS (And.intro B9 (And.intro L9 (And.intro B10 (And.intro L10 NE)))))
 clear GU PS B9 L9 B10 L10 NE
 revert F
 revert b10
 revert b9
 revert bs
 revert z
 exact t16_19_20_.out
 )
 )
 focus (
 intro y bs b10 F
 obtain ⟨GU, PS, B10, L10⟩ := F
 have hHeld := HC.out _ GU
 clear hHeld
 refine wpAnyH_ready (rs := [17, 19]) (by kernel_rfl) (by simp) ?_
 refine AllReadyH.cons rfl (fun K hK => ?_) (AllReadyH.cons rfl (fun K hK => ?_) AllReadyH.nil)
 focus (
 rw [if_pos]
 rotate_left
 · kernel_rfl
 have HCall := hideIt (HCc.out _ bs GU PS)
 go_wp2_with (go_at_call 70; refine HCall.out.mono ?_; rintro e z ⟨a', m', c', rfl, RW0, gg⟩; refine Hid.out ?_)
 refine hidp ?_
 refine hK.out _ _ (HC.out _ (Good.up GU gg)) (fun hHeld => ?_)
 clear hK K HCall
 try simp only [List.setIfInBounds_toArray, List.set_cons_zero, List.set_cons_succ]
 have N10 : ∀ g, a' = some ⟨g, 0, none⟩ → g ≠ b10 := fun g hg => by have := own_lo RW0.out hg; have := B10.lt; omega
 have RW := own_mono RW0.out GU.size
 clear RW0
 replace GU := Good.up GU gg
 replace B10 := B10.up gg
 clear gg PS
 replace hHeld := HC.out _ GU
 refine wpAnyH_take (i := 18) (v := ?_) rfl (by kernel_rfl) (by kernel_rfl) (by kernel_rfl) (fun _ _ _ h => h) (Or.inl ⟨by rfl, ?_⟩) (by assumption) ?_
 rotate_left
 · intro w hSw; (try dsimp only at hSw); go_simp; try with_reducible rfl
 try simp only [Act.put, List.getElem_toArray, List.getElem_cons_succ, List.getElem_cons_zero, List.setIfInBounds_toArray, List.set_cons_zero, List.set_cons_succ]
 clear hHeld
 refine lstH (l' := #[true, true, true, true, true, true, true, true, true, true, true, true, true, true, true, true, true, true, true, false, true, false, false]) (by kernel_rfl) ?_
 have F := And.intro GU (And.intro B10 (And.intro L10 (And.intro RW N10)))
 clear GU B10 L10 RW N10
 revert F
 revert b10
 revert c'
 revert m'
 revert a'
 revert bs
 revert z
 exact t16_17_20_.out
 )
 focus (
 go_simp
 refine hK.out _ _ (HC.out _ (GU.alloc _)) (fun hHeld => ?_)
 clear hK K
 try simp only [List.setIfInBounds_toArray, List.set_cons_zero, List.set_cons_succ]
 obtain ⟨z, hz⟩ : ∃ z, z = y.alloc (.cells #[.int .i64 0, .int .i64 0, .int .i64 0, .bool false] 52) := ⟨_, rfl⟩
 have gg : Below y.heap.size y z := by rw [hz]; exact (Below.refl _ _).alloc (Nat.le_refl _) _
 have B9 : Box4 z y.heap.size ⟨0, 0, 0, false⟩ := by rw [hz]; exact Box4.z _ _ rfl
 have L9 : w5.heap.size ≤ y.heap.size := GU.size
 have NE : y.heap.size ≠ b10 := by have := B10.lt; omega
 replace GU := Good.up GU gg
 replace PS := keepP PS gg
 replace B10 := B10.up gg
 rw [← hz]
 clear hz gg hHeld
 generalize y.heap.size = b9 at *
 refine lstH (l' := #[true, true, true, true, true, true, true, true, true, true, true, true, true, true, true, true, true, false, false, true, true, false, false]) (by kernel_rfl) ?_
 have F := And.intro GU (And.intro PS (And.intro B9 (And.intro L9 (And.intro B10 (And.intro L10 NE)))))
 clear GU PS B9 L9 B10 L10 NE
 revert F
 revert b10
 revert b9
 revert bs
 revert z
 exact t16_19_20_.out
 )
 )
 focus (
 intro y bs b9 F
 obtain ⟨GU, PS, B9, L9⟩ := F
 have hHeld := HC.out _ GU
 clear hHeld
 refine wpAnyH_ready (rs := [17, 20]) (by kernel_rfl) (by simp) ?_
 refine AllReadyH.cons rfl (fun K hK => ?_) (AllReadyH.cons rfl (fun K hK => ?_) AllReadyH.nil)
 focus (
 rw [if_pos]
 rotate_left
 · kernel_rfl
 have HCall := hideIt (HCc.out _ bs GU PS)
 go_wp2_with (go_at_call 70; refine HCall.out.mono ?_; rintro e z ⟨a', m', c', rfl, RW0, gg⟩; refine Hid.out ?_)
 refine hidp ?_
 refine hK.out _ _ (HC.out _ (Good.up GU gg)) (fun hHeld => ?_)
 clear hK K HCall
 try simp only [List.setIfInBounds_toArray, List.set_cons_zero, List.set_cons_succ]
 have N9 : ∀ g, a' = some ⟨g, 0, none⟩ → g ≠ b9 := fun g hg => by have := own_lo RW0.out hg; have := B9.lt; omega
 have RW := own_mono RW0.out GU.size
 clear RW0
 replace GU := Good.up GU gg
 replace B9 := B9.up gg
 clear gg PS
 replace hHeld := HC.out _ GU
 refine wpAnyH_take (i := 18) (v := ?_) rfl (by kernel_rfl) (by kernel_rfl) (by kernel_rfl) (fun _ _ _ h => h) (Or.inl ⟨by rfl, ?_⟩) (by assumption) ?_
 rotate_left
 · intro w hSw; (try dsimp only at hSw); go_simp; try with_reducible rfl
 try simp only [Act.put, List.getElem_toArray, List.getElem_cons_succ, List.getElem_cons_zero, List.setIfInBounds_toArray, List.set_cons_zero, List.set_cons_succ]
 clear hHeld
 refine lstH (l' := #[true, true, true, true, true, true, true, true, true, true, true, true, true, true, true, true, true, true, true, true, false, false, false]) (by kernel_rfl) ?_
 have F := And.intro GU (And.intro B9 (And.intro L9 (And.intro RW N9)))
 clear GU B9 L9 RW N9
 revert F
 revert b9
 revert c'
 revert m'
 revert a'
 revert bs
 revert z
 exact t16_17_19_.out
 )
 focus (
 go_simp
 refine hK.out _ _ (HC.out _ (GU.alloc _)) (fun hHeld => ?_)
 clear hK K
 try simp only [List.setIfInBounds_toArray, List.set_cons_zero, List.set_cons_succ]
 obtain ⟨z, hz⟩ : ∃ z, z = y.alloc (.cells #[.int .i64 0, .slice none 0 0] 26) := ⟨_, rfl⟩
 have gg : Below y.heap.size y z := by rw [hz]; exact (Below.refl _ _).alloc (Nat.le_refl _) _
 have B10 : Box7 z y.heap.size 26 (.int .i64 0) (.slice none 0 0) := by rw [hz]; exact Box7.z _ _ rfl
 have L10 : w5.heap.size ≤ y.heap.size := GU.size
 have NE : b9 ≠ y.heap.size := by have := B9.lt; omega
 replace GU := Good.up GU gg
 replace PS := keepP PS gg
 replace B9 := B9.up gg
 rw [← hz]
 clear hz gg hHeld
 generalize y.heap.size = b10 at *
 refine lstH (l' := #[true, true, true, true, true, true, true, true, true, true, true, true, true, true, true, true, true, false, false, true, true, false, false]) (by kernel_rfl) ?_
 have F := And.intro GU (And.intro PS (And.intro B9 (And.intro L9 (And.intro B10 (And.intro L10 NE)))))
 clear GU PS B9 L9 B10 L10 NE
 revert F
 revert b10
 revert b9
 revert bs
 revert z
 exact t16_19_20_.out
 )
 )
 focus (
 intro y bs a' m' c' F
 obtain ⟨GU, RW⟩ := F
 have hHeld := HC.out _ GU
 clear hHeld
 refine wpAnyH_ready (rs := [19, 20]) (by kernel_rfl) (by simp) ?_
 refine AllReadyH.cons rfl (fun K hK => ?_) (AllReadyH.cons rfl (fun K hK => ?_) AllReadyH.nil)
 focus (
 go_simp
 refine hK.out _ _ (HC.out _ (GU.alloc _)) (fun hHeld => ?_)
 clear hK K
 try simp only [List.setIfInBounds_toArray, List.set_cons_zero, List.set_cons_succ]
 obtain ⟨z, hz⟩ : ∃ z, z = y.alloc (.cells #[.int .i64 0, .int .i64 0, .int .i64 0, .bool false] 52) := ⟨_, rfl⟩
 have gg : Below y.heap.size y z := by rw [hz]; exact (Below.refl _ _).alloc (Nat.le_refl _) _
 have B9 : Box4 z y.heap.size ⟨0, 0, 0, false⟩ := by rw [hz]; exact Box4.z _ _ rfl
 have L9 : w5.heap.size ≤ y.heap.size := GU.size
 have N9 : ∀ g, a' = some ⟨g, 0, none⟩ → g ≠ y.heap.size := fun g hg => by have := own_lo RW hg; omega
 replace GU := Good.up GU gg
 replace RW := own_up RW gg
 rw [← hz]
 clear hz gg hHeld
 generalize y.heap.size = b9 at *
 refine lstH (l' := #[true, true, true, true, true, true, true, true, true, true, true, true, true, true, true, true, true, true, true, true, false, false, false]) (by kernel_rfl) ?_
 have F := And.intro GU (And.intro B9 (And.intro L9 (And.intro RW N9)))
 clear GU B9 L9 RW N9
 revert F
 revert b9
 revert c'
 revert m'
 revert a'
 revert bs
 revert z
 exact t16_17_19_.out
 )
 focus (
 go_simp
 refine hK.out _ _ (HC.out _ (GU.alloc _)) (fun hHeld => ?_)
 clear hK K
 try simp only [List.setIfInBounds_toArray, List.set_cons_zero, List.set_cons_succ]
 obtain ⟨z, hz⟩ : ∃ z, z = y.alloc (.cells #[.int .i64 0, .slice none 0 0] 26) := ⟨_, rfl⟩
 have gg : Below y.heap.size y z := by rw [hz]; exact (Below.refl _ _).alloc (Nat.le_refl _) _
 have B10 : Box7 z y.heap.size 26 (.int .i64 0) (.slice none 0 0) := by rw [hz]; exact Box7.z _ _ rfl
 have L10 : w5.heap.size ≤ y.heap.size := GU.size
 have N10 : ∀ g, a' = some ⟨g, 0, none⟩ → g ≠ y.heap.size := fun g hg => by have := own_lo RW hg; omega
 replace GU := Good.up GU gg
 replace RW := own_up RW gg
 rw [← hz]
 clear hz gg hHeld
 generalize y.heap.size = b10 at *
 refine lstH (l' := #[true, true, true, true, true, true, true, true, true, true, true, true, true, true, true, true, true, true, true, false, true, false, false]) (by kernel_rfl) ?_
 have F := And.intro GU (And.intro B10 (And.intro L10 (And.intro RW N10)))
 clear GU B10 L10 RW N10
 revert F
 revert b10
 revert c'
 revert m'
 revert a'
 revert bs
 revert z
 exact t16_17_20_.out
 )
 )
 focus (
 intro y bs b9 b10 F
 obtain ⟨GU, PS, B9, L9, B10, L10, NE⟩ := F
 have hHeld := HC.out _ GU
 clear hHeld
 refine wpAnyH_ready (rs := [17]) (by kernel_rfl) (by simp) ?_
 refine AllReadyH.cons rfl (fun K hK => ?_) AllReadyH.nil
 focus (
 rw [if_pos]
 rotate_left
 · kernel_rfl
 have HCall := hideIt (HCc.out _ bs GU PS)
 go_wp2_with (go_at_call 70; refine HCall.out.mono ?_; rintro e z ⟨a', m', c', rfl, RW0, gg⟩; refine Hid.out ?_)
 refine hidp ?_
 refine hK.out _ _ (HC.out _ (Good.up GU gg)) (fun hHeld => ?_)
 clear hK K HCall
 try simp only [List.setIfInBounds_toArray, List.set_cons_zero, List.set_cons_succ]
 have N9 : ∀ g, a' = some ⟨g, 0, none⟩ → g ≠ b9 := fun g hg => by have := own_lo RW0.out hg; have := B9.lt; omega
 have N10 : ∀ g, a' = some ⟨g, 0, none⟩ → g ≠ b10 := fun g hg => by have := own_lo RW0.out hg; have := B10.lt; omega
 have RW := own_mono RW0.out GU.size
 clear RW0
 replace GU := Good.up GU gg
 replace B9 := B9.up gg
 replace B10 := B10.up gg
 clear gg PS
 replace hHeld := HC.out _ GU
 refine wpAnyH_take (i := 18) (v := ?_) rfl (by kernel_rfl) (by kernel_rfl) (by kernel_rfl) (fun _ _ _ h => h) (Or.inl ⟨by rfl, ?_⟩) (by assumption) ?_
 rotate_left
 · intro w hSw; (try dsimp only at hSw); go_simp; try with_reducible rfl
 try simp only [Act.put, List.getElem_toArray, List.getElem_cons_succ, List.getElem_cons_zero, List.setIfInBounds_toArray, List.set_cons_zero, List.set_cons_succ]
 clear hHeld
 refine lstH (l' := #[true, true, true, true, true, true, true, true, true, true, true, true, true, true, true, true, true, true, true, true, true, false, false]) (by kernel_rfl) ?_
 have F := And.intro GU (And.intro B9 (And.intro L9 (And.intro B10 (And.intro L10 (And.intro NE (And.intro RW (And.intro N9 N10)))))))
 clear GU B9 L9 B10 L10 NE RW N9 N10
 revert F
 revert b10
 revert b9
 revert c'
 revert m'
 revert a'
 revert bs
 revert z
 exact t16_17_19_20_.out
 )
 )
 focus (
 intro y bs a' m' c' b10 F
 obtain ⟨GU, B10, L10, RW, N10⟩ := F
 have hHeld := HC.out _ GU
 clear hHeld
 refine wpAnyH_ready (rs := [19]) (by kernel_rfl) (by simp) ?_
 refine AllReadyH.cons rfl (fun K hK => ?_) AllReadyH.nil
 focus (
 go_simp
 refine hK.out _ _ (HC.out _ (GU.alloc _)) (fun hHeld => ?_)
 clear hK K
 try simp only [List.setIfInBounds_toArray, List.set_cons_zero, List.set_cons_succ]
 obtain ⟨z, hz⟩ : ∃ z, z = y.alloc (.cells #[.int .i64 0, .int .i64 0, .int .i64 0, .bool false] 52) := ⟨_, rfl⟩
 have gg : Below y.heap.size y z := by rw [hz]; exact (Below.refl _ _).alloc (Nat.le_refl _) _
 have B9 : Box4 z y.heap.size ⟨0, 0, 0, false⟩ := by rw [hz]; exact Box4.z _ _ rfl
 have L9 : w5.heap.size ≤ y.heap.size := GU.size
 have N9 : ∀ g, a' = some ⟨g, 0, none⟩ → g ≠ y.heap.size := fun g hg => by have := own_lo RW hg; omega
 have NE : y.heap.size ≠ b10 := by have := B10.lt; omega
 replace GU := Good.up GU gg
 replace B10 := B10.up gg
 replace RW := own_up RW gg
 rw [← hz]
 clear hz gg hHeld
 generalize y.heap.size = b9 at *
 refine lstH (l' := #[true, true, true, true, true, true, true, true, true, true, true, true, true, true, true, true, true, true, true, true, true, false, false]) (by kernel_rfl) ?_
 have F := And.intro GU (And.intro B9 (And.intro L9 (And.intro B10 (And.intro L10 (And.intro NE (And.intro RW (And.intro N9 N10)))))))
 clear GU B9 L9 B10 L10 NE RW N9 N10
 revert F
 revert b10
 revert b9
 revert c'
 revert m'
 revert a'
 revert bs
 revert z
 exact t16_17_19_20_.out
 )
 )
 focus (
 intro y bs a' m' c' b9 F
 obtain ⟨GU, B9, L9, RW, N9⟩ := F
 have hHeld := HC.out _ GU
 clear hHeld
 refine wpAnyH_ready (rs := [20]) (by kernel_rfl) (by simp) ?_
 refine AllReadyH.cons rfl (fun K hK => ?_) AllReadyH.nil
 focus (
 go_simp
 refine hK.out _ _ (HC.out _ (GU.alloc _)) (fun hHeld => ?_)
 clear hK K
 try simp only [List.setIfInBounds_toArray, List.set_cons_zero, List.set_cons_succ]
 obtain ⟨z, hz⟩ : ∃ z, z = y.alloc (.cells #[.int .i64 0, .slice none 0 0] 26) := ⟨_, rfl⟩
 have gg : Below y.heap.size y z := by rw [hz]; exact (Below.refl _ _).alloc (Nat.le_refl _) _
 have B10 : Box7 z y.heap.size 26 (.int .i64 0) (.slice none 0 0) := by rw [hz]; exact Box7.z _ _ rfl
 have L10 : w5.heap.size ≤ y.heap.size := GU.size
 have N10 : ∀ g, a' = some ⟨g, 0, none⟩ → g ≠ y.heap.size := fun g hg => by have := own_lo RW hg; omega
 have NE : b9 ≠ y.heap.size := by have := B9.lt; omega
 replace GU := Good.up GU gg
 replace B9 := B9.up gg
 replace RW := own_up RW gg
 rw [← hz]
 clear hz gg hHeld
 generalize y.heap.size = b10 at *
 refine lstH (l' := #[true, true, true, true, true, true, true, true, true, true, true, true, true, true, true, true, true, true, true, true, true, false, false]) (by kernel_rfl) ?_
 have F := And.intro GU (And.intro B9 (And.intro L9 (And.intro B10 (And.intro L10 (And.intro NE (And.intro RW (And.intro N9 N10)))))))
 clear GU B9 L9 B10 L10 NE RW N9 N10
 revert F
 revert b10
 revert b9
 revert c'
 revert m'
 revert a'
 revert bs
 revert z
 exact t16_17_19_20_.out
 )
 )
 focus (
 intro y bs a' m' c' b9 b10 F
 obtain ⟨GU, B9, L9, B10, L10, NE, RW, N9, N10⟩ := F
 have hHeld := HC.out _ GU
 obtain ⟨bc0, bc1, bc2, bc3⟩ := B9.cells
 have bz0 := B9.frozen 0
 have bz1 := B9.frozen 1
 have bz2 := B9.frozen 2
 have bz3 := B9.frozen 3
 refine wpAnyH_ready (rs := [21]) (by kernel_rfl) (by simp) ?_
 refine AllReadyH.cons rfl (fun K hK => ?_) AllReadyH.nil
 go_simp
 refine hK.out _ _ (HC.out _ (Good.set4 GU _ _ _ _ _ L9)) (fun hHeld => ?_)
 clear hK K
 try simp only [List.setIfInBounds_toArray, List.set_cons_zero, List.set_cons_succ]
 obtain ⟨uf, huf⟩ : ∃ uf, uf = (((y.setCell ⟨b9, 0, none⟩ (.int .i64 x.a)).setCell ⟨b9, 1, none⟩ (.int .i64 x.b)).setCell ⟨b9, 2, none⟩ (.int .i64 x.l)).setCell ⟨b9, 3, none⟩ (.bool x.t) := ⟨_, rfl⟩
 have TF := tk_one GU B9 B10 RW L9 NE N9 x
 rw [← huf] at TF hHeld ⊢
 clear huf bc0 bc1 bc2 bc3 bz0 bz1 bz2 bz3
 have bd0 := TF.2.2.1.cell0
 have bd1 := TF.2.2.1.cell1
 have be0 := TF.2.2.1.frozen 0
 have be1 := TF.2.2.1.frozen 1
 have HTF := hideIt TF
 have GF := TF.1
 clear TF
 refine wpAnyH_ready (rs := [22]) (by kernel_rfl) (by simp) ?_
 refine AllReadyH.cons rfl (fun K hK => ?_) AllReadyH.nil
 go_simp
 refine hK.out _ _ (HC.out _ (Good.set2 GF _ _ _ L10)) (fun hHeld => ?_)
 clear hK K
 try simp only [List.setIfInBounds_toArray, List.set_cons_zero, List.set_cons_succ]
 refine wpAnyH_done (by kernel_rfl) ?_ _
 have HZ := hideIt (tk_two HTF.out L9 L10 NE N9 N10 (nn : Int))
 clear HTF GF bd0 bd1 be0 be1 hHeld
 go_wp2_with fail
 go_meet
 exact ⟨b9, b10, a', m', c', rfl, rfl, HZ⟩
 )
          )
        · have HCc : Hid (∀ (u : World) (bs : Nat), Good w5 u → ((u.cell? ⟨bs, 0, none⟩ = some (.slice (some ⟨ba, off, none⟩) k c) ∧ u.cell? ⟨bs, 1, none⟩ = some (.slice (some ⟨ba, off + p * 4, none⟩) (n - p) (c - p))) ∧ bs < u.heap.size) → Calls Tryz.prog 70 #[.slice (some ⟨bs, 0, none⟩) 2 2] u fun e v => ∃ a' m' c', e = .returned (.slice a' m' c') ∧ Hid (v.ownsRow u.heap.size 52 4 (.slice a' m' c') m' (lcells (ouL ls f))) ∧ Below u.heap.size u v) := fun u bs hu ⟨⟨h0, h1⟩, h2⟩ => by
            have hL := HL5.out u hu
            refine (ConcatL_any [⟨some ⟨ba, off, none⟩, k, c, ls.take k⟩, ⟨some ⟨ba, off + p * 4, none⟩, n - p, c - p, ls.drop p⟩] bs 2 rfl (by omega) u ⟨h2, fun j q hq => ?_⟩ (by simp [pLenL]; omega)).mono fun e v ⟨a', m', c', he, ho, hb⟩ => ⟨a', m', c', he, ?_, hb⟩
            · rcases j with _ | _ | j
              · simp at hq; subst hq
                exact ⟨h0, hL.take (show k ≤ n by omega), fun h => by cases h⟩
              · simp at hq; subst hq
                exact ⟨h1, hL.drop p (show p ≤ n by omega), fun h => by cases h⟩
              · simp at hq
            · have hp2 : pAllL [⟨some ⟨ba, off, none⟩, k, c, ls.take k⟩, ⟨some ⟨ba, off + p * 4, none⟩, n - p, c - p, ls.drop p⟩] = ouL ls f := by rw [← HOu.out, ← Hp.out]; simp [pAllL]
              rw [hp2] at ho
              exact ho
          clear HL5 HOu HKx hlen Hp
          (
 apply viaT
 intro t16_17_19_20_
 apply viaT
 intro t16_17_19_
 apply viaT
 intro t16_17_20_
 apply viaT
 intro t16_19_20_
 apply viaT
 intro t16_17_
 apply viaT
 intro t16_19_
 apply viaT
 intro t16_20_
 apply viaT
 intro t19_20_
 apply viaT
 intro t16_
 apply viaT
 intro t19_
 apply viaT
 intro t20_
 focus (
 refine wp_region_held_drew (S := (fun u => ((u.cell? ⟨w.heap.size, 0, none⟩ = some (.int .i64 (nn : Int)) ∧ u.cell? ⟨w.heap.size, 1, none⟩ = some (.slice (some ⟨ba, off, none⟩) n c)) ∧ (u.cell? ⟨ba, off + k * 4, none⟩ = some (.int .i64 x.a) ∧ u.cell? ⟨ba, off + k * 4 + 1, none⟩ = some (.int .i64 x.b) ∧ u.cell? ⟨ba, off + k * 4 + 2, none⟩ = some (.int .i64 x.l) ∧ u.cell? ⟨ba, off + k * 4 + 3, none⟩ = some (.bool x.t))) ∧ Good w5 u)) (by kernel_rfl) hS5 (fun hHeld => ?_)
 refine wpAnyH_take (i := 0) (v := ?_) rfl (by kernel_rfl) (by kernel_rfl) (by kernel_rfl) (fun _ _ _ h => h) (Or.inl ⟨by rfl, ?_⟩) (by assumption) ?_
 rotate_left
 · intro w hSw; (try dsimp only at hSw); go_simp; try with_reducible rfl
 try simp only [Act.put, List.getElem_toArray, List.getElem_cons_zero, List.setIfInBounds_toArray, List.set_cons_zero, List.set_cons_succ]
 refine wpAnyH_take (i := 1) (v := ?_) rfl (by kernel_rfl) (by kernel_rfl) (by kernel_rfl) (fun _ _ _ h => h) (Or.inl ⟨by rfl, ?_⟩) (by assumption) ?_
 rotate_left
 · intro w hSw; (try dsimp only at hSw); go_simp; try with_reducible rfl
 try simp only [Act.put, List.getElem_toArray, List.getElem_cons_succ, List.getElem_cons_zero, List.setIfInBounds_toArray, List.set_cons_zero, List.set_cons_succ]
 refine wpAnyH_take (i := 2) (v := ?_) rfl (by kernel_rfl) (by kernel_rfl) (by kernel_rfl) (fun _ _ _ h => h) (Or.inl ⟨by rfl, ?_⟩) (by assumption) ?_
 rotate_left
 · intro w hSw; (try dsimp only at hSw); go_simp; try with_reducible rfl
 try simp only [Act.put, List.getElem_toArray, List.getElem_cons_succ, List.getElem_cons_zero, List.setIfInBounds_toArray, List.set_cons_zero, List.set_cons_succ]
 refine wpAnyH_take (i := 3) (v := ?_) rfl (by kernel_rfl) (by kernel_rfl) (by kernel_rfl) (fun _ _ _ h => h) (Or.inl ⟨by rfl, ?_⟩) (by assumption) ?_
 rotate_left
 · intro w hSw; (try dsimp only at hSw); go_simp; try with_reducible rfl
 try simp only [Act.put, List.getElem_toArray, List.getElem_cons_succ, List.getElem_cons_zero, List.setIfInBounds_toArray, List.set_cons_zero, List.set_cons_succ]
 refine wpAnyH_take (i := 4) (v := ?_) rfl (by kernel_rfl) (by kernel_rfl) (by kernel_rfl) (fun _ _ _ h => h) (Or.inl ⟨by rfl, ?_⟩) (by assumption) ?_
 rotate_left
 · intro w hSw; (try dsimp only at hSw); go_simp; try with_reducible rfl
 try simp only [Act.put, List.getElem_toArray, List.getElem_cons_succ, List.getElem_cons_zero, List.setIfInBounds_toArray, List.set_cons_zero, List.set_cons_succ]
 refine wpAnyH_take (i := 5) (v := ?_) rfl (by kernel_rfl) (by kernel_rfl) (by kernel_rfl) (fun _ _ _ h => h) (Or.inl ⟨by rfl, ?_⟩) (by assumption) ?_
 rotate_left
 · intro w hSw; (try dsimp only at hSw); go_simp; try with_reducible rfl
 try simp only [Act.put, List.getElem_toArray, List.getElem_cons_succ, List.getElem_cons_zero, List.setIfInBounds_toArray, List.set_cons_zero, List.set_cons_succ]
 refine wpAnyH_take (i := 6) (v := ?_) rfl (by kernel_rfl) (by kernel_rfl) (by kernel_rfl) (fun _ _ _ h => h) (Or.inl ⟨by rfl, ?_⟩) (by assumption) ?_
 rotate_left
 · intro w hSw; (try dsimp only at hSw); go_simp; try with_reducible rfl
 try simp only [Act.put, List.getElem_toArray, List.getElem_cons_succ, List.getElem_cons_zero, List.setIfInBounds_toArray, List.set_cons_zero, List.set_cons_succ]
 refine wpAnyH_take (i := 7) (v := ?_) rfl (by kernel_rfl) (by kernel_rfl) (by kernel_rfl) (fun _ _ _ h => h) (Or.inl ⟨by rfl, ?_⟩) (by assumption) ?_
 rotate_left
 · intro w hSw; (try dsimp only at hSw); go_simp; try with_reducible rfl
 try simp only [Act.put, List.getElem_toArray, List.getElem_cons_succ, List.getElem_cons_zero, List.setIfInBounds_toArray, List.set_cons_zero, List.set_cons_succ]
 refine wpAnyH_take (i := 8) (v := ?_) rfl (by kernel_rfl) (by kernel_rfl) (by kernel_rfl) (fun _ _ _ h => h) (Or.inl ⟨by rfl, ?_⟩) (by assumption) ?_
 rotate_left
 · intro w hSw; (try dsimp only at hSw); go_simp; try with_reducible rfl
 try simp only [Act.put, List.getElem_toArray, List.getElem_cons_succ, List.getElem_cons_zero, List.setIfInBounds_toArray, List.set_cons_zero, List.set_cons_succ]
 refine wpAnyH_take (i := 9) (v := ?_) rfl (by kernel_rfl) (by kernel_rfl) (by kernel_rfl) (fun _ _ _ h => h) (Or.inl ⟨by rfl, ?_⟩) (by assumption) ?_
 rotate_left
 · intro w hSw; (try dsimp only at hSw); go_simp; try with_reducible rfl
 try simp only [Act.put, List.getElem_toArray, List.getElem_cons_succ, List.getElem_cons_zero, List.setIfInBounds_toArray, List.set_cons_zero, List.set_cons_succ]
 refine wpAnyH_take (i := 10) (v := ?_) rfl (by kernel_rfl) (by kernel_rfl) (by kernel_rfl) (fun _ _ _ h => h) (Or.inl ⟨by rfl, ?_⟩) (by assumption) ?_
 rotate_left
 · intro w hSw; (try dsimp only at hSw); go_simp; try with_reducible rfl
 try simp only [Act.put, List.getElem_toArray, List.getElem_cons_succ, List.getElem_cons_zero, List.setIfInBounds_toArray, List.set_cons_zero, List.set_cons_succ]
 refine wpAnyH_take (i := 11) (v := ?_) rfl (by kernel_rfl) (by kernel_rfl) (by kernel_rfl) (fun _ _ _ h => h) (Or.inl ⟨by rfl, ?_⟩) (by assumption) ?_
 rotate_left
 · intro w hSw; (try dsimp only at hSw); go_simp; try with_reducible rfl
 try simp only [Act.put, List.getElem_toArray, List.getElem_cons_succ, List.getElem_cons_zero, List.setIfInBounds_toArray, List.set_cons_zero, List.set_cons_succ]
 refine wpAnyH_take (i := 12) (v := ?_) rfl (by kernel_rfl) (by kernel_rfl) (by kernel_rfl) (fun _ _ _ h => h) (Or.inl ⟨by rfl, ?_⟩) (by assumption) ?_
 rotate_left
 · intro w hSw; (try dsimp only at hSw); go_simp; try with_reducible rfl
 try simp only [Act.put, List.getElem_toArray, List.getElem_cons_succ, List.getElem_cons_zero, List.setIfInBounds_toArray, List.set_cons_zero, List.set_cons_succ]
 refine wpAnyH_take (i := 13) (v := ?_) rfl (by kernel_rfl) (by kernel_rfl) (by kernel_rfl) (fun _ _ _ h => h) (Or.inl ⟨by rfl, ?_⟩) (by assumption) ?_
 rotate_left
 · intro w hSw; (try dsimp only at hSw); go_simp; try with_reducible rfl
 try simp only [Act.put, List.getElem_toArray, List.getElem_cons_succ, List.getElem_cons_zero, List.setIfInBounds_toArray, List.set_cons_zero, List.set_cons_succ]
 refine wpAnyH_take (i := 14) (v := ?_) rfl (by kernel_rfl) (by kernel_rfl) (by kernel_rfl) (fun _ _ _ h => h) (Or.inl ⟨by rfl, ?_⟩) (by assumption) ?_
 rotate_left
 · intro w hSw; (try dsimp only at hSw); go_simp; try with_reducible rfl
 try simp only [Act.put, List.getElem_toArray, List.getElem_cons_succ, List.getElem_cons_zero, List.setIfInBounds_toArray, List.set_cons_zero, List.set_cons_succ]
 refine wpAnyH_take (i := 15) (v := ?_) rfl (by kernel_rfl) (by kernel_rfl) (by kernel_rfl) (fun _ _ _ h => h) (Or.inl ⟨by rfl, ?_⟩) (by assumption) ?_
 rotate_left
 · intro w hSw; (try dsimp only at hSw); go_simp; try with_reducible rfl
 try simp only [Act.put, List.getElem_toArray, List.getElem_cons_succ, List.getElem_cons_zero, List.setIfInBounds_toArray, List.set_cons_zero, List.set_cons_succ]
 obtain ⟨y, hy⟩ : ∃ y, y = w5.drew := ⟨_, rfl⟩
 have GU : Good w5 y := by rw [hy]; exact (Good.refl _).drew
 rw [← hy]
 clear hy hHeld
 refine wpAnyH_ready (rs := [16, 19, 20]) (by kernel_rfl) (by simp) ?_
 refine AllReadyH.cons rfl (fun K hK => ?_) (AllReadyH.cons rfl (fun K hK => ?_) (AllReadyH.cons rfl (fun K hK => ?_) AllReadyH.nil))
 focus (
 go_simp
 refine hK.out _ _ (HC.out _ (GU.alloc _)) (fun hHeld => ?_)
 clear hK K
 try simp only [Act.put, List.getElem_toArray, List.getElem_cons_succ, List.getElem_cons_zero, List.setIfInBounds_toArray, List.set_cons_zero, List.set_cons_succ]
 obtain ⟨z, hz⟩ : ∃ z, z = y.alloc (.cells #[.slice (some ⟨ba, off, none⟩) k c, .slice (some ⟨ba, off + p * 4, none⟩) (n - p) (c - p)] 24) := ⟨_, rfl⟩
 have gg : Below y.heap.size y z := by rw [hz]; exact (Below.refl _ _).alloc (Nat.le_refl _) _
 have PS : (z.cell? ⟨y.heap.size, 0, none⟩ = some (.slice (some ⟨ba, off, none⟩) k c) ∧ z.cell? ⟨y.heap.size, 1, none⟩ = some (.slice (some ⟨ba, off + p * 4, none⟩) (n - p) (c - p))) ∧ y.heap.size < z.heap.size := by rw [hz]; simp [go_sem]
 replace GU := Good.up GU gg
 rw [← hz]
 clear hz gg hHeld
 generalize y.heap.size = bs at *
 refine lstH (l' := #[true, true, true, true, true, true, true, true, true, true, true, true, true, true, true, true, true, false, false, false, false, false, false]) (by kernel_rfl) ?_
 have F := And.intro GU PS
 clear GU PS
 revert F
 revert bs
 revert z
 exact t16_.out
 )
 focus (
 go_simp
 refine hK.out _ _ (HC.out _ (GU.alloc _)) (fun hHeld => ?_)
 clear hK K
 try simp only [Act.put, List.getElem_toArray, List.getElem_cons_succ, List.getElem_cons_zero, List.setIfInBounds_toArray, List.set_cons_zero, List.set_cons_succ]
 obtain ⟨z, hz⟩ : ∃ z, z = y.alloc (.cells #[.int .i64 0, .int .i64 0, .int .i64 0, .bool false] 52) := ⟨_, rfl⟩
 have gg : Below y.heap.size y z := by rw [hz]; exact (Below.refl _ _).alloc (Nat.le_refl _) _
 have B9 : Box4 z y.heap.size ⟨0, 0, 0, false⟩ := by rw [hz]; exact Box4.z _ _ rfl
 have L9 : w5.heap.size ≤ y.heap.size := GU.size
 replace GU := Good.up GU gg
 rw [← hz]
 clear hz gg hHeld
 generalize y.heap.size = b9 at *
 refine lstH (l' := #[true, true, true, true, true, true, true, true, true, true, true, true, true, true, true, true, false, false, false, true, false, false, false]) (by kernel_rfl) ?_
 have F := And.intro GU (And.intro B9 L9)
 clear GU B9 L9
 revert F
 revert b9
 revert z
 exact t19_.out
 )
 focus (
 go_simp
 refine hK.out _ _ (HC.out _ (GU.alloc _)) (fun hHeld => ?_)
 clear hK K
 try simp only [Act.put, List.getElem_toArray, List.getElem_cons_succ, List.getElem_cons_zero, List.setIfInBounds_toArray, List.set_cons_zero, List.set_cons_succ]
 obtain ⟨z, hz⟩ : ∃ z, z = y.alloc (.cells #[.int .i64 0, .slice none 0 0] 26) := ⟨_, rfl⟩
 have gg : Below y.heap.size y z := by rw [hz]; exact (Below.refl _ _).alloc (Nat.le_refl _) _
 have B10 : Box7 z y.heap.size 26 (.int .i64 0) (.slice none 0 0) := by rw [hz]; exact Box7.z _ _ rfl
 have L10 : w5.heap.size ≤ y.heap.size := GU.size
 replace GU := Good.up GU gg
 rw [← hz]
 clear hz gg hHeld
 generalize y.heap.size = b10 at *
 refine lstH (l' := #[true, true, true, true, true, true, true, true, true, true, true, true, true, true, true, true, false, false, false, false, true, false, false]) (by kernel_rfl) ?_
 have F := And.intro GU (And.intro B10 L10)
 clear GU B10 L10
 revert F
 revert b10
 revert z
 exact t20_.out
 )
 )
 focus (
 intro y b10 F
 obtain ⟨GU, B10, L10⟩ := F
 have hHeld := HC.out _ GU
 clear hHeld
 refine wpAnyH_ready (rs := [16, 19]) (by kernel_rfl) (by simp) ?_
 refine AllReadyH.cons rfl (fun K hK => ?_) (AllReadyH.cons rfl (fun K hK => ?_) AllReadyH.nil)
 focus (
 go_simp
 refine hK.out _ _ (HC.out _ (GU.alloc _)) (fun hHeld => ?_)
 clear hK K
 try simp only [List.setIfInBounds_toArray, List.set_cons_zero, List.set_cons_succ]
 obtain ⟨z, hz⟩ : ∃ z, z = y.alloc (.cells #[.slice (some ⟨ba, off, none⟩) k c, .slice (some ⟨ba, off + p * 4, none⟩) (n - p) (c - p)] 24) := ⟨_, rfl⟩
 have gg : Below y.heap.size y z := by rw [hz]; exact (Below.refl _ _).alloc (Nat.le_refl _) _
 have PS : (z.cell? ⟨y.heap.size, 0, none⟩ = some (.slice (some ⟨ba, off, none⟩) k c) ∧ z.cell? ⟨y.heap.size, 1, none⟩ = some (.slice (some ⟨ba, off + p * 4, none⟩) (n - p) (c - p))) ∧ y.heap.size < z.heap.size := by rw [hz]; simp [go_sem]
 replace GU := Good.up GU gg
 replace B10 := B10.up gg
 rw [← hz]
 clear hz gg hHeld
 generalize y.heap.size = bs at *
 refine lstH (l' := #[true, true, true, true, true, true, true, true, true, true, true, true, true, true, true, true, true, false, false, false, true, false, false]) (by kernel_rfl) ?_
 have F := And.intro GU (And.intro PS (And.intro B10 L10))
 clear GU PS B10 L10
 revert F
 revert b10
 revert bs
 revert z
 exact t16_20_.out
 )
 focus (
 go_simp
 refine hK.out _ _ (HC.out _ (GU.alloc _)) (fun hHeld => ?_)
 clear hK K
 try simp only [List.setIfInBounds_toArray, List.set_cons_zero, List.set_cons_succ]
 obtain ⟨z, hz⟩ : ∃ z, z = y.alloc (.cells #[.int .i64 0, .int .i64 0, .int .i64 0, .bool false] 52) := ⟨_, rfl⟩
 have gg : Below y.heap.size y z := by rw [hz]; exact (Below.refl _ _).alloc (Nat.le_refl _) _
 have B9 : Box4 z y.heap.size ⟨0, 0, 0, false⟩ := by rw [hz]; exact Box4.z _ _ rfl
 have L9 : w5.heap.size ≤ y.heap.size := GU.size
 have NE : y.heap.size ≠ b10 := by have := B10.lt; omega
 replace GU := Good.up GU gg
 replace B10 := B10.up gg
 rw [← hz]
 clear hz gg hHeld
 generalize y.heap.size = b9 at *
 refine lstH (l' := #[true, true, true, true, true, true, true, true, true, true, true, true, true, true, true, true, false, false, false, true, true, false, false]) (by kernel_rfl) ?_
 have F := And.intro GU (And.intro B9 (And.intro L9 (And.intro B10 (And.intro L10 NE))))
 clear GU B9 L9 B10 L10 NE
 revert F
 revert b10
 revert b9
 revert z
 exact t19_20_.out
 )
 )
 focus (
 intro y b9 F
 obtain ⟨GU, B9, L9⟩ := F
 have hHeld := HC.out _ GU
 clear hHeld
 refine wpAnyH_ready (rs := [16, 20]) (by kernel_rfl) (by simp) ?_
 refine AllReadyH.cons rfl (fun K hK => ?_) (AllReadyH.cons rfl (fun K hK => ?_) AllReadyH.nil)
 focus (
 go_simp
 refine hK.out _ _ (HC.out _ (GU.alloc _)) (fun hHeld => ?_)
 clear hK K
 try simp only [List.setIfInBounds_toArray, List.set_cons_zero, List.set_cons_succ]
 obtain ⟨z, hz⟩ : ∃ z, z = y.alloc (.cells #[.slice (some ⟨ba, off, none⟩) k c, .slice (some ⟨ba, off + p * 4, none⟩) (n - p) (c - p)] 24) := ⟨_, rfl⟩
 have gg : Below y.heap.size y z := by rw [hz]; exact (Below.refl _ _).alloc (Nat.le_refl _) _
 have PS : (z.cell? ⟨y.heap.size, 0, none⟩ = some (.slice (some ⟨ba, off, none⟩) k c) ∧ z.cell? ⟨y.heap.size, 1, none⟩ = some (.slice (some ⟨ba, off + p * 4, none⟩) (n - p) (c - p))) ∧ y.heap.size < z.heap.size := by rw [hz]; simp [go_sem]
 replace GU := Good.up GU gg
 replace B9 := B9.up gg
 rw [← hz]
 clear hz gg hHeld
 generalize y.heap.size = bs at *
 refine lstH (l' := #[true, true, true, true, true, true, true, true, true, true, true, true, true, true, true, true, true, false, false, true, false, false, false]) (by kernel_rfl) ?_
 have F := And.intro GU (And.intro PS (And.intro B9 L9))
 clear GU PS B9 L9
 revert F
 revert b9
 revert bs
 revert z
 exact t16_19_.out
 )
 focus (
 go_simp
 refine hK.out _ _ (HC.out _ (GU.alloc _)) (fun hHeld => ?_)
 clear hK K
 try simp only [List.setIfInBounds_toArray, List.set_cons_zero, List.set_cons_succ]
 obtain ⟨z, hz⟩ : ∃ z, z = y.alloc (.cells #[.int .i64 0, .slice none 0 0] 26) := ⟨_, rfl⟩
 have gg : Below y.heap.size y z := by rw [hz]; exact (Below.refl _ _).alloc (Nat.le_refl _) _
 have B10 : Box7 z y.heap.size 26 (.int .i64 0) (.slice none 0 0) := by rw [hz]; exact Box7.z _ _ rfl
 have L10 : w5.heap.size ≤ y.heap.size := GU.size
 have NE : b9 ≠ y.heap.size := by have := B9.lt; omega
 replace GU := Good.up GU gg
 replace B9 := B9.up gg
 rw [← hz]
 clear hz gg hHeld
 generalize y.heap.size = b10 at *
 refine lstH (l' := #[true, true, true, true, true, true, true, true, true, true, true, true, true, true, true, true, false, false, false, true, true, false, false]) (by kernel_rfl) ?_
 have F := And.intro GU (And.intro B9 (And.intro L9 (And.intro B10 (And.intro L10 NE))))
 clear GU B9 L9 B10 L10 NE
 revert F
 revert b10
 revert b9
 revert z
 exact t19_20_.out
 )
 )
 focus (
 intro y bs F
 obtain ⟨GU, PS⟩ := F
 have hHeld := HC.out _ GU
 clear hHeld
 refine wpAnyH_ready (rs := [17, 19, 20]) (by kernel_rfl) (by simp) ?_
 refine AllReadyH.cons rfl (fun K hK => ?_) (AllReadyH.cons rfl (fun K hK => ?_) (AllReadyH.cons rfl (fun K hK => ?_) AllReadyH.nil))
 focus (
 rw [if_pos]
 rotate_left
 · kernel_rfl
 have HCall := hideIt (HCc.out _ bs GU PS)
 go_wp2_with (go_at_call 70; refine HCall.out.mono ?_; rintro e z ⟨a', m', c', rfl, RW0, gg⟩; refine Hid.out ?_)
 refine hidp ?_
 refine hK.out _ _ (HC.out _ (Good.up GU gg)) (fun hHeld => ?_)
 clear hK K HCall
 try simp only [List.setIfInBounds_toArray, List.set_cons_zero, List.set_cons_succ]
 have RW := own_mono RW0.out GU.size
 clear RW0
 replace GU := Good.up GU gg
 clear gg PS
 replace hHeld := HC.out _ GU
 refine wpAnyH_take (i := 18) (v := ?_) rfl (by kernel_rfl) (by kernel_rfl) (by kernel_rfl) (fun _ _ _ h => h) (Or.inl ⟨by rfl, ?_⟩) (by assumption) ?_
 rotate_left
 · intro w hSw; (try dsimp only at hSw); go_simp; try with_reducible rfl
 try simp only [Act.put, List.getElem_toArray, List.getElem_cons_succ, List.getElem_cons_zero, List.setIfInBounds_toArray, List.set_cons_zero, List.set_cons_succ]
 clear hHeld
 refine lstH (l' := #[true, true, true, true, true, true, true, true, true, true, true, true, true, true, true, true, true, true, true, false, false, false, false]) (by kernel_rfl) ?_
 have F := And.intro GU RW
 clear GU RW
 revert F
 revert c'
 revert m'
 revert a'
 revert bs
 revert z
 exact t16_17_.out
 )
 focus (
 go_simp
 refine hK.out _ _ (HC.out _ (GU.alloc _)) (fun hHeld => ?_)
 clear hK K
 try simp only [List.setIfInBounds_toArray, List.set_cons_zero, List.set_cons_succ]
 obtain ⟨z, hz⟩ : ∃ z, z = y.alloc (.cells #[.int .i64 0, .int .i64 0, .int .i64 0, .bool false] 52) := ⟨_, rfl⟩
 have gg : Below y.heap.size y z := by rw [hz]; exact (Below.refl _ _).alloc (Nat.le_refl _) _
 have B9 : Box4 z y.heap.size ⟨0, 0, 0, false⟩ := by rw [hz]; exact Box4.z _ _ rfl
 have L9 : w5.heap.size ≤ y.heap.size := GU.size
 replace GU := Good.up GU gg
 replace PS := keepP PS gg
 rw [← hz]
 clear hz gg hHeld
 generalize y.heap.size = b9 at *
 refine lstH (l' := #[true, true, true, true, true, true, true, true, true, true, true, true, true, true, true, true, true, false, false, true, false, false, false]) (by kernel_rfl) ?_
 have F := And.intro GU (And.intro PS (And.intro B9 L9))
 clear GU PS B9 L9
 revert F
 revert b9
 revert bs
 revert z
 exact t16_19_.out
 )
 focus (
 go_simp
 refine hK.out _ _ (HC.out _ (GU.alloc _)) (fun hHeld => ?_)
 clear hK K
 try simp only [List.setIfInBounds_toArray, List.set_cons_zero, List.set_cons_succ]
 obtain ⟨z, hz⟩ : ∃ z, z = y.alloc (.cells #[.int .i64 0, .slice none 0 0] 26) := ⟨_, rfl⟩
 have gg : Below y.heap.size y z := by rw [hz]; exact (Below.refl _ _).alloc (Nat.le_refl _) _
 have B10 : Box7 z y.heap.size 26 (.int .i64 0) (.slice none 0 0) := by rw [hz]; exact Box7.z _ _ rfl
 have L10 : w5.heap.size ≤ y.heap.size := GU.size
 replace GU := Good.up GU gg
 replace PS := keepP PS gg
 rw [← hz]
 clear hz gg hHeld
 generalize y.heap.size = b10 at *
 refine lstH (l' := #[true, true, true, true, true, true, true, true, true, true, true, true, true, true, true, true, true, false, false, false, true, false, false]) (by kernel_rfl) ?_
 have F := And.intro GU (And.intro PS (And.intro B10 L10))
 clear GU PS B10 L10
 revert F
 revert b10
 revert bs
 revert z
 exact t16_20_.out
 )
 )
 focus (
 intro y b9 b10 F
 obtain ⟨GU, B9, L9, B10, L10, NE⟩ := F
 have hHeld := HC.out _ GU
 clear hHeld
 refine wpAnyH_ready (rs := [16]) (by kernel_rfl) (by simp) ?_
 refine AllReadyH.cons rfl (fun K hK => ?_) AllReadyH.nil
 focus (
 go_simp
 refine hK.out _ _ (HC.out _ (GU.alloc _)) (fun hHeld => ?_)
 clear hK K
 try simp only [List.setIfInBounds_toArray, List.set_cons_zero, List.set_cons_succ]
 obtain ⟨z, hz⟩ : ∃ z, z = y.alloc (.cells #[.slice (some ⟨ba, off, none⟩) k c, .slice (some ⟨ba, off + p * 4, none⟩) (n - p) (c - p)] 24) := ⟨_, rfl⟩
 have gg : Below y.heap.size y z := by rw [hz]; exact (Below.refl _ _).alloc (Nat.le_refl _) _
 have PS : (z.cell? ⟨y.heap.size, 0, none⟩ = some (.slice (some ⟨ba, off, none⟩) k c) ∧ z.cell? ⟨y.heap.size, 1, none⟩ = some (.slice (some ⟨ba, off + p * 4, none⟩) (n - p) (c - p))) ∧ y.heap.size < z.heap.size := by rw [hz]; simp [go_sem]
 replace GU := Good.up GU gg
 replace B9 := B9.up gg
 replace B10 := B10.up gg
 rw [← hz]
 clear hz gg hHeld
 generalize y.heap.size = bs at *
 refine lstH (l' := #[true, true, true, true, true, true, true, true, true, true, true, true, true, true, true, true, true, false, false, true, true, false, false]) (by kernel_rfl) ?_
 have F := And.intro GU (And.intro PS (And.intro B9 (And.intro L9 (And.intro B10 (And.intro L10 NE)))))
 clear GU PS B9 L9 B10 L10 NE
 revert F
 revert b10
 revert b9
 revert bs
 revert z
 exact t16_19_20_.out
 )
 )
 focus (
 intro y bs b10 F
 obtain ⟨GU, PS, B10, L10⟩ := F
 have hHeld := HC.out _ GU
 clear hHeld
 refine wpAnyH_ready (rs := [17, 19]) (by kernel_rfl) (by simp) ?_
 refine AllReadyH.cons rfl (fun K hK => ?_) (AllReadyH.cons rfl (fun K hK => ?_) AllReadyH.nil)
 focus (
 rw [if_pos]
 rotate_left
 · kernel_rfl
 have HCall := hideIt (HCc.out _ bs GU PS)
 go_wp2_with (go_at_call 70; refine HCall.out.mono ?_; rintro e z ⟨a', m', c', rfl, RW0, gg⟩; refine Hid.out ?_)
 refine hidp ?_
 refine hK.out _ _ (HC.out _ (Good.up GU gg)) (fun hHeld => ?_)
 clear hK K HCall
 try simp only [List.setIfInBounds_toArray, List.set_cons_zero, List.set_cons_succ]
 have N10 : ∀ g, a' = some ⟨g, 0, none⟩ → g ≠ b10 := fun g hg => by have := own_lo RW0.out hg; have := B10.lt; omega
 have RW := own_mono RW0.out GU.size
 clear RW0
 replace GU := Good.up GU gg
 replace B10 := B10.up gg
 clear gg PS
 replace hHeld := HC.out _ GU
 refine wpAnyH_take (i := 18) (v := ?_) rfl (by kernel_rfl) (by kernel_rfl) (by kernel_rfl) (fun _ _ _ h => h) (Or.inl ⟨by rfl, ?_⟩) (by assumption) ?_
 rotate_left
 · intro w hSw; (try dsimp only at hSw); go_simp; try with_reducible rfl
 try simp only [Act.put, List.getElem_toArray, List.getElem_cons_succ, List.getElem_cons_zero, List.setIfInBounds_toArray, List.set_cons_zero, List.set_cons_succ]
 clear hHeld
 refine lstH (l' := #[true, true, true, true, true, true, true, true, true, true, true, true, true, true, true, true, true, true, true, false, true, false, false]) (by kernel_rfl) ?_
 have F := And.intro GU (And.intro B10 (And.intro L10 (And.intro RW N10)))
 clear GU B10 L10 RW N10
 revert F
 revert b10
 revert c'
 revert m'
 revert a'
 revert bs
 revert z
 exact t16_17_20_.out
 )
 focus (
 go_simp
 refine hK.out _ _ (HC.out _ (GU.alloc _)) (fun hHeld => ?_)
 clear hK K
 try simp only [List.setIfInBounds_toArray, List.set_cons_zero, List.set_cons_succ]
 obtain ⟨z, hz⟩ : ∃ z, z = y.alloc (.cells #[.int .i64 0, .int .i64 0, .int .i64 0, .bool false] 52) := ⟨_, rfl⟩
 have gg : Below y.heap.size y z := by rw [hz]; exact (Below.refl _ _).alloc (Nat.le_refl _) _
 have B9 : Box4 z y.heap.size ⟨0, 0, 0, false⟩ := by rw [hz]; exact Box4.z _ _ rfl
 have L9 : w5.heap.size ≤ y.heap.size := GU.size
 have NE : y.heap.size ≠ b10 := by have := B10.lt; omega
 replace GU := Good.up GU gg
 replace PS := keepP PS gg
 replace B10 := B10.up gg
 rw [← hz]
 clear hz gg hHeld
 generalize y.heap.size = b9 at *
 refine lstH (l' := #[true, true, true, true, true, true, true, true, true, true, true, true, true, true, true, true, true, false, false, true, true, false, false]) (by kernel_rfl) ?_
 have F := And.intro GU (And.intro PS (And.intro B9 (And.intro L9 (And.intro B10 (And.intro L10 NE)))))
 clear GU PS B9 L9 B10 L10 NE
 revert F
 revert b10
 revert b9
 revert bs
 revert z
 exact t16_19_20_.out
 )
 )
 focus (
 intro y bs b9 F
 obtain ⟨GU, PS, B9, L9⟩ := F
 have hHeld := HC.out _ GU
 clear hHeld
 refine wpAnyH_ready (rs := [17, 20]) (by kernel_rfl) (by simp) ?_
 refine AllReadyH.cons rfl (fun K hK => ?_) (AllReadyH.cons rfl (fun K hK => ?_) AllReadyH.nil)
 focus (
 rw [if_pos]
 rotate_left
 · kernel_rfl
 have HCall := hideIt (HCc.out _ bs GU PS)
 go_wp2_with (go_at_call 70; refine HCall.out.mono ?_; rintro e z ⟨a', m', c', rfl, RW0, gg⟩; refine Hid.out ?_)
 refine hidp ?_
 refine hK.out _ _ (HC.out _ (Good.up GU gg)) (fun hHeld => ?_)
 clear hK K HCall
 try simp only [List.setIfInBounds_toArray, List.set_cons_zero, List.set_cons_succ]
 have N9 : ∀ g, a' = some ⟨g, 0, none⟩ → g ≠ b9 := fun g hg => by have := own_lo RW0.out hg; have := B9.lt; omega
 have RW := own_mono RW0.out GU.size
 clear RW0
 replace GU := Good.up GU gg
 replace B9 := B9.up gg
 clear gg PS
 replace hHeld := HC.out _ GU
 refine wpAnyH_take (i := 18) (v := ?_) rfl (by kernel_rfl) (by kernel_rfl) (by kernel_rfl) (fun _ _ _ h => h) (Or.inl ⟨by rfl, ?_⟩) (by assumption) ?_
 rotate_left
 · intro w hSw; (try dsimp only at hSw); go_simp; try with_reducible rfl
 try simp only [Act.put, List.getElem_toArray, List.getElem_cons_succ, List.getElem_cons_zero, List.setIfInBounds_toArray, List.set_cons_zero, List.set_cons_succ]
 clear hHeld
 refine lstH (l' := #[true, true, true, true, true, true, true, true, true, true, true, true, true, true, true, true, true, true, true, true, false, false, false]) (by kernel_rfl) ?_
 have F := And.intro GU (And.intro B9 (And.intro L9 (And.intro RW N9)))
 clear GU B9 L9 RW N9
 revert F
 revert b9
 revert c'
 revert m'
 revert a'
 revert bs
 revert z
 exact t16_17_19_.out
 )
 focus (
 go_simp
 refine hK.out _ _ (HC.out _ (GU.alloc _)) (fun hHeld => ?_)
 clear hK K
 try simp only [List.setIfInBounds_toArray, List.set_cons_zero, List.set_cons_succ]
 obtain ⟨z, hz⟩ : ∃ z, z = y.alloc (.cells #[.int .i64 0, .slice none 0 0] 26) := ⟨_, rfl⟩
 have gg : Below y.heap.size y z := by rw [hz]; exact (Below.refl _ _).alloc (Nat.le_refl _) _
 have B10 : Box7 z y.heap.size 26 (.int .i64 0) (.slice none 0 0) := by rw [hz]; exact Box7.z _ _ rfl
 have L10 : w5.heap.size ≤ y.heap.size := GU.size
 have NE : b9 ≠ y.heap.size := by have := B9.lt; omega
 replace GU := Good.up GU gg
 replace PS := keepP PS gg
 replace B9 := B9.up gg
 rw [← hz]
 clear hz gg hHeld
 generalize y.heap.size = b10 at *
 refine lstH (l' := #[true, true, true, true, true, true, true, true, true, true, true, true, true, true, true, true, true, false, false, true, true, false, false]) (by kernel_rfl) ?_
 have F := And.intro GU (And.intro PS (And.intro B9 (And.intro L9 (And.intro B10 (And.intro L10 NE)))))
 clear GU PS B9 L9 B10 L10 NE
 revert F
 revert b10
 revert b9
 revert bs
 revert z
 exact t16_19_20_.out
 )
 )
 focus (
 intro y bs a' m' c' F
 obtain ⟨GU, RW⟩ := F
 have hHeld := HC.out _ GU
 clear hHeld
 refine wpAnyH_ready (rs := [19, 20]) (by kernel_rfl) (by simp) ?_
 refine AllReadyH.cons rfl (fun K hK => ?_) (AllReadyH.cons rfl (fun K hK => ?_) AllReadyH.nil)
 focus (
 go_simp
 refine hK.out _ _ (HC.out _ (GU.alloc _)) (fun hHeld => ?_)
 clear hK K
 try simp only [List.setIfInBounds_toArray, List.set_cons_zero, List.set_cons_succ]
 obtain ⟨z, hz⟩ : ∃ z, z = y.alloc (.cells #[.int .i64 0, .int .i64 0, .int .i64 0, .bool false] 52) := ⟨_, rfl⟩
 have gg : Below y.heap.size y z := by rw [hz]; exact (Below.refl _ _).alloc (Nat.le_refl _) _
 have B9 : Box4 z y.heap.size ⟨0, 0, 0, false⟩ := by rw [hz]; exact Box4.z _ _ rfl
 have L9 : w5.heap.size ≤ y.heap.size := GU.size
 have N9 : ∀ g, a' = some ⟨g, 0, none⟩ → g ≠ y.heap.size := fun g hg => by have := own_lo RW hg; omega
 replace GU := Good.up GU gg
 replace RW := own_up RW gg
 rw [← hz]
 clear hz gg hHeld
 generalize y.heap.size = b9 at *
 refine lstH (l' := #[true, true, true, true, true, true, true, true, true, true, true, true, true, true, true, true, true, true, true, true, false, false, false]) (by kernel_rfl) ?_
 have F := And.intro GU (And.intro B9 (And.intro L9 (And.intro RW N9)))
 clear GU B9 L9 RW N9
 revert F
 revert b9
 revert c'
 revert m'
 revert a'
 revert bs
 revert z
 exact t16_17_19_.out
 )
 focus (
 go_simp
 refine hK.out _ _ (HC.out _ (GU.alloc _)) (fun hHeld => ?_)
 clear hK K
 try simp only [List.setIfInBounds_toArray, List.set_cons_zero, List.set_cons_succ]
 obtain ⟨z, hz⟩ : ∃ z, z = y.alloc (.cells #[.int .i64 0, .slice none 0 0] 26) := ⟨_, rfl⟩
 have gg : Below y.heap.size y z := by rw [hz]; exact (Below.refl _ _).alloc (Nat.le_refl _) _
 have B10 : Box7 z y.heap.size 26 (.int .i64 0) (.slice none 0 0) := by rw [hz]; exact Box7.z _ _ rfl
 have L10 : w5.heap.size ≤ y.heap.size := GU.size
 have N10 : ∀ g, a' = some ⟨g, 0, none⟩ → g ≠ y.heap.size := fun g hg => by have := own_lo RW hg; omega
 replace GU := Good.up GU gg
 replace RW := own_up RW gg
 rw [← hz]
 clear hz gg hHeld
 generalize y.heap.size = b10 at *
 refine lstH (l' := #[true, true, true, true, true, true, true, true, true, true, true, true, true, true, true, true, true, true, true, false, true, false, false]) (by kernel_rfl) ?_
 have F := And.intro GU (And.intro B10 (And.intro L10 (And.intro RW N10)))
 clear GU B10 L10 RW N10
 revert F
 revert b10
 revert c'
 revert m'
 revert a'
 revert bs
 revert z
 exact t16_17_20_.out
 )
 )
 focus (
 intro y bs b9 b10 F
 obtain ⟨GU, PS, B9, L9, B10, L10, NE⟩ := F
 have hHeld := HC.out _ GU
 clear hHeld
 refine wpAnyH_ready (rs := [17]) (by kernel_rfl) (by simp) ?_
 refine AllReadyH.cons rfl (fun K hK => ?_) AllReadyH.nil
 focus (
 rw [if_pos]
 rotate_left
 · kernel_rfl
 have HCall := hideIt (HCc.out _ bs GU PS)
 go_wp2_with (go_at_call 70; refine HCall.out.mono ?_; rintro e z ⟨a', m', c', rfl, RW0, gg⟩; refine Hid.out ?_)
 refine hidp ?_
 refine hK.out _ _ (HC.out _ (Good.up GU gg)) (fun hHeld => ?_)
 clear hK K HCall
 try simp only [List.setIfInBounds_toArray, List.set_cons_zero, List.set_cons_succ]
 have N9 : ∀ g, a' = some ⟨g, 0, none⟩ → g ≠ b9 := fun g hg => by have := own_lo RW0.out hg; have := B9.lt; omega
 have N10 : ∀ g, a' = some ⟨g, 0, none⟩ → g ≠ b10 := fun g hg => by have := own_lo RW0.out hg; have := B10.lt; omega
 have RW := own_mono RW0.out GU.size
 clear RW0
 replace GU := Good.up GU gg
 replace B9 := B9.up gg
 replace B10 := B10.up gg
 clear gg PS
 replace hHeld := HC.out _ GU
 refine wpAnyH_take (i := 18) (v := ?_) rfl (by kernel_rfl) (by kernel_rfl) (by kernel_rfl) (fun _ _ _ h => h) (Or.inl ⟨by rfl, ?_⟩) (by assumption) ?_
 rotate_left
 · intro w hSw; (try dsimp only at hSw); go_simp; try with_reducible rfl
 try simp only [Act.put, List.getElem_toArray, List.getElem_cons_succ, List.getElem_cons_zero, List.setIfInBounds_toArray, List.set_cons_zero, List.set_cons_succ]
 clear hHeld
 refine lstH (l' := #[true, true, true, true, true, true, true, true, true, true, true, true, true, true, true, true, true, true, true, true, true, false, false]) (by kernel_rfl) ?_
 have F := And.intro GU (And.intro B9 (And.intro L9 (And.intro B10 (And.intro L10 (And.intro NE (And.intro RW (And.intro N9 N10)))))))
 clear GU B9 L9 B10 L10 NE RW N9 N10
 revert F
 revert b10
 revert b9
 revert c'
 revert m'
 revert a'
 revert bs
 revert z
 exact t16_17_19_20_.out
 )
 )
 focus (
 intro y bs a' m' c' b10 F
 obtain ⟨GU, B10, L10, RW, N10⟩ := F
 have hHeld := HC.out _ GU
 clear hHeld
 refine wpAnyH_ready (rs := [19]) (by kernel_rfl) (by simp) ?_
 refine AllReadyH.cons rfl (fun K hK => ?_) AllReadyH.nil
 focus (
 go_simp
 refine hK.out _ _ (HC.out _ (GU.alloc _)) (fun hHeld => ?_)
 clear hK K
 try simp only [List.setIfInBounds_toArray, List.set_cons_zero, List.set_cons_succ]
 obtain ⟨z, hz⟩ : ∃ z, z = y.alloc (.cells #[.int .i64 0, .int .i64 0, .int .i64 0, .bool false] 52) := ⟨_, rfl⟩
 have gg : Below y.heap.size y z := by rw [hz]; exact (Below.refl _ _).alloc (Nat.le_refl _) _
 have B9 : Box4 z y.heap.size ⟨0, 0, 0, false⟩ := by rw [hz]; exact Box4.z _ _ rfl
 have L9 : w5.heap.size ≤ y.heap.size := GU.size
 have N9 : ∀ g, a' = some ⟨g, 0, none⟩ → g ≠ y.heap.size := fun g hg => by have := own_lo RW hg; omega
 have NE : y.heap.size ≠ b10 := by have := B10.lt; omega
 replace GU := Good.up GU gg
 replace B10 := B10.up gg
 replace RW := own_up RW gg
 rw [← hz]
 clear hz gg hHeld
 generalize y.heap.size = b9 at *
 refine lstH (l' := #[true, true, true, true, true, true, true, true, true, true, true, true, true, true, true, true, true, true, true, true, true, false, false]) (by kernel_rfl) ?_
 have F := And.intro GU (And.intro B9 (And.intro L9 (And.intro B10 (And.intro L10 (And.intro NE (And.intro RW (And.intro N9 N10)))))))
 clear GU B9 L9 B10 L10 NE RW N9 N10
 revert F
 revert b10
 revert b9
 revert c'
 revert m'
 revert a'
 revert bs
 revert z
 exact t16_17_19_20_.out
 )
 )
 focus (
 intro y bs a' m' c' b9 F
 obtain ⟨GU, B9, L9, RW, N9⟩ := F
 have hHeld := HC.out _ GU
 clear hHeld
 refine wpAnyH_ready (rs := [20]) (by kernel_rfl) (by simp) ?_
 refine AllReadyH.cons rfl (fun K hK => ?_) AllReadyH.nil
 focus (
 go_simp
 refine hK.out _ _ (HC.out _ (GU.alloc _)) (fun hHeld => ?_)
 clear hK K
 try simp only [List.setIfInBounds_toArray, List.set_cons_zero, List.set_cons_succ]
 obtain ⟨z, hz⟩ : ∃ z, z = y.alloc (.cells #[.int .i64 0, .slice none 0 0] 26) := ⟨_, rfl⟩
 have gg : Below y.heap.size y z := by rw [hz]; exact (Below.refl _ _).alloc (Nat.le_refl _) _
 have B10 : Box7 z y.heap.size 26 (.int .i64 0) (.slice none 0 0) := by rw [hz]; exact Box7.z _ _ rfl
 have L10 : w5.heap.size ≤ y.heap.size := GU.size
 have N10 : ∀ g, a' = some ⟨g, 0, none⟩ → g ≠ y.heap.size := fun g hg => by have := own_lo RW hg; omega
 have NE : b9 ≠ y.heap.size := by have := B9.lt; omega
 replace GU := Good.up GU gg
 replace B9 := B9.up gg
 replace RW := own_up RW gg
 rw [← hz]
 clear hz gg hHeld
 generalize y.heap.size = b10 at *
 refine lstH (l' := #[true, true, true, true, true, true, true, true, true, true, true, true, true, true, true, true, true, true, true, true, true, false, false]) (by kernel_rfl) ?_
 have F := And.intro GU (And.intro B9 (And.intro L9 (And.intro B10 (And.intro L10 (And.intro NE (And.intro RW (And.intro N9 N10)))))))
 clear GU B9 L9 B10 L10 NE RW N9 N10
 revert F
 revert b10
 revert b9
 revert c'
 revert m'
 revert a'
 revert bs
 revert z
 exact t16_17_19_20_.out
 )
 )
 focus (
 intro y bs a' m' c' b9 b10 F
 obtain ⟨GU, B9, L9, B10, L10, NE, RW, N9, N10⟩ := F
 have hHeld := HC.out _ GU
 obtain ⟨bc0, bc1, bc2, bc3⟩ := B9.cells
 have bz0 := B9.frozen 0
 have bz1 := B9.frozen 1
 have bz2 := B9.frozen 2
 have bz3 := B9.frozen 3
 refine wpAnyH_ready (rs := [21]) (by kernel_rfl) (by simp) ?_
 refine AllReadyH.cons rfl (fun K hK => ?_) AllReadyH.nil
 go_simp
 refine hK.out _ _ (HC.out _ (Good.set4 GU _ _ _ _ _ L9)) (fun hHeld => ?_)
 clear hK K
 try simp only [List.setIfInBounds_toArray, List.set_cons_zero, List.set_cons_succ]
 obtain ⟨uf, huf⟩ : ∃ uf, uf = (((y.setCell ⟨b9, 0, none⟩ (.int .i64 x.a)).setCell ⟨b9, 1, none⟩ (.int .i64 x.b)).setCell ⟨b9, 2, none⟩ (.int .i64 x.l)).setCell ⟨b9, 3, none⟩ (.bool x.t) := ⟨_, rfl⟩
 have TF := tk_one GU B9 B10 RW L9 NE N9 x
 rw [← huf] at TF hHeld ⊢
 clear huf bc0 bc1 bc2 bc3 bz0 bz1 bz2 bz3
 have bd0 := TF.2.2.1.cell0
 have bd1 := TF.2.2.1.cell1
 have be0 := TF.2.2.1.frozen 0
 have be1 := TF.2.2.1.frozen 1
 have HTF := hideIt TF
 have GF := TF.1
 clear TF
 refine wpAnyH_ready (rs := [22]) (by kernel_rfl) (by simp) ?_
 refine AllReadyH.cons rfl (fun K hK => ?_) AllReadyH.nil
 go_simp
 refine hK.out _ _ (HC.out _ (Good.set2 GF _ _ _ L10)) (fun hHeld => ?_)
 clear hK K
 try simp only [List.setIfInBounds_toArray, List.set_cons_zero, List.set_cons_succ]
 refine wpAnyH_done (by kernel_rfl) ?_ _
 have HZ := hideIt (tk_two HTF.out L9 L10 NE N9 N10 (nn : Int))
 clear HTF GF bd0 bd1 be0 be1 hHeld
 go_wp2_with fail
 go_meet
 exact ⟨b9, b10, a', m', c', rfl, rfl, HZ⟩
 )
          )
      case rest =>
        obtain ⟨b9, b10, a', m', c', rfl, rfl, HT⟩ := hcut
        obtain ⟨_, _, _, q3⟩ := HT.out.bx.cells
        have d0 := HT.out.bw.cell0
        have d1 := HT.out.bw.cell1
        have S6 := S5.up HT.out.good
        by_cases hxt : x.t = true
        · rw [hxt] at q3 HW
          obtain ⟨q0, q1, q2, _⟩ := HT.out.bx.cells
          have hm : m' ≤ 1048576 := by
            have h1 := HT.out.own.1
            rw [lcells_length] at h1
            have h2 : (ouL ls f).length ≤ ls.length := List.length_filter_le _ _
            omega
          have hTp := takePlace_opt nn (ouL ls f) x w5.heap.size a' m' c' (HS.out.out f) Hxl.out Hxe.out.1 Hxe.out.2 hm wc HT.out.own
          rw [hxt] at hTp
          have hl10 := HT.out.l10
          obtain ⟨r, hr⟩ : ∃ r, r = tkO nn x.e (x.l.toNat + 1) (ouL ls f) := ⟨_, rfl⟩
          rw [← hr] at hTp
          have HW2 : Hid (wtO (nn : Int) ls f = some r) := by
            show _ = _
            rw [HW.out, hr, HXe.out]
            rfl
          obtain ⟨d, hd⟩ : ∃ d, d = r.2.getD (0, 0) := ⟨_, rfl⟩
          obtain ⟨fd, hfd2⟩ : ∃ fd, fd = r.2.isSome := ⟨_, rfl⟩
          have HTp : Hid (Calls Tryz.prog 71 #[.agg #[.int .i64 (nn : Int), .slice a' m' c'], .agg #[.int .i64 x.a, .int .i64 x.b, .int .i64 x.l, .bool true]] wc fun e w' => e = .returned (.tuple #[.agg #[.int .i64 d.1, .int .i64 d.2], .bool fd]) ∧ Hid (w'.ownsRow w5.heap.size 52 4 (.slice a' m' c') m' (lcells r.1)) ∧ Box7 w' b10 26 (.int .i64 (nn : Int)) (.slice a' m' c') ∧ In4 w (nn : Int) (some ⟨ba, off, none⟩) n c f w') := hTp.mono fun e w' ⟨h1, h2, h3⟩ => by
            have hz : ∀ g, (Value.slice a' m' c').ownBlock = some g → w5.heap.size ≤ g ∧ g ≠ b10 := fun g hg => by
              rcases HT.out.own.2 with ⟨hv, _⟩ | ⟨g', cap, cur, hv, hl, _⟩
              · simp at hv
                rw [hv.1] at hg
                simp [Value.ownBlock] at hg
              · simp at hv
                rw [hv.1] at hg
                simp [Value.ownBlock] at hg
                subst hg
                exact ⟨hl, (HT.out.ne g' hv.1).2⟩
            exact ⟨by rw [h1, hd, hfd2], h2, HT.out.bw.grown h3 (fun e => (hz b10 e.symm).2 rfl), ⟨good_grown S6.good h3 fun g hg => by have := (hz g hg).1; rw [w4w_size]; omega⟩⟩
          have Hd := hideIt hd
          have Hf := hideIt hfd2
          clear hTp hr hd hfd2 HT hm HC hS5
          go_wp2_with (go_at_call 71; refine HTp.out.mono ?_; rintro e w9 ⟨rfl, ho9, bw9, S9⟩; refine Hid.out ?_)
          refine (show ∀ {p : Prop}, p → Hid p from fun h => h) ?_
          obtain ⟨W10, hW10⟩ : ∃ W10, W10 = w9.alloc (.cells #[.int .i64 d.1, .int .i64 d.2] 28) := ⟨_, rfl⟩
          have g10 : Good w9 W10 := by rw [hW10]; exact (Good.refl w9).alloc _
          have S10 := S9.up g10
          have z9 := S9.size
          have bw10 := bw9.up g10
          have be10 : Box7 W10 w9.heap.size 28 (.int .i64 d.1) (.int .i64 d.2) := by rw [hW10]; exact Box7.new _ _ _ _ _ rfl
          have ho10 := hideIt (own_up ho9.out g10)
          have v0 := bw10.cell0
          have v1 := bw10.cell1
          have v2 := be10.cell0
          have v3 := be10.cell1
          have r0 := S10.rw.cell0
          have r1 := S10.rw.cell1
          have r2 := S10.rw.frozen 0
          have r3 := S10.rw.frozen 1
          have r4 := S10.re.cell0
          have r5 := S10.re.cell1
          have r6 := S10.re.frozen 0
          have r7 := S10.re.frozen 1
          obtain ⟨⟨t0, t1⟩, t2, t3⟩ := putR_cells (M := (nn : Int)) (a' := a') (m' := m') (c' := c') (d := d) S10.rw S10.re
          have HA := hideIt (wta_yes (N := (nn : Int)) HW2.out z5 S10.below ho10.out Hd.out Hf.out)
          unfold putR at t0 t1 t2 t3 HA
          clear q0 q1 q2 q3 d0 d1 S6 S9 bw9 g10 HTp ho9 ho10 S10 bw10 be10 S5
          have HSet : Hid (∀ (u : World) (b j : Nat) (v : Value), b < w.heap.size + 4 → ((u.cell? ⟨b10, 0, none⟩ = some (.int .i64 (nn : Int)) ∧ u.cell? ⟨b10, 1, none⟩ = some (.slice a' m' c')) ∧ (u.cell? ⟨w9.heap.size, 0, none⟩ = some (.int .i64 d.1) ∧ u.cell? ⟨w9.heap.size, 1, none⟩ = some (.int .i64 d.2))) → (((u.setCell ⟨b, j, none⟩ v).cell? ⟨b10, 0, none⟩ = some (.int .i64 (nn : Int)) ∧ (u.setCell ⟨b, j, none⟩ v).cell? ⟨b10, 1, none⟩ = some (.slice a' m' c')) ∧ ((u.setCell ⟨b, j, none⟩ v).cell? ⟨w9.heap.size, 0, none⟩ = some (.int .i64 d.1) ∧ (u.setCell ⟨b, j, none⟩ v).cell? ⟨w9.heap.size, 1, none⟩ = some (.int .i64 d.2)))) := fun u b j v hb h => by
            rw [set_other (by omega), set_other (by omega), set_other (by omega), set_other (by omega)]
            exact h
          have hS0 : (W10.drew.cell? ⟨b10, 0, none⟩ = some (.int .i64 (nn : Int)) ∧ W10.drew.cell? ⟨b10, 1, none⟩ = some (.slice a' m' c')) ∧ (W10.drew.cell? ⟨w9.heap.size, 0, none⟩ = some (.int .i64 d.1) ∧ W10.drew.cell? ⟨w9.heap.size, 1, none⟩ = some (.int .i64 d.2)) := ⟨⟨v0, v1⟩, v2, v3⟩
          have hS1 : (((W10.setCell ⟨w.heap.size + 1 + 1, 0, none⟩ (.int .i64 (nn : Int))).setCell ⟨w.heap.size + 1 + 1, 1, none⟩ (.slice a' m' c')).drew.cell? ⟨b10, 0, none⟩ = some (.int .i64 (nn : Int)) ∧ ((W10.setCell ⟨w.heap.size + 1 + 1, 0, none⟩ (.int .i64 (nn : Int))).setCell ⟨w.heap.size + 1 + 1, 1, none⟩ (.slice a' m' c')).drew.cell? ⟨b10, 1, none⟩ = some (.slice a' m' c')) ∧ (((W10.setCell ⟨w.heap.size + 1 + 1, 0, none⟩ (.int .i64 (nn : Int))).setCell ⟨w.heap.size + 1 + 1, 1, none⟩ (.slice a' m' c')).drew.cell? ⟨w9.heap.size, 0, none⟩ = some (.int .i64 d.1) ∧ ((W10.setCell ⟨w.heap.size + 1 + 1, 0, none⟩ (.int .i64 (nn : Int))).setCell ⟨w.heap.size + 1 + 1, 1, none⟩ (.slice a' m' c')).drew.cell? ⟨w9.heap.size, 1, none⟩ = some (.int .i64 d.2)) := HSet.out _ _ _ _ (by omega) (HSet.out W10 _ _ _ (by omega) ⟨⟨v0, v1⟩, v2, v3⟩)
          have hS2 : (((((W10.setCell ⟨w.heap.size + 1 + 1, 0, none⟩ (.int .i64 (nn : Int))).setCell ⟨w.heap.size + 1 + 1, 1, none⟩ (.slice a' m' c')).setCell ⟨w.heap.size + 1 + 1 + 1, 0, none⟩ (.int .i64 d.1)).setCell ⟨w.heap.size + 1 + 1 + 1, 1, none⟩ (.int .i64 d.2)).drew.cell? ⟨b10, 0, none⟩ = some (.int .i64 (nn : Int)) ∧ ((((W10.setCell ⟨w.heap.size + 1 + 1, 0, none⟩ (.int .i64 (nn : Int))).setCell ⟨w.heap.size + 1 + 1, 1, none⟩ (.slice a' m' c')).setCell ⟨w.heap.size + 1 + 1 + 1, 0, none⟩ (.int .i64 d.1)).setCell ⟨w.heap.size + 1 + 1 + 1, 1, none⟩ (.int .i64 d.2)).drew.cell? ⟨b10, 1, none⟩ = some (.slice a' m' c')) ∧ (((((W10.setCell ⟨w.heap.size + 1 + 1, 0, none⟩ (.int .i64 (nn : Int))).setCell ⟨w.heap.size + 1 + 1, 1, none⟩ (.slice a' m' c')).setCell ⟨w.heap.size + 1 + 1 + 1, 0, none⟩ (.int .i64 d.1)).setCell ⟨w.heap.size + 1 + 1 + 1, 1, none⟩ (.int .i64 d.2)).drew.cell? ⟨w9.heap.size, 0, none⟩ = some (.int .i64 d.1) ∧ ((((W10.setCell ⟨w.heap.size + 1 + 1, 0, none⟩ (.int .i64 (nn : Int))).setCell ⟨w.heap.size + 1 + 1, 1, none⟩ (.slice a' m' c')).setCell ⟨w.heap.size + 1 + 1 + 1, 0, none⟩ (.int .i64 d.1)).setCell ⟨w.heap.size + 1 + 1 + 1, 1, none⟩ (.int .i64 d.2)).drew.cell? ⟨w9.heap.size, 1, none⟩ = some (.int .i64 d.2)) := HSet.out _ _ _ _ (by omega) (HSet.out _ _ _ _ (by omega) (HSet.out _ _ _ _ (by omega) (HSet.out W10 _ _ _ (by omega) ⟨⟨v0, v1⟩, v2, v3⟩)))
          go_upto_region 8 with fail
          rw [← hW10]
          clear hW10 v0 v1 v2 v3
          go_region_held3 (fun u => (u.cell? ⟨b10, 0, none⟩ = some (.int .i64 (nn : Int)) ∧ u.cell? ⟨b10, 1, none⟩ = some (.slice a' m' c')) ∧ (u.cell? ⟨w9.heap.size, 0, none⟩ = some (.int .i64 d.1) ∧ u.cell? ⟨w9.heap.size, 1, none⟩ = some (.int .i64 d.2)))
            (first | with_reducible assumption | with_reducible exact HSet.out _ _ _ _ (by omega) (HSet.out _ _ _ _ (by omega) (by assumption)) | with_reducible exact HSet.out _ _ _ _ (by omega) (HSet.out _ _ _ _ (by omega) (HSet.out _ _ _ _ (by omega) (HSet.out _ _ _ _ (by omega) (by assumption)))))
            (fail)
          all_goals
            go_wp2
            exact bodyPost_ret (v := .tuple #[.agg #[.int .i64 (nn : Int), .slice a' m' c'], .agg #[.int .i64 d.1, .int .i64 d.2], .bool fd, .bool true]) (by simp [results, Tryz.results14, go_sem, t0, t1, t2, t3]) rfl (wta_drew HA.out)
        · rw [show x.t = false by simpa using hxt] at q3 HW
          have r0 := S6.rw.cell0
          have r1 := S6.rw.cell1
          have r2 := S6.rw.frozen 0
          have r3 := S6.rw.frozen 1
          have r4 := S6.re.cell0
          have r5 := S6.re.cell1
          have r6 := S6.re.frozen 0
          have r7 := S6.re.frozen 1
          obtain ⟨⟨t0, t1⟩, t2, t3⟩ := putR_cells (M := (nn : Int)) (a' := a') (m' := m') (c' := c') (d := (0, 0)) S6.rw S6.re
          have HA := hideIt (wta_yes (N := (nn : Int)) (r := (ouL ls f, none)) HW.out z5 S6.below HT.out.own (d := (0, 0)) rfl (t := false) rfl)
          unfold putR at t0 t1 t2 t3 HA
          clear HT S5 S6 hS5 HC
          go_wp2
          exact bodyPost_ret (v := .tuple #[.agg #[.int .i64 (nn : Int), .slice a' m' c'], .agg #[.int .i64 0, .int .i64 0], .bool false, .bool true]) (by simp [results, Tryz.results14, go_sem, t0, t1, t2, t3]) rfl HA.out
    · have HW := hideIt (wtO_no (N := N) (ls := ls) (f := f) (fun h => hh h.2))
      have hI1 : I = -1 := by
        rw [HI.out]
        unfold idxE
        rw [if_neg]
        intro hm
        apply hh
        unfold hasB
        simpa using hm
      subst hI1
      clear hW hh
      go_wp2_with (go_at_call 18; refine HO4.out.mono ?_; rintro e w5 ⟨rfl, S5⟩; refine Hid.out ?_)
      refine (show ∀ {p : Prop}, p → Hid p from fun h => h) ?_
      have r0 := S5.rw.cell0
      have r1 := S5.rw.cell1
      have r2 := S5.rw.frozen 0
      have r3 := S5.rw.frozen 1
      have r4 := S5.re.cell0
      have r5 := S5.re.cell1
      have r6 := S5.re.frozen 0
      have r7 := S5.re.frozen 1
      obtain ⟨⟨t0, t1⟩, t2, t3⟩ := putR_cells (M := 0) (a' := none) (m' := 0) (c' := 0) (d := (0, 0)) S5.rw S5.re
      have HA := hideIt (wta_no (N := N) HW.out S5.below)
      unfold putR at t0 t1 t2 t3 HA
      clear k0 k1 S4 S5
      go_wp2
      exact bodyPost_ret (v := .tuple #[.agg #[.int .i64 0, .slice none 0 0], .agg #[.int .i64 0, .int .i64 0], .bool false, .bool false]) (by simp [results, Tryz.results14, go_sem, t0, t1, t2, t3]) rfl HA.out
  · rw [wB_no hW] at HO4
    have HW := hideIt (wtO_no (N := N) (ls := ls) (f := f) (fun h => hW h.1))
    clear hW
    go_wp2_with (go_at_call 18; refine HO4.out.mono ?_; rintro e w5 ⟨rfl, S5⟩; refine Hid.out ?_)
    refine (show ∀ {p : Prop}, p → Hid p from fun h => h) ?_
    have r0 := S5.rw.cell0
    have r1 := S5.rw.cell1
    have r2 := S5.rw.frozen 0
    have r3 := S5.rw.frozen 1
    have r4 := S5.re.cell0
    have r5 := S5.re.cell1
    have r6 := S5.re.frozen 0
    have r7 := S5.re.frozen 1
    obtain ⟨⟨t0, t1⟩, t2, t3⟩ := putR_cells (M := 0) (a' := none) (m' := 0) (c' := 0) (d := (0, 0)) S5.rw S5.re
    have HA := hideIt (wta_no (N := N) HW.out S5.below)
    unfold putR at t0 t1 t2 t3 HA
    clear k0 k1 S4 S5
    go_wp2
    exact bodyPost_ret (v := .tuple #[.agg #[.int .i64 0, .slice none 0 0], .agg #[.int .i64 0, .int .i64 0], .bool false, .bool false]) (by simp [results, Tryz.results14, go_sem, t0, t1, t2, t3]) rfl HA.out
end Go.Proofs.YtkkplppcgnikoaaGreat
namespace Go.Proofs.YtkkplppcgnikoaaGreat
open Go.RowKit

theorem conn_gE {n : Nat} {ls : List Ld} (h : WOk (n : Int) ls) {u v : Int} : Conn (gE ls) u v ↔ Conn (fE ls 0) u v := by
  have hc := WC.of h
  constructor
  · refine fun hcn => conn_sub hcn fun d hd => ?_
    unfold gE at hd
    obtain ⟨x, hx, rfl⟩ := List.mem_map.1 hd
    have hl := (h.2.1 x hx).1
    cases ht : x.t with
    | true =>
      refine Conn.edge (e := x.e) ?_
      unfold fE
      refine List.mem_map.2 ⟨x, List.mem_filter.2 ⟨hx, ?_⟩, rfl⟩
      unfold fP
      rw [ht, decide_eq_true hl]
      rfl
    | false =>
      refine (hc.nt x hx ht).more fun e he => ?_
      unfold fE at he ⊢
      obtain ⟨y, hy, rfl⟩ := List.mem_map.1 he
      obtain ⟨y1, y2⟩ := List.mem_filter.1 hy
      refine List.mem_map.2 ⟨y, List.mem_filter.2 ⟨y1, ?_⟩, rfl⟩
      unfold fP at y2 ⊢
      simp only [Bool.and_eq_true, decide_eq_true_eq] at y2 ⊢
      exact ⟨y2.1, by omega⟩
  · exact fun hcn => hcn.more fun e he => fE_g he
/-- twelve vertices have levels of at most 2 -/
theorem lev_two {n : Nat} {ls : List Ld} (h : WOk (n : Int) ls) {x : Ld} (hx : x ∈ ls) : x.l ≤ 2 := by
  have hc := WC.of h
  have hn := hc.st.n12
  have hl := h.2.1 x hx
  have he := hc.st.ends hx
  have hcn : Conn (fE ls x.l) x.a x.b := by
    cases ht : x.t with
    | true =>
      refine Conn.edge (e := x.e) ?_
      unfold fE
      refine List.mem_map.2 ⟨x, List.mem_filter.2 ⟨hx, ?_⟩, rfl⟩
      unfold fP
      rw [ht, decide_eq_true (Int.le_refl _)]
      rfl
    | false => exact hc.nt x hx ht
  have ej : ((x.l.toNat : Nat) : Int) = x.l := by omega
  have hs := hc.sz x.l.toNat (by omega) [x.a, x.b] (by simp; omega) (fun y hy => by simp at hy; rcases hy with rfl | rfl <;> omega) (fun y hy z hz => by
    rw [ej]
    simp at hy hz
    rcases hy with rfl | rfl <;> rcases hz with rfl | rfl
    · exact Conn.refl _ _
    · exact hcn
    · exact hcn.symm
    · exact Conn.refl _ _) (by simp)
  have h3 : x.l.toNat < 3 := by
    refine Nat.lt_of_not_le fun h3 => ?_
    have h8 : 8 ≤ 2 ^ x.l.toNat := Nat.pow_le_pow_right (n := 2) (by omega) h3
    have : n / 2 ^ x.l.toNat ≤ n / 8 := Nat.div_le_div_left h8 (by omega)
    simp at hs
    omega
  omega
theorem htK_le {m : Int} : ∀ (ls : List Ld) (k : Int), k ≤ m → (∀ x ∈ ls, x.l ≤ m) → htK ls k ≤ m
  | [], _, hk, _ => hk
  | x :: r, k, hk, h => by
    rw [htK]
    exact htK_le r _ (by split; exact h x (by simp); exact hk) fun y hy => h y (by simp [hy])
theorem ht_two {n : Nat} {ls : List Ld} (h : WOk (n : Int) ls) : htO (n : Int) ls ≤ 2 := by
  rw [htO_yes h]
  exact htK_le ls (-1) (by omega) fun x hx => lev_two h hx
/-- two vertices are told together where they hang together -/
theorem tg_conn {n : Nat} {ls : List Ld} (h : WOk (n : Int) ls) {x y : Int} (hx : 0 ≤ x ∧ x < (n : Int)) (hy : 0 ≤ y ∧ y < (n : Int)) : tgB (n : Int) ls x y = true ↔ Conn (gE ls) x y := by
  obtain ⟨ts, hts, hall⟩ := h.trees 0 (by omega)
  have e0 : ((0 : Nat) : Int) = 0 := rfl
  rw [e0] at hts hall
  rw [tgB_iff, gndT_is hts, conn_gE h]
  obtain ⟨t, ht, hxt⟩ := hall.cov x hx.1 hx.2
  obtain ⟨s, hs, hys⟩ := hall.cov y hy.1 hy.2
  obtain ⟨k, hk⟩ := List.mem_iff_getElem?.1 ht
  obtain ⟨j, hj⟩ := List.mem_iff_getElem?.1 hs
  rw [trI_of hall.fp.q hk hxt, trI_of hall.fp.q hj hys]
  constructor
  · rintro ⟨_, _, _, e⟩
    have : k = j := by omega
    subst this
    rw [hk] at hj
    cases hj
    exact (hall.conn t ht x hxt y).1 hys
  · intro hc
    have hyt := (hall.conn t ht x hxt y).2 hc
    exact ⟨h, hx, hy, by rw [hall.fp.q.place hk hj hyt hys]⟩
end Go.Proofs.YtkkplppcgnikoaaGreat
namespace Go.Proofs.YtkkplppcgnikoaaGreat
open Go.RowKit

/-- what a search leaves of a list -/
structure TkR (M : List Ld) (p : List Ld × Option EdgeV) : Prop where
  keep : ∀ x ∈ M, x.t = true → ∃ y ∈ p.1, y.t = true ∧ y.e = x.e
  lev : (∀ x ∈ M, x.l ≤ 4) → ∀ y ∈ p.1, y.l ≤ 4 ∧ ∃ x ∈ M, x.e = y.e ∧ x.l ≤ y.l
  hit : ∀ d, p.2 = some d → (∃ x ∈ M, x.t = false ∧ x.e = d) ∧ ∃ y ∈ p.1, y.t = true ∧ y.e = d
  same : p.2 = none → ∀ y ∈ p.1, ∃ x ∈ M, x.t = y.t ∧ x.e = y.e
theorem TkR.trans {M M' : List Ld} {p : List Ld × Option EdgeV} (h : TkR M (M', none)) (k : TkR M' p) : TkR M p := by
  refine ⟨fun x hx ht => ?_, fun h4 y hy => ?_, fun d hd => ?_, fun hn y hy => ?_⟩
  · obtain ⟨y, hy, h1, h2⟩ := h.keep x hx ht
    obtain ⟨z, hz, h3, h4⟩ := k.keep y hy h1
    exact ⟨z, hz, h3, h4.trans h2⟩
  · obtain ⟨h1, x, hx, h2, h3⟩ := k.lev (fun z hz => (h.lev h4 z hz).1) y hy
    obtain ⟨_, z, hz, h5, h6⟩ := h.lev h4 x hx
    exact ⟨h1, z, hz, h5.trans h2, by omega⟩
  · obtain ⟨⟨x, hx, h1, h2⟩, h3⟩ := k.hit d hd
    obtain ⟨z, hz, h4, h5⟩ := h.same rfl x hx
    exact ⟨⟨z, hz, h4.trans h1, h5.trans h2⟩, h3⟩
  · obtain ⟨x, hx, h1, h2⟩ := k.same hn y hy
    obtain ⟨z, hz, h4, h5⟩ := h.same rfl x hx
    exact ⟨z, hz, h4.trans h1, h5.trans h2⟩
theorem upL_ge {i : Int} (h : i ≤ 4) : i ≤ upL i ∧ upL i ≤ 4 := by unfold upL; split <;> omega
theorem rsL_is (i : Int) (t : List Int) (x : Ld) : (rsL i t x).t = x.t ∧ (rsL i t x).e = x.e ∧ (x.l ≤ 4 → x.l ≤ (rsL i t x).l ∧ (rsL i t x).l ≤ 4) := by
  unfold rsL
  split
  · rename_i h
    exact ⟨rfl, rfl, fun h4 => by have := upL_ge (i := i) (by omega); show x.l ≤ upL i ∧ upL i ≤ 4; omega⟩
  · exact ⟨rfl, rfl, fun h4 => ⟨Int.le_refl _, h4⟩⟩
theorem srL_is (i : Int) (t : List Int) (x : Ld) : (srL i t x).t = x.t ∧ (srL i t x).e = x.e ∧ (x.l ≤ 4 → x.l ≤ (srL i t x).l ∧ (srL i t x).l ≤ 4) := by
  unfold srL
  split
  · rename_i h
    exact ⟨rfl, rfl, fun h4 => by have := upL_ge (i := i) (by omega); show x.l ≤ upL i ∧ upL i ≤ 4; omega⟩
  · exact ⟨rfl, rfl, fun h4 => ⟨Int.le_refl _, h4⟩⟩
theorem TkR.rs (i : Int) (t : List Int) (M : List Ld) : TkR M (M.map (rsL i t), none) := by
  refine ⟨fun x hx ht => ⟨rsL i t x, List.mem_map_of_mem hx, (rsL_is i t x).1.trans ht, (rsL_is i t x).2.1⟩, fun h4 y hy => ?_, fun d hd => (by cases hd), fun _ y hy => ?_⟩
  · obtain ⟨x, hx, rfl⟩ := List.mem_map.1 hy
    have := (rsL_is i t x).2.2 (h4 x hx)
    exact ⟨this.2, x, hx, (rsL_is i t x).2.1.symm, this.1⟩
  · obtain ⟨x, hx, rfl⟩ := List.mem_map.1 hy
    exact ⟨x, hx, (rsL_is i t x).1.symm, (rsL_is i t x).2.1.symm⟩
theorem TkR.cons {x y : Ld} {M : List Ld} {p : List Ld × Option EdgeV} (h : TkR M p) (h1 : y.t = x.t) (h2 : y.e = x.e) (h3 : x.l ≤ 4 → x.l ≤ y.l ∧ y.l ≤ 4) : TkR (x :: M) (y :: p.1, p.2) := by
  refine ⟨fun z hz ht => ?_, fun h4 z hz => ?_, fun d hd => ?_, fun hn z hz => ?_⟩
  · rcases List.mem_cons.1 hz with rfl | hz
    · exact ⟨y, by simp, h1.trans ht, h2⟩
    · obtain ⟨u, hu, h5⟩ := h.keep z hz ht
      exact ⟨u, by simp [hu], h5⟩
  · rcases List.mem_cons.1 hz with rfl | hz
    · have := h3 (h4 x (by simp))
      exact ⟨this.2, x, by simp, h2.symm, this.1⟩
    · obtain ⟨h5, u, hu, h6⟩ := h.lev (fun q hq => h4 q (by simp [hq])) z hz
      exact ⟨h5, u, by simp [hu], h6⟩
  · obtain ⟨⟨u, hu, h5⟩, v, hv, h6⟩ := h.hit d hd
    exact ⟨⟨u, by simp [hu], h5⟩, v, by simp [hv], h6⟩
  · rcases List.mem_cons.1 hz with rfl | hz
    · exact ⟨x, by simp, h1.symm, h2.symm⟩
    · obtain ⟨u, hu, h5⟩ := h.same hn z hz
      exact ⟨u, by simp [hu], h5⟩
theorem TkR.sr (i : Int) (t : List Int) : ∀ M : List Ld, TkR M (srO i t M)
  | [] => ⟨fun x hx => (by cases hx), fun _ y hy => (by cases hy), fun d hd => (by cases hd), fun _ y hy => by cases hy⟩
  | x :: xs => by
    rw [srO]
    split
    · rename_i hh
      refine ⟨fun z hz ht => ?_, fun h4 z hz => ?_, fun d hd => ?_, fun hn => by cases hn⟩
      · rcases List.mem_cons.1 hz with rfl | hz
        · rw [hh.1] at ht
          cases ht
        · exact ⟨z, by simp [hz], ht, rfl⟩
      · rcases List.mem_cons.1 hz with rfl | hz
        · exact ⟨h4 x (by simp), x, by simp, rfl, Int.le_refl _⟩
        · exact ⟨h4 z (by simp [hz]), z, by simp [hz], rfl, Int.le_refl _⟩
      · cases hd
        exact ⟨⟨x, by simp, hh.1, rfl⟩, ⟨x.a, x.b, x.l, true⟩, by simp, rfl, rfl⟩
    · exact (TkR.sr i t xs).cons (srL_is i t x).1 (srL_is i t x).2.1 (srL_is i t x).2.2
theorem TkR.lv (n : Nat) (e : EdgeV) (i : Int) (M : List Ld) : TkR M (lvO n e i M) := (TkR.rs i _ M).trans (TkR.sr i _ _)
theorem TkR.tk (n : Nat) (e : EdgeV) : ∀ (k : Nat) (M : List Ld), TkR M (tkO n e k M)
  | 0, M => ⟨fun x hx ht => ⟨x, hx, ht, rfl⟩, fun h4 y hy => ⟨h4 y hy, y, hy, rfl, Int.le_refl _⟩, fun d hd => (by cases hd), fun _ y hy => ⟨y, hy, rfl, rfl⟩⟩
  | k + 1, M => by
    have h1 := TkR.lv n e (k : Int) M
    cases hr : (lvO n e (k : Int) M).2 with
    | some f => rw [tkO_found hr]; exact h1
    | none =>
      rw [tkO_down hr]
      refine TkR.trans ?_ (TkR.tk n e k _)
      have : lvO n e (k : Int) M = ((lvO n e (k : Int) M).1, none) := by rw [← hr]
      rw [this] at h1
      exact h1
theorem ld_uniq {n : Nat} {ls : List Ld} (h : gB (n : Int) (gE ls) = true) {x y : Ld} (hx : x ∈ ls) (hy : y ∈ ls) (he : y.e = x.e) : y = x := by
  have hnd := gB_nodup h
  unfold gE at hnd
  have h1 : ls.Pairwise fun a b => a.e ≠ b.e := List.pairwise_map.1 hnd
  obtain ⟨i, hi⟩ := List.mem_iff_getElem?.1 hy
  obtain ⟨j, hj⟩ := List.mem_iff_getElem?.1 hx
  obtain ⟨q0, q1⟩ := List.getElem?_eq_some_iff.1 hi
  obtain ⟨q2, q3⟩ := List.getElem?_eq_some_iff.1 hj
  rcases Nat.lt_trichotomy i j with h4 | h4 | h4
  · have := List.pairwise_iff_getElem.1 h1 i j q0 q2 h4
    rw [q1, q3] at this
    exact absurd he this
  · subst h4
    rw [← q1, q3]
  · have := List.pairwise_iff_getElem.1 h1 j i q2 q0 h4
    rw [q1, q3] at this
    exact absurd he.symm this
theorem fE0_mem {n : Nat} {ls : List Ld} (h : WOk (n : Int) ls) {d : EdgeV} : d ∈ fE ls 0 ↔ ∃ x ∈ ls, x.t = true ∧ x.e = d := by
  rw [fE_mem]
  exact ⟨fun ⟨x, hx, h1, _, h2⟩ => ⟨x, hx, h1, h2⟩, fun ⟨x, hx, h1, h2⟩ => ⟨x, hx, h1, (h.2.1 x hx).1, h2⟩⟩
/-- what WebTake's answer is made of -/
theorem wtO_is {n : Nat} {ls L : List Ld} {e : EdgeV} {r : Option EdgeV} (h : wtO (n : Int) ls e = some (L, r)) : WOk (n : Int) ls ∧ ∃ x ∈ ls, x.e = e ∧ ((x.t = true ∧ TkR (ouL ls e) (L, r)) ∨ (x.t = false ∧ L = ouL ls e ∧ r = none)) := by
  unfold wtO at h
  split at h
  · rename_i hc
    refine ⟨hc.1, ?_⟩
    simp only [Option.some.injEq] at h
    cases hf : ls.find? (fun x => decide (x.e = e)) with
    | none =>
      rw [List.find?_eq_none] at hf
      have hm : e ∈ gE ls := by have := hc.2; unfold hasB at this; exact of_decide_eq_true this
      obtain ⟨y, hy, hye⟩ := List.mem_map.1 hm
      exact absurd (decide_eq_true hye) (hf y hy)
    | some x =>
      rw [hf] at h
      have hx := List.mem_of_find?_eq_some hf
      have hxe : x.e = e := by have := List.find?_some hf; exact of_decide_eq_true this
      refine ⟨x, hx, hxe, ?_⟩
      dsimp only at h
      cases ht : x.t with
      | true =>
        rw [ht, if_pos rfl] at h
        exact .inl ⟨rfl, by rw [← h]; exact TkR.tk _ _ _ _⟩
      | false =>
        rw [ht, if_neg (by simp)] at h
        cases h
        exact .inr ⟨rfl, rfl, rfl⟩
  · cases h
/-- levels never fall -/
theorem wtO_lev {n : Nat} {ls L : List Ld} {e : EdgeV} {r : Option EdgeV} (h : wtO (n : Int) ls e = some (L, r)) {y z : Ld} (hy : y ∈ L) (hz : z ∈ ls) (hzy : y.e = z.e) : z.l ≤ y.l := by
  obtain ⟨hw, x, hx, _, ⟨_, hk⟩ | ⟨_, rfl, _⟩⟩ := wtO_is h
  · obtain ⟨_, u, hu, h1, h2⟩ := hk.lev (fun v hv => (hw.2.1 v (List.mem_filter.1 hv).1).2) y hy
    rw [ld_uniq hw.1 (List.mem_filter.1 hu).1 hz (hzy.symm.trans h1.symm)]
    exact h2
  · rw [ld_uniq hw.1 (List.mem_filter.1 hy).1 hz hzy.symm]
    exact Int.le_refl _
/-- without a hit the ends fall apart, where the lost edge was of the forest -/
theorem wtO_apart {n : Nat} {ls L : List Ld} {e : EdgeV} (h : wtO (n : Int) ls e = some (L, none)) {x : Ld} (hx : x ∈ ls) (hxe : x.e = e) (hxt : x.t = true) : ¬ Conn (gE L) e.1 e.2 := by
  have hL := wtO_ok h
  obtain ⟨hw, z, hz, hze, ⟨_, hk⟩ | ⟨hzt, _, _⟩⟩ := wtO_is h
  · rw [conn_gE hL]
    obtain ⟨S, h1, h2, h3⟩ := hw.bridge e ((fE0_mem hw).2 ⟨x, hx, hxt, hxe⟩)
    intro hc
    have hS : ∀ d ∈ fE L 0, S d.1 ↔ S d.2 := fun d hd => by
      obtain ⟨y, hy, hyt, hye⟩ := (fE0_mem hL).1 hd
      obtain ⟨u, hu, hut, hue⟩ := hk.same rfl y hy
      obtain ⟨hu1, hu2⟩ := List.mem_filter.1 hu
      refine h3 d ((fE0_mem hw).2 ⟨u, hu1, hut.trans hyt, hue.trans hye⟩) fun hde => ?_
      simp only [decide_eq_true_eq] at hu2
      exact hu2 (hue.trans (hye.trans hde))
    exact h2 (hc.symm S hS h1)
  · rw [ld_uniq hw.1 hx hz (hze.trans hxe.symm), hxt] at hzt
    cases hzt
/-- an edge beside the forest: what it held together stays so -/
theorem wtO_beside {n : Nat} {ls L : List Ld} {e : EdgeV} {r : Option EdgeV} (h : wtO (n : Int) ls e = some (L, r)) {x : Ld} (hx : x ∈ ls) (hxe : x.e = e) (hxt : x.t = false) : r = none ∧ Conn (gE L) e.1 e.2 := by
  obtain ⟨hw, z, hz, hze, ⟨hzt, _⟩ | ⟨_, rfl, rfl⟩⟩ := wtO_is h
  · rw [ld_uniq hw.1 hx hz (hze.trans hxe.symm), hxt] at hzt
    cases hzt
  · refine ⟨rfl, ?_⟩
    have hc := (WC.of hw).nt x hx hxt
    subst hxe
    refine hc.more fun d hd => ?_
    obtain ⟨y, hy, hyt, _, hye⟩ := fE_mem.1 hd
    rw [gE_out]
    refine List.mem_filter.2 ⟨fE_g hd, decide_eq_true fun hde => ?_⟩
    rw [ld_uniq hw.1 hx hy (hye.trans hde), hxt] at hyt
    cases hyt
/-- what takes the place holds together what the lost edge held together -/
theorem wtO_holds {n : Nat} {ls L : List Ld} {e d : EdgeV} (h : wtO (n : Int) ls e = some (L, some d)) : (∃ x ∈ ls, x.e = e ∧ x.t = true) ∧ d ∈ gE L ∧ Conn (gE L) e.1 e.2 := by
  have hL := wtO_ok h
  obtain ⟨hw, x, hx, hxe, ⟨hxt, hk⟩ | ⟨_, _, hr⟩⟩ := wtO_is h
  · obtain ⟨⟨z, hz, hzt, hzd⟩, y, hy, hyt, hyd⟩ := hk.hit d rfl
    obtain ⟨hz1, _⟩ := List.mem_filter.1 hz
    have hdL : d ∈ fE L 0 := (fE0_mem hL).2 ⟨y, hy, hyt, hyd⟩
    refine ⟨⟨x, hx, hxe, hxt⟩, fE_g hdL, ?_⟩
    rw [conn_gE hL]
    -- the forest's other edges are there still
    have hE : ∀ c ∈ fE ls 0, c ≠ e → c ∈ fE L 0 ∧ c ≠ d := fun c hc hce => by
      obtain ⟨u, hu, hut, huc⟩ := (fE0_mem hw).1 hc
      obtain ⟨v, hv, hvt, hvc⟩ := hk.keep u (List.mem_filter.2 ⟨hu, decide_eq_true fun h1 => hce (huc.symm.trans h1)⟩) hut
      refine ⟨(fE0_mem hL).2 ⟨v, hv, hvt, hvc.trans huc⟩, fun hcd => ?_⟩
      rw [ld_uniq hw.1 hz1 hu (huc.trans (hcd.trans hzd.symm)), hzt] at hut
      cases hut
    obtain ⟨S', p1, p2, p3⟩ := hL.bridge d hdL
    have hcd : Conn (fE ls 0) d.1 d.2 := (conn_gE hw).1 (Conn.edge (by rw [← hzd]; exact gE_mem hz1))
    intro S hS hS1
    refine Classical.byContradiction fun hS2 => ?_
    have hdS := hS d hdL
    -- the lost edge crosses S'
    have hcross : ¬ (S' e.1 ↔ S' e.2) := fun hc => p2 (hcd.symm S' (fun c hc' => by
      by_cases hce : c = e
      · rw [hce]; exact hc
      · exact p3 c (hE c hc' hce).1 (hE c hc' hce).2) p1)
    have hT := hcd (fun q => (S q ↔ S' q) ↔ (S d.1 ↔ S' d.1)) (fun c hc' => by
      by_cases hce : c = e
      · rw [hce]
        by_cases a1 : S' e.1 <;> by_cases a2 : S' e.2 <;> simp_all
      · have b1 := hS c (hE c hc' hce).1
        have b2 := p3 c (hE c hc' hce).1 (hE c hc' hce).2
        rw [b1, b2]) Iff.rfl
    by_cases a1 : S d.1 <;> simp_all
  · cases hr
end Go.Proofs.YtkkplppcgnikoaaGreat
namespace Go.Proofs.YtkkplppcgnikoaaGreat
open Go.RowKit

set_option maxRecDepth 100000 in
set_option maxHeartbeats 4000000 in
theorem sameWeb_same (N : Int) (ls : List Ld) (n : Nat) (a : Option Addr) (c : Nat) (b : Option Addr) (d : Nat) (hn : n ≤ 1048576) (w : World) (h : Ls w w.heap.size a n ls) (k : Ls w w.heap.size b n ls) :
    Calls Tryz.prog 28 #[.agg #[.int .i64 N, .slice a n c], .agg #[.int .i64 N, .slice b n d]] w fun e w' => e = .returned (.bool true) ∧ Below w.heap.size w w' := by
  obtain ⟨W, hW⟩ : ∃ W, W = (w.alloc (.cells #[.int .i64 N, .slice a n c] 26)).alloc (.cells #[.int .i64 N, .slice b n d] 26) := ⟨_, rfl⟩
  have bW : Below w.heap.size w W := by rw [hW]; exact ((Below.refl _ _).alloc (Nat.le_refl _) _).alloc (by simp) _
  have X1 : Box7 W w.heap.size 26 (.int .i64 N) (.slice a n c) := by rw [hW]; exact (Box7.new w 26 _ _ w.heap.size rfl).alloc _
  have X2 : Box7 W (w.heap.size + 1) 26 (.int .i64 N) (.slice b n d) := by rw [hW]; exact Box7.new _ 26 _ _ _ (by simp)
  have x0 := X1.cell0
  have x1 := X1.cell1
  have y0 := X2.cell0
  have y1 := X2.cell1
  have H := hideIt (h.up bW)
  have K := hideIt (k.up bW)
  have HB := hideIt bW
  have HX1 := hideIt X1
  have HX2 := hideIt X2
  clear h k bW X1 X2
  go_enter Tryz.func28, Tryz.ntmps28
  go_upto_region 1 with fail
  rw [← hW]
  clear hW
  have hG : Hid (w.heap.size ≤ W.heap.size) := HB.out.size
  go_wp2
  go_loopw [5] (fun i wr => ∃ q : Nat, q ≤ n ∧ i = .int .i64 (q : Int) ∧ Hid (Below W.heap.size W wr)) (fun i _ => n - (intOf i).toNat)
  case atStart => exact ⟨0, by omega, rfl, Below.refl _ _⟩
  case round =>
    obtain ⟨q, hq, rfl, hb⟩ := hrel
    clear x0 x1 y0 y1
    have x1 := (HX1.out.up hb.out).cell1
    have y1 := (HX2.out.up hb.out).cell1
    by_cases hqn : q < n
    · have d1 : decide ((q : Int) < (n : Int)) = true := decide_eq_true (by omega)
      obtain ⟨b1, o1, z, rfl, _, hz, h1⟩ := (H.out.up hb.out).at hqn
      obtain ⟨b2, o2, z', rfl, _, hz', h2⟩ := (K.out.up hb.out).at hqn
      rw [hz] at hz'
      cases hz'
      obtain ⟨p1, p2, p3, p4⟩ := h1
      obtain ⟨r1, r2, r3, r4⟩ := h2
      have hqn2 : (q : Int) < (n : Int) := by omega
      clear hz
      go_upto_region 6 with fail
      go_quiet (fail)
      all_goals
        go_wp2
        exact ⟨⟨q + 1, by omega, by go_num, by first | exact hb | exact below_drewN hb.out _⟩, by simp [intOf]; omega⟩
    · obtain rfl : q = n := by omega
      have d1 : decide ((q : Int) < (q : Int)) = false := decide_eq_false (by omega)
      have BF := HB.out.trans (hb.out.mono hG.out)
      have HBF := hideIt BF
      clear BF HB hb
      go_wp2
      go_ret
      exact ⟨rfl, HBF.out⟩
end Go.Proofs.YtkkplppcgnikoaaGreat
namespace Go.Proofs.YtkkplppcgnikoaaGreat
open Go.RowKit
set_option maxHeartbeats 1000000 in
theorem has_any (es : List EdgeV) (e : EdgeV) (n : Nat) (a : Option Addr) (c : Nat) (hn : n ≤ 1048576) (w : World) (h : Es w w.heap.size a n es) :
    Calls Tryz.prog 30 #[.slice a n c, .agg #[.int .i64 e.1, .int .i64 e.2]] w fun x w' => x = .returned (.bool (hasB es e)) ∧ Below w.heap.size w w' := by
  obtain ⟨hlen, hrow⟩ := h
  have HR := hideIt hrow
  clear hrow
  go_enter Tryz.func30, Tryz.ntmps30
  go_wp2
  go_loopw [5] (fun i wr => ∃ k : Nat, k ≤ n ∧ i = .int .i64 (k : Int) ∧ Hid (∀ j, j < k → es[j]? ≠ some e) ∧ Below w.heap.size w wr ∧ wr.cell? ⟨w.heap.size, 0, none⟩ = some (.int .i64 e.1) ∧ wr.cell? ⟨w.heap.size, 1, none⟩ = some (.int .i64 e.2)) (fun i _ => n - (intOf i).toNat)
  case atStart => exact ⟨0, by omega, rfl, fun j hj => by omega, (Below.refl _ _).alloc (Nat.le_refl _) _, by simp, by simp⟩
  case round =>
    obtain ⟨k, hk, rfl, hck, hb, x0, x1⟩ := hrel
    by_cases hlt : k < n
    · rcases HR.out with hz | ⟨b, off, rfl, hbl, hc⟩
      · omega
      · obtain ⟨f, hf⟩ : ∃ f, es[k]? = some f := ⟨es[k]'(by omega), List.getElem?_eq_getElem (by omega)⟩
        obtain ⟨c0, c1⟩ := hc k f hf
        have e0 : wr.cell? ⟨b, off + k * 2, none⟩ = some (.int .i64 f.1) := by rw [hb.cell hbl]; exact c0
        have e1 : wr.cell? ⟨b, off + k * 2 + 1, none⟩ = some (.int .i64 f.2) := by rw [hb.cell hbl]; exact c1
        have b1 : (0 : Int) ≤ (k : Int) := by omega
        have b2 : (k : Int) < (n : Int) := by omega
        by_cases hfe : f = e
        · subst hfe
          have HY := hideIt (hasB_yes hf)
          clear hf hc c0 c1 hck
          go_wp2
          go_quiet (fail)
          go_wp2
          go_ret
          exact ⟨by rw [HY.out]; rfl, below_drewN hb _⟩
        · have HN : Hid (∀ j, j < k + 1 → es[j]? ≠ some e) := fun j hj => by
            by_cases hjk : j = k
            · subst hjk; rw [hf]; exact fun hh => hfe (Option.some.inj hh)
            · exact hck.out j (by omega)
          clear hf hc c0 c1 hck
          by_cases h1 : f.1 = e.1
          · have h2 : ¬ f.2 = e.2 := fun h2 => hfe (Prod.ext h1 h2)
            rw [h1] at e0
            have d2 : (f.2 == e.2) = false := by simpa using h2
            clear hfe
            go_wp2
            go_quiet (fail)
            go_wp2
            exact ⟨⟨k + 1, by omega, by go_num, HN, below_drewN hb _, x0, x1⟩, by simp [intOf]; omega⟩
          · have d1 : (f.1 == e.1) = false := by simpa using h1
            clear hfe
            go_wp2
            go_quiet (fail)
            go_wp2
            exact ⟨⟨k + 1, by omega, by go_num, HN, below_drewN hb _, x0, x1⟩, by simp [intOf]; omega⟩
    · have HN := hideIt (hasB_no (es := es) (e := e) (fun j hj => hck.out j (by omega)))
      clear hck
      go_wp2
      go_ret
      exact ⟨by rw [HN.out]; rfl, hb⟩

end Go.Proofs.YtkkplppcgnikoaaGreat
