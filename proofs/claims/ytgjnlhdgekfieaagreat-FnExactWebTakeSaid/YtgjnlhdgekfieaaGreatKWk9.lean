/- The program's takePlace: the Levels downwards, each with its lesser tree raised and its edges beside the forest looked at. The program's takePlace where no edge is left. The program's rootsOf. The program's levelOk, where the edges of the forest make no ring. The program's WebOk. WebTake: pure, and what its boxes hold. -/
import Derived.Test.YtgjnlhdgekfieaaGreatKWs9
import Derived.Test.YtgjnlhdgekfieaaGreatKWt9
import Derived.WalkMore
import Derived.ScopeJumps
import Derived.Test.YtgjnlhdgekfieaaGreatKSVerts
import Derived.Deep.RegionHeld3
import Derived.Test.YtgjnlhdgekfieaaGreatKIAdd9
import Derived.Test.YtgjnlhdgekfieaaGreatKInG6
namespace Go.Proofs.YtgjnlhdgekfieaaGreat
open Go.RowKit

/-- a scope that is left by a goto to one label at most once: what stands behind the label is walked where the goto stands -/
theorem wp_scope_once {P : Program} {a : Go.Act} {w : World} {Q : Exit → Go.Act → World → Prop} {c rest : Go.Code} (l : Nat) (hf : findLabel c l = some rest)
    (first : c.wp P (Exit.jump l (fun a w => rest.wp P (Exit.noGoto Q) a w) Q) a w) : (Go.Code.scope c).wp P Q a w :=
  wp_scope_jumps l (fun a w => rest.wp P (Exit.noGoto Q) a w) (fun _ _ => 0) hf first fun a w h => wp_mono h fun e a w hq => by
    cases e <;> first | exact hq | exact hq.elim
theorem jump_goto {l : Nat} {J : Go.Act → World → Prop} {Q : Exit → Go.Act → World → Prop} {a : Go.Act} {w : World} (h : J a w) : Exit.jump l J Q (.goto l) a w := ⟨rfl, h⟩
theorem jump_normal {l : Nat} {J : Go.Act → World → Prop} {Q : Exit → Go.Act → World → Prop} {a : Go.Act} {w : World} : Exit.jump l J Q .normal a w = Q .normal a w := rfl
theorem jump_ret {l : Nat} {J : Go.Act → World → Prop} {Q : Exit → Go.Act → World → Prop} {a : Go.Act} {w : World} : Exit.jump l J Q .ret a w = Q .ret a w := rfl
theorem jump_exit {l id : Nat} {J : Go.Act → World → Prop} {Q : Exit → Go.Act → World → Prop} {a : Go.Act} {w : World} : Exit.jump l J Q (.exit id) a w = Q (.exit id) a w := rfl

theorem Box4.grown {w w' : World} {b : Nat} {x : Ld} {row : Option Nat} (h : Box4 w b x) (hg : w.grownBy w' row) (hr : some b ≠ row) : Box4 w' b x := by
  unfold Box4
  rw [hg.block b h.lt hr]
  exact h
theorem srL_no {i : Int} {t : List Int} {x : Ld} (h : ¬ (x.t = false ∧ x.l = i ∧ x.a ∈ t ∧ x.b ∈ t)) : srL i t x = x := by unfold srL; rw [if_neg h]
theorem srL_yes {i : Int} {t : List Int} {x : Ld} (h : x.t = false ∧ x.l = i ∧ x.a ∈ t ∧ x.b ∈ t) : srL i t x = ⟨x.a, x.b, upL i, x.t⟩ := by unfold srL; rw [if_pos h]
/-- an edge is put where the turning stands -/
theorem turn_put {f : Ld → Ld} {L : List Ld} {k : Nat} {x : Ld} (h : L[k]? = some x) (y : Ld) : ((L.take k).map f ++ L.drop k).set k y = (L.take k).map f ++ y :: L.drop (k + 1) := by
  have hk : k < L.length := (List.getElem?_eq_some_iff.1 h).1
  rw [List.set_append_right _ _ (by simp; omega)]
  have : k - ((L.take k).map f).length = 0 := by simp; omega
  rw [this, List.drop_eq_getElem_cons hk]
  rfl
theorem turn_last {f : Ld → Ld} {L : List Ld} {k : Nat} {x : Ld} (h : L[k]? = some x) (y : Ld) : ((L.take k).map f ++ y :: L.drop (k + 1))[k]? = some y := by
  have hk : k < L.length := (List.getElem?_eq_some_iff.1 h).1
  rw [List.getElem?_append_right (by simp; omega)]
  have : k - ((L.take k).map f).length = 0 := by simp; omega
  rw [this]
  rfl
theorem nohit_step {i : Int} {t : List Int} {L : List Ld} {k : Nat} {x : Ld} (h : L[k]? = some x) (hn : ∀ y ∈ L.take k, ¬ hitL i t y) (hx : ¬ hitL i t x) : ∀ y ∈ L.take (k + 1), ¬ hitL i t y := by
  intro y hy
  rw [List.take_add_one, h] at hy
  rcases List.mem_append.1 hy with h1 | h1
  · exact hn y h1
  · simp at h1
    subst h1
    exact hx
/-- the answer of takePlace -/
def TpA (w : World) (g base n c : Nat) (r : List Ld × Option EdgeV) (e : Ending) (w' : World) : Prop :=
  e = .returned (.tuple #[.agg #[.int .i64 (r.2.getD (0, 0)).1, .int .i64 (r.2.getD (0, 0)).2], .bool r.2.isSome]) ∧ w'.ownsRow base 52 4 (.slice (some ⟨g, 0, none⟩) n c) n (lcells r.1) ∧ w.grownBy w' (some g)

set_option maxRecDepth 100000 in
set_option maxHeartbeats 8000000 in
theorem takePlace_any (nn : Nat) (ls : List Ld) (x : Ld) (base g n c : Nat) (hS : Stg nn ls) (hx : 0 ≤ x.l ∧ x.l ≤ 4) (he1 : 0 ≤ x.a ∧ x.a < (nn : Int)) (he2 : 0 ≤ x.b ∧ x.b < (nn : Int)) (hn : n ≤ 1048576) (w : World)
    (h : w.ownsRow base 52 4 (.slice (some ⟨g, 0, none⟩) n c) n (lcells ls)) :
    Calls Tryz.prog 78 #[.agg #[.int .i64 (nn : Int), .slice (some ⟨g, 0, none⟩) n c], .agg #[.int .i64 x.a, .int .i64 x.b, .int .i64 x.l, .bool x.t]] w (TpA w g base n c (tkO nn x.e (x.l.toNat + 1) ls)) := by
  have hgl : g < w.heap.size := (h.lt g rfl).2
  obtain ⟨W3, hW3⟩ : ∃ W3, W3 = ((w.alloc (.cells #[.int .i64 (nn : Int), .slice (some ⟨g, 0, none⟩) n c] 26)).alloc (.cells #[.int .i64 x.a, .int .i64 x.b, .int .i64 x.l, .bool x.t] 52)).alloc (.cells #[.int .i64 0, .int .i64 0] 28) := ⟨_, rfl⟩
  have G3 : Good w W3 := by rw [hW3]; exact (((Good.refl w).alloc _).alloc _).alloc _
  have X3 : Box7 W3 w.heap.size 26 (.int .i64 (nn : Int)) (.slice (some ⟨g, 0, none⟩) n c) := by rw [hW3]; exact ((Box7.new w _ _ _ _ rfl).alloc _).alloc _
  have L3 : Box4 W3 (w.heap.size + 1) x := by rw [hW3]; exact (Box4.new _ x _ (by simp)).up ((Below.refl _ _).alloc (Nat.le_refl _) _)
  have R3 : Box7 W3 (w.heap.size + 2) 28 (.int .i64 0) (.int .i64 0) := by rw [hW3]; exact Box7.new _ _ _ _ _ (by simp)
  have O3 := own_up h G3
  have HX : Hid (∀ u, W3.grownBy u (some g) → Box7 u w.heap.size 26 (.int .i64 (nn : Int)) (.slice (some ⟨g, 0, none⟩) n c) ∧ Box4 u (w.heap.size + 1) x ∧ Box7 u (w.heap.size + 1 + 1) 28 (.int .i64 0) (.int .i64 0)) := fun u hu =>
    ⟨X3.grown hu (by simp; omega), L3.grown hu (by simp; omega), R3.grown hu (by simp; omega)⟩
  have HG3 := hideIt G3
  have HO3 := hideIt O3
  have HS := hideIt hS
  obtain ⟨_, _, q2, _⟩ := L3.cells
  have HU := hideIt (fun (i : Int) (h0 : 0 ≤ i) (h1 : i ≤ 4) => levelUp_any i h0 h1)
  have HZ : Hid (w.heap.size + 2 < W3.heap.size) := R3.lt
  clear hS h X3 L3 R3 O3 G3
  go_enter Tryz.func78, Tryz.ntmps78
  go_wp2
  refine wp_scope_once 0 (by rfl) ?_
  go_wp2
  rw [← hW3]
  clear hW3 q2
  go_loopw [7] (fun lev wr => ∃ (k : Nat) (l : Int) (L : List Ld), Hid (l + 1 = (k : Int) ∧ l ≤ 4) ∧ lev = .int .i64 l ∧ Hid (Stg nn L ∧ tkO nn x.e (x.l.toNat + 1) ls = tkO nn x.e k L) ∧ Hid (wr.ownsRow base 52 4 (.slice (some ⟨g, 0, none⟩) n c) n (lcells L)) ∧ Hid (W3.grownBy wr (some g))) (fun lev _ => (intOf lev + 1).toNat)
  case atStart => exact ⟨x.l.toNat + 1, x.l, ls, (by show _ ∧ _; omega : _ ∧ _), rfl, ⟨HS.out, rfl⟩, HO3.out, World.grownBy.refl _ _⟩
  case round =>
    obtain ⟨k, l, L, HK, rfl, HL, HO, HG⟩ := hrel
    clear HS HO3
    obtain ⟨bw, bl, br⟩ := HX.out wr HG.out
    by_cases hl0 : 0 ≤ l
    · obtain ⟨j, rfl⟩ : ∃ j : Nat, l = (j : Int) := ⟨l.toNat, by omega⟩
      have hj4 : (j : Int) ≤ 4 := HK.out.2
      have HKj : Hid (k = j + 1) := by show _ = _; have := HK.out.1; omega
      clear HK hl0
      have hj0 : (0 : Int) ≤ (j : Int) := by omega
      obtain ⟨t, ht⟩ : ∃ t, t = smT (lvT nn L (j : Int)) x.e := ⟨_, rfl⟩
      have HLe : Hid (∀ u, Good wr u → Calls Tryz.prog 74 #[.agg #[.int .i64 x.a, .int .i64 x.b, .int .i64 x.l, .bool x.t]] u fun e w' => e = .returned (.agg #[.int .i64 x.a, .int .i64 x.b]) ∧ Good wr w') := fun u hu => (ledgeEdge_any x u).mono fun _ _ ⟨he, hb⟩ => ⟨he, hu.up hb⟩
      have HLt : Hid (∀ u, Good wr u → Calls Tryz.prog 143 #[.agg #[.int .i64 (nn : Int), .slice (some ⟨g, 0, none⟩) n c], .agg #[.int .i64 x.a, .int .i64 x.b], .int .i64 (j : Int)] u fun e w' => ∃ gt m ct, e = .returned (.slice (some ⟨gt, 0, none⟩) m ct) ∧ Hid (Is w' w'.heap.size (some ⟨gt, 0, none⟩) m t ∧ g < gt ∧ m ≤ 1048576) ∧ Good wr w') := fun u hu => by
        obtain ⟨hts, hA⟩ := HL.out.1.trees (i := (j : Int)) hj0
        rw [ht]
        refine (lesserTree_any nn L x.e (j : Int) n (some ⟨g, 0, none⟩) c HL.out.1.g (fun y hy => (HL.out.1.l y hy).1) HL.out.1.br hj0 (lvT nn L (j : Int)) hts hA he1 he2 u (Ls_of_own (own_up HO.out hu))).mono fun e w' ⟨gt, m, ct, h1, h2, h3, h4, h5⟩ => ⟨gt, m, ct, h1, ⟨h2, ?_, h4⟩, hu.up h5⟩
        have := hu.size
        have := HG.out.size
        have := HZ.out
        omega
      have HC : Hid (∀ u, Good wr u → ((u.cell? ⟨w.heap.size, 0, none⟩ = some (.int .i64 (nn : Int)) ∧ u.cell? ⟨w.heap.size, 1, none⟩ = some (.slice (some ⟨g, 0, none⟩) n c)) ∧ (u.cell? ⟨w.heap.size + 1, 0, none⟩ = some (.int .i64 x.a) ∧ u.cell? ⟨w.heap.size + 1, 1, none⟩ = some (.int .i64 x.b) ∧ u.cell? ⟨w.heap.size + 1, 2, none⟩ = some (.int .i64 x.l) ∧ u.cell? ⟨w.heap.size + 1, 3, none⟩ = some (.bool x.t))) ∧ Good wr u) := fun u hu => ⟨⟨⟨(bw.up hu).cell0, (bw.up hu).cell1⟩, (bl.up hu).cells⟩, hu⟩
      have hS0 := HC.out _ (Good.refl wr).drew
      clear bw bl br
      have HT := hideIt ht
      clear ht
      go_upto_region 5 with fail
      go_region_held3 (fun u => ((u.cell? ⟨w.heap.size, 0, none⟩ = some (.int .i64 (nn : Int)) ∧ u.cell? ⟨w.heap.size, 1, none⟩ = some (.slice (some ⟨g, 0, none⟩) n c)) ∧ (u.cell? ⟨w.heap.size + 1, 0, none⟩ = some (.int .i64 x.a) ∧ u.cell? ⟨w.heap.size + 1, 1, none⟩ = some (.int .i64 x.b) ∧ u.cell? ⟨w.heap.size + 1, 2, none⟩ = some (.int .i64 x.l) ∧ u.cell? ⟨w.heap.size + 1, 3, none⟩ = some (.bool x.t))) ∧ Good wr u)
        (first | with_reducible assumption)
        (first
          | (go_at_call 74; refine (HLe.out _ (And.right (by assumption))).mono ?_; rintro e w4 ⟨rfl, hg4⟩; have hS4 := HC.out _ hg4)
          | (go_at_call 143; refine (HLt.out _ (And.right (by assumption))).mono ?_; rintro e w5 ⟨gt, m, ct, rfl, HI, hg5⟩; have hS5 := HC.out _ hg5))
      have ⟨⟨⟨_, cw⟩, _⟩, _⟩ := hS5
      have HRt := hideIt (raiseTree_any base g c n L t m (some ⟨gt, 0, none⟩) ct (j : Int) hj0 hj4 hn HI.out.2.2 w5 (own_up HO.out hg5) HI.out.1 (fun b off s h => by have h1 := HI.out.2.1; simp at h; omega))
      have HG5 := hideIt (grown_trans HG.out (grown_of_below hg5 (some g)))
      clear hS4 hS5 hg4 hg5 HC HLe HLt HO HG hS0
      go_wp2_with (go_at_call 144; refine HRt.out.mono ?_; rintro e w6 ⟨rfl, ho6, hg6⟩; refine Hid.out ?_)
      refine (show ∀ {p : Prop}, p → Hid p from fun h => h) ?_
      obtain ⟨L1, hL1⟩ : ∃ L1, L1 = L.map (rsL (j : Int) t) := ⟨_, rfl⟩
      rw [← hL1] at ho6
      have HL1 := hideIt hL1
      have HO6 := hideIt ho6
      have HG6 := hideIt (grown_trans HG5.out hg6)
      have hlen : Hid (L1.length = n) := by show _ = _; have := ho6.1; rw [lcells_length] at this; omega
      have HI6 : Hid (∀ u, w6.grownBy u (some g) → Is u u.heap.size (some ⟨gt, 0, none⟩) m t) := fun u hu => is_mono (HI.out.1.grown (Nat.le_refl _) (grown_trans hg6 hu) (fun b off s h => by have h1 := HI.out.2.1; simp at h; omega)) (Nat.le_trans hg6.size hu.size)
      have hm := HI.out.2.2
      have cw6 := (HX.out w6 HG6.out).1.cell1
      clear hL1 ho6 hg6 HRt HG5 cw
      go_wp2
      go_loopw [28] (fun q wz => ∃ d : Nat, d ≤ n ∧ q = .int .i64 (d : Int) ∧ Hid (wz.ownsRow base 52 4 (.slice (some ⟨g, 0, none⟩) n c) n (lcells ((L1.take d).map (srL (j : Int) t) ++ L1.drop d))) ∧ Hid (w6.grownBy wz (some g)) ∧ Hid (∀ y ∈ L1.take d, ¬ hitL (j : Int) t y)) (fun q _ => n - (intOf q).toNat)
      case atStart => exact ⟨0, by omega, rfl, hideIt (by simpa using HO6.out), World.grownBy.refl _ _, fun y hy => by simp at hy⟩
      case round =>
        obtain ⟨d, hd, rfl, HOz, HGz, HNz⟩ := hrel
        clear HO6 cw6
        have bwz := (HX.out wr (grown_trans HG6.out HGz.out)).1
        have cwz := bwz.cell1
        by_cases hlt : d < n
        · obtain ⟨y, hy⟩ : ∃ y, L1[d]? = some y := ⟨L1[d]'(by have := hlen.out; omega), List.getElem?_eq_getElem (by have := hlen.out; omega)⟩
          have hya := turn_at (f := srL (j : Int) t) hy
          have b1 : (0 : Int) ≤ (d : Int) := by omega
          have b2 : (d : Int) < (n : Int) := by omega
          obtain ⟨p0, p1, p2, p3⟩ := lcells_at _ d y hya
          have hl4 : (lcells ((L1.take d).map (srL (j : Int) t) ++ L1.drop d)).length = n * 4 := HOz.out.1
          have e0 : wr.cell? ⟨g, d * 4, none⟩ = some (.int .i64 y.a) := by rw [HOz.out.cellAt (d * 4) (by omega)]; exact p0
          have e1 : wr.cell? ⟨g, d * 4 + 1, none⟩ = some (.int .i64 y.b) := by rw [HOz.out.cellAt (d * 4 + 1) (by omega)]; exact p1
          have e2 : wr.cell? ⟨g, d * 4 + 2, none⟩ = some (.int .i64 y.l) := by rw [HOz.out.cellAt (d * 4 + 2) (by omega)]; exact p2
          have e3 : wr.cell? ⟨g, d * 4 + 3, none⟩ = some (.bool y.t) := by rw [HOz.out.cellAt (d * 4 + 3) (by omega)]; exact p3
          have HYa := hideIt hya
          have HYy := hideIt hy
          clear p0 p1 p2 p3 hl4 hya hy
          by_cases ht1 : y.t = false
          · rw [ht1] at e3
            by_cases hl1 : y.l = (j : Int)
            · have d1 : (y.l != (j : Int)) = false := by simp [hl1]
              have hE := endsIn_any t y m (some ⟨gt, 0, none⟩) ct hm wr (HI6.out wr HGz.out)
              rw [ht1] at hE
              have k12 := endK_two t y
              have k3 := endK_le t y 2
              by_cases hab : y.a ∈ t ∧ y.b ∈ t
              · have HE : Hid (Calls Tryz.prog 145 #[.slice (some ⟨gt, 0, none⟩) m ct, .agg #[.int .i64 y.a, .int .i64 y.b, .int .i64 y.l, .bool false]] wr fun e w' => e = .returned (.int .i64 2) ∧ Below wr.heap.size wr w') := hE.mono fun _ _ ⟨he, hb⟩ => ⟨by rw [he, k12.1.2 hab]; rfl, hb⟩
                have hf := srL_yes (i := (j : Int)) (t := t) ⟨ht1, hl1, hab⟩
                have HN2 := hideIt (nohit_step HYy.out HNz.out fun h => h.2.2.1 hab)
                have HN := hideIt (turn_step (f := srL (j : Int) t) HYy.out)
                rw [hf] at HN
                have HUp := hideIt (HU.out (j : Int) hj0 hj4)
                clear hf hab k12 k3 hE ht1 hl1
                go_wp2_with (go_at_call 145; refine HE.out.mono ?_; rintro e w7 ⟨rfl, hb7⟩; refine Hid.out ?_)
                refine (show ∀ {p : Prop}, p → Hid p from fun h => h) ?_
                have hO7 := own_up HOz.out hb7
                have c7 := (bwz.up hb7).cell1
                have e7 : w7.cell? ⟨g, d * 4 + 2, none⟩ = some (.int .i64 y.l) := by rw [bcell hb7 |>.1 _ _ (HOz.out.lt g rfl).2]; exact e2
                have f7 := hO7.frozenAt (d * 4 + 2)
                have hst := hO7.stored (d * 4 + 2) (.int .i64 (upL (j : Int)))
                rw [lcells_setL HYa.out] at hst
                have HSt := hideIt hst
                have HG7 := hideIt (grown_trans HGz.out (grown_of_below hb7 (some g)))
                clear hst hO7 e0 e1 e2 e3 hb7 HE cwz bwz
                go_upto_region 13 with fail
                go_region_with (go_at_call 146; refine (HUp.out _).mono ?_; rintro e w8 ⟨rfl, hw8⟩; have hw8' := hw8.symm; subst hw8')
                all_goals
                  go_wp2
                  exact ⟨⟨d + 1, by omega, by go_num, hideIt (by rw [← HN.out]; exact HSt.out.1), hideIt (grown_trans HG7.out (grown_trans HSt.out.2 ⟨rfl, rfl, rfl, Nat.le_refl _, fun _ _ _ => rfl⟩)), HN2⟩, by simp [intOf]; omega⟩
              · by_cases hor : y.a ∈ t ∨ y.b ∈ t
                · have HE : Hid (Calls Tryz.prog 145 #[.slice (some ⟨gt, 0, none⟩) m ct, .agg #[.int .i64 y.a, .int .i64 y.b, .int .i64 y.l, .bool false]] wr fun e w' => e = .returned (.int .i64 1) ∧ Below wr.heap.size wr w') := hE.mono fun _ _ ⟨he, hb⟩ => ⟨by rw [he, k12.2.2 ⟨hab, hor⟩]; rfl, hb⟩
                  have HV : Hid (tkO nn x.e (x.l.toNat + 1) ls = ((L1.take d).map (srL (j : Int) t) ++ ⟨y.a, y.b, y.l, true⟩ :: L1.drop (d + 1), some y.e)) := by
                    show _ = _
                    have h1 := srO_hit HYy.out ⟨ht1, hl1, hab, hor⟩ HNz.out
                    have h2 : lvO nn x.e (j : Int) L = srO (j : Int) t L1 := by rw [HL1.out, HT.out]; rfl
                    rw [HL.out.2, HKj.out, tkO_found (f := y.e) (by rw [h2, h1]), h2, h1]
                  have HN := hideIt (turn_put (f := srL (j : Int) t) HYy.out ⟨y.a, y.b, y.l, true⟩)
                  clear hab hor k12 k3 hE ht1 hl1
                  go_wp2_with (go_at_call 145; refine HE.out.mono ?_; rintro e w7 ⟨rfl, hb7⟩; refine Hid.out ?_)
                  refine (show ∀ {p : Prop}, p → Hid p from fun h => h) ?_
                  go_wp2
                  go_step3
                  refine jump_goto (Q := fun _ _ _ => True) ?_
                  have hO7 := own_up HOz.out hb7
                  have c7 := (bwz.up hb7).cell1
                  have hgl7 := (HOz.out.lt g rfl).2
                  have e7 : w7.cell? ⟨g, d * 4 + 3, none⟩ = some (.bool false) := by rw [bcell hb7 |>.1 _ _ hgl7]; exact e3
                  have f7 := hO7.frozenAt (d * 4 + 3)
                  have hst := hO7.stored (d * 4 + 3) (.bool true)
                  rw [lcells_setT HYa.out, HN.out] at hst
                  have HG8 := hideIt (grown_trans HG6.out (grown_trans (grown_trans HGz.out (grown_of_below hb7 (some g))) hst.2))
                  obtain ⟨W8, hW8⟩ : ∃ W8, W8 = w7.setCell ⟨g, d * 4 + 3, none⟩ (.bool true) := ⟨_, rfl⟩
                  rw [← hW8] at hst HG8
                  have hgl8 := (hst.1.lt g rfl).2
                  obtain ⟨b8, _, r8⟩ := HX.out W8 HG8.out
                  have c8 := b8.cell1
                  obtain ⟨p0, p1, p2, p3⟩ := lcells_at _ d _ (turn_last (f := srL (j : Int) t) HYy.out ⟨y.a, y.b, y.l, true⟩)
                  have hl4 : (lcells ((L1.take d).map (srL (j : Int) t) ++ ⟨y.a, y.b, y.l, true⟩ :: L1.drop (d + 1))).length = n * 4 := hst.1.1
                  have v0 : W8.cell? ⟨g, d * 4, none⟩ = some (.int .i64 y.a) := by rw [hst.1.cellAt (d * 4) (by omega)]; exact p0
                  have v1 : W8.cell? ⟨g, d * 4 + 1, none⟩ = some (.int .i64 y.b) := by rw [hst.1.cellAt (d * 4 + 1) (by omega)]; exact p1
                  have v2 : W8.cell? ⟨g, d * 4 + 2, none⟩ = some (.int .i64 y.l) := by rw [hst.1.cellAt (d * 4 + 2) (by omega)]; exact p2
                  have v3 : W8.cell? ⟨g, d * 4 + 3, none⟩ = some (.bool true) := by rw [hst.1.cellAt (d * 4 + 3) (by omega)]; exact p3
                  have HLe : Hid (Calls Tryz.prog 74 #[.agg #[.int .i64 y.a, .int .i64 y.b, .int .i64 y.l, .bool true]] W8 fun e w' => e = .returned (.agg #[.int .i64 y.a, .int .i64 y.b]) ∧ Below W8.heap.size W8 w') := ledgeEdge_any ⟨y.a, y.b, y.l, true⟩ W8
                  have HSt := hideIt hst.1
                  have HHG := HG3.out
                  clear p0 p1 p2 p3 hl4 hst hO7 e0 e1 e2 e3 HE cwz bwz b8 HOz HGz HG6 hb7 hgl7
                  go_upto_region 18 with fail
                  rw [← hW8]
                  clear hW8 c7 e7 f7
                  go_wp2_with (go_at_call 74; refine HLe.out.mono ?_; rintro e w9 ⟨rfl, hb9⟩; refine Hid.out ?_)
                  refine (show ∀ {p : Prop}, p → Hid p from fun h => h) ?_
                  have r9 := r8.up hb9
                  have q0 := r9.cell0
                  have q1 := r9.cell1
                  have q2 := r9.frozen 0
                  have q3 := r9.frozen 1
                  have s2 := r9.set2 (.int .i64 y.a) (.int .i64 y.b)
                  have s0 := s2.cell0
                  have s1 := s2.cell1
                  have HF : Hid (TpA w g base n c (tkO nn x.e (x.l.toNat + 1) ls) (.returned (.tuple #[.agg #[.int .i64 y.a, .int .i64 y.b], .bool true])) ((w9.setCell ⟨w.heap.size + 1 + 1, 0, none⟩ (.int .i64 y.a)).setCell ⟨w.heap.size + 1 + 1, 1, none⟩ (.int .i64 y.b))) := by
                    rw [HV.out]
                    exact ⟨rfl, own_setOther (own_setOther (own_up HSt.out hb9) _ 0 _ (by omega)) _ 1 _ (by omega), grown_up7 (grown_trans (grown_trans (grown_of_below HHG (some g)) HG8.out) (grown_of_below hb9 (some g))) (((Below.refl _ _).setCell (by show _ ≤ w.heap.size + 1 + 1; omega) _).setCell (by show _ ≤ w.heap.size + 1 + 1; omega) _)⟩
                  clear HV s2 r8 r9 hb9 HHG c8 v0 v1 v2 v3
                  go_wp2
                  rw [Exit.noGoto_ret]
                  exact bodyPost_ret (v := .tuple #[.agg #[.int .i64 y.a, .int .i64 y.b], .bool true]) (by simp [results, Tryz.results78, go_sem, s0, s1]) rfl HF.out
                · have HE : Hid (Calls Tryz.prog 145 #[.slice (some ⟨gt, 0, none⟩) m ct, .agg #[.int .i64 y.a, .int .i64 y.b, .int .i64 y.l, .bool false]] wr fun e w' => e = .returned (.int .i64 0) ∧ Below wr.heap.size wr w') := hE.mono fun _ _ ⟨he, hb⟩ => ⟨by
                    have h1 : ¬ endK t y 2 = 2 := fun h => hab (k12.1.1 h)
                    have h2 : ¬ endK t y 2 = 1 := fun h => hor (k12.2.1 h).2
                    have h3 : endK t y 2 = 0 := by omega
                    rw [he, h3]
                    rfl, hb⟩
                  have HN := hideIt (turn_skip HYy.out (srL_no (i := (j : Int)) (t := t) fun h => hab h.2.2))
                  have HN2 := hideIt (nohit_step HYy.out HNz.out fun h => hor h.2.2.2)
                  clear hab hor k12 k3 hE ht1 hl1
                  go_wp2_with (go_at_call 145; refine HE.out.mono ?_; rintro e w7 ⟨rfl, hb7⟩; refine Hid.out ?_)
                  refine (show ∀ {p : Prop}, p → Hid p from fun h => h) ?_
                  have HO7 := hideIt (own_up HOz.out hb7)
                  have HG7 := hideIt (grown_trans HGz.out (grown_of_below hb7 (some g)))
                  clear hb7 HE
                  go_wp2
                  exact ⟨⟨d + 1, by omega, by go_num, hideIt (by rw [HN.out]; exact HO7.out), HG7, HN2⟩, by simp [intOf]; omega⟩
            · have d1 : (y.l != (j : Int)) = true := by simp [hl1]
              have HN := hideIt (turn_skip HYy.out (srL_no (i := (j : Int)) (t := t) fun h => hl1 h.2.1))
              have HN2 := hideIt (nohit_step HYy.out HNz.out fun h => hl1 h.2.1)
              clear hl1
              go_wp2
              exact ⟨⟨d + 1, by omega, by go_num, hideIt (by rw [HN.out]; exact HOz.out), HGz, HN2⟩, by simp [intOf]; omega⟩
          · have HN := hideIt (turn_skip HYy.out (srL_no (i := (j : Int)) (t := t) fun h => ht1 h.1))
            have HN2 := hideIt (nohit_step HYy.out HNz.out fun h => ht1 h.1)
            rw [show y.t = true by simpa using ht1] at e3
            clear ht1
            go_wp2
            exact ⟨⟨d + 1, by omega, by go_num, hideIt (by rw [HN.out]; exact HOz.out), HGz, HN2⟩, by simp [intOf]; omega⟩
        · obtain rfl : d = n := by omega
          have HO7 : Hid (wr.ownsRow base 52 4 (.slice (some ⟨g, 0, none⟩) d c) d (lcells (L1.map (srL (j : Int) t)))) := by
            have h1 := HOz.out
            rw [List.take_of_length_le (by have := hlen.out; omega), List.drop_eq_nil_of_le (by have := hlen.out; omega), List.append_nil] at h1
            exact h1
          have HV : Hid (lvO nn x.e (j : Int) L = (L1.map (srL (j : Int) t), none)) := by
            show _ = _
            have h1 := HNz.out
            rw [List.take_of_length_le (by have := hlen.out; omega), HL1.out, HT.out] at h1
            rw [lvO_none h1, HL1.out, HT.out]
          have HL7 : Hid (Stg nn (L1.map (srL (j : Int) t)) ∧ tkO nn x.e (x.l.toNat + 1) ls = tkO nn x.e j (L1.map (srL (j : Int) t))) := by
            refine ⟨by rw [HL1.out]; exact HL.out.1.down ⟨hj0, hj4⟩ t t, ?_⟩
            rw [HL.out.2, HKj.out, tkO_down (by rw [HV.out]), HV.out]
          have HG7 := hideIt (grown_trans HG6.out HGz.out)
          have HK7 : Hid ((j : Int) - 1 + 1 = (j : Int) ∧ (j : Int) - 1 ≤ 4) := by constructor <;> omega
          clear HNz HOz HGz HG6 HV HL HKj HL1 HT HI6 HI hlen hlt
          go_wp2
          exact ⟨⟨j, (j : Int) - 1, _, HK7, rfl, HL7, HO7, HG7⟩, by simp [intOf]⟩
    · have hk0 : k = 0 := by have := HK.out.1; omega
      have hl1 : l = -1 := by have := HK.out.1; omega
      subst hk0 hl1
      have HV : Hid (tkO nn x.e (x.l.toNat + 1) ls = (L, none)) := HL.out.2
      have r0 := br.cell0
      have r1 := br.cell1
      have r2 := br.frozen 0
      have r3 := br.frozen 1
      have s2 := br.set2 (.int .i64 0) (.int .i64 0)
      have s0 := s2.cell0
      have s1 := s2.cell1
      have HF : Hid (TpA w g base n c (tkO nn x.e (x.l.toNat + 1) ls) (.returned (.tuple #[.agg #[.int .i64 0, .int .i64 0], .bool false])) ((wr.setCell ⟨w.heap.size + 1 + 1, 0, none⟩ (.int .i64 0)).setCell ⟨w.heap.size + 1 + 1, 1, none⟩ (.int .i64 0))) := by
        rw [HV.out]
        exact ⟨rfl, own_setOther (own_setOther HO.out _ 0 _ (by omega)) _ 1 _ (by omega), grown_up7 (grown_trans (grown_of_below HG3.out (some g)) HG.out) (((Below.refl _ _).setCell (by show _ ≤ w.heap.size + 1 + 1; omega) _).setCell (by show _ ≤ w.heap.size + 1 + 1; omega) _)⟩
      clear HV HL HO HG HK s2 br bw bl hl0
      go_wp2
      rw [jump_ret]
      exact bodyPost_ret (v := .tuple #[.agg #[.int .i64 0, .int .i64 0], .bool false]) (by simp [results, Tryz.results78, go_sem, s0, s1]) rfl HF.out
end Go.Proofs.YtgjnlhdgekfieaaGreat
namespace Go.Proofs.YtgjnlhdgekfieaaGreat
open Go.RowKit

theorem tkO_nil (n : Nat) (e : EdgeV) : ∀ k : Nat, tkO n e k [] = ([], none)
  | 0 => rfl
  | k + 1 => by rw [tkO_down (by simp [lvO, srO]), show (lvO n e (k : Int) []).1 = [] by simp [lvO, srO]]; exact tkO_nil n e k
set_option maxRecDepth 100000 in
theorem raiseTree_nil (a' : Option Addr) (m c' : Nat) (i : Int) (w : World) : Calls Tryz.prog 144 #[.slice none 0 0, .slice a' m c', .int .i64 i] w fun e w' => e = .returned (.tuple #[]) ∧ w' = w := by
  go_enter Tryz.func144, Tryz.ntmps144
  go_wp2
  go_loopw [10] (fun q wr => q = .int .i64 0 ∧ wr = w) (fun _ _ => 0)
  case atStart => exact ⟨rfl, rfl⟩
  case round =>
    obtain ⟨rfl, rfl⟩ := hrel
    go_wp2
    exact bodyPost_end (v := .tuple #[]) (results_none rfl _ _ _) rfl ⟨rfl, rfl⟩
/-- the answer where no edge is left -/
def TpN (w : World) (e : Ending) (w' : World) : Prop := e = .returned (.tuple #[.agg #[.int .i64 0, .int .i64 0], .bool false]) ∧ Below w.heap.size w w'
set_option maxRecDepth 100000 in
set_option maxHeartbeats 8000000 in
theorem takePlace_nil (nn : Nat) (x : Ld) (hS : Stg nn []) (hx : 0 ≤ x.l ∧ x.l ≤ 4) (he1 : 0 ≤ x.a ∧ x.a < (nn : Int)) (he2 : 0 ≤ x.b ∧ x.b < (nn : Int)) (w : World) :
    Calls Tryz.prog 78 #[.agg #[.int .i64 (nn : Int), .slice none 0 0], .agg #[.int .i64 x.a, .int .i64 x.b, .int .i64 x.l, .bool x.t]] w (TpN w) := by
  obtain ⟨W3, hW3⟩ : ∃ W3, W3 = ((w.alloc (.cells #[.int .i64 (nn : Int), .slice none 0 0] 26)).alloc (.cells #[.int .i64 x.a, .int .i64 x.b, .int .i64 x.l, .bool x.t] 52)).alloc (.cells #[.int .i64 0, .int .i64 0] 28) := ⟨_, rfl⟩
  have G3 : Good w W3 := by rw [hW3]; exact (((Good.refl w).alloc _).alloc _).alloc _
  have X3 : Box7 W3 w.heap.size 26 (.int .i64 (nn : Int)) (.slice none 0 0) := by rw [hW3]; exact ((Box7.new w _ _ _ _ rfl).alloc _).alloc _
  have L3 : Box4 W3 (w.heap.size + 1) x := by rw [hW3]; exact (Box4.new _ x _ (by simp)).up ((Below.refl _ _).alloc (Nat.le_refl _) _)
  have R3 : Box7 W3 (w.heap.size + 2) 28 (.int .i64 0) (.int .i64 0) := by rw [hW3]; exact Box7.new _ _ _ _ _ (by simp)
  have HX : Hid (∀ u, Good W3 u → Box7 u w.heap.size 26 (.int .i64 (nn : Int)) (.slice none 0 0) ∧ Box4 u (w.heap.size + 1) x ∧ Box7 u (w.heap.size + 1 + 1) 28 (.int .i64 0) (.int .i64 0)) := fun u hu => ⟨X3.up hu, L3.up hu, R3.up hu⟩
  have HG3 := hideIt G3
  have HS := hideIt hS
  obtain ⟨_, _, q2, _⟩ := L3.cells
  clear hS X3 L3 R3 G3
  go_enter Tryz.func78, Tryz.ntmps78
  go_wp2
  go_step3
  go_wp2
  rw [← hW3]
  clear hW3 q2
  go_loopw [7] (fun lev wr => ∃ (l : Int), (-1 ≤ l ∧ l ≤ 4) ∧ lev = .int .i64 l ∧ Hid (Good W3 wr)) (fun lev _ => (intOf lev + 1).toNat)
  case atStart => exact ⟨x.l, by omega, rfl, Good.refl _⟩
  case round =>
    obtain ⟨l, hl, rfl, HG⟩ := hrel
    obtain ⟨bw, bl, br⟩ := HX.out wr HG.out
    by_cases hl0 : 0 ≤ l
    · obtain ⟨j, rfl⟩ : ∃ j : Nat, l = (j : Int) := ⟨l.toNat, by omega⟩
      have hj4 : (j : Int) ≤ 4 := hl.2
      clear hl hl0
      have hj0 : (0 : Int) ≤ (j : Int) := by omega
      have HLe : Hid (∀ u, Good wr u → Calls Tryz.prog 74 #[.agg #[.int .i64 x.a, .int .i64 x.b, .int .i64 x.l, .bool x.t]] u fun e w' => e = .returned (.agg #[.int .i64 x.a, .int .i64 x.b]) ∧ Good wr w') := fun u hu => (ledgeEdge_any x u).mono fun _ _ ⟨he, hb⟩ => ⟨he, hu.up hb⟩
      have HLt : Hid (∀ u, Good wr u → Calls Tryz.prog 143 #[.agg #[.int .i64 (nn : Int), .slice none 0 0], .agg #[.int .i64 x.a, .int .i64 x.b], .int .i64 (j : Int)] u fun e w' => ∃ gt m ct, e = .returned (.slice (some ⟨gt, 0, none⟩) m ct) ∧ Good wr w') := fun u hu => by
        obtain ⟨hts, hA⟩ := HS.out.trees (i := (j : Int)) hj0
        exact (lesserTree_any nn [] x.e (j : Int) 0 none 0 HS.out.g (fun y hy => (HS.out.l y hy).1) HS.out.br hj0 (lvT nn [] (j : Int)) hts hA he1 he2 u ⟨rfl, .inl rfl⟩).mono fun e w' ⟨gt, m, ct, h1, h2, h3, h4, h5⟩ => ⟨gt, m, ct, h1, hu.up h5⟩
      have HC : Hid (∀ u, Good wr u → ((u.cell? ⟨w.heap.size, 0, none⟩ = some (.int .i64 (nn : Int)) ∧ u.cell? ⟨w.heap.size, 1, none⟩ = some (.slice none 0 0)) ∧ (u.cell? ⟨w.heap.size + 1, 0, none⟩ = some (.int .i64 x.a) ∧ u.cell? ⟨w.heap.size + 1, 1, none⟩ = some (.int .i64 x.b) ∧ u.cell? ⟨w.heap.size + 1, 2, none⟩ = some (.int .i64 x.l) ∧ u.cell? ⟨w.heap.size + 1, 3, none⟩ = some (.bool x.t))) ∧ Good wr u) := fun u hu => ⟨⟨⟨(bw.up hu).cell0, (bw.up hu).cell1⟩, (bl.up hu).cells⟩, hu⟩
      have hS0 := HC.out _ (Good.refl wr).drew
      clear bw bl br
      go_upto_region 5 with fail
      go_region_held3 (fun u => ((u.cell? ⟨w.heap.size, 0, none⟩ = some (.int .i64 (nn : Int)) ∧ u.cell? ⟨w.heap.size, 1, none⟩ = some (.slice none 0 0)) ∧ (u.cell? ⟨w.heap.size + 1, 0, none⟩ = some (.int .i64 x.a) ∧ u.cell? ⟨w.heap.size + 1, 1, none⟩ = some (.int .i64 x.b) ∧ u.cell? ⟨w.heap.size + 1, 2, none⟩ = some (.int .i64 x.l) ∧ u.cell? ⟨w.heap.size + 1, 3, none⟩ = some (.bool x.t))) ∧ Good wr u)
        (first | with_reducible assumption)
        (first
          | (go_at_call 74; refine (HLe.out _ (And.right (by assumption))).mono ?_; rintro e w4 ⟨rfl, hg4⟩; have hS4 := HC.out _ hg4)
          | (go_at_call 143; refine (HLt.out _ (And.right (by assumption))).mono ?_; rintro e w5 ⟨gt, m, ct, rfl, hg5⟩; have hS5 := HC.out _ hg5))
      have ⟨⟨⟨_, cw⟩, _⟩, _⟩ := hS5
      have HRt := hideIt (raiseTree_nil (some ⟨gt, 0, none⟩) m ct (j : Int) w5)
      have HG5 := hideIt (HG.out.up hg5)
      clear hS4 hS5 hg4 hg5 HC HLe HLt HG hS0
      go_wp2_with (go_at_call 144; refine HRt.out.mono ?_; rintro e w6 ⟨rfl, hw6⟩; have hw6' := hw6.symm; subst hw6'; refine Hid.out ?_)
      refine (show ∀ {p : Prop}, p → Hid p from fun h => h) ?_
      go_wp2
      go_loopw [28] (fun q wz => q = .int .i64 0 ∧ wz = w5) (fun _ _ => 0)
      case atStart => exact ⟨rfl, rfl⟩
      case round =>
        obtain ⟨rfl, rfl⟩ := hrel
        go_wp2
        exact ⟨⟨(j : Int) - 1, by omega, rfl, HG5⟩, by simp [intOf]⟩
    · have hl1 : l = -1 := by omega
      subst hl1
      have r0 := br.cell0
      have r1 := br.cell1
      have r2 := br.frozen 0
      have r3 := br.frozen 1
      have s2 := br.set2 (.int .i64 0) (.int .i64 0)
      have s0 := s2.cell0
      have s1 := s2.cell1
      have HF : Hid (TpN w (.returned (.tuple #[.agg #[.int .i64 0, .int .i64 0], .bool false])) ((wr.setCell ⟨w.heap.size + 1 + 1, 0, none⟩ (.int .i64 0)).setCell ⟨w.heap.size + 1 + 1, 1, none⟩ (.int .i64 0))) :=
        ⟨rfl, (Below.setCell (HG3.out.up HG.out) (by show _ ≤ w.heap.size + 1 + 1; omega) _).setCell (by show _ ≤ w.heap.size + 1 + 1; omega) _⟩
      clear HG s2 br bw bl hl0 hl
      go_wp2
      rw [Exit.noGoto_ret]
      exact bodyPost_ret (v := .tuple #[.agg #[.int .i64 0, .int .i64 0], .bool false]) (by simp [results, Tryz.results78, go_sem, s0, s1]) rfl HF.out
/-- takePlace's answer, whether edges are left or not -/
def TpO (w : World) (base : Nat) (v : Value) (n : Nat) (r : List Ld × Option EdgeV) (e : Ending) (w' : World) : Prop :=
  e = .returned (.tuple #[.agg #[.int .i64 (r.2.getD (0, 0)).1, .int .i64 (r.2.getD (0, 0)).2], .bool r.2.isSome]) ∧ w'.ownsRow base 52 4 v n (lcells r.1) ∧ w.grownBy w' v.ownBlock
theorem takePlace_opt (nn : Nat) (ls : List Ld) (x : Ld) (base : Nat) (a : Option Addr) (n c : Nat) (hS : Stg nn ls) (hx : 0 ≤ x.l ∧ x.l ≤ 4) (he1 : 0 ≤ x.a ∧ x.a < (nn : Int)) (he2 : 0 ≤ x.b ∧ x.b < (nn : Int)) (hn : n ≤ 1048576) (w : World)
    (h : w.ownsRow base 52 4 (.slice a n c) n (lcells ls)) :
    Calls Tryz.prog 78 #[.agg #[.int .i64 (nn : Int), .slice a n c], .agg #[.int .i64 x.a, .int .i64 x.b, .int .i64 x.l, .bool x.t]] w (TpO w base (.slice a n c) n (tkO nn x.e (x.l.toNat + 1) ls)) := by
  rcases h.2 with ⟨hv, h0⟩ | ⟨g, cap, cur, hv, _⟩
  · simp at hv
    obtain ⟨rfl, _, rfl⟩ := hv
    subst h0
    have e0 : ls = [] := by
      have := h.1
      rw [lcells_length] at this
      exact List.length_eq_zero_iff.1 (by omega)
    subst e0
    refine (takePlace_nil nn x hS hx he1 he2 w).mono fun e w' ⟨h1, h2⟩ => ?_
    rw [tkO_nil]
    exact ⟨h1, World.ownsRow_nil _ _ _ _, grown_of_below h2 _⟩
  · simp at hv
    obtain ⟨rfl, rfl⟩ := hv
    exact takePlace_any nn ls x base g n c hS hx he1 he2 hn w h
end Go.Proofs.YtgjnlhdgekfieaaGreat
namespace Go.Proofs.YtgjnlhdgekfieaaGreat
open Go.RowKit

theorem ic_set (L : List Int) (v : Nat) (x : Int) : (ic L).set v (.int .i64 x) = ic (L.set v x) := by unfold ic; rw [List.map_set]
set_option maxRecDepth 100000 in
set_option maxHeartbeats 4000000 in
theorem rootsOf_any (nn : Nat) (ts : List (List Int)) (n : Nat) (a : Option Addr) (c : Nat) (hnn : nn ≤ 12) (hn : n ≤ 12) (hr : ∀ t ∈ ts, 0 < t.length ∧ t.length ≤ 23 ∧ ∀ x ∈ t, 0 ≤ x ∧ x < (nn : Int)) (hap : ts.Pairwise Apart) (w : World) (h : Ts w w.heap.size a n ts) :
    Calls Tryz.prog 92 #[.agg #[.int .i64 (nn : Int), .slice a n c]] w fun e w' => ∃ g L, e = .returned (.slice (some ⟨g, 0, none⟩) nn nn) ∧ w'.ownsRow w.heap.size 3 1 (.slice (some ⟨g, 0, none⟩) nn nn) nn (ic L) ∧ (∀ t ∈ ts, ∀ v : Nat, (v : Int) ∈ t → L[v]? = t[0]?) ∧ Below w.heap.size w w' := by
  obtain ⟨i0, hi, hz0, hz1, hz2⟩ := info_parts info3i
  have hmk : ∀ u : World, (Instr.makeSlice 44 (.int .i64 (nn : Int)) (.int .i64 (nn : Int))).run Tryz.prog u =
      .ok (.slice (some ⟨u.heap.size, 0, none⟩) nn nn) (u.alloc (.cells (madeCells #[.int .i64 0] nn) 3)) := fun u => by
    have h := run_make (P := Tryz.prog) u 44 3 i0 _ Tryz.underlying44 hi hz0 .i64 .i64 (nn : Int) (nn : Int) (by omega) (by omega) (by rw [hz2]; omega) (by omega)
    rw [Int.toNat_natCast] at h
    simpa [hz1, Value.cells] using h
  have b0 : Good w (w.alloc (.cells #[.int .i64 (nn : Int), .slice a n c] 57)) := (Good.refl w).alloc _
  have hlen := h.1
  have HA := hideIt h
  have HRg := hideIt hr
  have HAp := hideIt hap
  have o0 := World.ownsRow_lit (base := w.heap.size + 1) (e := 3) (size := 1) (w.alloc (.cells #[.int .i64 (nn : Int), .slice a n c] 57)) (madeCells #[.int .i64 0] nn) nn (by simp) (by unfold maxLen; omega) (by simp [madeCells])
  have eL : (madeCells #[.int .i64 0] nn).toList = ic (List.replicate nn 0) := by
    apply List.ext_getElem?
    intro j
    by_cases hj : j < nn
    · simp [madeCells, ic, hj, Nat.mod_one]
    · simp [madeCells, ic, hj]
  rw [eL] at o0
  have HO0 : Hid (((w.alloc (.cells #[.int .i64 (nn : Int), .slice a n c] 57)).alloc (.cells (madeCells #[.int .i64 0] nn) 3)).ownsRow (w.heap.size + 1) 3 1 (.slice (some ⟨w.heap.size + 1, 0, none⟩) nn nn) nn (ic (List.replicate nn 0))) := by show World.ownsRow _ _ _ _ _ _ _; simpa using o0
  have HB0 : Hid (Below (w.heap.size + 1) (w.alloc (.cells #[.int .i64 (nn : Int), .slice a n c] 57)) ((w.alloc (.cells #[.int .i64 (nn : Int), .slice a n c] 57)).alloc (.cells (madeCells #[.int .i64 0] nn) 3))) := (Below.refl _ _).alloc (by simp) _
  have HGd : Hid (∀ u, Below (w.heap.size + 1) (w.alloc (.cells #[.int .i64 (nn : Int), .slice a n c] 57)) u → Good w u) := fun u hu => b0.trans (hu.mono (by omega))
  clear h hr hap o0 eL b0
  go_enter Tryz.func92, Tryz.ntmps92
  go_wp2
  go_loopw [14] (fun i wr => ∃ (k : Nat) (L : List Int), k ≤ n ∧ i = .int .i64 (k : Int) ∧ Hid (∀ j t, j < k → ts[j]? = some t → ∀ v : Nat, (v : Int) ∈ t → L[v]? = t[0]?) ∧ wr.ownsRow (w.heap.size + 1) 3 1 (.slice (some ⟨w.heap.size + 1, 0, none⟩) nn nn) nn (ic L) ∧ Below (w.heap.size + 1) (w.alloc (.cells #[.int .i64 (nn : Int), .slice a n c] 57)) wr) (fun i _ => n - (intOf i).toNat)
  case atStart => exact ⟨0, _, by omega, rfl, fun j t hj => by omega, HO0.out, HB0.out⟩
  case round =>
    obtain ⟨k, L, hk, rfl, HK, hown, hb⟩ := hrel
    clear HO0 HB0
    by_cases hlt : k < n
    · rcases (HA.out.up (HGd.out _ hb)).2 with hz | ⟨b, off, rfl, hbl, hc⟩
      · omega
      · obtain ⟨t, ht⟩ : ∃ t, ts[k]? = some t := ⟨ts[k]'(by omega), List.getElem?_eq_getElem (by omega)⟩
        obtain ⟨x, cx, e0, iI, _⟩ := hc k t ht
        obtain ⟨ht0, ht23, htr⟩ := HRg.out t (List.mem_of_getElem? ht)
        have b1 : (0 : Int) ≤ (k : Int) := by omega
        have b2 : (k : Int) < (n : Int) := by omega
        rcases (HA.out.below (HGd.out _ hb) (Nat.le_refl _)).2 with hz | ⟨b', off', hbe, hbl', hc'⟩
        · omega
        simp at hbe
        obtain ⟨rfl, rfl⟩ := hbe
        obtain ⟨x', cx', e0', iI', _⟩ := hc' k t ht
        rw [e0'] at e0
        simp at e0
        obtain ⟨rfl, rfl⟩ := e0
        have HIs : Hid (Is w w.heap.size x' t.length t) := by
          rcases HA.out.2 with hz | ⟨b2, off2, hbe, _, hc2⟩
          · omega
          simp at hbe
          obtain ⟨rfl, rfl⟩ := hbe
          obtain ⟨x2, cx2, e2, iI2, _⟩ := hc2 k t ht
          have e3 : wr.cell? ⟨b, off + k, none⟩ = w.cell? ⟨b, off + k, none⟩ := (HGd.out _ hb).cell hbl'
          rw [e0', e2] at e3
          simp at e3
          obtain ⟨rfl, rfl⟩ := e3
          exact iI2
        have HTk := hideIt ht
        have HTr := hideIt htr
        have HApk : Hid (∀ j s, j < k → ts[j]? = some s → ∀ y ∈ s, y ∉ t) := fun j s hj hs y hy hyt => by
          obtain ⟨h1, e1⟩ := List.getElem?_eq_some_iff.1 hs
          obtain ⟨h2, e2⟩ := List.getElem?_eq_some_iff.1 ht
          have := List.pairwise_iff_getElem.1 HAp.out j k h1 h2 hj
          rw [e1, e2] at this
          exact this y hy hyt
        clear hc hc' ht iI iI' htr
        go_wp2
        go_loopw [20] (fun i wr => ∃ (q : Nat) (L : List Int), q ≤ t.length ∧ i = .int .i64 (q : Int) ∧ Hid (∀ j t, j < k → ts[j]? = some t → ∀ v : Nat, (v : Int) ∈ t → L[v]? = t[0]?) ∧ Hid (∀ p (v : Nat), p < q → t[p]? = some (v : Int) → L[v]? = t[0]?) ∧ wr.ownsRow (w.heap.size + 1) 3 1 (.slice (some ⟨w.heap.size + 1, 0, none⟩) nn nn) nn (ic L) ∧ Below (w.heap.size + 1) (w.alloc (.cells #[.int .i64 (nn : Int), .slice (some ⟨b, off, none⟩) n c] 57)) wr) (fun i _ => t.length - (intOf i).toNat)
        case atStart => exact ⟨0, L, by omega, rfl, HK, fun p v hp => by omega, hown, hb⟩
        case round =>
          obtain ⟨q, L2, hq, rfl, HK2, HQ, hown2, hb2⟩ := hrel
          clear HK hown hb e0'
          have hlL : L2.length = nn := by have := hown2.1; rw [ic_len] at this; omega
          by_cases hlt2 : q < t.length
          · rcases (HIs.out.below (HGd.out _ hb2) (Nat.le_refl _)).2 with hz | ⟨b3, off3, rfl, hbl3, hc3⟩
            · omega
            · obtain ⟨y, hy⟩ : ∃ y, t[q]? = some y := ⟨t[q], List.getElem?_eq_getElem hlt2⟩
              obtain ⟨y0, hy0⟩ : ∃ y, t[0]? = some y := ⟨t[0], List.getElem?_eq_getElem ht0⟩
              have hyr := HTr.out y (List.mem_of_getElem? hy)
              obtain ⟨v, rfl⟩ : ∃ v : Nat, y = (v : Int) := ⟨y.toNat, by omega⟩
              have f0 := hc3 q _ hy
              have f1 := hc3 0 _ hy0
              rw [Nat.add_zero] at f1
              have b3' : (0 : Int) ≤ (q : Int) := by omega
              have b4 : (q : Int) < (t.length : Int) := by omega
              have b5 : (0 : Int) < (t.length : Int) := by omega
              have b6 : (0 : Int) ≤ (v : Int) := by omega
              have b7 : (v : Int) < (nn : Int) := hyr.2
              have hvn : v < nn := by omega
              have fz := hown2.frozenAt v
              obtain ⟨o, x0⟩ : ∃ o, wr.cell? ⟨w.heap.size + 1, v, none⟩ = some o := ⟨_, by rw [hown2.cellAt v (by omega)]; exact List.getElem?_eq_getElem (by rw [ic_len]; omega)⟩
              have hst := (hown2.stored v (.int .i64 y0)).1
              rw [ic_set] at hst
              have HO := hideIt hst
              have HB := hideIt (hb2.setCell (p := ⟨w.heap.size + 1, v, none⟩) (Nat.le_refl _) (.int .i64 y0))
              have HK3 : Hid (∀ j s, j < k → ts[j]? = some s → ∀ u : Nat, (u : Int) ∈ s → (L2.set v y0)[u]? = s[0]?) := fun j s hj hs u hu => by
                have hne : v ≠ u := fun e => HApk.out j s hj hs (u : Int) hu (by rw [← e]; exact List.mem_of_getElem? hy)
                rw [List.getElem?_set_ne hne]
                exact HK2.out j s hj hs u hu
              have HQ3 : Hid (∀ p (u : Nat), p < q + 1 → t[p]? = some (u : Int) → (L2.set v y0)[u]? = t[0]?) := fun p u hp hu => by
                by_cases e : v = u
                · subst e
                  rw [List.getElem?_set_self (by omega), hy0]
                · rw [List.getElem?_set_ne e]
                  by_cases hpq : p = q
                  · subst hpq
                    rw [hy] at hu
                    simp at hu
                    omega
                  · exact HQ.out p u (by omega) hu
              clear hc3 hy hy0 hyr hown2 hb2 hst HK2 HQ
              go_wp2
              exact ⟨⟨q + 1, _, by omega, by go_num, HK3, HQ3, HO.out, HB.out⟩, by simp [intOf]; omega⟩
          · obtain rfl : q = t.length := by omega
            have HK3 : Hid (∀ j s, j < k + 1 → ts[j]? = some s → ∀ u : Nat, (u : Int) ∈ s → L2[u]? = s[0]?) := fun j s hj hs u hu => by
              by_cases e : j = k
              · subst e
                rw [HTk.out] at hs
                obtain rfl := Option.some.inj hs
                obtain ⟨p, hp⟩ := List.mem_iff_getElem?.1 hu
                exact HQ.out p u (List.getElem?_eq_some_iff.1 hp).1 hp
              · exact HK2.out j s (by omega) hs u hu
            have HO := hideIt hown2
            have HB := hideIt hb2
            clear hown2 hb2 HK2 HQ
            go_wp2
            exact ⟨⟨k + 1, L2, by omega, by go_num, HK3, HO.out, HB.out⟩, by simp [intOf]; omega⟩
    · obtain rfl : k = n := by omega
      have HF : Hid (∀ t ∈ ts, ∀ v : Nat, (v : Int) ∈ t → L[v]? = t[0]?) := fun t ht v hv => by
        obtain ⟨j, hj⟩ := List.mem_iff_getElem?.1 ht
        exact HK.out j t (by have := (List.getElem?_eq_some_iff.1 hj).1; omega) hj v hv
      have HO := hideIt hown
      have HB := hideIt hb
      clear hown hb HK
      go_wp2
      go_ret
      exact ⟨w.heap.size + 1, L, rfl, own_mono HO.out (by omega), HF.out, HGd.out _ HB.out⟩
end Go.Proofs.YtgjnlhdgekfieaaGreat
namespace Go.Proofs.YtgjnlhdgekfieaaGreat
open Go.RowKit

theorem vs_half {t : List Int} (hB : tB t = true) : t.length + 1 = 2 * (vsL t).length := by
  obtain ⟨hv, x, s, h⟩ := (tB_iff t).1 hB
  have h1 := trun_len h
  have h2 := trun_nodup h List.nodup_nil
  have h3 := (trun_seen h (by simp)).1
  have e : s.length = (vsL t).length := by
    apply Nat.le_antisymm
    · exact nodup_sub h2 fun y hy => (vs_mem_of hB).2 (by simpa using (h3 y).1 hy)
    · exact nodup_sub (vs_nodup t) fun y hy => (h3 y).2 (.inr ((vs_mem_of hB).1 hy))
  simp at h1
  omega
/-- what levelOk asks of a level -/
def LvQ (nn : Nat) (ls : List Ld) (i : Nat) (ts : List (List Int)) : Prop := (∀ t ∈ ts, 1 < (vsL t).length → (vsL t).length ≤ nn / 2 ^ i) ∧ ∀ x ∈ ls, x.t = false → x.l = (i : Int) → trI ts x.a = trI ts x.b
/-- two heads are one: two places are -/
theorem head_same {es : List EdgeV} {n : Nat} {ts : List (List Int)} (h : FtAll es n ts) {u v : Int} {x y : Int} {s t : List Int} (hs : s ∈ ts) (ht : t ∈ ts) (hu : u ∈ s) (hv : v ∈ t) (hx : s[0]? = some x) (hy : t[0]? = some y) : x = y ↔ trI ts u = trI ts v := by
  have hq := h.fp.q
  obtain ⟨i, hi⟩ := List.mem_iff_getElem?.1 hs
  obtain ⟨j, hj⟩ := List.mem_iff_getElem?.1 ht
  rw [trI_of hq hi hu, trI_of hq hj hv]
  constructor
  · rintro rfl
    have h1 := trI_of hq hi (List.mem_of_getElem? hx)
    have h2 := trI_of hq hj (List.mem_of_getElem? hy)
    omega
  · intro e
    obtain rfl : i = j := by omega
    rw [hi] at hj
    obtain rfl := Option.some.inj hj
    rw [hx] at hy
    exact Option.some.inj hy

set_option maxRecDepth 100000 in
set_option maxHeartbeats 4000000 in
theorem levelOk_any (nn : Nat) (ls : List Ld) (i : Nat) (hi5 : i < 5) (n : Nat) (a : Option Addr) (c : Nat) (hG : gB (nn : Int) (gE ls) = true) (hl : ∀ x ∈ ls, 0 ≤ x.l) (hB : Bridge (fE ls 0)) (ts : List (List Int)) (hts : ftK (fE ls (i : Int)) nn nn = some ts) (w : World) (h : Ls w w.heap.size a n ls) :
    Calls Tryz.prog 87 #[.agg #[.int .i64 (nn : Int), .slice a n c], .int .i64 (i : Int)] w fun e w' => ∃ b : Bool, e = .returned (.bool b) ∧ (b = true ↔ LvQ nn ls i ts) ∧ Below w.heap.size w w' := by
  have hg := gB_chk hG
  have hn1 : 1 ≤ nn := by omega
  have hn12 : nn ≤ 12 := by omega
  have hlen := h.1
  have h66 : n ≤ 66 := by have := hg.2.2; rw [gE_len] at this; omega
  have hall := ft_all (fE_ends hG (i : Int)) hn1 hn12 hts
  have hfa : Good w (wW w (nn : Int) a n c) := wW_good w (nn : Int) a n c
  have HFA := hideIt ((iForestAt_yes nn ls (i : Int) n a c hG hl hB (by omega) ts hts _ (h.up hfa)).mono fun _ _ h => h.weak)
  have HR := hideIt h
  have HQ := hideIt hall
  have HEd : Hid (∀ x ∈ ls, 0 ≤ x.a ∧ x.a < x.b ∧ x.b < (nn : Int)) := fun x hx => gB_ends hG x.e (gE_mem hx)
  clear h hG hl hB hts hall hg
  go_enter Tryz.func87, Tryz.ntmps87
  go_wp2_with (go_at_call 33; refine HFA.out.mono ?_; rintro e w1 ⟨a1, m1, c1, rfl, hT1, hb1⟩; refine Hid.out ?_)
  refine (show ∀ {p : Prop}, p → Hid p from fun h => h) ?_
  simp only [Option.getD_some] at hT1
  rw [wW_size] at hb1
  obtain ⟨cw0, cw1⟩ := wW_cells hb1
  have z1 := hb1.size
  rw [wW_size] at z1
  obtain ⟨Q, hQ0⟩ : ∃ Q, nn / 2 ^ i = Q := ⟨_, rfl⟩
  have hsh : (nn : Int) / 2 ^ i = (Q : Int) := by
    rw [← hQ0]
    simp
  have HQ0 := hideIt hQ0
  have hm12 : m1 ≤ 12 := by have := HQ.out.fp.2.2.1; have := hT1.1; omega
  have HTB : Hid (∀ t ∈ ts, tB t = true ∧ ∀ x ∈ t, 0 ≤ x ∧ x < (nn : Int)) := fun t ht => by
    have h1 := HQ.out.fp.q.1 t ht
    refine ⟨h1.1, fun x hx => ⟨?_, h1.2 x hx⟩⟩
    have := ((tB_iff t).1 h1.1).1 x hx
    unfold vB at this
    have := of_decide_eq_true this
    omega
  obtain ⟨W, hW⟩ : ∃ W, W = w1.alloc (.cells #[.int .i64 (nn : Int), .slice a1 m1 c1] 57) := ⟨_, rfl⟩
  have hbW : Below w1.heap.size w1 W := by rw [hW]; exact (Below.refl _ _).alloc (Nat.le_refl _) _
  have hzW : W.heap.size = w1.heap.size + 1 := by rw [hW]; simp
  have HCW : Hid (∀ u, Below W.heap.size W u → ((u.cell? ⟨w.heap.size, 0, none⟩ = some (.int .i64 (nn : Int)) ∧ u.cell? ⟨w.heap.size, 1, none⟩ = some (.slice a n c)) ∧ (u.cell? ⟨w1.heap.size, 0, none⟩ = some (.int .i64 (nn : Int)) ∧ u.cell? ⟨w1.heap.size, 1, none⟩ = some (.slice a1 m1 c1))) ∧ Good w u) := fun u hu => by
    have hu1 : Below w1.heap.size w1 u := hbW.trans (hu.mono (by omega))
    refine ⟨⟨wW_cells (hb1.trans (hu1.mono z1)), ?_, ?_⟩, (hfa.trans (hb1.mono (by omega))).trans (hu1.mono (by omega))⟩
    · rw [hu.cell (p := ⟨w1.heap.size, 0, none⟩) (by show w1.heap.size < _; omega), hW]; simp
    · rw [hu.cell (p := ⟨w1.heap.size, 1, none⟩) (by show w1.heap.size < _; omega), hW]; simp
  have HTs := hideIt (hT1.up hbW)
  have HLs : Hid (∀ u, Below W.heap.size W u → Ls u w.heap.size a n ls) := fun u hu => HR.out.below (HCW.out u hu).2 (Nat.le_refl _)
  have k1 := (HCW.out W (Below.refl _ _)).1.2.2
  clear HFA hT1 hb1 hbW cw0 cw1
  go_wp2
  rw [← hW]
  go_loopw [23] (fun i wr => ∃ k : Nat, k ≤ m1 ∧ i = .int .i64 (k : Int) ∧ Hid (∀ j t, j < k → ts[j]? = some t → 1 < (vsL t).length → (vsL t).length ≤ Q) ∧ Good W wr) (fun i _ => m1 - (intOf i).toNat)
  case atStart => exact ⟨0, by omega, rfl, fun j t hj => by omega, Good.refl _⟩
  case round =>
    obtain ⟨k, hk, rfl, HK, hg⟩ := hrel
    obtain ⟨⟨⟨cw0, cw1⟩, cf0, cf1⟩, hgw⟩ := HCW.out wr hg
    have HG := hideIt hg
    by_cases hlt : k < m1
    · rcases (HTs.out.up hg).2 with hz | ⟨b, off, rfl, hbl, hc⟩
      · omega
      · obtain ⟨t, ht⟩ : ∃ t, ts[k]? = some t := ⟨ts[k]'(by have := HTs.out.1; omega), List.getElem?_eq_getElem (by have := HTs.out.1; omega)⟩
        obtain ⟨x, cx, e0, iI, _⟩ := hc k t ht
        have htm := List.mem_of_getElem? ht
        have hB := (HTB.out t htm).1
        have hhalf := vs_half hB
        have hl23 := tB_len hB
        have b1 : (0 : Int) ≤ (k : Int) := by omega
        have b2 : (k : Int) < (m1 : Int) := by omega
        have HTk := hideIt ht
        have HV : Hid (∀ u, Good wr u → Calls Tryz.prog 102 #[.slice x t.length cx] u fun e v => ∃ a3 c3, e = .returned (.slice a3 (vsL t).length c3) ∧ Good wr v) := fun u hu =>
          (iVertsOf_any t t.length x cx (by omega) u (iI.up hu)).mono fun e v ⟨a3, m3, c3, he, ho, hb⟩ => by
            have hm : (vsL t).length = m3 := by have := ho.1; rw [ic_len] at this; omega
            subst hm
            exact ⟨a3, c3, he, hu.up hb⟩
        have HC : Hid (∀ u, Good wr u → u.cell? ⟨w.heap.size, 0, none⟩ = some (.int .i64 (nn : Int))) := fun u hu => (HCW.out u (HG.out.up hu)).1.1.1
        obtain ⟨V, hV⟩ : ∃ V, (vsL t).length = V := ⟨_, rfl⟩
        rw [hV] at HV hhalf
        have HVV := hideIt hV
        have g0 : Good wr wr.drew := (Good.refl _).drew
        clear hc ht iI hB htm hV
        by_cases h1 : 1 < t.length
        · have d1 : decide ((1 : Int) < (t.length : Int)) = true := decide_eq_true (by omega)
          by_cases hle : V ≤ Q
          · have d2 : decide ((Q : Int) < (V : Int)) = false := decide_eq_false (by omega)
            have HK2 : Hid (∀ j t, j < k + 1 → ts[j]? = some t → 1 < (vsL t).length → (vsL t).length ≤ Q) := fun j s hj hs h2 => by
              by_cases e : j = k
              · subst e
                rw [HTk.out] at hs
                obtain rfl := Option.some.inj hs
                rw [HVV.out]; exact hle
              · exact HK.out j s (by omega) hs h2
            clear HK
            go_wp2
            go_region_held3 (fun u => u.cell? ⟨w.heap.size, 0, none⟩ = some (.int .i64 (nn : Int))) (first | exact HC.out _ g1 | exact HC.out _ g0) ((go_at_call 102; refine (HV.out _ g0).mono ?_; rintro e w3 ⟨a3, c3, rfl, g1⟩))
            go_wp2
            exact ⟨⟨k + 1, by omega, by go_num, HK2, HG.out.up g1⟩, by simp [intOf]; omega⟩
          · have d2 : decide ((Q : Int) < (V : Int)) = true := decide_eq_true (by omega)
            have HN : Hid (¬ LvQ nn ls i ts) := fun hq => by
              have := hq.1 t (List.mem_of_getElem? HTk.out) (by rw [HVV.out]; omega)
              rw [HVV.out, HQ0.out] at this
              omega
            clear HK
            go_wp2
            go_region_held3 (fun u => u.cell? ⟨w.heap.size, 0, none⟩ = some (.int .i64 (nn : Int))) (first | exact HC.out _ g1 | exact HC.out _ g0) ((go_at_call 102; refine (HV.out _ g0).mono ?_; rintro e w3 ⟨a3, c3, rfl, g1⟩))
            go_wp2
            go_ret
            exact ⟨false, rfl, ⟨fun h => (by cases h), fun h => absurd h HN.out⟩, (HCW.out _ (HG.out.up g1)).2⟩
        · have d1 : decide ((1 : Int) < (t.length : Int)) = false := decide_eq_false (by omega)
          have HK2 : Hid (∀ j t, j < k + 1 → ts[j]? = some t → 1 < (vsL t).length → (vsL t).length ≤ Q) := fun j s hj hs h2 => by
            by_cases e : j = k
            · subst e
              rw [HTk.out] at hs
              obtain rfl := Option.some.inj hs
              rw [HVV.out] at h2
              omega
            · exact HK.out j s (by omega) hs h2
          clear HK
          go_wp2
          refine wp_region_any (by kernel_rfl) ?_
          change wpAny _ _ _ _ _ _ _ (World.drew _)
          refine takeOp (i := 0) (v := ?_) rfl (by kernel_rfl) (by kernel_rfl) (by kernel_rfl) (fun _ _ _ h => h) (by kernel_rfl) ?_ ?_
          rotate_left
          · intro w; go_simp; try with_reducible rfl
          refine takeOp (i := 1) (v := ?_) rfl (by kernel_rfl) (by kernel_rfl) (by kernel_rfl) (fun _ _ _ h => h) (by kernel_rfl) ?_ ?_
          rotate_left
          · intro w; go_simp; try with_reducible rfl
          refine takeOp (i := 2) (v := ?_) rfl (by kernel_rfl) (by kernel_rfl) (by kernel_rfl) (fun _ _ _ h => h) (by kernel_rfl) ?_ ?_
          rotate_left
          · intro w; go_simp; try with_reducible rfl
          refine takeOp (i := 3) (v := ?_) rfl (by kernel_rfl) (by kernel_rfl) (by kernel_rfl) (fun _ _ _ h => h) (by kernel_rfl) ?_ ?_
          rotate_left
          · intro w; go_simp; try with_reducible rfl
          refine skipOp (i := 4) rfl (by kernel_rfl) (by kernel_rfl) (by kernel_rfl) (fun _ _ _ h => h) (by kernel_rfl) ?_
          refine skipOp (i := 5) rfl (by kernel_rfl) (by kernel_rfl) (by kernel_rfl) (fun _ _ _ h => h) (by kernel_rfl) ?_
          refine skipOp (i := 6) rfl (by kernel_rfl) (by kernel_rfl) (by kernel_rfl) (fun _ _ _ h => h) (by kernel_rfl) ?_
          refine skipOp (i := 7) rfl (by kernel_rfl) (by kernel_rfl) (by kernel_rfl) (fun _ _ _ h => h) (by kernel_rfl) ?_
          refine skipOp (i := 8) rfl (by kernel_rfl) (by kernel_rfl) (by kernel_rfl) (fun _ _ _ h => h) (by kernel_rfl) ?_
          refine skipOp (i := 9) rfl (by kernel_rfl) (by kernel_rfl) (by kernel_rfl) (fun _ _ _ h => h) (by kernel_rfl) ?_
          refine skipOp (i := 10) rfl (by kernel_rfl) (by kernel_rfl) (by kernel_rfl) (fun _ _ _ h => h) (by kernel_rfl) ?_
          refine skipOp (i := 11) rfl (by kernel_rfl) (by kernel_rfl) (by kernel_rfl) (fun _ _ _ h => h) (by kernel_rfl) ?_
          refine wpAny_ready (rs := [12]) (by kernel_rfl) (by simp) ?_
          refine AllReady.cons rfl (fun K hK => ?_) AllReady.nil
          go_simp
          refine hK _ _ ?_
          clear hK K
          refine wpAny_done (by kernel_rfl) ?_ _
          go_wp2
          exact ⟨⟨k + 1, by omega, by go_num, HK2, HG.out.drew⟩, by simp [intOf]; omega⟩
    · obtain rfl : k = m1 := by omega
      have HA : Hid (∀ t ∈ ts, 1 < (vsL t).length → (vsL t).length ≤ nn / 2 ^ i) := fun t ht h2 => by
        obtain ⟨j, hj⟩ := List.mem_iff_getElem?.1 ht
        rw [HQ0.out]
        exact HK.out j t (by have := (List.getElem?_eq_some_iff.1 hj).1; have := HTs.out.1; omega) hj h2
      have HRt := hideIt (rootsOf_any nn ts k a1 c1 hn12 hm12 (fun t ht => by have h1 := HTB.out t ht; have h2 := tB_len h1.1; exact ⟨by omega, h2.2, h1.2⟩) HQ.out.fp.q.2.1 wr (HTs.out.up hg))
      clear HK hg
      go_wp2_with (go_at_call 92; refine HRt.out.mono ?_; rintro e w2 ⟨gr, L, rfl, ho2, hL2, hb2⟩; refine Hid.out ?_)
      refine (show ∀ {p : Prop}, p → Hid p from fun h => h) ?_
      have hG2 : Good W w2 := HG.out.up hb2
      obtain ⟨⟨⟨cw0', cw1'⟩, _⟩, _⟩ := HCW.out w2 hG2
      have hLl : L.length = nn := by have := ho2.1; rw [ic_len] at this; omega
      have HL := hideIt hL2
      have HO := hideIt ho2
      have HG2 := hideIt hG2
      have hgr := (ho2.lt gr rfl).2
      clear HRt ho2 hL2 hb2 hG2 cw0 cw1 cf0 cf1 hgw
      go_wp2
      go_loopw [46] (fun i_1 wr => ∃ q : Nat, q ≤ n ∧ i_1 = .int .i64 (q : Int) ∧ Hid (∀ j x, j < q → ls[j]? = some x → x.t = false → x.l = (i : Int) → trI ts x.a = trI ts x.b) ∧ Good w2 wr) (fun i_1 _ => n - (intOf i_1).toNat)
      case atStart => exact ⟨0, by omega, rfl, fun j x hj => by omega, Good.refl _⟩
      case round =>
        obtain ⟨q, hq, rfl, HK, hg⟩ := hrel
        clear cw0' cw1'
        have hz3 := hg.size
        by_cases hlt2 : q < n
        · obtain ⟨b, off, x, rfl, hbl, hxk, hat⟩ := (HLs.out wr (HG2.out.up hg)).at hlt2
          have e0 := hat.ca
          have e1 := hat.cb
          have e2 := hat.cl
          have e3 := hat.ct
          have b1 : (0 : Int) ≤ (q : Int) := by omega
          have b2 : (q : Int) < (n : Int) := by omega
          have HX := hideIt hxk
          have HGa := hideIt (hg.alloc (.cells #[.int .i64 x.a, .int .i64 x.b, .int .i64 x.l, .bool x.t] 52))
          cases ht : x.t with
          | true =>
            rw [ht] at e3 HGa
            have HK2 : Hid (∀ j x, j < q + 1 → ls[j]? = some x → x.t = false → x.l = (i : Int) → trI ts x.a = trI ts x.b) := fun j y hj hy h1 h2 => by
              by_cases e : j = q
              · subst e
                rw [HX.out] at hy
                obtain rfl := Option.some.inj hy
                rw [ht] at h1; cases h1
              · exact HK.out j y (by omega) hy h1 h2
            clear HK hxk hat ht hg
            go_wp2
            go_quiet (fail)
            go_wp2
            exact ⟨⟨q + 1, by omega, by go_num, HK2, below_drewN HGa.out _⟩, by simp [intOf]; omega⟩
          | false =>
            rw [ht] at e3 HGa
            by_cases hli : x.l = (i : Int)
            · have hed := HEd.out x (List.mem_of_getElem? hxk)
              obtain ⟨ua, hua⟩ : ∃ u : Nat, x.a = (u : Int) := ⟨x.a.toNat, by omega⟩
              obtain ⟨ub, hub⟩ : ∃ u : Nat, x.b = (u : Int) := ⟨x.b.toNat, by omega⟩
              obtain ⟨s, hs, hus⟩ := HQ.out.cov x.a (by omega) (by omega)
              obtain ⟨s', hs', hus'⟩ := HQ.out.cov x.b (by omega) (by omega)
              obtain ⟨p, hp⟩ : ∃ p, s[0]? = some p := ⟨_, List.getElem?_eq_getElem (List.length_pos_of_mem hus)⟩
              obtain ⟨p', hp'⟩ : ∃ p, s'[0]? = some p := ⟨_, List.getElem?_eq_getElem (List.length_pos_of_mem hus')⟩
              have hsame := head_same HQ.out hs hs' hus hus' hp hp'
              have h1 := HL.out s hs ua (by rw [← hua]; exact hus)
              have h2 := HL.out s' hs' ub (by rw [← hub]; exact hus')
              rw [hp] at h1
              rw [hp'] at h2
              have HOw := own_up HO.out HGa.out
              have r1 : (wr.alloc (.cells #[.int .i64 x.a, .int .i64 x.b, .int .i64 x.l, .bool false] 52)).cell? ⟨gr, ua, none⟩ = some (.int .i64 p) := by rw [HOw.cellAt ua (by omega)]; exact ic_at h1
              have r2 : (wr.alloc (.cells #[.int .i64 x.a, .int .i64 x.b, .int .i64 x.l, .bool false] 52)).cell? ⟨gr, ub, none⟩ = some (.int .i64 p') := by rw [HOw.cellAt ub (by omega)]; exact ic_at h2
              have b3 : (0 : Int) ≤ (ua : Int) := by omega
              have b4 : (ua : Int) < (nn : Int) := by omega
              have b5 : (0 : Int) ≤ (ub : Int) := by omega
              have b6 : (ub : Int) < (nn : Int) := by omega
              have d2 : (x.l == (i : Int)) = true := by simpa using hli
              have HSame := hideIt hsame
              have HGb := hideIt HGa.out
              have HX2 : Hid (∀ y, ls[q]? = some y → (trI ts y.a = trI ts y.b ↔ p = p')) := fun y hy => by
                rw [HX.out] at hy
                obtain rfl := Option.some.inj hy
                exact HSame.out.symm
              rw [hua, hub] at HGb r1 r2
              rw [hua] at e0
              rw [hub] at e1
              rw [hli] at e2 HGb r1 r2
              have HNq : Hid (p ≠ p' → ¬ LvQ nn ls i ts) := fun hne hq => hne (HSame.out.2 (hq.2 x (List.mem_of_getElem? HX.out) ht hli))
              clear hxk hat ht hg hli d2 hs hs' hus hus' hp hp' hsame h1 h2 HOw HGa hed hua hub
              by_cases hpp : p = p'
              · have d3 : (p != p') = false := by simpa using hpp
                have HK2 : Hid (∀ j x, j < q + 1 → ls[j]? = some x → x.t = false → x.l = (i : Int) → trI ts x.a = trI ts x.b) := fun j y hj hy h1 h2 => by
                  by_cases e : j = q
                  · subst e
                    exact (HX2.out y hy).2 hpp
                  · exact HK.out j y (by omega) hy h1 h2
                have HPP := hideIt hpp
                clear HK hpp
                go_wp2
                go_quiet (fail)
                go_wp2
                exact ⟨⟨q + 1, by omega, by go_num, HK2, below_drewN HGb.out _⟩, by simp [intOf]; omega⟩
              · have d3 : (p != p') = true := by simpa using hpp
                have HN2 := hideIt (HNq.out hpp)
                clear HK hpp
                go_wp2
                go_quiet (fail)
                go_wp2
                go_ret
                exact ⟨false, rfl, ⟨fun h => (by cases h), fun h => absurd h HN2.out⟩, (HCW.out _ (HG2.out.up (below_drewN HGb.out _))).2⟩
            · have d2 : (x.l == (i : Int)) = false := by simpa using hli
              have HK2 : Hid (∀ j x, j < q + 1 → ls[j]? = some x → x.t = false → x.l = (i : Int) → trI ts x.a = trI ts x.b) := fun j y hj hy h1 h2 => by
                by_cases e : j = q
                · subst e
                  rw [HX.out] at hy
                  obtain rfl := Option.some.inj hy
                  exact absurd h2 hli
                · exact HK.out j y (by omega) hy h1 h2
              clear HK hxk hat ht hg hli
              go_wp2
              go_quiet (fail)
              go_wp2
              exact ⟨⟨q + 1, by omega, by go_num, HK2, below_drewN HGa.out _⟩, by simp [intOf]; omega⟩
        · obtain rfl : q = n := by omega
          have HY : Hid (LvQ nn ls i ts) := ⟨HA.out, fun x hx h1 h2 => by
            obtain ⟨j, hj⟩ := List.mem_iff_getElem?.1 hx
            exact HK.out j x (by have := (List.getElem?_eq_some_iff.1 hj).1; omega) hj h1 h2⟩
          clear HK
          go_wp2
          go_ret
          exact ⟨true, rfl, ⟨fun _ => HY.out, fun _ => rfl⟩, (HCW.out _ (HG2.out.up hg)).2⟩
end Go.Proofs.YtgjnlhdgekfieaaGreat
namespace Go.Proofs.YtgjnlhdgekfieaaGreat
open Go.RowKit

theorem LvOk_iff {nn : Nat} {ls : List Ld} {i : Nat} {ts : List (List Int)} (h : ftK (fE ls (i : Int)) nn nn = some ts) : LvOk nn ls i ↔ LvQ nn ls i ts :=
  ⟨fun ⟨ts', h1, h2⟩ => by rw [h] at h1; obtain rfl := Option.some.inj h1; exact h2, fun h2 => ⟨ts, h, h2⟩⟩
set_option maxRecDepth 100000 in
set_option maxHeartbeats 4000000 in
theorem levelOk_no (nn : Nat) (ls : List Ld) (i : Int) (n : Nat) (a : Option Addr) (c : Nat) (hG : gB (nn : Int) (gE ls) = true) (hl : ∀ x ∈ ls, 0 ≤ x.l) (hB : ¬ Bridge (fE ls 0)) (w : World) (h : Ls w w.heap.size a n ls) :
    Calls Tryz.prog 87 #[.agg #[.int .i64 (nn : Int), .slice a n c], .int .i64 i] w fun e w' => e = .returned (.bool false) ∧ Below w.heap.size w w' := by
  have hfa : Good w (wW w (nn : Int) a n c) := wW_good w (nn : Int) a n c
  have HFA := hideIt ((iForestAt_no nn ls i n a c hG hl hB _ (h.up hfa)).mono fun _ _ h => h.weak)
  clear h hG hl hB
  go_enter Tryz.func87, Tryz.ntmps87
  go_wp2_with (go_at_call 33; refine HFA.out.mono ?_; rintro e w1 ⟨a1, m1, c1, rfl, hT1, hb1⟩)
  go_ret
  exact ⟨rfl, (hfa.up hb1).alloc _⟩
set_option maxRecDepth 100000 in
set_option maxHeartbeats 4000000 in
theorem iWebOk_any (N : Int) (ls : List Ld) (n : Nat) (a : Option Addr) (c : Nat) (hn : n ≤ 1048576) (w : World) (h : Ls w w.heap.size a n ls) :
    Calls Tryz.prog 20 #[.agg #[.int .i64 N, .slice a n c]] w fun e w' => e = .returned (.bool (wB N ls)) ∧ Below w.heap.size w w' := by
  have hlen := h.1
  have hfa : Good w (wW w N a n c) := wW_good w N a n c
  have HR := hideIt h
  have HGo := hideIt (iGraphOf_any N ls n a c hn _ (h.up hfa))
  have HGk : Hid (∀ (g : Nat) (u : World), u.ownsRow (wW w N a n c).heap.size 28 2 (.slice (some ⟨g, 0, none⟩) n n) n (ecells (gE ls)) → Calls Tryz.prog 86 #[.agg #[.int .i64 N, .slice (some ⟨g, 0, none⟩) n n]] u fun e w' => e = .returned (.bool (gB N (gE ls))) ∧ Below u.heap.size u w') := fun g u hu => iGraphOk_any N (gE ls) n (some ⟨g, 0, none⟩) n hn u (Es_of_own hu)
  have HC : Hid (∀ u, Good (wW w N a n c) u → u.cell? ⟨w.heap.size, 0, none⟩ = some (.int .i64 N) ∧ u.cell? ⟨w.heap.size, 1, none⟩ = some (.slice a n c)) := fun u hu => by
    unfold Good at hu
    rw [wW_size] at hu
    exact wW_cells hu
  clear h
  cases hG : gB N (gE ls) with
  | false =>
    rw [hG] at HGk
    have HN := hideIt (wB_no (N := N) (ls := ls) fun hw => by have := hw.1; rw [hG] at this; cases this)
    clear hG
    go_enter Tryz.func20, Tryz.ntmps20
    go_wp2_with (first | (go_at_call 14; refine HGo.out.mono ?_; rintro e w1 ⟨g, rfl, ho1, hb1⟩; have HG2 := HGk.out g w1 ho1; clear ho1) | (go_at_call 86; refine HG2.mono ?_; rintro e w2 ⟨rfl, hb2⟩))
    go_ret
    exact ⟨by rw [HN.out]; rfl, (hfa.up hb1).up hb2⟩
  | true =>
    rw [hG] at HGk
    obtain ⟨nn, rfl, hn1, hn12⟩ := gB_n hG
    have h66 : n ≤ 66 := by have := (gB_chk hG).2.2; rw [gE_len] at this; omega
    go_enter Tryz.func20, Tryz.ntmps20
    go_wp2_with (first | (go_at_call 14; refine HGo.out.mono ?_; rintro e w1 ⟨g, rfl, ho1, hb1⟩; have HG2 := HGk.out g w1 ho1; clear ho1) | (go_at_call 86; refine HG2.mono ?_; rintro e w2 ⟨rfl, hb2⟩; refine Hid.out ?_))
    refine (show ∀ {p : Prop}, p → Hid p from fun h => h) ?_
    have G2 : Good (wW w (nn : Int) a n c) w2 := (show Good (wW w (nn : Int) a n c) w1 from hb1).up hb2
    obtain ⟨cw0, cw1⟩ := HC.out w2 G2
    have HG0 := hideIt hG
    clear HGo HGk HG2 hb1 hb2 hG
    go_wp2
    go_loopw [13] (fun i wr => ∃ k : Nat, k ≤ n ∧ i = .int .i64 (k : Int) ∧ Hid (∀ j x, j < k → ls[j]? = some x → 0 ≤ x.l ∧ x.l ≤ 4) ∧ Good (wW w (nn : Int) a n c) wr) (fun i _ => n - (intOf i).toNat)
    case atStart => exact ⟨0, by omega, rfl, fun j x hj => by omega, G2⟩
    case round =>
      obtain ⟨k, hk, rfl, HK, hg⟩ := hrel
      clear G2 cw0 cw1
      by_cases hlt : k < n
      · obtain ⟨b, off, x, rfl, hbl, hxk, hat⟩ := ((HR.out.up (wW_good w _ a n c)).up hg).at hlt
        have e0 := hat.ca
        have e1 := hat.cb
        have e2 := hat.cl
        have e3 := hat.ct
        have b1 : (0 : Int) ≤ (k : Int) := by omega
        have b2 : (k : Int) < (n : Int) := by omega
        have HGa := hideIt (hg.alloc (.cells #[.int .i64 x.a, .int .i64 x.b, .int .i64 x.l, .bool x.t] 52))
        have HX := hideIt hxk
        clear hxk hat hg
        by_cases hlow : x.l < 0
        · have d1 : decide (x.l < 0) = true := decide_eq_true hlow
          have HN := hideIt (wB_no (N := (nn : Int)) (ls := ls) fun hw => by have := hw.2.1 x (List.mem_of_getElem? HX.out); omega)
          clear HK hlow
          go_wp2
          go_ret
          exact ⟨by rw [HN.out]; rfl, hfa.up HGa.out⟩
        · have d1 : decide (x.l < 0) = false := decide_eq_false hlow
          by_cases hhi : 4 < x.l
          · have d2 : decide (4 < x.l) = true := decide_eq_true hhi
            have HN := hideIt (wB_no (N := (nn : Int)) (ls := ls) fun hw => by have := hw.2.1 x (List.mem_of_getElem? HX.out); omega)
            clear HK hlow hhi
            go_wp2
            go_ret
            exact ⟨by rw [HN.out]; rfl, hfa.up HGa.out⟩
          · have d2 : decide (4 < x.l) = false := decide_eq_false hhi
            have HK2 : Hid (∀ j x, j < k + 1 → ls[j]? = some x → 0 ≤ x.l ∧ x.l ≤ 4) := fun j y hj hy => by
              by_cases e : j = k
              · subst e
                rw [HX.out] at hy
                obtain rfl := Option.some.inj hy
                omega
              · exact HK.out j y (by omega) hy
            clear HK hlow hhi
            go_wp2
            exact ⟨⟨k + 1, by omega, by go_num, HK2, HGa.out⟩, by simp [intOf]; omega⟩
      · obtain rfl : k = n := by omega
        have HLv : Hid (∀ x ∈ ls, 0 ≤ x.l ∧ x.l ≤ 4) := fun x hx => by
          obtain ⟨j, hj⟩ := List.mem_iff_getElem?.1 hx
          exact HK.out j x (by have := (List.getElem?_eq_some_iff.1 hj).1; omega) hj
        have HLs : Hid (∀ u, Good (wW w (nn : Int) a k c) u → Ls u u.heap.size a k ls) := fun u hu => (HR.out.up (wW_good w _ a k c)).up hu
        clear HK
        by_cases hBr : Bridge (fE ls 0)
        · have HLo : Hid (∀ (i : Nat) (u : World), i < 5 → Good (wW w (nn : Int) a k c) u → Calls Tryz.prog 87 #[.agg #[.int .i64 (nn : Int), .slice a k c], .int .i64 (i : Int)] u fun e w' => ∃ b : Bool, e = .returned (.bool b) ∧ (b = true ↔ LvOk nn ls i) ∧ Good (wW w (nn : Int) a k c) w') := fun i u hi hu => by
            obtain ⟨ts, hts⟩ := ft_some (fE_ends HG0.out (i : Int)) (hBr.sub fun e he => fE_low (by omega) he) nn (Nat.le_refl _)
            refine (levelOk_any nn ls i hi k a c HG0.out (fun x hx => (HLv.out x hx).1) hBr ts hts u (HLs.out u hu)).mono fun e v ⟨b, h1, h2, h3⟩ => ⟨b, h1, ?_, hu.up h3⟩
            rw [h2, LvOk_iff hts]
          have HGs := hideIt hg
          clear hBr hg
          go_wp2
          go_loopw [5] (fun i wr => ∃ q : Nat, q ≤ 5 ∧ i = .int .i64 (q : Int) ∧ Hid (∀ j, j < q → LvOk nn ls j) ∧ Good (wW w (nn : Int) a k c) wr) (fun i _ => 5 - (intOf i).toNat)
          case atStart => exact ⟨0, by omega, rfl, fun j hj => by omega, HGs.out⟩
          case round =>
            obtain ⟨q, hq, rfl, HQ, hg⟩ := hrel
            clear HGs
            obtain ⟨cw0, cw1⟩ := HC.out wr hg
            by_cases hq5 : q < 5
            · have d0 : decide ((q : Int) ≤ 4) = true := decide_eq_true (by omega)
              have HCl := hideIt (HLo.out q wr hq5 hg)
              clear hg
              go_wp2_with (go_at_call 87; refine HCl.out.mono ?_; rintro e w3 ⟨b, rfl, hb3, hg3⟩; refine Hid.out ?_)
              refine (show ∀ {p : Prop}, p → Hid p from fun h => h) ?_
              cases b with
              | true =>
                have HQ2 : Hid (∀ j, j < q + 1 → LvOk nn ls j) := fun j hj => by
                  by_cases e : j = q
                  · subst e; exact hb3.1 rfl
                  · exact HQ.out j (by omega)
                clear HQ hb3
                go_wp2
                exact ⟨⟨q + 1, by omega, by go_num, HQ2, hg3⟩, by simp [intOf]; omega⟩
              | false =>
                have HN := hideIt (wB_no (N := (nn : Int)) (ls := ls) fun hw => by
                  have := hw.2.2 q hq5
                  rw [Int.toNat_natCast] at this
                  have := hb3.2 this
                  cases this)
                clear HQ hb3
                go_wp2
                go_ret
                exact ⟨by rw [HN.out]; rfl, hfa.up hg3⟩
            · have d0 : decide ((q : Int) ≤ 4) = false := decide_eq_false (by omega)
              have HY := hideIt (wB_yes (N := (nn : Int)) (ls := ls) ⟨HG0.out, HLv.out, fun i hi => by rw [Int.toNat_natCast]; exact HQ.out i (by omega)⟩)
              clear HQ
              go_wp2
              go_ret
              exact ⟨by rw [HY.out]; rfl, hfa.up hg⟩
        · have HLo := hideIt ((levelOk_no nn ls 0 k a c HG0.out (fun x hx => (HLv.out x hx).1) hBr wr (HLs.out wr hg)).mono fun e v ⟨h1, h2⟩ => And.intro h1 (hg.up h2))
          have HN := hideIt (wB_no (N := (nn : Int)) (ls := ls) fun hw => hBr hw.bridge)
          have HGs := hideIt hg
          obtain ⟨cw0, cw1⟩ := HC.out wr hg
          clear hBr hg
          go_wp2
          go_loopw [5] (fun i wq => i = .int .i64 0 ∧ wq = wr) (fun i _ => 5 - (intOf i).toNat)
          case atStart => exact ⟨rfl, rfl⟩
          case round =>
            obtain ⟨rfl, hw⟩ := hrel
            have hw' := hw.symm
            subst hw'
            go_wp2_with (go_at_call 87; refine HLo.out.mono ?_; rintro e w3 ⟨rfl, hg3⟩)
            go_ret
            exact ⟨by rw [HN.out]; rfl, hfa.up hg3⟩
end Go.Proofs.YtgjnlhdgekfieaaGreat
namespace Go.Proofs.YtgjnlhdgekfieaaGreat
open Go.RowKit

/-- where the edge stands that goes -/
theorem take_at {N : Int} {ls : List Ld} {f : EdgeV} (h : WOk N ls) (hh : hasB (gE ls) f = true) : ∃ (k : Nat) (x : Ld), ls[k]? = some x ∧ x.e = f ∧ idxE (gE ls) f = (k : Int) ∧ ls.take k ++ ls.drop (k + 1) = ouL ls f ∧ ls.find? (fun x => decide (x.e = f)) = some x := by
  have hm : f ∈ gE ls := by unfold hasB at hh; simpa using hh
  obtain ⟨y, hy, hye⟩ := List.mem_map.1 hm
  have hp := gE_asc h.1
  obtain ⟨k, hk⟩ := List.mem_iff_getElem?.1 hy
  have hkl : k < ls.length := (List.getElem?_eq_some_iff.1 hk).1
  have hky : ls[k] = y := (List.getElem?_eq_some_iff.1 hk).2
  have huniq : ∀ (j : Nat) (z : Ld), ls[j]? = some z → z.e = f → j = k := fun j z hj hz => by
    have hjl : j < ls.length := (List.getElem?_eq_some_iff.1 hj).1
    have hjz : ls[j] = z := (List.getElem?_eq_some_iff.1 hj).2
    rw [List.pairwise_iff_getElem] at hp
    rcases Nat.lt_trichotomy j k with h1 | h1 | h1
    · have := hp j k hjl hkl h1
      rw [hjz, hky, hz, hye, lt_irrefl'] at this
      cases this
    · exact h1
    · have := hp k j hkl hjl h1
      rw [hjz, hky, hz, hye, lt_irrefl'] at this
      cases this
  refine ⟨k, y, hk, hye, idxE_yes (by rw [gE_at hk, hye]) (fun j hj hjf => ?_), ?_, ?_⟩
  · unfold gE at hjf
    rw [List.getElem?_map] at hjf
    obtain ⟨z, hz, hze⟩ := Option.map_eq_some_iff.1 hjf
    have := huniq j z hz hze
    omega
  · unfold ouL
    conv => rhs; rw [← List.take_append_drop k ls, List.drop_eq_getElem_cons hkl]
    rw [List.filter_append, List.filter_cons_of_neg (by rw [hky]; simpa using hye)]
    congr 1
    · rw [List.filter_eq_self.2]
      intro z hz
      obtain ⟨j, hj⟩ := List.mem_iff_getElem?.1 hz
      have hjk : j < k := by have := (List.getElem?_eq_some_iff.1 hj).1; simp at this; omega
      rw [List.getElem?_take_of_lt hjk] at hj
      simp
      intro hze
      have := huniq j z hj hze
      omega
    · rw [List.filter_eq_self.2]
      intro z hz
      obtain ⟨j, hj⟩ := List.mem_iff_getElem?.1 hz
      rw [List.getElem?_drop] at hj
      simp
      intro hze
      have := huniq _ z hj hze
      omega
  · rw [List.find?_eq_some_iff_getElem]
    refine ⟨by simpa using hye, k, hkl, hky, fun j hj => ?_⟩
    simp
    intro hze
    have := huniq j _ (List.getElem?_eq_getElem (by omega)) hze
    omega
/-- WebTake's edges, what takes the place, whether something does -/
def wtL (o : Option (List Ld × Option EdgeV)) : List Ld := match o with | some r => r.1 | none => []
def wtE (o : Option (List Ld × Option EdgeV)) : EdgeV := match o with | some r => r.2.getD (0, 0) | none => (0, 0)
def wtF (o : Option (List Ld × Option EdgeV)) : Bool := match o with | some r => r.2.isSome | none => false
/-- the answer of WebTake -/
def WtA (w : World) (N : Int) (o : Option (List Ld × Option EdgeV)) (e : Ending) (w' : World) : Prop :=
  ∃ a m c, e = .returned (.tuple #[.agg #[.int .i64 (if o.isSome then N else 0), .slice a m c], .agg #[.int .i64 (wtE o).1, .int .i64 (wtE o).2], .bool (wtF o), .bool o.isSome]) ∧ w'.ownsRow w.heap.size 52 4 (.slice a m c) m (lcells (wtL o)) ∧ Below w.heap.size w w'
theorem wtO_yes {nn : Nat} {ls : List Ld} {f : EdgeV} {x : Ld} (h1 : WOk (nn : Int) ls) (h2 : hasB (gE ls) f = true) (h3 : ls.find? (fun x => decide (x.e = f)) = some x) :
    wtO (nn : Int) ls f = some (if x.t then tkO nn f (x.l.toNat + 1) (ouL ls f) else (ouL ls f, none)) := by
  unfold wtO
  rw [if_pos ⟨h1, h2⟩, h3]
  simp
theorem wtO_no {N : Int} {ls : List Ld} {f : EdgeV} (h : ¬ (WOk N ls ∧ hasB (gE ls) f = true)) : wtO N ls f = none := by unfold wtO; rw [if_neg h]
/-- the world behind the boxes -/
def w4w (w : World) (N : Int) (a : Option Addr) (n c : Nat) (f : EdgeV) : World :=
  (((w.alloc (.cells #[.int .i64 N, .slice a n c] 26)).alloc (.cells #[.int .i64 f.1, .int .i64 f.2] 28)).alloc (.cells #[.int .i64 0, .slice none 0 0] 26)).alloc (.cells #[.int .i64 0, .int .i64 0] 28)
theorem w4w_size (w : World) (N : Int) (a : Option Addr) (n c : Nat) (f : EdgeV) : (w4w w N a n c f).heap.size = w.heap.size + 4 := by simp [w4w]
theorem w4w_good (w : World) (N : Int) (a : Option Addr) (n c : Nat) (f : EdgeV) : Good w (w4w w N a n c f) := ((((Good.refl w).alloc _).alloc _).alloc _).alloc _
/-- what the boxes hold, whatever has come since -/
structure In4 (w : World) (N : Int) (a : Option Addr) (n c : Nat) (f : EdgeV) (u : World) : Prop where
  good : Good (w4w w N a n c f) u
section
variable {w : World} {N : Int} {a : Option Addr} {n c : Nat} {f : EdgeV} {u v : World}
theorem In4.web (h : In4 w N a n c f u) : Box7 u w.heap.size 26 (.int .i64 N) (.slice a n c) := Box7.up ((((Box7.new w _ _ _ _ rfl).alloc _).alloc _).alloc _) h.good
theorem In4.edge (h : In4 w N a n c f u) : Box7 u (w.heap.size + 1) 28 (.int .i64 f.1) (.int .i64 f.2) := Box7.up (((Box7.new _ _ _ _ _ (by simp)).alloc _).alloc _) h.good
theorem In4.rw (h : In4 w N a n c f u) : Box7 u (w.heap.size + 1 + 1) 26 (.int .i64 0) (.slice none 0 0) := Box7.up ((Box7.new _ _ _ _ _ (by simp)).alloc _) h.good
theorem In4.re (h : In4 w N a n c f u) : Box7 u (w.heap.size + 1 + 1 + 1) 28 (.int .i64 0) (.int .i64 0) := Box7.up (Box7.new _ _ _ _ _ (by simp)) h.good
theorem In4.cells (h : In4 w N a n c f u) : (u.cell? ⟨w.heap.size, 0, none⟩ = some (.int .i64 N) ∧ u.cell? ⟨w.heap.size, 1, none⟩ = some (.slice a n c)) ∧ (u.cell? ⟨w.heap.size + 1, 0, none⟩ = some (.int .i64 f.1) ∧ u.cell? ⟨w.heap.size + 1, 1, none⟩ = some (.int .i64 f.2)) := ⟨⟨h.web.cell0, h.web.cell1⟩, h.edge.cell0, h.edge.cell1⟩
theorem In4.up (h : In4 w N a n c f u) (hb : Below u.heap.size u v) : In4 w N a n c f v := ⟨h.good.up hb⟩
theorem In4.start (w : World) (N : Int) (a : Option Addr) (n c : Nat) (f : EdgeV) : In4 w N a n c f (w4w w N a n c f) := ⟨Good.refl _⟩
theorem In4.below (h : In4 w N a n c f u) : Below w.heap.size w u := (w4w_good w N a n c f).up h.good
theorem In4.size (h : In4 w N a n c f u) : w.heap.size + 4 ≤ u.heap.size := by have := h.good.size; rw [w4w_size] at this; exact this
theorem In4.drew (h : In4 w N a n c f u) : In4 w N a n c f u.drew := ⟨h.good.drew⟩
/-- the results are laid into their boxes -/
def putR (w u : World) (N : Int) (a' : Option Addr) (m' c' : Nat) (d : EdgeV) : World :=
  (((u.setCell ⟨w.heap.size + 1 + 1, 0, none⟩ (.int .i64 N)).setCell ⟨w.heap.size + 1 + 1, 1, none⟩ (.slice a' m' c')).setCell ⟨w.heap.size + 1 + 1 + 1, 0, none⟩ (.int .i64 d.1)).setCell ⟨w.heap.size + 1 + 1 + 1, 1, none⟩ (.int .i64 d.2)
theorem putR_cells {M : Int} {a' : Option Addr} {m' c' : Nat} {d : EdgeV} {v0 v1 x0 x1 : Value} (h1 : Box7 u (w.heap.size + 1 + 1) 26 v0 v1) (h2 : Box7 u (w.heap.size + 1 + 1 + 1) 28 x0 x1) :
    ((putR w u M a' m' c' d).cell? ⟨w.heap.size + 1 + 1, 0, none⟩ = some (.int .i64 M) ∧ (putR w u M a' m' c' d).cell? ⟨w.heap.size + 1 + 1, 1, none⟩ = some (.slice a' m' c')) ∧
      ((putR w u M a' m' c' d).cell? ⟨w.heap.size + 1 + 1 + 1, 0, none⟩ = some (.int .i64 d.1) ∧ (putR w u M a' m' c' d).cell? ⟨w.heap.size + 1 + 1 + 1, 1, none⟩ = some (.int .i64 d.2)) := by
  have s1 := ((h1.set2 (.int .i64 M) (.slice a' m' c')).setOther (x := w.heap.size + 1 + 1 + 1) (j := 0) (.int .i64 d.1) (by omega)).setOther (x := w.heap.size + 1 + 1 + 1) (j := 1) (.int .i64 d.2) (by omega)
  have s2 := ((h2.setOther (x := w.heap.size + 1 + 1) (j := 0) (.int .i64 M) (by omega)).setOther (x := w.heap.size + 1 + 1) (j := 1) (.slice a' m' c') (by omega)).set2 (.int .i64 d.1) (.int .i64 d.2)
  exact ⟨⟨s1.cell0, s1.cell1⟩, s2.cell0, s2.cell1⟩
theorem putR_below {M : Int} {a' : Option Addr} {m' c' : Nat} {d : EdgeV} (h : Below w.heap.size w u) : Below w.heap.size w (putR w u M a' m' c' d) :=
  (((h.setCell (by show _ ≤ w.heap.size + 1 + 1; omega) _).setCell (by show _ ≤ w.heap.size + 1 + 1; omega) _).setCell (by show _ ≤ w.heap.size + 1 + 1 + 1; omega) _).setCell (by show _ ≤ w.heap.size + 1 + 1 + 1; omega) _
theorem putR_own {M : Int} {a' : Option Addr} {m' c' B : Nat} {d : EdgeV} {gs : List Ld} (hB : w.heap.size + 4 ≤ B) (h : u.ownsRow B 52 4 (.slice a' m' c') m' (lcells gs)) : (putR w u M a' m' c' d).ownsRow w.heap.size 52 4 (.slice a' m' c') m' (lcells gs) :=
  own_mono (own_setLow (own_setLow (own_setLow (own_setLow h _ 0 _ (by omega)) _ 1 _ (by omega)) _ 0 _ (by omega)) _ 1 _ (by omega)) (by omega)
theorem wta_no {o : Option (List Ld × Option EdgeV)} (ho : o = none) (h : Below w.heap.size w u) :
    WtA w N o (.returned (.tuple #[.agg #[.int .i64 0, .slice none 0 0], .agg #[.int .i64 0, .int .i64 0], .bool false, .bool false])) (putR w u 0 none 0 0 (0, 0)) := by
  subst ho
  exact ⟨none, 0, 0, rfl, World.ownsRow_nil _ _ _ _, putR_below h⟩
theorem wta_yes {o : Option (List Ld × Option EdgeV)} {r : List Ld × Option EdgeV} (ho : o = some r) {a' : Option Addr} {m' c' B : Nat} (hB : w.heap.size + 4 ≤ B) (h : Below w.heap.size w u) (hown : u.ownsRow B 52 4 (.slice a' m' c') m' (lcells r.1)) {d : EdgeV} (hd : d = r.2.getD (0, 0)) {t : Bool} (ht : t = r.2.isSome) :
    WtA w N o (.returned (.tuple #[.agg #[.int .i64 N, .slice a' m' c'], .agg #[.int .i64 d.1, .int .i64 d.2], .bool t, .bool true])) (putR w u N a' m' c' d) := by
  subst ho hd ht
  exact ⟨a', m', c', rfl, putR_own hB hown, putR_below h⟩
end
/-- behind the lost edge and the web without it: each in its box, the edges ours -/
structure Tk5 (W wx : World) (b9 b10 : Nat) (x : Ld) (N : Int) (a' : Option Addr) (m' c' : Nat) (L : List Ld) : Prop where
  good : Good W wx
  bx : Box4 wx b9 x
  bw : Box7 wx b10 26 (.int .i64 N) (.slice a' m' c')
  own : wx.ownsRow W.heap.size 52 4 (.slice a' m' c') m' (lcells L)
  l9 : W.heap.size ≤ b9
  l10 : W.heap.size ≤ b10
  ne : ∀ g, a' = some ⟨g, 0, none⟩ → g ≠ b9 ∧ g ≠ b10
def Z4 : Obj := .cells #[.int .i64 0, .int .i64 0, .int .i64 0, .bool false] 52
section
variable {W w8 : World} {b9 b10 B : Nat} {x : Ld} {N : Int} {a' : Option Addr} {m' c' : Nat} {L : List Ld} {v0 v1 : Value} {y : Ld}
theorem Good.set2 {w u : World} (h : Good w u) (b : Nat) (v0 v1 : Value) (hb : w.heap.size ≤ b) : Good w ((u.setCell ⟨b, 0, none⟩ v0).setCell ⟨b, 1, none⟩ v1) := Below.setCell (Below.setCell h hb _) hb _
theorem Box4.setOther {w : World} {b G j : Nat} (h : Box4 w b x) (v : Value) (hb : b ≠ G) : Box4 (w.setCell ⟨G, j, none⟩ v) b x := by
  unfold Box4; rw [heap_setCell_other w ⟨G, j, none⟩ b v hb]; exact h
theorem Box4.alloc {w : World} {b : Nat} (h : Box4 w b x) (o : Obj) : Box4 (w.alloc o) b x := h.up ((Below.refl _ _).alloc (Nat.le_refl _) _)
theorem own_alloc8 {e s n : Nat} {v : Value} {xs : List Value} (h : w8.ownsRow B e s v n xs) (o : Obj) : (w8.alloc o).ownsRow B e s v n xs := own_up h ((Below.refl _ _).alloc (Nat.le_refl _) _)
theorem own_lo {g : Nat} (h : w8.ownsRow B 52 4 (.slice a' m' c') m' (lcells L)) (ha : a' = some ⟨g, 0, none⟩) : B ≤ g ∧ g < w8.heap.size := by subst ha; exact h.lt g rfl
theorem tk_bb (hg : Good W w8) (h9 : Box4 w8 b9 y) (h10 : Box7 w8 b10 26 v0 v1) (ho : w8.ownsRow B 52 4 (.slice a' m' c') m' (lcells L)) (i9 : b9 < B) (i10 : b10 < B) (l9 : W.heap.size ≤ b9) (l10 : W.heap.size ≤ b10) (hne : b9 ≠ b10) :
    Tk5 W ((((((w8.setCell ⟨b9, 0, none⟩ (.int .i64 x.a)).setCell ⟨b9, 1, none⟩ (.int .i64 x.b)).setCell ⟨b9, 2, none⟩ (.int .i64 x.l)).setCell ⟨b9, 3, none⟩ (.bool x.t)).setCell ⟨b10, 0, none⟩ (.int .i64 N)).setCell ⟨b10, 1, none⟩ (.slice a' m' c')) b9 b10 x N a' m' c' L :=
  ⟨Below.setCell (Below.setCell (Good.set4 hg _ _ _ _ _ l9) l10 _) l10 _, ((h9.set4 x).setOther _ hne).setOther _ hne, ((((h10.setOther _ hne.symm).setOther _ hne.symm).setOther _ hne.symm).setOther _ hne.symm).set2 _ _,
    own_mono (own_setLow (own_setLow (own_setLow (own_setLow (own_setLow (own_setLow ho _ 0 _ i9) _ 1 _ i9) _ 2 _ i9) _ 3 _ i9) _ 0 _ i10) _ 1 _ i10) (by omega), l9, l10, fun g hg2 => by have := own_lo ho hg2; omega⟩
theorem tk_ba (hg : Good W w8) (h9 : Box4 w8 b9 y) (ho : w8.ownsRow B 52 4 (.slice a' m' c') m' (lcells L)) (i9 : b9 < B) (l9 : W.heap.size ≤ b9) (hb : w8.heap.size = b10) :
    Tk5 W (((((w8.setCell ⟨b9, 0, none⟩ (.int .i64 x.a)).setCell ⟨b9, 1, none⟩ (.int .i64 x.b)).setCell ⟨b9, 2, none⟩ (.int .i64 x.l)).setCell ⟨b9, 3, none⟩ (.bool x.t)).alloc (.cells #[.int .i64 N, .slice a' m' c'] 26)) b9 b10 x N a' m' c' L :=
  ⟨(Good.set4 hg _ _ _ _ _ l9).alloc _, (h9.set4 x).alloc _, Box7.new _ _ _ _ _ (by simpa using hb),
    own_mono (own_alloc8 (own_setLow (own_setLow (own_setLow (own_setLow ho _ 0 _ i9) _ 1 _ i9) _ 2 _ i9) _ 3 _ i9) _) (by omega), l9, by have := hg.size; omega, fun g hg2 => by have := own_lo ho hg2; omega⟩
theorem tk_ab (hg : Good W w8) (h10 : Box7 w8 b10 26 v0 v1) (ho : w8.ownsRow B 52 4 (.slice a' m' c') m' (lcells L)) (i10 : b10 < B) (l10 : W.heap.size ≤ b10) (hb : w8.heap.size = b9) :
    Tk5 W (((w8.setCell ⟨b10, 0, none⟩ (.int .i64 N)).setCell ⟨b10, 1, none⟩ (.slice a' m' c')).alloc (.cells #[.int .i64 x.a, .int .i64 x.b, .int .i64 x.l, .bool x.t] 52)) b9 b10 x N a' m' c' L :=
  ⟨Good.alloc (Below.setCell (Below.setCell hg l10 _) l10 _) _, Box4.new _ _ _ (by simpa using hb), (h10.set2 _ _).alloc _,
    own_mono (own_alloc8 (own_setLow (own_setLow ho _ 0 _ i10) _ 1 _ i10) _) (by omega), by have := hg.size; omega, l10, fun g hg2 => by have := own_lo ho hg2; omega⟩
theorem tk_a12 (hg : Good W w8) (ho : w8.ownsRow B 52 4 (.slice a' m' c') m' (lcells L)) (hB : W.heap.size ≤ B) (hb : w8.heap.size = b9) (hb2 : w8.heap.size + 1 = b10) :
    Tk5 W ((w8.alloc (.cells #[.int .i64 x.a, .int .i64 x.b, .int .i64 x.l, .bool x.t] 52)).alloc (.cells #[.int .i64 N, .slice a' m' c'] 26)) b9 b10 x N a' m' c' L :=
  ⟨(hg.alloc _).alloc _, (Box4.new _ _ _ hb).alloc _, Box7.new _ _ _ _ _ (by simpa using hb2), own_mono (own_alloc8 (own_alloc8 ho _) _) hB, by have := hg.size; omega, by have := hg.size; omega, fun g hg2 => by have := own_lo ho hg2; omega⟩
theorem tk_a21 (hg : Good W w8) (ho : w8.ownsRow B 52 4 (.slice a' m' c') m' (lcells L)) (hB : W.heap.size ≤ B) (hb : w8.heap.size = b10) (hb2 : w8.heap.size + 1 = b9) :
    Tk5 W ((w8.alloc (.cells #[.int .i64 N, .slice a' m' c'] 26)).alloc (.cells #[.int .i64 x.a, .int .i64 x.b, .int .i64 x.l, .bool x.t] 52)) b9 b10 x N a' m' c' L :=
  ⟨(hg.alloc _).alloc _, Box4.new _ _ _ (by simpa using hb2), (Box7.new _ _ _ _ _ hb).alloc _, own_mono (own_alloc8 (own_alloc8 ho _) _) hB, by have := hg.size; omega, by have := hg.size; omega, fun g hg2 => by have := own_lo ho hg2; omega⟩
theorem Box4.z (u : World) (b : Nat) (hb : u.heap.size = b) : Box4 (u.alloc (.cells #[.int .i64 0, .int .i64 0, .int .i64 0, .bool false] 52)) b ⟨0, 0, 0, false⟩ := Box4.new u ⟨0, 0, 0, false⟩ b hb
theorem Box7.z (u : World) (b : Nat) (hb : u.heap.size = b) : Box7 (u.alloc (.cells #[.int .i64 0, .slice none 0 0] 26)) b 26 (.int .i64 0) (.slice none 0 0) := Box7.new u _ _ _ b hb
end
end Go.Proofs.YtgjnlhdgekfieaaGreat
