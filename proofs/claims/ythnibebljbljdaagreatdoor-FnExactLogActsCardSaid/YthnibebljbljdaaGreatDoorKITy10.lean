/- The specification's reader of edges. Boxes of any cells; a drawn region walked state by state; one old block alone is turned. A row of bytes that the call made out of a text: what is appended to it, and the text of it again. Its mark of frozen cells lies behind its room. What the program's VarText answers at every number in its range. The program's texts of numbers, of edges and of what an order wants done. The text of what an order wants done. -/
import Derived.Test.YthnibebljbljdaaGreatDoorKSRd10
import Derived.Test.YthnibebljbljdaaGreatDoorKDg
import Derived.Lib.FrozenHead
import Derived.Test.YthnibebljbljdaaGreatDoorKVtBack
import Derived.Test.YthnibebljbljdaaGreatDoorKLawB10
namespace Go.Proofs.YthnibebljbljdaaGreatDoor
open Go.RowKit Vt

theorem own_ne {w : World} {B T S n G : Nat} {v : Value} {xs : List Value} (h : w.ownsRow B T S v n xs) (hG : G < B) : v.ownBlock = none ∨ v.ownBlock ≠ some G := by
  right
  intro hq
  have := h.lt G hq
  omega
theorem RdAt.row {e : Prop} {t : TypeId} {w w' : World} {G : Nat} {s : ByteArray} {st : Option (List UInt8)} {row : Option Nat} (h : RdAt e t w G s st) (hg : w.grownBy w' row) (hne : row ≠ some G) : RdAt e t w' G s st := by
  obtain ⟨p, f, hG, rest⟩ := h
  refine ⟨p, f, ?_, rest⟩
  rw [hg.block G (Array.getElem?_eq_some_iff.1 hG).1 (Ne.symm hne)]
  exact hG
theorem gr_own {w wr w1 : World} {G : Nat} {row : Option Nat} (h : w.grownBy wr (some G)) (hg : wr.grownBy w1 row) (hr : ∀ q, row = some q → w.heap.size ≤ q) : w.grownBy w1 (some G) := by
  refine ⟨hg.os.trans h.os, hg.tape.trans h.tape, hg.output.trans h.output, Nat.le_trans h.size hg.size, fun i hi hn => ?_⟩
  rw [hg.block i (Nat.lt_of_lt_of_le hi h.size) (fun e => by have := hr i e.symm; omega)]
  exact h.block i hi hn
theorem own_form {w : World} {B e s n : Nat} {v : Value} {xs : List Value} (h : w.ownsRow B e s v n xs) : ∃ a c, v = .slice a n c := by
  rcases h.2 with ⟨hv, h0⟩ | ⟨g, cap, cur, hv, _⟩
  · subst h0; exact ⟨none, 0, hv⟩
  · exact ⟨_, cap, hv⟩
theorem RdAt.flag {e : Prop} {t : TypeId} {w : World} {G : Nat} {s : ByteArray} {st : Option (List UInt8)} (h : RdAt e t w G s st) : w.cell? ⟨G, 2, none⟩ = some (.bool st.isNone) := by
  obtain ⟨p, f, hG, _, hf⟩ := h
  rw [cell_of_row w G 2 _ _ _ hG]
  rcases hf with ⟨rfl, rfl⟩ | ⟨rfl, rfl, _⟩ <;> rfl
theorem two_newE (w : World) (x y : Int) (t : TypeId) : ∀ j u, (ecells [(x, y)])[j]? = some u → (w.alloc (.cells #[.int .i64 x, .int .i64 y] t)).cell? ((⟨w.heap.size, 0, none⟩ : Addr).add j) = some u := by
  intro j u hj
  match j, hj with
  | 0, hj => simp [ecells, ecell] at hj; subst hj; simp [Addr.add]
  | 1, hj => simp [ecells, ecell] at hj; subst hj; simp [Addr.add]

/-- the end of the specification's loop -/
theorem ER_end {st : Option (List UInt8)} {L : List UInt8} {k i : Nat} {es : List EdgeV} {st' : Option (List UInt8)} (hn : nx pN st = (k, some L)) (hi : i ≤ k) (h : EdSt L i es st') (he : st' = none ∨ k ≤ i ∨ 100 ≤ i) : ER st es st' := by
  unfold ER
  rw [hn]
  dsimp only
  obtain ⟨h1, _, h3⟩ := h
  rcases he with rfl | he | he
  · have hl : L.length < 2 * i := by
      split at h3
      · assumption
      · simp at h3
    split
    · exact .inl rfl
    · rw [if_pos (by omega)]
  · obtain rfl : i = k := by omega
    split
    · right; omega
    · exact h3
  · rw [if_pos (by omega)]
    right; omega

set_option maxRecDepth 100000 in
set_option maxHeartbeats 4000000 in
theorem l09ReadEdges_any (s : ByteArray) (hs : s.size ≤ 1048576) (w : World) (G : Nat) (st : Option (List UInt8)) (h : RdAt False 101 w G s st) :
    Calls Tryz.prog 89 #[.pointer (some ⟨G, 0, none⟩)] w fun e w' => ∃ v, e = .returned v ∧ EdAns False 101 w w' G s st v 100 := by
  obtain ⟨i0, hi, hz0, hz1, hz2⟩ := info_parts infoIE
  have hGl := h.lt
  have HN := hideIt (l09Var_any s hs (w.alloc (.cells #[] 120)) G st (h.alloc _))
  have hle := nx_pN_le st
  cases hn : nx pN st with
  | mk k s1 =>
    rw [hn] at HN hle
    dsimp only at hle HN
    clear h
    have HO : Hid (∀ W st, RdAt False 101 W G s st → Calls Tryz.prog 52 #[.pointer (some ⟨G, 0, none⟩)] W fun e w' => e = .returned (.int .i64 (((nx pO st).1 : Nat) : Int)) ∧ RdAt False 101 w' G s (nx pO st).2 ∧ W.grownBy w' (some G)) := fun W st hW => l09One_any s hs W G st hW
    have HH := hideIt hn
    have HK : Hid (s1 = none → k = 0) := fun h => by
      subst h
      unfold nx at hn
      split at hn
      · simp at hn; omega
      · split at hn
        · simp at hn; omega
        · simp at hn
    clear hn
    go_enter Tryz.func89, Tryz.ntmps89
    go_wp2_with (go_at_call 53; refine HN.out.mono ?_; rintro e w1 ⟨rfl, hR, hg1⟩; refine Hid.out ?_)
    refine (show ∀ {p : Prop}, p → Hid p from fun h => h) ?_
    have hgw : w.grownBy w1 (some G) := gr_trans (World.grownBy_alloc w _ (some G)) hg1
    have hown1 : w1.ownsRow w.heap.size 120 2 (.slice (some ⟨w.heap.size, 0, none⟩) 0 0) 0 (ecells []) :=
      World.ownsRow.kept (World.ownsRow_made (base := w.heap.size) (e := 120) (size := 2) w #[] 0 (Nat.le_refl _) (by unfold maxLen; omega) rfl) hg1 (.inr (by simp [Value.ownBlock]; omega))
    have HOw := hideIt hown1
    have HR := hideIt hR
    have HGw := hideIt hgw
    clear HN hR hg1 hown1 hgw
    go_wp2
    go_loopw [3, 5] (fun v i wr => ∃ (j : Nat) (es : List EdgeV) (st : Option (List UInt8)), j ≤ k ∧ j ≤ 100 ∧ i = .int .i64 (j : Int) ∧ Hid (s1 = none ∧ es = [] ∧ st = none ∨ ∃ L, s1 = some L ∧ EdSt L j es st) ∧ wr.ownsRow w.heap.size 120 2 v j (ecells es) ∧ RdAt False 101 wr G s st ∧ w.grownBy wr (some G)) (fun _ i _ => k - (intOf i).toNat)
    case atStart =>
      refine ⟨0, [], s1, by omega, by omega, rfl, ?_, HOw.out, HR.out, HGw.out⟩
      show _ ∨ _
      cases s1 with
      | none => exact .inl ⟨rfl, rfl, rfl⟩
      | some L => exact .inr ⟨L, rfl, EdSt.start L⟩
    case round =>
      obtain ⟨j, es, st1, hj, hj2, rfl, hE, hown, hR, hg⟩ := hrel
      have c2 := hR.flag
      have hgz := hg.size
      have fin : Hid (st1 = none ∨ k ≤ j ∨ 100 ≤ j → ER st es st1 ∧ EB8 es) := fun he => by
        rcases hE.out with ⟨rfl, rfl, rfl⟩ | ⟨L, rfl, h2⟩
        · refine ⟨?_, fun e he => (by cases he)⟩
          unfold ER
          rw [HH.out]
        · exact ⟨ER_end HH.out hj h2 he, h2.2.1⟩
      by_cases hlt : j < k
      · have e1 : decide ((j : Int) < (k : Int)) = true := by simp; omega
        by_cases h100 : j < 100
        · have e2 : decide ((j : Int) < 100) = true := by simp; omega
          cases hst : st1 with
          | none =>
            rw [hst] at c2
            have HX := fin.out (.inl hst)
            have HX1 := hideIt HX
            have HOw1 := hideIt hown
            have HR1 := hideIt hR
            have HG1 := hideIt hg
            clear fin HX hown hR hg hE
            go_wp2
            go_ret
            obtain ⟨a, c, rfl⟩ := own_form HOw1.out
            exact ⟨_, rfl, ⟨⟨a, j, c, es, st1, rfl, hj2, HX1.out.2, HOw1.out, HX1.out.1, HR1.out⟩, HG1.out⟩⟩
          | some M =>
            rw [hst] at c2
            have HE2 : Hid (∃ L, s1 = some L ∧ EdSt L j es st1) := by
              show ∃ _, _
              rcases hE.out with ⟨h1, _, _⟩ | h2
              · have := HK.out h1
                omega
              · exact h2
            clear fin hE hst
            go_wp2_with (go_at_call 52; refine (HO.out _ st1 hR).mono ?_; rintro e w3 ⟨rfl, hR3, hg3⟩; refine Hid.out ?_)
            refine (show ∀ {p : Prop}, p → Hid p from fun h => h) ?_
            have hown3 := World.ownsRow.kept hown hg3 (own_ne hown hGl)
            have hG3 := gr_trans hg hg3
            have hz3 := hG3.size
            have hR4 := hR3.alloc (.cells #[.int .i64 (((nx pO st1).1 : Nat) : Int), .int .i64 0] 120)
            have hown4 := hown3.alloc (.cells #[.int .i64 (((nx pO st1).1 : Nat) : Int), .int .i64 0] 120)
            have hg4 := gr_alloc hG3 (.cells #[.int .i64 (((nx pO st1).1 : Nat) : Int), .int .i64 0] 120)
            have hlt3 : ∀ q, u3.ownBlock = some q → q < w3.heap.size := fun q hq => (hown3.lt q hq).2
            clear hown hR hg hg3 hR3 hown3 hG3 c2
            go_wp2_with (go_at_call 52; refine (HO.out _ _ hR4).mono ?_; rintro e w5 ⟨rfl, hR5, hg5⟩; refine Hid.out ?_)
            refine (show ∀ {p : Prop}, p → Hid p from fun h => h) ?_
            have hgg5 := gr_trans hg4 hg5
            have hz5 := hg5.size
            simp at hz5
            have hb5 : w5.heap[w3.heap.size]? = some (.cells #[.int .i64 (((nx pO st1).1 : Nat) : Int), .int .i64 0] 120 (0, 0)) := by
              rw [hg5.block w3.heap.size (by simp) (by simp; omega)]
              exact heap_alloc_new w3 _
            have d0 : w5.cell? ⟨w3.heap.size, 0, none⟩ = some (.int .i64 (((nx pO st1).1 : Nat) : Int)) := by rw [cell_of_row w5 _ 0 _ _ _ hb5]; rfl
            have d1 : w5.cell? ⟨w3.heap.size, 1, none⟩ = some (.int .i64 0) := by rw [cell_of_row w5 _ 1 _ _ _ hb5]; rfl
            have f1 : w5.frozen? ⟨w3.heap.size, 1, none⟩ = false := frozen_of_row w5 _ 1 _ _ hb5
            have hown5 := World.ownsRow.kept hown4 hg5 (own_ne hown4 hGl)
            have hown6 := World.ownsRow.kept hown5 (gr_set w5 w3.heap.size 1 (.int .i64 (((nx pO (nx pO st1).2).1 : Nat) : Int))) (.inr (fun hq => by have := hlt3 _ hq; omega))
            have hR6 := hR5.other (gr_set w5 w3.heap.size 1 (.int .i64 (((nx pO (nx pO st1).2).1 : Nat) : Int))) (show G ≠ w3.heap.size by omega)
            have hg6 := gr_set_new (j := 1) (u := .int .i64 (((nx pO (nx pO st1).2).1 : Nat) : Int)) hgg5 hz3
            have hown7 := hown6.alloc (.cells #[.int .i64 (((nx pO st1).1 : Nat) : Int), .int .i64 (((nx pO (nx pO st1).2).1 : Nat) : Int)] 120)
            have HR7 := hideIt (hR6.alloc (.cells #[.int .i64 (((nx pO st1).1 : Nat) : Int), .int .i64 (((nx pO (nx pO st1).2).1 : Nat) : Int)] 120))
            have HG7 := hideIt (gr_alloc hg6 (.cells #[.int .i64 (((nx pO st1).1 : Nat) : Int), .int .i64 (((nx pO (nx pO st1).2).1 : Nat) : Int)] 120))
            have hnew := two_newE (w5.setCell ⟨w3.heap.size, 1, none⟩ (.int .i64 (((nx pO (nx pO st1).2).1 : Nat) : Int))) (((nx pO st1).1 : Nat) : Int) (((nx pO (nx pO st1).2).1 : Nat) : Int) 120
            have HNew := hideIt hnew
            have HS : Hid (∃ L, s1 = some L ∧ EdSt L (j + 1) (es ++ [((((nx pO st1).1 : Nat) : Int), (((nx pO (nx pO st1).2).1 : Nat) : Int))]) (nx pO (nx pO st1).2).2) := by
              obtain ⟨L, h1, h2⟩ := HE2.out
              exact ⟨L, h1, h2.step⟩
            have HOw7 := hideIt hown7
            clear hown4 hown5 hown6 hown7 hR4 hR5 hR6 hg4 hg5 hg6 hgg5 hnew hb5 HE2
            generalize (((nx pO st1).1 : Nat) : Int) = x at *
            generalize (((nx pO (nx pO st1).2).1 : Nat) : Int) = y at *
            go_wp2_with (at_builtin; refine wpList_append_own _ rfl _ _ 51 rfl w.heap.size 120 i0 _ 2 16 Tryz.underlying51 hi hz0 hz1 hz2 rfl (by decide) _ _ _ rfl HOw7.out ⟨w5.heap.size, 0, none⟩ 1 1 (ecells [(x, y)]) rfl rfl ?_ (by intro u hu; simp [ecells, ecell] at hu; rcases hu with rfl | rfl <;> rfl) (by unfold maxLen; omega) (by omega) (by simp; omega) ?_)
            · have := HNew.out
              simpa using this
            · intro v1 w8 hown8 hg8 _
              have hne8 : u3.ownBlock ≠ some G := by
                rcases own_ne HOw7.out hGl with h | h
                · rw [h]; simp
                · exact h
              have HR8 := hideIt (HR7.out.row hg8 hne8)
              have HG8 := hideIt (gr_own HG7.out hg8 (fun q hq => (HOw7.out.lt q hq).1))
              have HO8 : Hid (w8.ownsRow w.heap.size 120 2 v1 (j + 1) (ecells (es ++ [(x, y)]))) := by
                show World.ownsRow _ _ _ _ _ _ _
                rw [ecells_append]
                exact hown8
              clear hown8 hg8 HOw7 HR7 HG7
              go_wp2
              go_roundw
              case rel => exact ⟨j + 1, es ++ [(x, y)], _, by omega, by omega, by go_num, .inr HS.out, HO8.out, HR8.out, HG8.out⟩
              case measure => simp [intOf]; omega
        · have e2 : decide ((j : Int) < 100) = false := by simp; omega
          have HX := fin.out (.inr (.inr (by omega)))
          have HX1 := hideIt HX
          have HOw1 := hideIt hown
          have HR1 := hideIt hR
          have HG1 := hideIt hg
          clear fin HX hown hR hg hE
          go_wp2
          go_ret
          obtain ⟨a, c, rfl⟩ := own_form HOw1.out
          exact ⟨_, rfl, ⟨⟨a, j, c, es, st1, rfl, hj2, HX1.out.2, HOw1.out, HX1.out.1, HR1.out⟩, HG1.out⟩⟩
      · have e1 : decide ((j : Int) < (k : Int)) = false := by simp; omega
        have HX := fin.out (.inr (.inl (by omega)))
        have HX1 := hideIt HX
        have HOw1 := hideIt hown
        have HR1 := hideIt hR
        have HG1 := hideIt hg
        clear fin HX hown hR hg hE
        go_wp2
        go_ret
        obtain ⟨a, c, rfl⟩ := own_form HOw1.out
        exact ⟨_, rfl, ⟨⟨a, j, c, es, st1, rfl, hj2, HX1.out.2, HOw1.out, HX1.out.1, HR1.out⟩, HG1.out⟩⟩
end Go.Proofs.YthnibebljbljdaaGreatDoor
namespace Go.Proofs.YthnibebljbljdaaGreatDoor
open Go.RowKit

structure Bx (T : Prop) : Prop where
  out : T
theorem viaT {T G : Prop} (main : Bx T → G) (p : T) : G := main ⟨p⟩
theorem hidp {p : Prop} (h : p) : Hid p := h
theorem lstH {P : Program} {md : Region.Mode} {ops : Array Oper} {Q : Exit → Go.Act → World → Prop} {S : World → Prop} {fuel : Nat} {l l' : Array Bool} {a : Go.Act} {w : World} (h : l = l') (H : wpAnyH P md ops Q S fuel l' a w) : wpAnyH P md ops Q S fuel l a w := h ▸ H
/-- a box of any cells -/
def BxQ (w : World) (b : Nat) (t : TypeId) (vs : Array Value) : Prop := w.heap[b]? = some (.cells vs t (0, 0))
/-- cells k, k + 1 .. of block b are set -/
def setQ (w : World) (b : Nat) : Nat → List Value → World
  | _, [] => w
  | k, v :: vs => setQ (w.setCell ⟨b, k, none⟩ v) b (k + 1) vs
def setL (cs : List Value) : Nat → List Value → List Value
  | _, [] => cs
  | k, v :: vs => setL (cs.set k v) (k + 1) vs
section
variable {w u : World} {b : Nat} {t : TypeId} {vs : Array Value}
theorem BxQ.new (w : World) (t : TypeId) (vs : Array Value) : BxQ (w.alloc (.cells vs t)) w.heap.size t vs := heap_alloc_new w _
theorem BxQ.lt (h : BxQ w b t vs) : b < w.heap.size := (Array.getElem?_eq_some_iff.1 h).1
theorem BxQ.gr {r : Option Nat} (h : BxQ w b t vs) (hg : w.grownBy u r) (hne : r ≠ some b) : BxQ u b t vs := by unfold BxQ; rw [hg.block b h.lt (fun e => hne e.symm)]; exact h
theorem BxQ.set (h : BxQ w b t vs) (i : Nat) (v : Value) : BxQ (w.setCell ⟨b, i, none⟩ v) b t (vs.setIfInBounds i v) := heap_setCell_same w b i _ t v h
theorem BxQ.frozen (h : BxQ w b t vs) (j : Nat) : w.frozen? ⟨b, j, none⟩ = false := frozen_of_row w b j _ _ h
theorem BxQ.at {l : List Value} (h : BxQ w b t l.toArray) (i : Nat) {v : Value} (hv : l[i]? = some v) : w.cell? ⟨b, i, none⟩ = some v := by rw [cell_of_row w b i _ _ _ h, List.getElem?_toArray]; exact hv
theorem BxQ.setQ {l : List Value} (h : BxQ w b t l.toArray) (k : Nat) (vs : List Value) : BxQ (Go.Proofs.YthnibebljbljdaaGreatDoor.setQ w b k vs) b t (setL l k vs).toArray := by
  induction vs generalizing w l k with
  | nil => exact h
  | cons v vs ih => exact ih (by have := h.set k v; rw [List.setIfInBounds_toArray] at this; exact this) (k + 1)
theorem BxQ.setO {G j : Nat} (h : BxQ w b t vs) (v : Value) (hG : b ≠ G) : BxQ (w.setCell ⟨G, j, none⟩ v) b t vs := by
  unfold BxQ
  rw [heap_setCell_other w ⟨G, j, none⟩ b v hG]
  exact h
theorem BxQ.setQO {G : Nat} {cs : Array Value} (h : BxQ w b t cs) (k : Nat) (vs : List Value) (hG : b ≠ G) : BxQ (Go.Proofs.YthnibebljbljdaaGreatDoor.setQ w G k vs) b t cs := by
  induction vs generalizing w k with
  | nil => exact h
  | cons v vs ih => exact ih (h.setO v hG) (k + 1)
theorem size_setQ (k : Nat) (vs : List Value) : (Go.Proofs.YthnibebljbljdaaGreatDoor.setQ w b k vs).heap.size = w.heap.size := by
  induction vs generalizing w k with
  | nil => rfl
  | cons v vs ih => unfold Go.Proofs.YthnibebljbljdaaGreatDoor.setQ; rw [ih]; simp [World.setCell]
theorem gr_setQ (k : Nat) (vs : List Value) : w.grownBy (Go.Proofs.YthnibebljbljdaaGreatDoor.setQ w b k vs) (some b) := by
  induction vs generalizing w k with
  | nil => exact gr_refl _ _
  | cons v vs ih => exact gr_trans (gr_set w b k v) (ih (k + 1))
/-- new blocks may turn, and the old one G -/
theorem gr_new {W y z : World} {G b : Nat} (h : W.grownBy y (some G)) (hg : y.grownBy z (some b)) (hb : W.heap.size ≤ b) : W.grownBy z (some G) :=
  gr_own h hg (fun q hq => by simp at hq; omega)
theorem own_gr {B e s n G : Nat} {v : Value} {xs : List Value} (h : w.ownsRow B e s v n xs) (hg : w.grownBy u (some G)) (hG : G < B) : u.ownsRow B e s v n xs :=
  h.kept hg (by
    rcases own_ne h hG with e | e
    · exact .inl e
    · exact .inr e)
end
theorem own_kinds {u : World} {lo b j n t e s : Nat} {v x : Value} {xs : List Value} {cs : Array Value} {fr : Nat × Nat} (h : u.ownsRow lo e s v n xs) (hb : u.heap[b]? = some (.cells cs t fr)) (hte : t ≠ e) : (u.setCell ⟨b, j, none⟩ x).ownsRow lo e s v n xs := by
  refine ⟨h.1, ?_⟩
  rcases h.2 with h3 | ⟨g, cap, cur, hv, hg, hcur, hrest⟩
  · exact .inl h3
  · refine .inr ⟨g, cap, cur, hv, hg, ?_, hrest⟩
    rw [heap_setCell_other u ⟨b, j, none⟩ g x (fun e2 => by
      have e2 : g = b := e2
      subst e2
      rw [hcur] at hb
      simp at hb
      exact hte hb.2.1.symm)]
    exact hcur
theorem own_kQ {u : World} {lo b n e s : Nat} {t : TypeId} {v : Value} {xs cs : List Value} (h : u.ownsRow lo e s v n xs) (hb : BxQ u b t cs.toArray) (hte : t ≠ e) (k : Nat) (vs : List Value) : (setQ u b k vs).ownsRow lo e s v n xs := by
  induction vs generalizing u cs k with
  | nil => exact h
  | cons x vs ih => exact ih (own_kinds h hb hte) (by have := hb.set k x; rw [List.setIfInBounds_toArray] at this; exact this) (k + 1)
theorem bdr {w w1 : World} (h : Below w.drew.heap.size w.drew w1) : Below w.heap.size w w1 := ((Below.refl _ _).drew).trans h
/-- new blocks may turn, and the old one G, of which the first cell stays -/
structure GS (G : Nat) (n : Int) (W y : World) : Prop where
  g : W.grownBy y (some G)
  c : y.cell? ⟨G, 0, none⟩ = some (.int .i64 n)
  l : G < y.heap.size
section
variable {G : Nat} {n : Int} {W y z : World}
theorem GS.size (h : GS G n W y) : W.heap.size ≤ y.heap.size := h.g.size
theorem GS.up (h : GS G n W y) (k : GS G n y z) : GS G n W z := ⟨gr_trans h.g k.g, k.c, k.l⟩
theorem GS.self (h : GS G n W y) : GS G n y y := ⟨gr_refl _ _, h.c, h.l⟩
theorem GS.below (h : GS G n W y) (hb : Below y.heap.size y z) : GS G n y z := ⟨gr_below hb _, by rw [hb.cell h.l]; exact h.c, Nat.lt_of_lt_of_le h.l hb.size⟩
theorem GS.alloc (h : GS G n W y) (o : Obj) : GS G n W (y.alloc o) := h.up (h.below ((Below.refl _ _).alloc (Nat.le_refl _) o))
end
end Go.Proofs.YthnibebljbljdaaGreatDoor
namespace Go.Proofs.YthnibebljbljdaaGreatDoor
open Go.RowKit

/-- the slice v owns the bytes l; what is frozen of its block lies behind its room -/
def OwnG (w : World) (base : Nat) (v : Value) (l : List UInt8) : Prop :=
  ∃ g cap cur fz, v = .slice (some ⟨g, 0, none⟩) l.length cap ∧ base ≤ g ∧ w.heap[g]? = some (.cells cur 5 fz) ∧ (cap ≤ fz.1 ∨ fz.2 = 0) ∧ l.length ≤ cap ∧ cap ≤ maxLen ∧ cur.size = cap ∧ cur.toList.take l.length = bv l

theorem OwnG.lt {w : World} {base : Nat} {v : Value} {l : List UInt8} (h : OwnG w base v l) : ∀ k, v.ownBlock = some k → base ≤ k ∧ k < w.heap.size := by
  obtain ⟨g, cap, cur, fz, rfl, hb, hg, _⟩ := h
  intro k hk
  simp [Value.ownBlock] at hk
  subst hk
  exact ⟨hb, (Array.getElem?_eq_some_iff.1 hg).1⟩

theorem OwnG.kept {w w' : World} {base : Nat} {v : Value} {l : List UInt8} {row : Option Nat} (h : OwnG w base v l) (hg : w.grownBy w' row) (hne : v.ownBlock ≠ row) : OwnG w' base v l := by
  obtain ⟨g, cap, cur, fz, rfl, hb, hgg, rest⟩ := h
  refine ⟨g, cap, cur, fz, rfl, hb, ?_, rest⟩
  rw [hg.block g (Array.getElem?_eq_some_iff.1 hgg).1 (by simpa [Value.ownBlock] using hne)]
  exact hgg

theorem OwnG.alloc {w : World} {base : Nat} {v : Value} {l : List UInt8} (h : OwnG w base v l) (o : Obj) : OwnG (w.alloc o) base v l := by
  refine h.kept (World.grownBy_alloc w o none) ?_
  obtain ⟨g, cap, cur, fz, rfl, _⟩ := h
  simp [Value.ownBlock]

theorem OwnG.cells {w : World} {base g cap : Nat} {l : List UInt8} (h : OwnG w base (.slice (some ⟨g, 0, none⟩) l.length cap) l) : ∀ j u, (bv l)[j]? = some u → w.cell? ((⟨g, 0, none⟩ : Addr).add j) = some u := by
  intro j u hu
  obtain ⟨g', cap', cur, fz, hv, _, hgg, _, _, _, _, htake⟩ := h
  simp at hv
  obtain ⟨rfl, rfl⟩ := hv
  have hadd : (⟨g, 0, none⟩ : Addr).add j = ⟨g, j, none⟩ := by unfold Addr.add; split <;> simp_all
  rw [hadd, cell_of_row w g j cur 5 fz hgg]
  rw [← htake, List.getElem?_take] at hu
  split at hu
  · simpa using hu
  · cases hu

/-- cells are stored one behind the other where nothing is frozen -/
theorem storeG (P : Program) (g o : Nat) (t : TypeId) (fz : Nat × Nat) : ∀ (vs : List Value) (i : Nat) (cur : Array Value) (w : World), w.heap[g]? = some (.cells cur t fz) → (cur.size ≤ fz.1 ∨ fz.2 = 0) → o + i + vs.length ≤ cur.size → (∀ v ∈ vs, v.oneCell' = true) →
    (storeCells ⟨g, o, none⟩ vs i).run P w = .ok () (w.setRow g (cur.toList.take (o + i) ++ vs ++ cur.toList.drop (o + i + vs.length)).toArray) := by
  intro vs
  induction vs with
  | nil =>
    intro i cur w hg _ _ _
    simp only [storeCells, List.append_nil, List.length_nil, Nat.add_zero, List.take_append_drop, Array.toArray_toList]
    rw [setRow_self w g cur t fz hg]
    rfl
  | cons v rest ih =>
    intro i cur w hg hfz hl h1
    have hi : o + i < cur.size := by simp at hl; omega
    have hadd : (⟨g, o, none⟩ : Addr).add i = ⟨g, o + i, none⟩ := by unfold Addr.add; split <;> simp_all
    have hcell : w.cell? ⟨g, o + i, none⟩ = some cur[o + i] := by simp [World.cell?, hg, hi]
    have hfro : w.frozen? ⟨g, o + i, none⟩ = false := by
      obtain ⟨lo, hi'⟩ := fz
      simp only [World.frozen?, hg, Bool.and_eq_false_iff, decide_eq_false_iff_not]
      simp only at hfz
      omega
    have hst : (store ((⟨g, o, none⟩ : Addr).add i) v).run P w = .ok () (w.setRow g (cur.setIfInBounds (o + i) v)) := by
      rw [hadd, run_store P w _ v _ (h1 v (by simp)), hcell]
      simp [hfro, setCell_eq_setRow w g (o + i) cur t fz v hg]
    have ih := ih (i + 1) (cur.setIfInBounds (o + i) v) (w.setRow g (cur.setIfInBounds (o + i) v)) (setRow_heap w g cur _ t _ hg) (by simpa using hfz) (by simp at hl ⊢; omega) (fun x hx => h1 x (by simp [hx]))
    simp only [storeCells, Sem.run_bind, hst, Result.andThen_ok, ih, setRow_setRow]
    congr 3
    have e := list_seg_step cur.toList (o + i) v rest (by simp at hl ⊢; omega)
    simpa [Array.toList_setIfInBounds, Nat.add_assoc] using e

theorem bv_app (l m : List UInt8) : bv (l ++ m) = bv l ++ bv m := by simp [bv]
theorem bv_len (l : List UInt8) : (bv l).length = l.length := by simp [bv]
theorem bv_one (l : List UInt8) : ∀ u ∈ bv l, u.oneCell' = true := by
  intro u hu
  simp only [bv, List.mem_map] at hu
  obtain ⟨b, _, rfl⟩ := hu
  rfl

/-- bytes are appended to it -/
theorem run_appendG (w : World) (base : Nat) (ty : TypeId) (v : Value) (l : List UInt8) (hown : OwnG w base v l)
    (a : Addr) (c : Nat) (m : List UInt8) (hnews : ∀ j u, (bv m)[j]? = some u → w.cell? (a.add j) = some u) (hsm : l.length + m.length ≤ 1000000) (hbase : base ≤ w.heap.size) :
    ∃ v' w', (Builtin.append_ #[136, 136] ty #[v, .slice (some a) m.length c]).run Tryz.prog w = .ok v' w' ∧ OwnG w' base v' (l ++ m) ∧ w.grownBy w' v.ownBlock := by
  obtain ⟨i0, hi, hz0, hz1, hz2⟩ := info_parts info5
  have hown0 := hown
  obtain ⟨g, cap, cur, fz, rfl, hbg, hg, hfz, hnc, hcm, hcs, htake⟩ := hown
  have hf := run_firstCells_some (P := Tryz.prog) w i0.size m.length a m.length c (bv m) (by rw [bv_len, hz1]; omega) hnews
  by_cases hroom : l.length + m.length ≤ cap
  · have hst := storeG Tryz.prog g (l.length * i0.size) 5 fz (bv m) 0 cur w hg (by omega) (by rw [bv_len, hz1]; omega) (bv_one m)
    simp only [Nat.add_zero] at hst
    have hr : (Builtin.append_ #[136, 136] ty #[.slice (some ⟨g, 0, none⟩) l.length cap, .slice (some a) m.length c]).run Tryz.prog w = .ok (.slice (some ⟨g, 0, none⟩) (l.length + m.length) cap) (w.setRow g (cur.toList.take (l.length * i0.size) ++ bv m ++ cur.toList.drop (l.length * i0.size + (bv m).length)).toArray) := by
      simp [Builtin.append_, run_underlying Tryz.underlying136, sizeOf, typeInfo, hi, Builtin.lenOf, hroom, hf, Addr.add_lit, hst]
    refine ⟨_, _, hr, ⟨g, cap, _, fz, by simp, hbg, setRow_heap w g cur _ 5 _ hg, hfz, by simpa using hroom, hcm, ?_, ?_⟩, ⟨rfl, rfl, rfl, by simp, fun k _ hk => setRow_other w g k _ (fun e => hk (by simp [Value.ownBlock, e]))⟩⟩
    · simp only [List.size_toArray, List.length_append, List.length_take, List.length_drop, Array.length_toList, bv_len, hz1]
      omega
    · rw [hz1, Nat.mul_one, htake, bv_app, ← bv_len, bv_app]
      exact List.take_left
  · have hr := run_append_grow (P := Tryz.prog) w 136 ty 5 i0 (.int .u8 0) Tryz.underlying136 hi hz0 ⟨g, 0, none⟩ l.length cap (bv l) (by rw [bv_len, hz1]; omega) hown0.cells a m.length c (bv m) (by rw [bv_len, hz1]; omega) hnews (by omega) (by omega) (growslice_fits (by omega) (by rw [hz2]; omega))
    have hge := grownCap_ge w (l.length + m.length) cap 5
    have hcm2 : grownCap w (l.length + m.length) cap 5 ≤ maxLen := grownCap_le_maxLen w (l.length + m.length) cap 5 (by unfold maxLen; omega)
    refine ⟨_, _, hr, ⟨w.heap.size, _, _, (0, 0), by simp, hbase, heap_alloc_new w.drew _, .inr rfl, by simpa using hge, hcm2, ?_, ?_⟩, ⟨rfl, rfl, rfl, by simp, fun k hk _ => Below.heap_alloc w.drew _ k hk⟩⟩
    · simp only [Array.size_append, List.size_toArray, size_zeroCells, bv_len]
      simp [Value.cells]
      omega
    · simp only [Array.toList_append, List.append_assoc]
      rw [← List.append_assoc, ← bv_app, ← bv_len]
      exact List.take_left

theorem wpList_appendG {ops : Array Oper} {rest : List Oper} {o : Oper} {a : Act} {w : World} {Q : Exit → Act → World → Prop} (hgd : o.guard = none) (s x : Operand)
    (ho : o.op = .call { callee := .builtin .append, args := #[s, x], argTypes := #[136, 136] })
    (base : Nat) (v : Value) (l : List UInt8) (hs : a.eval s = v) (hown : OwnG w base v l)
    (ad : Addr) (k c : Nat) (m : List UInt8) (hk : m.length = k) (hx : a.eval x = .slice (some ad) k c) (hnews : ∀ j u, (bv m)[j]? = some u → w.cell? (ad.add j) = some u) (hsm : l.length + m.length ≤ 1000000) (hbase : base ≤ w.heap.size)
    (h : ∀ v' w', OwnG w' base v' (l ++ m) → w.grownBy w' v.ownBlock → wpList Tryz.prog ops Q rest (a.put o.dst v') w') : wpList Tryz.prog ops Q (o :: rest) a w := by
  subst hk
  refine wpList_plain hgd fun K hK => ?_
  obtain ⟨v', w', hr, h2, h3⟩ := run_appendG w base o.type v l hown ad c m hnews hsm hbase
  unfold Oper.wp execOp
  simp only [ho, resolve, invoke, builtin, Sem.run_bind, Sem.run_pure, Result.andThen_ok, List.map_toArray, List.map_cons, List.map_nil, hs, hx, hr]
  exact hK _ _ (h v' w' h2 h3)

/-- '[]byte(t)': a new row of its bytes -/
theorem conv_newG (t : List UInt8) (ht : t.length ≤ 1000000) (u : World) :
    ∃ v w', (convert 9 136 (.string ⟨t.toArray⟩)).run Tryz.prog u = .ok v w' ∧ OwnG w' u.heap.size v t ∧ Below u.heap.size u w' := by
  refine ⟨_, _, run_bytes_of_string u 9 136 5 ⟨t.toArray⟩ Tryz.underlying9 Tryz.underlying136 Tryz.underlying5, ?_, (Below.refl _ _).drew.alloc (Nat.le_refl _) _⟩
  have hs : (⟨t.toArray⟩ : ByteArray).size = t.length := by simp [ByteArray.size]
  rw [hs]
  have hge := grownCap_ge u t.length 0 5
  refine ⟨u.heap.size, grownCap u t.length 0 5, _, _, rfl, Nat.le_refl _, heap_alloc_new u.drew _, ?_, hge, grownCap_le_maxLen u t.length 0 5 (by unfold maxLen; omega), ?_, ?_⟩
  · left
    simp [bytesRow, hs]
    omega
  · simp [bytesRow, hs]
    omega
  · simp only [bytesRow, Array.toList_append, Array.toList_map]
    rw [List.take_append_of_le_length (by simp)]
    rw [List.take_of_length_le (by simp)]
    rfl

/-- 'string(b)' of it -/
theorem conv_backG {w : World} {base : Nat} {v : Value} {l : List UInt8} (h : OwnG w base v l) : (convert 136 9 v).run Tryz.prog w = .ok (.string ⟨l.toArray⟩) w := by
  have h0 := h
  obtain ⟨g, cap, cur, fz, rfl, _⟩ := h
  exact run_convert_bytes_back (P := Tryz.prog) w 136 9 5 ⟨g, 0, none⟩ cap l Tryz.underlying136 Tryz.underlying5 Tryz.underlying9 (fun j hj => h0.cells j _ (by simp [bv, hj]))

theorem below_appG {B : Nat} {w wr w1 : World} {v : Value} {l : List UInt8} {o : Obj} (hb : Below B w wr) (hB : B ≤ w.heap.size)
    (hown : OwnG wr B v l) (hg : (wr.alloc o).grownBy w1 v.ownBlock) : Below B w w1 :=
  (hb.alloc (by have := hb.size; omega) _).grown hg (by have := hb.size; simp; omega) (fun k hk => (hown.lt k hk).1)
end Go.Proofs.YthnibebljbljdaaGreatDoor
namespace Go.Proofs.YthnibebljbljdaaGreatDoor
open Go.RowKit Vt

set_option maxRecDepth 100000 in
set_option maxHeartbeats 1000000 in
theorem iVarText_yes (N : Nat) (hN : N ≤ 1000000000) (w : World) :
    Calls Tryz.prog 83 #[.int .i64 (N : Int)] w fun e w' => e = .returned (.tuple #[.string ⟨(vt N).toArray⟩, .bool true]) ∧ Below w.heap.size w w' := by
  obtain ⟨i0, hi, hz0, hz1, hz2⟩ := info_parts info5
  have hlen := vt_length N N (Nat.le_refl _)
  have d1 : decide ((N : Int) < 0) = false := by simp
  have d2 : decide ((1000000000 : Int) < (N : Int)) = false := by simp; omega
  go_enter Tryz.func83, Tryz.ntmps83
  go_wp2
  go_loopw [0, 4] (fun n out wr => ∃ (m : Nat) (pre : List UInt8), m ≤ N ∧ n = .int .i64 m ∧ Hid (pre ++ vt m = vt N) ∧ wr.ownsRow w.heap.size 5 1 out pre.length (bv pre) ∧ Below w.heap.size w wr)
    (fun n _ _ => (intOf n).toNat)
  case atStart => exact ⟨N, [], Nat.le_refl _, rfl, rfl, World.ownsRow_made _ _ _ (Nat.le_refl _) (by unfold maxLen; omega) rfl, (Below.refl _ _).alloc (Nat.le_refl _) _⟩
  case round =>
    obtain ⟨m, pre, hm, rfl, hv, hown, hb⟩ := hrel
    have hl : pre.length + (vt m).length = (vt N).length := by rw [← hv.out]; simp
    have hp := vt_pos m
    have hsz := hb.size
    by_cases hlt : m < 128
    · go_wp2_with (at_builtin; refine wpList_append_own _ rfl _ _ 136 rfl w.heap.size 5 i0 (.int .u8 0) 1 1 Tryz.underlying136 hi hz0 hz1 hz2 rfl (by decide) _ _ _ rfl (hown.alloc _) ⟨wr.heap.size, 0, none⟩ 1 1 [Value.int .u8 (m : Int)] rfl rfl (one_new _ _ _) (by intro u hu; simp at hu; subst hu; rfl) (by unfold maxLen; omega) (by omega) (by simp; omega) ?_)
      intro v1 w1 hown1 hg1 hn1
      have hb1 := below_app hb (Nat.le_refl _) hown hg1
      rw [bv_snoc pre (UInt8.ofNat m) m (by simp; omega)] at hown1
      have HV : pre ++ [UInt8.ofNat m] = vt N := by rw [← vt_small m hlt]; exact hv.out
      rw [HV] at hown1
      obtain ⟨g, cap, hv1, hcv⟩ := conv_own hown1 hn1
      clear HV
      rw [hv1]
      clear hown1 hg1 hown hv1 hn1
      go_wp2
      go_ret2
      exact ⟨rfl, hb1⟩
    · go_wp2_with (at_builtin; refine wpList_append_own _ rfl _ _ 136 rfl w.heap.size 5 i0 (.int .u8 0) 1 1 Tryz.underlying136 hi hz0 hz1 hz2 rfl (by decide) _ _ _ rfl (hown.alloc _) ⟨wr.heap.size, 0, none⟩ 1 1 [Value.int .u8 ((m : Int) % 128 + 128)] rfl rfl (one_new _ _ _) (by intro u hu; simp at hu; subst hu; rfl) (by unfold maxLen; omega) (by omega) (by simp; omega) ?_)
      intro v1 w1 hown1 hg1 _
      have hb1 := below_app hb (Nat.le_refl _) hown hg1
      rw [bv_snoc pre (UInt8.ofNat (m % 128 + 128)) _ (by simp; omega)] at hown1
      have HV : Hid ((pre ++ [UInt8.ofNat (m % 128 + 128)]) ++ vt (m / 128) = vt N) := by
        show _ = _
        rw [List.append_assoc, List.singleton_append, ← vt_big m hlt]; exact hv.out
      clear hg1 hown hv
      go_wp2
      go_roundw
      case rel => exact ⟨m / 128, pre ++ [UInt8.ofNat (m % 128 + 128)], by omega, by go_num, HV, by simpa using hown1, hb1⟩
      case measure => simp [intOf]; omega

end Go.Proofs.YthnibebljbljdaaGreatDoor
namespace Go.Proofs.YthnibebljbljdaaGreatDoor
open Go.RowKit Vt

/-- bytes as a text -/
def str (L : List UInt8) : ByteArray := ⟨L.toArray⟩
theorem str_size (L : List UInt8) : (str L).size = L.length := by simp [str, ByteArray.size]
theorem str_app (L M : List UInt8) : str L ++ str M = str (L ++ M) := by
  apply ByteArray.ext
  simp [str, ByteArray.data_append]
theorem str_list (L : List UInt8) : (str L).data.toList = L := by simp [str]
theorem str_add {P : Program} (L M : List UInt8) (h : L.length + M.length ≤ 1000000) (w : World) : (Op.stringOp .add (str L) (str M)).run P w = .ok (.string (str (L ++ M))) w := by
  rw [run_string_add_sum w _ _ (by rw [str_size, str_size]; omega), str_app]

theorem vt_le5 (n : Nat) (h : n ≤ 1000000000) : (vt n).length ≤ 5 := vt_len 4 n (by
  have : (128 : Nat) ^ (4 + 1) = 34359738368 := by decide
  omega)

theorem numberText_any (x : Int) (N : Nat) (hx : (N : Int) = x) (hN : N ≤ 1000000000) (w : World) :
    Calls Tryz.prog 109 #[.int .i64 x] w fun e w' => e = .returned (.string (str (vt N))) ∧ Below w.heap.size w w' := by
  subst hx
  have HV := hideIt (iVarText_yes N hN)
  change Hid (∀ w, Calls _ _ _ w fun e w' => e = .returned (.tuple #[.string (str (vt N)), .bool true]) ∧ _) at HV
  go_enter Tryz.func109, Tryz.ntmps109
  go_wp2_with (go_at_call 83; refine (HV.out _).mono ?_; rintro e w1 ⟨rfl, hb⟩)
  go_ret
  exact ⟨rfl, hb⟩

theorem two_new (w : World) (a b : UInt8) (x y : Int) (hx : (a.toNat : Int) = x) (hy : (b.toNat : Int) = y) (t : TypeId) : ∀ j u, (bv [a, b])[j]? = some u → (w.alloc (.cells #[.int .u8 x, .int .u8 y] t)).cell? ((⟨w.heap.size, 0, none⟩ : Addr).add j) = some u := by
  subst hx hy
  intro j u hj
  match j, hj with
  | 0, hj => simp [bv] at hj; subst hj; simp [Addr.add]
  | 1, hj => simp [bv] at hj; subst hj; simp [Addr.add]

theorem one_newG (w : World) (a : UInt8) (x : Int) (hx : (a.toNat : Int) = x) (t : TypeId) : ∀ j u, (bv [a])[j]? = some u → (w.alloc (.cells #[.int .u8 x] t)).cell? ((⟨w.heap.size, 0, none⟩ : Addr).add j) = some u := by
  subst hx
  intro j u hj
  match j, hj with
  | 0, hj => simp [bv] at hj; subst hj; simp [Addr.add]

set_option maxRecDepth 100000 in
set_option maxHeartbeats 4000000 in
theorem edgesText_any (es : List EdgeV) (k : Nat) (a : Option Addr) (c : Nat) (hk : k ≤ 100) (hby : EB8 es) (w : World) (h : Es w w.heap.size a k es) :
    Calls Tryz.prog 110 #[.slice a k c] w fun e w' => e = .returned (.string (str (et es))) ∧ Below w.heap.size w w' := by
  obtain ⟨hlen, hrow⟩ := h
  have HR := hideIt hrow
  have HL := hideIt hlen
  have HN := hideIt (numberText_any (k : Int) k rfl (by omega) w)
  have hv5 := vt_le5 k (by omega)
  have HB := hideIt hby
  clear hrow hby
  go_enter Tryz.func110, Tryz.ntmps110
  go_wp2_with (go_at_call 109; refine HN.out.mono ?_; rintro e w1 ⟨rfl, hb1⟩; refine Hid.out ?_)
  refine (show ∀ {p : Prop}, p → Hid p from fun h => h) ?_
  obtain ⟨v0, w2, hcv, hown, hb2⟩ := conv_newG (vt k) (by omega) w1
  change (convert 9 136 (.string (str (vt k)))).run Tryz.prog w1 = .ok v0 w2 at hcv
  have hb12 := hb1.trans (hb2.mono hb1.size)
  have hs1 := hb1.size
  have hown : Hid (OwnG w2 w.heap.size v0 (vt k)) := by
    obtain ⟨g, cap, cur, fz, hv, hbg, rest⟩ := hown
    exact ⟨g, cap, cur, fz, hv, Nat.le_trans hs1 hbg, rest⟩
  clear HN hb1 hb2 hs1
  go_wp2
  go_loopw [3, 12] (fun v i wr => ∃ j : Nat, j ≤ k ∧ i = .int .i64 (j : Int) ∧ Hid (OwnG wr w.heap.size v (vt k ++ eb (es.take j))) ∧ Below w.heap.size w wr) (fun _ i _ => k - (intOf i).toNat)
  case atStart => exact ⟨0, by omega, rfl, by show OwnG _ _ _ _; simpa [eb] using hown.out, hb12⟩
  case round =>
    obtain ⟨j, hj, rfl, hO, hb⟩ := hrel
    by_cases hlt : j < k
    · rcases HR.out with hz | ⟨b, off, rfl, hbl, hc⟩
      · omega
      · obtain ⟨f, hf⟩ : ∃ f, es[j]? = some f := ⟨es[j]'(by omega), List.getElem?_eq_getElem (by omega)⟩
        obtain ⟨c0, c1⟩ := hc j f hf
        have e0 : wr.cell? ⟨b, off + j * 2, none⟩ = some (.int .i64 f.1) := by rw [hb.cell hbl]; exact c0
        have e1 : wr.cell? ⟨b, off + j * 2 + 1, none⟩ = some (.int .i64 f.2) := by rw [hb.cell hbl]; exact c1
        obtain ⟨⟨f1, f2⟩, f3, f4⟩ := HB.out f (List.mem_of_getElem? hf)
        have b1 : (0 : Int) ≤ (j : Int) := by omega
        have b2 : (j : Int) < (k : Int) := by omega
        have HTk := hideIt (take_snocF es j f hf)
        have hle : (vt k ++ eb (es.take j)).length ≤ 5 + 200 := by rw [List.length_append, eb_length]; simp; omega
        have hsz := hb.size
        have HLe := hideIt hle
        clear c0 c1 hc hf hle
        go_wp2_with (at_builtin; refine wpList_appendG rfl _ _ rfl w.heap.size _ _ rfl ((hO.out.alloc _).alloc _) ⟨wr.heap.size + 1, 0, none⟩ 2 2 [ob f.1, ob f.2] rfl rfl ?_ (by have := HLe.out; simp only [List.length_cons, List.length_nil]; omega) (by simp; omega) ?_)
        · have := two_new (wr.alloc (.cells #[.int .i64 f.1, .int .i64 f.2] 120)) (ob f.1) (ob f.2) f.1 f.2 (ob_back ⟨f1, f2⟩) (ob_back ⟨f3, f4⟩) 5
          simpa using this
        · intro v1 w1 hown1 hg1
          have hb1 : Below w.heap.size w w1 := ((hb.alloc (by omega) _).alloc (by simp; omega) _).grown hg1 (by simp; omega) (fun q hq => (hO.out.lt q hq).1)
          have HO1 : Hid (OwnG w1 w.heap.size v1 (vt k ++ eb (es.take (j + 1)))) := by
            show OwnG _ _ _ _
            rw [HTk.out, eb_append, eb_cons]
            exact hown1
          clear hown1 hg1 hO
          go_wp2
          go_roundw
          case rel => exact ⟨j + 1, by omega, by go_num, HO1, hb1⟩
          case measure => simp [intOf]; omega
    · have e : es.take j = es := List.take_of_length_le (by omega)
      have hcb := conv_backG hO.out
      rw [e] at hcb
      have hz : (⟨(vt k ++ eb es).toArray⟩ : ByteArray) = str (et es) := by unfold et; rw [HL.out]; rfl
      rw [hz] at hcb
      clear hz e hO HL hlen
      go_wp2
      go_ret
      exact ⟨rfl, hb⟩
end Go.Proofs.YthnibebljbljdaaGreatDoor
namespace Go.Proofs.YthnibebljbljdaaGreatDoor
open Go.RowKit Vt

theorem conv_g (g : Nat) (b : UInt8) (x : Int) (hx : (b.toNat : Int) = x) (W : World) (h : W.cell? ⟨g, 0, none⟩ = some (.int .u8 x)) :
    (convert 136 9 (.slice (some ⟨g, 0, none⟩) 1 1)).run Tryz.prog W = .ok (.string (str [b])) W := by
  subst hx
  refine run_convert_bytes_back (P := Tryz.prog) W 136 9 5 ⟨g, 0, none⟩ 1 [b] Tryz.underlying136 Tryz.underlying5 Tryz.underlying9 ?_
  intro j hj
  match j, hj with
  | 0, _ => exact h

theorem new_then1 (w : World) (x : Value) {w1 : World} (hb : Below (w.alloc (.cells #[x] 5)).heap.size (w.alloc (.cells #[x] 5)) w1) : w1.cell? ⟨w.heap.size, 0, none⟩ = some x ∧ w.heap.size < w1.heap.size :=
  ⟨by rw [hb.cell (by simp)]; simp, by have := hb.size; simp at this; omega⟩
/-- what was new ahead of a call stands there behind it -/
theorem new_then (w : World) (x : Value) {w1 : World} (hb : Below (w.drew.alloc (.cells #[x] 5)).heap.size (w.drew.alloc (.cells #[x] 5)) w1) : w1.cell? ⟨w.heap.size, 0, none⟩ = some x ∧ w.heap.size < w1.heap.size :=
  new_then1 w.drew x hb
theorem old_then {w w1 : World} {g : Nat} {x : Value} (h : w.cell? ⟨g, 0, none⟩ = some x ∧ g < w.heap.size) (hb : Below w.heap.size w w1) : w1.cell? ⟨g, 0, none⟩ = some x ∧ g < w1.heap.size :=
  ⟨by rw [hb.cell h.2]; exact h.1, Nat.lt_of_lt_of_le h.2 hb.size⟩

set_option maxRecDepth 100000 in
set_option maxHeartbeats 4000000 in
theorem commandText_any (op : UInt8) (x v : Int) (hx : (op.toNat : Int) = x) (hv : 0 ≤ v ∧ v ≤ 1000) (es : List EdgeV) (k : Nat) (a : Option Addr) (c : Nat) (hk : k ≤ 100) (hby : EB8 es) (w : World) (h : Es w w.heap.size a k es) :
    Calls Tryz.prog 175 #[.int .u8 x, .int .i64 v, .slice a k c] w fun e w' => e = .returned (.string (str (op :: (vt v.toNat ++ et es)))) ∧ Below w.heap.size w w' := by
  have HN : Hid (∀ W, Below w.heap.size w W → Calls Tryz.prog 109 #[.int .i64 v] W fun e w' => e = .returned (.string (str (vt v.toNat))) ∧ Below w.heap.size w w' ∧ Below W.heap.size W w') := fun W hW =>
    (numberText_any v v.toNat (by omega) (by omega) W).mono fun _ _ ⟨he, hb⟩ => ⟨he, hW.trans (hb.mono hW.size), hb⟩
  have HE : Hid (∀ W, Below w.heap.size w W → Calls Tryz.prog 110 #[.slice a k c] W fun e w' => e = .returned (.string (str (et es))) ∧ Below w.heap.size w w' ∧ Below W.heap.size W w') := fun W hW =>
    (edgesText_any es k a c hk hby W (h.up hW)).mono fun _ _ ⟨he, hb⟩ => ⟨he, hW.trans (hb.mono hW.size), hb⟩
  have hl1 := vt_le5 v.toNat (by omega)
  have hl2 : (et es).length ≤ 205 := by
    have := h.1
    unfold et
    rw [List.length_append, eb_length]
    have := vt_le5 es.length (by omega)
    omega
  have A1 : ∀ wx, (Op.stringOp .add (str [op]) (str (vt v.toNat))).run Tryz.prog wx = .ok (.string (str ([op] ++ vt v.toNat))) wx := str_add _ _ (by simp; omega)
  have A2 : ∀ wx, (Op.stringOp .add (str ([op] ++ vt v.toNat)) (str (et es))).run Tryz.prog wx = .ok (.string (str ([op] ++ vt v.toNat ++ et es))) wx := str_add _ _ (by simp; omega)
  have FN : Hid (str ([op] ++ vt v.toNat ++ et es) = str (op :: (vt v.toNat ++ et es))) := by show _ = _; simp
  have CV : ∀ (g : Nat) (W : World), W.cell? ⟨g, 0, none⟩ = some (.int .u8 x) → (convert 136 9 (.slice (some ⟨g, 0, none⟩) 1 1)).run Tryz.prog W = .ok (.string (str [op])) W := fun g W hW => conv_g g op x hx W hW
  generalize hs1 : str [op] = s1 at *
  generalize hs2 : str (vt v.toNat) = s2 at *
  generalize hs3 : str (et es) = s3 at *
  generalize hs4 : str ([op] ++ vt v.toNat) = s4 at *
  generalize hs5 : str ([op] ++ vt v.toNat ++ et es) = s5 at *
  clear hs1 hs2 hs3 hs4 hs5 hl1 hl2 h hby
  have B0 : Below w.heap.size w w.drew := (Below.refl _ _).drew
  go_enter Tryz.func175, Tryz.ntmps175
  go_wp2
  go_region_with (first
    | (go_at_call 109; refine (HN.out _ (by first | exact B0 | exact B0.alloc (Nat.le_refl _) _)).mono ?_; rintro e w1 ⟨rfl, B1, hb1⟩; (first | (have q1 := new_then w _ hb1; clear hb1) | clear hb1))
    | (go_at_call 110; refine (HE.out _ (by first | exact B1 | exact B1.alloc B1.size _)).mono ?_; rintro e w2 ⟨rfl, B2, hb2⟩; (first | (have q2 := old_then q1 hb2; clear hb2) | (have q3 := new_then1 w1 _ hb2; clear hb2) | clear hb2)))
  all_goals
    go_wp2
    go_ret
    exact ⟨by show Ending.returned (.string s5) = _; rw [FN.out], by first | exact B2 | exact B2.alloc B2.size _⟩
end Go.Proofs.YthnibebljbljdaaGreatDoor
