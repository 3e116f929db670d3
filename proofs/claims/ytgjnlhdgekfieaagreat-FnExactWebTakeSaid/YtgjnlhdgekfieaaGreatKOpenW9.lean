/- The walk of FnExactWebTake. A web that comes in. -/
import Derived.Test.YtgjnlhdgekfieaaGreatKWt9
import Derived.Test.YtgjnlhdgekfieaaGreatKDag9
import Derived.Test.YtgjnlhdgekfieaaGreatKIWt9
import Derived.Deep.DeepCutAuto
import Derived.Test.YtgjnlhdgekfieaaGreatKBx7
import Derived.WalkKit
import Derived.ProofKit
import Derived.OpenShut
import Derived.ChangeOld
import Derived.ChangeArms
import Derived.Below
import Derived.ChangeSlices
namespace Go.Proofs.YtgjnlhdgekfieaaGreat
open Go.RowKit

theorem srO_len {i : Int} {t : List Int} : ∀ {L : List Ld}, (srO i t L).1.length = L.length
  | [] => rfl
  | x :: xs => by
    rw [srO]
    by_cases h : hitL i t x
    · rw [if_pos h]
      rfl
    · rw [if_neg h]
      simp [srO_len (L := xs)]
theorem tkO_len {n : Nat} {e : EdgeV} : ∀ {k : Nat} {L : List Ld}, (tkO n e k L).1.length = L.length
  | 0, L => rfl
  | k + 1, L => by
    have h1 : (lvO n e (k : Int) L).1.length = L.length := by unfold lvO; rw [srO_len]; simp
    rw [tkO]
    by_cases h : (lvO n e (k : Int) L).2.isSome
    · rw [if_pos h, h1]
    · rw [if_neg h, tkO_len, h1]
theorem wtO_len {N : Int} {fs : List Ld} {x : EdgeV} : (wtL (wtO N fs x)).length ≤ 200 := by
  by_cases h : WOk N fs ∧ hasB (gE fs) x = true
  · obtain ⟨nn, rfl, _, _⟩ := gB_n h.1.1
    obtain ⟨k, y, _, _, _, _, hf⟩ := take_at h.1 h.2
    rw [wtO_yes h.1 h.2 hf]
    have h1 := (gB_chk h.1.1).2.2
    rw [gE_len] at h1
    have h2 : (ouL fs x).length ≤ fs.length := List.length_filter_le _ _
    by_cases ht : y.t = true
    · rw [if_pos ht]
      show (tkO nn x (y.l.toNat + 1) (ouL fs x)).1.length ≤ 200
      rw [tkO_len]
      omega
    · rw [if_neg ht]
      show (ouL fs x).length ≤ 200
      omega
  · rw [wtO_no h]
    simp [wtL]
theorem eqEdge9_yes (f : EdgeV) (w : World) :
    Calls Tryz.prog 53 #[.agg #[.int .i64 f.1, .int .i64 f.2], .agg #[.int .i64 f.1, .int .i64 f.2]] w fun e w' => e = .returned (.bool true) ∧ Below w.heap.size w w' := by
  go_enter Tryz.func53, Tryz.ntmps53
  go_wp2
  go_ret
  exact ⟨rfl, ((Below.refl _ _).alloc (Nat.le_refl _) _).alloc (by simp) _⟩
/-- an answer of the law's: the web in a box, the edge in another -/
structure TAn (u : World) (lo b be : Nat) (M : Int) (a : Option Addr) (m c : Nat) (gs : List Ld) (d : EdgeV) : Prop where
  pb : PBox u lo u.heap.size b 26 52 4 M a m c (lcells gs)
  eb : Box7 u be 28 (.int .i64 d.1) (.int .i64 d.2)
  le : lo ≤ be
section
variable {W u : World} {bX bY : Nat} {M : Int} {a : Option Addr} {m c : Nat} {gs : List Ld} {v0 v1 x0 x1 : Value}
theorem ta_one (GU : Good W u) (BX : Box7 u bX 26 v0 v1) (BY : Box7 u bY 28 x0 x1) (RA : u.ownsRow W.heap.size 52 4 (.slice a m c) m (lcells gs)) (LX : W.heap.size ≤ bX) (NE : bX ≠ bY) :
    Good W ((u.setCell ⟨bX, 0, none⟩ (.int .i64 M)).setCell ⟨bX, 1, none⟩ (.slice a m c)) ∧ PBox ((u.setCell ⟨bX, 0, none⟩ (.int .i64 M)).setCell ⟨bX, 1, none⟩ (.slice a m c)) W.heap.size ((u.setCell ⟨bX, 0, none⟩ (.int .i64 M)).setCell ⟨bX, 1, none⟩ (.slice a m c)).heap.size bX 26 52 4 M a m c (lcells gs) ∧ Box7 ((u.setCell ⟨bX, 0, none⟩ (.int .i64 M)).setCell ⟨bX, 1, none⟩ (.slice a m c)) bY 28 x0 x1 :=
  ⟨Good.set2 GU _ _ _ LX, PBox.stored (by decide) BX LX RA, (BY.setOther _ NE.symm).setOther _ NE.symm⟩
theorem pb_setE {u : World} {lo hi b be j : Nat} {v : Value} (h : PBox u lo hi b 26 52 4 M a m c (lcells gs)) (hb : Box7 u be 28 x0 x1) (hne : b ≠ be) : PBox (u.setCell ⟨be, j, none⟩ v) lo hi b 26 52 4 M a m c (lcells gs) :=
  ⟨h.box.setOther _ hne, own_kinds h.own hb (by decide), h.least, h.most, h.row, by have := h.there; simpa using this⟩
theorem ta_two {d : EdgeV} {lo : Nat} (h : Good W u ∧ PBox u lo u.heap.size bX 26 52 4 M a m c (lcells gs) ∧ Box7 u bY 28 x0 x1) (LY : lo ≤ bY) (NE : bX ≠ bY) : TAn ((u.setCell ⟨bY, 0, none⟩ (.int .i64 d.1)).setCell ⟨bY, 1, none⟩ (.int .i64 d.2)) lo bX bY M a m c gs d := by
  have h1 := pb_setE (j := 0) (v := .int .i64 d.1) h.2.1 h.2.2 NE
  have hb1 : (u.setCell ⟨bY, 0, none⟩ (.int .i64 d.1)).heap[bY]? = some (.cells #[.int .i64 d.1, x1] 28 (0, 0)) := by rw [heap_setCell_same u bY 0 _ _ _ h.2.2]; rfl
  have h2 := pb_setE (j := 1) (v := .int .i64 d.2) h1 (x0 := .int .i64 d.1) (x1 := x1) hb1 NE
  refine ⟨?_, h.2.2.set2 _ _, LY⟩
  have e : ((u.setCell ⟨bY, 0, none⟩ (.int .i64 d.1)).setCell ⟨bY, 1, none⟩ (.int .i64 d.2)).heap.size = u.heap.size := by simp
  rw [e]
  exact h2
end
theorem Box7.rng {u v : World} {b lo hi : Nat} {t : TypeId} {v0 v1 : Value} (h : Box7 u b t v0 v1) (hr : Rng lo hi u v) (ho : b < lo ∨ hi ≤ b) : Box7 v b t v0 v1 := by
  unfold Box7
  rw [hr.block b h.lt ho]
  exact h
set_option maxRecDepth 100000 in
set_option maxHeartbeats 8000000 in
theorem fnExactWebTake.walk (N : Int) (_hN : (Lit.int .i64 N).wf = true) (fs : List Ld) (n : Nat) (a : Option Addr) (c : Nat) (hn : n ≤ maxLen) (x : EdgeV) (_hx : FitE9 x) (w : World) (h : Ls w w.heap.size a n fs) :
    Calls Tryz.prog 9 #[.agg #[.int .i64 N, .slice a n c], .agg #[.int .i64 x.1, .int .i64 x.2]] w fun e w' => e = .returned (.bool true) ∧ Below w.heap.size w w' := by
  have HS := hideIt (szWeb_any N n a c hn (lw9 w N a n c x))
  have HF := hideIt h
  have HB := hideIt (LG9.start w N a n c x).below
  clear h
  by_cases hn1 : n ≤ 1048576
  · have e1 : szw n = 1048576 - (n : Int) := by unfold szw; rw [if_pos hn1]
    rw [e1] at HS
    clear e1
    have d1 : decide (1048576 - (n : Int) < 0) = false := decide_eq_false (by omega)
    have hgl := wtO_len (N := N) (fs := fs) (x := x)
    have hsl : ∀ g, Sl (some ⟨g, 0, none⟩) n n := fun g => ⟨Nat.le_refl _, hn, .inr ⟨g, 0, rfl⟩⟩
    have HDs : Hid (∀ (u : World) (g B : Nat), u.ownsRow B 52 4 (.slice (some ⟨g, 0, none⟩) n n) n (lcells fs) → Calls Tryz.prog 29 #[.agg #[.int .i64 N, .slice (some ⟨g, 0, none⟩) n n], .agg #[.int .i64 x.1, .int .i64 x.2]] u fun e v => ∃ aw mw cw, e = .returned (.tuple #[.agg #[.int .i64 (if (wtO N fs x).isSome then N else 0), .slice aw mw cw], .agg #[.int .i64 (wtE (wtO N fs x)).1, .int .i64 (wtE (wtO N fs x)).2], .bool (wtF (wtO N fs x)), .bool (wtO N fs x).isSome]) ∧ v.ownsRow u.heap.size 52 4 (.slice aw mw cw) mw (lcells (wtL (wtO N fs x))) ∧ Below u.heap.size u v) := fun u g B ho => sWebTake_any N fs x n (some ⟨g, 0, none⟩) n hn1 u (Ls_of_own ho)
    have HDi : Hid (∀ (u : World) (g B : Nat), u.ownsRow B 52 4 (.slice (some ⟨g, 0, none⟩) n n) n (lcells fs) → Calls Tryz.prog 16 #[.agg #[.int .i64 N, .slice (some ⟨g, 0, none⟩) n n], .agg #[.int .i64 x.1, .int .i64 x.2]] u fun e v => ∃ aw mw cw, e = .returned (.tuple #[.agg #[.int .i64 (if (wtO N fs x).isSome then N else 0), .slice aw mw cw], .agg #[.int .i64 (wtE (wtO N fs x)).1, .int .i64 (wtE (wtO N fs x)).2], .bool (wtF (wtO N fs x)), .bool (wtO N fs x).isSome]) ∧ v.ownsRow u.heap.size 52 4 (.slice aw mw cw) mw (lcells (wtL (wtO N fs x))) ∧ Below u.heap.size u v) := fun u g B ho => iWebTake_any N fs x n (some ⟨g, 0, none⟩) n (hsl g) hn1 u (Ls_of_own ho)
    have HEe := hideIt (fun f w => eqEdge9_yes f w)
    generalize (if (wtO N fs x).isSome then N else 0) = M at *
    generalize (wtO N fs x).isSome = fl at *
    generalize wtF (wtO N fs x) = tk at *
    generalize wtE (wtO N fs x) = d at *
    generalize wtL (wtO N fs x) = gs at *
    have hkk : (tk != tk) = false := by simp
    have hff : (fl != fl) = false := by simp
    clear hsl
    go_enter Tryz.func9, Tryz.ntmps9
    go_wp2_with (go_at_call 49; refine (show Calls Tryz.prog 49 _ (lw9 w N a n c x) _ from HS.out).mono ?_; rintro e w2 ⟨rfl, hb1⟩; refine Hid.out ?_)
    refine (show ∀ {p : Prop}, p → Hid p from fun h => h) ?_
    have L2 : LG9 w N a n c x w2 := (LG9.start w N a n c x).up hb1
    clear hb1 HS
    obtain ⟨⟨c0, c1⟩, c2, c3⟩ := L2.cells
    have HC := hideIt (fun u (hu : Good w2 u) => And.intro (L2.good hu).cells hu)
    have hS2 := HC.out _ (Good.refl w2).drew
    have zz := L2.size
    go_upto_region 5 with fail
    go_cut [6, 7, 8, 9] (fun p pe o2 ok wx => ∃ b be aw mw cw, p = .pointer (some ⟨b, 0, none⟩) ∧ pe = .pointer (some ⟨be, 0, none⟩) ∧ o2 = .bool tk ∧ ok = .bool fl ∧ Good w2 wx ∧ TAn wx w2.heap.size b be M aw mw cw gs d)
    case first =>
      have HT := hideIt (fun u (hu : Good w2 u) => toWeb_G N fs n a c hn1 (L2.ls HF.out) hu)
      (
 apply viaT
 intro t1_2_3_100_101_
 apply viaT
 intro t1_2_3_100_
 apply viaT
 intro t1_2_3_101_
 apply viaT
 intro t1_2_100_101_
 apply viaT
 intro t1_2_3_
 apply viaT
 intro t1_2_100_
 apply viaT
 intro t1_2_101_
 apply viaT
 intro t1_100_101_
 apply viaT
 intro t1_2_
 apply viaT
 intro t1_100_
 apply viaT
 intro t1_101_
 apply viaT
 intro t100_101_
 apply viaT
 intro t1_
 apply viaT
 intro t100_
 apply viaT
 intro t101_
 focus (
 refine wp_region_held_drew (S := (fun u => ((u.cell? ⟨w.heap.size, 0, none⟩ = some (.int .i64 N) ∧ u.cell? ⟨w.heap.size, 1, none⟩ = some (.slice a n c)) ∧ u.cell? ⟨w.heap.size + 1, 0, none⟩ = some (.int .i64 x.1) ∧ u.cell? ⟨w.heap.size + 1, 1, none⟩ = some (.int .i64 x.2)) ∧ Good w2 u)) (by kernel_rfl) hS2 (fun hHeld => ?_)
 refine wpAnyH_take (i := 0) (v := ?_) rfl (by kernel_rfl) (by kernel_rfl) (by kernel_rfl) (fun _ _ _ h => h) (Or.inl ⟨by rfl, ?_⟩) (by assumption) ?_
 rotate_left
 · intro w hSw; (try dsimp only at hSw); go_simp; try with_reducible rfl
 try simp only [Act.put, List.getElem_toArray, List.getElem_cons_zero, List.setIfInBounds_toArray, List.set_cons_zero, List.set_cons_succ]
 refine wpAnyH_take (i := 2) (v := ?_) rfl (by kernel_rfl) (by kernel_rfl) (by kernel_rfl) (fun _ _ _ h => h) (Or.inl ⟨by rfl, ?_⟩) (by assumption) ?_
 rotate_left
 · intro w hSw; (try dsimp only at hSw); go_simp; try with_reducible rfl
 try simp only [Act.put, List.getElem_toArray, List.getElem_cons_succ, List.getElem_cons_zero, List.setIfInBounds_toArray, List.set_cons_zero, List.set_cons_succ]
 obtain ⟨y, hy⟩ : ∃ y, y = w2.drew := ⟨_, rfl⟩
 have GU : Good w2 y := by rw [hy]; exact (Good.refl _).drew
 rw [← hy]
 clear hy hHeld
 refine wpAnyH_ready (rs := [1, 10, 11]) (by kernel_rfl) (by simp) ?_
 refine AllReadyH.cons rfl (fun K hK => ?_) (AllReadyH.cons rfl (fun K hK => ?_) (AllReadyH.cons rfl (fun K hK => ?_) AllReadyH.nil))
 focus (
 rw [if_pos]
 rotate_left
 · kernel_rfl
 have HCall := hideIt (HT.out _ GU)
 go_wp2_with (go_at_call 50; refine HCall.out.mono ?_; rintro e z ⟨g3, rfl, RW, -, gg⟩; refine Hid.out ?_)
 refine hidp ?_
 refine hK.out _ _ (HC.out _ (Good.up GU gg)) (fun hHeld => ?_)
 clear hK K HCall
 try simp only [Act.put, List.getElem_toArray, List.getElem_cons_succ, List.getElem_cons_zero, List.setIfInBounds_toArray, List.set_cons_zero, List.set_cons_succ]
 replace GU := Good.up GU gg
 clear gg
 clear hHeld
 refine lstH (l' := #[true, true, true, false, false, false, false, false, false, false, false, false, false, false, false, false]) (by kernel_rfl) ?_
 have F := And.intro GU RW
 clear GU RW
 revert F
 revert g3
 revert z
 exact t1_.out
 )
 focus (
 go_simp
 refine hK.out _ _ (HC.out _ (GU.alloc _)) (fun hHeld => ?_)
 clear hK K
 try simp only [Act.put, List.getElem_toArray, List.getElem_cons_succ, List.getElem_cons_zero, List.setIfInBounds_toArray, List.set_cons_zero, List.set_cons_succ]
 obtain ⟨z, hz⟩ : ∃ z, z = y.alloc (.cells #[.int .i64 0, .slice none 0 0] 26) := ⟨_, rfl⟩
 have gg : Below y.heap.size y z := by rw [hz]; exact (Below.refl _ _).alloc (Nat.le_refl _) _
 have BX : Box7 z y.heap.size 26 (.int .i64 0) (.slice none 0 0) := by rw [hz]; exact Box7.new _ _ _ _ _ rfl
 have LX : w2.heap.size ≤ y.heap.size := GU.size
 replace GU := Good.up GU gg
 rw [← hz]
 clear hz gg hHeld
 generalize y.heap.size = bX_ at *
 refine lstH (l' := #[true, false, true, false, false, false, false, false, false, false, true, false, false, false, false, false]) (by kernel_rfl) ?_
 have F := And.intro GU (And.intro BX LX)
 clear GU BX LX
 revert F
 revert bX_
 revert z
 exact t100_.out
 )
 focus (
 go_simp
 refine hK.out _ _ (HC.out _ (GU.alloc _)) (fun hHeld => ?_)
 clear hK K
 try simp only [Act.put, List.getElem_toArray, List.getElem_cons_succ, List.getElem_cons_zero, List.setIfInBounds_toArray, List.set_cons_zero, List.set_cons_succ]
 obtain ⟨z, hz⟩ : ∃ z, z = y.alloc (.cells #[.int .i64 0, .int .i64 0] 28) := ⟨_, rfl⟩
 have gg : Below y.heap.size y z := by rw [hz]; exact (Below.refl _ _).alloc (Nat.le_refl _) _
 have BY : Box7 z y.heap.size 28 (.int .i64 0) (.int .i64 0) := by rw [hz]; exact Box7.new _ _ _ _ _ rfl
 have LY : w2.heap.size ≤ y.heap.size := GU.size
 replace GU := Good.up GU gg
 rw [← hz]
 clear hz gg hHeld
 generalize y.heap.size = bY_ at *
 refine lstH (l' := #[true, false, true, false, false, false, false, false, false, false, false, true, false, false, false, false]) (by kernel_rfl) ?_
 have F := And.intro GU (And.intro BY LY)
 clear GU BY LY
 revert F
 revert bY_
 revert z
 exact t101_.out
 )
 )
 focus (
 intro y bY_ F
 obtain ⟨GU, BY, LY⟩ := F
 have hHeld := HC.out _ GU
 clear hHeld
 refine wpAnyH_ready (rs := [1, 10]) (by kernel_rfl) (by simp) ?_
 refine AllReadyH.cons rfl (fun K hK => ?_) (AllReadyH.cons rfl (fun K hK => ?_) AllReadyH.nil)
 focus (
 rw [if_pos]
 rotate_left
 · kernel_rfl
 have HCall := hideIt (HT.out _ GU)
 go_wp2_with (go_at_call 50; refine HCall.out.mono ?_; rintro e z ⟨g3, rfl, RW, -, gg⟩; refine Hid.out ?_)
 refine hidp ?_
 refine hK.out _ _ (HC.out _ (Good.up GU gg)) (fun hHeld => ?_)
 clear hK K HCall
 try simp only [List.setIfInBounds_toArray, List.set_cons_zero, List.set_cons_succ]
 replace GU := Good.up GU gg
 replace BY := BY.up gg
 clear gg
 clear hHeld
 refine lstH (l' := #[true, true, true, false, false, false, false, false, false, false, false, true, false, false, false, false]) (by kernel_rfl) ?_
 have F := And.intro GU (And.intro RW (And.intro BY LY))
 clear GU RW BY LY
 revert F
 revert bY_
 revert g3
 revert z
 exact t1_101_.out
 )
 focus (
 go_simp
 refine hK.out _ _ (HC.out _ (GU.alloc _)) (fun hHeld => ?_)
 clear hK K
 try simp only [List.setIfInBounds_toArray, List.set_cons_zero, List.set_cons_succ]
 obtain ⟨z, hz⟩ : ∃ z, z = y.alloc (.cells #[.int .i64 0, .slice none 0 0] 26) := ⟨_, rfl⟩
 have gg : Below y.heap.size y z := by rw [hz]; exact (Below.refl _ _).alloc (Nat.le_refl _) _
 have BX : Box7 z y.heap.size 26 (.int .i64 0) (.slice none 0 0) := by rw [hz]; exact Box7.new _ _ _ _ _ rfl
 have LX : w2.heap.size ≤ y.heap.size := GU.size
 have NE : y.heap.size ≠ bY_ := by have := BY.lt; omega
 replace GU := Good.up GU gg
 replace BY := BY.up gg
 rw [← hz]
 clear hz gg hHeld
 generalize y.heap.size = bX_ at *
 refine lstH (l' := #[true, false, true, false, false, false, false, false, false, false, true, true, false, false, false, false]) (by kernel_rfl) ?_
 have F := And.intro GU (And.intro BX (And.intro LX (And.intro BY (And.intro LY NE))))
 clear GU BX LX BY LY NE
 revert F
 revert bY_
 revert bX_
 revert z
 exact t100_101_.out
 )
 )
 focus (
 intro y bX_ F
 obtain ⟨GU, BX, LX⟩ := F
 have hHeld := HC.out _ GU
 clear hHeld
 refine wpAnyH_ready (rs := [1, 11]) (by kernel_rfl) (by simp) ?_
 refine AllReadyH.cons rfl (fun K hK => ?_) (AllReadyH.cons rfl (fun K hK => ?_) AllReadyH.nil)
 focus (
 rw [if_pos]
 rotate_left
 · kernel_rfl
 have HCall := hideIt (HT.out _ GU)
 go_wp2_with (go_at_call 50; refine HCall.out.mono ?_; rintro e z ⟨g3, rfl, RW, -, gg⟩; refine Hid.out ?_)
 refine hidp ?_
 refine hK.out _ _ (HC.out _ (Good.up GU gg)) (fun hHeld => ?_)
 clear hK K HCall
 try simp only [List.setIfInBounds_toArray, List.set_cons_zero, List.set_cons_succ]
 replace GU := Good.up GU gg
 replace BX := BX.up gg
 clear gg
 clear hHeld
 refine lstH (l' := #[true, true, true, false, false, false, false, false, false, false, true, false, false, false, false, false]) (by kernel_rfl) ?_
 have F := And.intro GU (And.intro RW (And.intro BX LX))
 clear GU RW BX LX
 revert F
 revert bX_
 revert g3
 revert z
 exact t1_100_.out
 )
 focus (
 go_simp
 refine hK.out _ _ (HC.out _ (GU.alloc _)) (fun hHeld => ?_)
 clear hK K
 try simp only [List.setIfInBounds_toArray, List.set_cons_zero, List.set_cons_succ]
 obtain ⟨z, hz⟩ : ∃ z, z = y.alloc (.cells #[.int .i64 0, .int .i64 0] 28) := ⟨_, rfl⟩
 have gg : Below y.heap.size y z := by rw [hz]; exact (Below.refl _ _).alloc (Nat.le_refl _) _
 have BY : Box7 z y.heap.size 28 (.int .i64 0) (.int .i64 0) := by rw [hz]; exact Box7.new _ _ _ _ _ rfl
 have LY : w2.heap.size ≤ y.heap.size := GU.size
 have NE : bX_ ≠ y.heap.size := by have := BX.lt; omega
 replace GU := Good.up GU gg
 replace BX := BX.up gg
 rw [← hz]
 clear hz gg hHeld
 generalize y.heap.size = bY_ at *
 refine lstH (l' := #[true, false, true, false, false, false, false, false, false, false, true, true, false, false, false, false]) (by kernel_rfl) ?_
 have F := And.intro GU (And.intro BX (And.intro LX (And.intro BY (And.intro LY NE))))
 clear GU BX LX BY LY NE
 revert F
 revert bY_
 revert bX_
 revert z
 exact t100_101_.out
 )
 )
 focus (
 intro y g3 F
 obtain ⟨GU, RW⟩ := F
 have hHeld := HC.out _ GU
 clear hHeld
 refine wpAnyH_ready (rs := [3, 10, 11]) (by kernel_rfl) (by simp) ?_
 refine AllReadyH.cons rfl (fun K hK => ?_) (AllReadyH.cons rfl (fun K hK => ?_) (AllReadyH.cons rfl (fun K hK => ?_) AllReadyH.nil))
 focus (
 rw [if_pos]
 rotate_left
 · kernel_rfl
 have HCall := hideIt (toEdge9_any x y)
 go_wp2_with (go_at_call 51; refine HCall.out.mono ?_; rintro e z ⟨rfl, gg⟩; refine Hid.out ?_)
 refine hidp ?_
 refine hK.out _ _ (HC.out _ (Good.up GU gg)) (fun hHeld => ?_)
 clear hK K HCall
 try simp only [List.setIfInBounds_toArray, List.set_cons_zero, List.set_cons_succ]
 replace GU := Good.up GU gg
 replace RW := own_up RW gg
 clear gg
 clear hHeld
 refine lstH (l' := #[true, true, true, true, false, false, false, false, false, false, false, false, false, false, false, false]) (by kernel_rfl) ?_
 have F := And.intro GU RW
 clear GU RW
 revert F
 revert g3
 revert z
 exact t1_2_.out
 )
 focus (
 go_simp
 refine hK.out _ _ (HC.out _ (GU.alloc _)) (fun hHeld => ?_)
 clear hK K
 try simp only [List.setIfInBounds_toArray, List.set_cons_zero, List.set_cons_succ]
 obtain ⟨z, hz⟩ : ∃ z, z = y.alloc (.cells #[.int .i64 0, .slice none 0 0] 26) := ⟨_, rfl⟩
 have gg : Below y.heap.size y z := by rw [hz]; exact (Below.refl _ _).alloc (Nat.le_refl _) _
 have BX : Box7 z y.heap.size 26 (.int .i64 0) (.slice none 0 0) := by rw [hz]; exact Box7.new _ _ _ _ _ rfl
 have LX : w2.heap.size ≤ y.heap.size := GU.size
 replace GU := Good.up GU gg
 replace RW := own_up RW gg
 rw [← hz]
 clear hz gg hHeld
 generalize y.heap.size = bX_ at *
 refine lstH (l' := #[true, true, true, false, false, false, false, false, false, false, true, false, false, false, false, false]) (by kernel_rfl) ?_
 have F := And.intro GU (And.intro RW (And.intro BX LX))
 clear GU RW BX LX
 revert F
 revert bX_
 revert g3
 revert z
 exact t1_100_.out
 )
 focus (
 go_simp
 refine hK.out _ _ (HC.out _ (GU.alloc _)) (fun hHeld => ?_)
 clear hK K
 try simp only [List.setIfInBounds_toArray, List.set_cons_zero, List.set_cons_succ]
 obtain ⟨z, hz⟩ : ∃ z, z = y.alloc (.cells #[.int .i64 0, .int .i64 0] 28) := ⟨_, rfl⟩
 have gg : Below y.heap.size y z := by rw [hz]; exact (Below.refl _ _).alloc (Nat.le_refl _) _
 have BY : Box7 z y.heap.size 28 (.int .i64 0) (.int .i64 0) := by rw [hz]; exact Box7.new _ _ _ _ _ rfl
 have LY : w2.heap.size ≤ y.heap.size := GU.size
 replace GU := Good.up GU gg
 replace RW := own_up RW gg
 rw [← hz]
 clear hz gg hHeld
 generalize y.heap.size = bY_ at *
 refine lstH (l' := #[true, true, true, false, false, false, false, false, false, false, false, true, false, false, false, false]) (by kernel_rfl) ?_
 have F := And.intro GU (And.intro RW (And.intro BY LY))
 clear GU RW BY LY
 revert F
 revert bY_
 revert g3
 revert z
 exact t1_101_.out
 )
 )
 focus (
 intro y bX_ bY_ F
 obtain ⟨GU, BX, LX, BY, LY, NE⟩ := F
 have hHeld := HC.out _ GU
 clear hHeld
 refine wpAnyH_ready (rs := [1]) (by kernel_rfl) (by simp) ?_
 refine AllReadyH.cons rfl (fun K hK => ?_) AllReadyH.nil
 focus (
 rw [if_pos]
 rotate_left
 · kernel_rfl
 have HCall := hideIt (HT.out _ GU)
 go_wp2_with (go_at_call 50; refine HCall.out.mono ?_; rintro e z ⟨g3, rfl, RW, -, gg⟩; refine Hid.out ?_)
 refine hidp ?_
 refine hK.out _ _ (HC.out _ (Good.up GU gg)) (fun hHeld => ?_)
 clear hK K HCall
 try simp only [List.setIfInBounds_toArray, List.set_cons_zero, List.set_cons_succ]
 replace GU := Good.up GU gg
 replace BX := BX.up gg
 replace BY := BY.up gg
 clear gg
 clear hHeld
 refine lstH (l' := #[true, true, true, false, false, false, false, false, false, false, true, true, false, false, false, false]) (by kernel_rfl) ?_
 have F := And.intro GU (And.intro RW (And.intro BX (And.intro LX (And.intro BY (And.intro LY NE)))))
 clear GU RW BX LX BY LY NE
 revert F
 revert bY_
 revert bX_
 revert g3
 revert z
 exact t1_100_101_.out
 )
 )
 focus (
 intro y g3 bY_ F
 obtain ⟨GU, RW, BY, LY⟩ := F
 have hHeld := HC.out _ GU
 clear hHeld
 refine wpAnyH_ready (rs := [3, 10]) (by kernel_rfl) (by simp) ?_
 refine AllReadyH.cons rfl (fun K hK => ?_) (AllReadyH.cons rfl (fun K hK => ?_) AllReadyH.nil)
 focus (
 rw [if_pos]
 rotate_left
 · kernel_rfl
 have HCall := hideIt (toEdge9_any x y)
 go_wp2_with (go_at_call 51; refine HCall.out.mono ?_; rintro e z ⟨rfl, gg⟩; refine Hid.out ?_)
 refine hidp ?_
 refine hK.out _ _ (HC.out _ (Good.up GU gg)) (fun hHeld => ?_)
 clear hK K HCall
 try simp only [List.setIfInBounds_toArray, List.set_cons_zero, List.set_cons_succ]
 replace GU := Good.up GU gg
 replace RW := own_up RW gg
 replace BY := BY.up gg
 clear gg
 clear hHeld
 refine lstH (l' := #[true, true, true, true, false, false, false, false, false, false, false, true, false, false, false, false]) (by kernel_rfl) ?_
 have F := And.intro GU (And.intro RW (And.intro BY LY))
 clear GU RW BY LY
 revert F
 revert bY_
 revert g3
 revert z
 exact t1_2_101_.out
 )
 focus (
 go_simp
 refine hK.out _ _ (HC.out _ (GU.alloc _)) (fun hHeld => ?_)
 clear hK K
 try simp only [List.setIfInBounds_toArray, List.set_cons_zero, List.set_cons_succ]
 obtain ⟨z, hz⟩ : ∃ z, z = y.alloc (.cells #[.int .i64 0, .slice none 0 0] 26) := ⟨_, rfl⟩
 have gg : Below y.heap.size y z := by rw [hz]; exact (Below.refl _ _).alloc (Nat.le_refl _) _
 have BX : Box7 z y.heap.size 26 (.int .i64 0) (.slice none 0 0) := by rw [hz]; exact Box7.new _ _ _ _ _ rfl
 have LX : w2.heap.size ≤ y.heap.size := GU.size
 have NE : y.heap.size ≠ bY_ := by have := BY.lt; omega
 replace GU := Good.up GU gg
 replace RW := own_up RW gg
 replace BY := BY.up gg
 rw [← hz]
 clear hz gg hHeld
 generalize y.heap.size = bX_ at *
 refine lstH (l' := #[true, true, true, false, false, false, false, false, false, false, true, true, false, false, false, false]) (by kernel_rfl) ?_
 have F := And.intro GU (And.intro RW (And.intro BX (And.intro LX (And.intro BY (And.intro LY NE)))))
 clear GU RW BX LX BY LY NE
 revert F
 revert bY_
 revert bX_
 revert g3
 revert z
 exact t1_100_101_.out
 )
 )
 focus (
 intro y g3 bX_ F
 obtain ⟨GU, RW, BX, LX⟩ := F
 have hHeld := HC.out _ GU
 clear hHeld
 refine wpAnyH_ready (rs := [3, 11]) (by kernel_rfl) (by simp) ?_
 refine AllReadyH.cons rfl (fun K hK => ?_) (AllReadyH.cons rfl (fun K hK => ?_) AllReadyH.nil)
 focus (
 rw [if_pos]
 rotate_left
 · kernel_rfl
 have HCall := hideIt (toEdge9_any x y)
 go_wp2_with (go_at_call 51; refine HCall.out.mono ?_; rintro e z ⟨rfl, gg⟩; refine Hid.out ?_)
 refine hidp ?_
 refine hK.out _ _ (HC.out _ (Good.up GU gg)) (fun hHeld => ?_)
 clear hK K HCall
 try simp only [List.setIfInBounds_toArray, List.set_cons_zero, List.set_cons_succ]
 replace GU := Good.up GU gg
 replace RW := own_up RW gg
 replace BX := BX.up gg
 clear gg
 clear hHeld
 refine lstH (l' := #[true, true, true, true, false, false, false, false, false, false, true, false, false, false, false, false]) (by kernel_rfl) ?_
 have F := And.intro GU (And.intro RW (And.intro BX LX))
 clear GU RW BX LX
 revert F
 revert bX_
 revert g3
 revert z
 exact t1_2_100_.out
 )
 focus (
 go_simp
 refine hK.out _ _ (HC.out _ (GU.alloc _)) (fun hHeld => ?_)
 clear hK K
 try simp only [List.setIfInBounds_toArray, List.set_cons_zero, List.set_cons_succ]
 obtain ⟨z, hz⟩ : ∃ z, z = y.alloc (.cells #[.int .i64 0, .int .i64 0] 28) := ⟨_, rfl⟩
 have gg : Below y.heap.size y z := by rw [hz]; exact (Below.refl _ _).alloc (Nat.le_refl _) _
 have BY : Box7 z y.heap.size 28 (.int .i64 0) (.int .i64 0) := by rw [hz]; exact Box7.new _ _ _ _ _ rfl
 have LY : w2.heap.size ≤ y.heap.size := GU.size
 have NE : bX_ ≠ y.heap.size := by have := BX.lt; omega
 replace GU := Good.up GU gg
 replace RW := own_up RW gg
 replace BX := BX.up gg
 rw [← hz]
 clear hz gg hHeld
 generalize y.heap.size = bY_ at *
 refine lstH (l' := #[true, true, true, false, false, false, false, false, false, false, true, true, false, false, false, false]) (by kernel_rfl) ?_
 have F := And.intro GU (And.intro RW (And.intro BX (And.intro LX (And.intro BY (And.intro LY NE)))))
 clear GU RW BX LX BY LY NE
 revert F
 revert bY_
 revert bX_
 revert g3
 revert z
 exact t1_100_101_.out
 )
 )
 focus (
 intro y g3 F
 obtain ⟨GU, RW⟩ := F
 have hHeld := HC.out _ GU
 clear hHeld
 refine wpAnyH_ready (rs := [4, 10, 11]) (by kernel_rfl) (by simp) ?_
 refine AllReadyH.cons rfl (fun K hK => ?_) (AllReadyH.cons rfl (fun K hK => ?_) (AllReadyH.cons rfl (fun K hK => ?_) AllReadyH.nil))
 focus (
 rw [if_pos]
 rotate_left
 · kernel_rfl
 have HCall := hideIt (HDs.out _ g3 _ RW)
 go_wp2_with (go_at_call 29; refine HCall.out.mono ?_; rintro e z ⟨aw, mw, cw, rfl, RA0, gg⟩; refine Hid.out ?_)
 refine hidp ?_
 refine hK.out _ _ (HC.out _ (Good.up GU gg)) (fun hHeld => ?_)
 clear hK K HCall
 try simp only [List.setIfInBounds_toArray, List.set_cons_zero, List.set_cons_succ]
 have RA := own_mono RA0 GU.size
 clear RA0
 replace GU := Good.up GU gg
 clear gg RW
 replace hHeld := HC.out _ GU
 refine wpAnyH_take (i := 5) (v := ?_) rfl (by kernel_rfl) (by kernel_rfl) (by kernel_rfl) (fun _ _ _ h => h) (Or.inl ⟨by rfl, ?_⟩) (by assumption) ?_
 rotate_left
 · intro w hSw; (try dsimp only at hSw); go_simp; try with_reducible rfl
 try simp only [Act.put, List.getElem_toArray, List.getElem_cons_succ, List.getElem_cons_zero, List.setIfInBounds_toArray, List.set_cons_zero, List.set_cons_succ]
 refine wpAnyH_take (i := 6) (v := ?_) rfl (by kernel_rfl) (by kernel_rfl) (by kernel_rfl) (fun _ _ _ h => h) (Or.inl ⟨by rfl, ?_⟩) (by assumption) ?_
 rotate_left
 · intro w hSw; (try dsimp only at hSw); go_simp; try with_reducible rfl
 try simp only [Act.put, List.getElem_toArray, List.getElem_cons_succ, List.getElem_cons_zero, List.setIfInBounds_toArray, List.set_cons_zero, List.set_cons_succ]
 refine wpAnyH_take (i := 7) (v := ?_) rfl (by kernel_rfl) (by kernel_rfl) (by kernel_rfl) (fun _ _ _ h => h) (Or.inl ⟨by rfl, ?_⟩) (by assumption) ?_
 rotate_left
 · intro w hSw; (try dsimp only at hSw); go_simp; try with_reducible rfl
 try simp only [Act.put, List.getElem_toArray, List.getElem_cons_succ, List.getElem_cons_zero, List.setIfInBounds_toArray, List.set_cons_zero, List.set_cons_succ]
 refine wpAnyH_take (i := 8) (v := ?_) rfl (by kernel_rfl) (by kernel_rfl) (by kernel_rfl) (fun _ _ _ h => h) (Or.inl ⟨by rfl, ?_⟩) (by assumption) ?_
 rotate_left
 · intro w hSw; (try dsimp only at hSw); go_simp; try with_reducible rfl
 try simp only [Act.put, List.getElem_toArray, List.getElem_cons_succ, List.getElem_cons_zero, List.setIfInBounds_toArray, List.set_cons_zero, List.set_cons_succ]
 refine wpAnyH_take (i := 9) (v := ?_) rfl (by kernel_rfl) (by kernel_rfl) (by kernel_rfl) (fun _ _ _ h => h) (Or.inl ⟨by rfl, ?_⟩) (by assumption) ?_
 rotate_left
 · intro w hSw; (try dsimp only at hSw); go_simp; try with_reducible rfl
 try simp only [Act.put, List.getElem_toArray, List.getElem_cons_succ, List.getElem_cons_zero, List.setIfInBounds_toArray, List.set_cons_zero, List.set_cons_succ]
 clear hHeld
 refine lstH (l' := #[true, true, true, true, true, true, true, true, true, true, false, false, false, false, false, false]) (by kernel_rfl) ?_
 have F := And.intro GU RA
 clear GU RA
 revert F
 revert cw
 revert mw
 revert aw
 revert g3
 revert z
 exact t1_2_3_.out
 )
 focus (
 go_simp
 refine hK.out _ _ (HC.out _ (GU.alloc _)) (fun hHeld => ?_)
 clear hK K
 try simp only [List.setIfInBounds_toArray, List.set_cons_zero, List.set_cons_succ]
 obtain ⟨z, hz⟩ : ∃ z, z = y.alloc (.cells #[.int .i64 0, .slice none 0 0] 26) := ⟨_, rfl⟩
 have gg : Below y.heap.size y z := by rw [hz]; exact (Below.refl _ _).alloc (Nat.le_refl _) _
 have BX : Box7 z y.heap.size 26 (.int .i64 0) (.slice none 0 0) := by rw [hz]; exact Box7.new _ _ _ _ _ rfl
 have LX : w2.heap.size ≤ y.heap.size := GU.size
 replace GU := Good.up GU gg
 replace RW := own_up RW gg
 rw [← hz]
 clear hz gg hHeld
 generalize y.heap.size = bX_ at *
 refine lstH (l' := #[true, true, true, true, false, false, false, false, false, false, true, false, false, false, false, false]) (by kernel_rfl) ?_
 have F := And.intro GU (And.intro RW (And.intro BX LX))
 clear GU RW BX LX
 revert F
 revert bX_
 revert g3
 revert z
 exact t1_2_100_.out
 )
 focus (
 go_simp
 refine hK.out _ _ (HC.out _ (GU.alloc _)) (fun hHeld => ?_)
 clear hK K
 try simp only [List.setIfInBounds_toArray, List.set_cons_zero, List.set_cons_succ]
 obtain ⟨z, hz⟩ : ∃ z, z = y.alloc (.cells #[.int .i64 0, .int .i64 0] 28) := ⟨_, rfl⟩
 have gg : Below y.heap.size y z := by rw [hz]; exact (Below.refl _ _).alloc (Nat.le_refl _) _
 have BY : Box7 z y.heap.size 28 (.int .i64 0) (.int .i64 0) := by rw [hz]; exact Box7.new _ _ _ _ _ rfl
 have LY : w2.heap.size ≤ y.heap.size := GU.size
 replace GU := Good.up GU gg
 replace RW := own_up RW gg
 rw [← hz]
 clear hz gg hHeld
 generalize y.heap.size = bY_ at *
 refine lstH (l' := #[true, true, true, true, false, false, false, false, false, false, false, true, false, false, false, false]) (by kernel_rfl) ?_
 have F := And.intro GU (And.intro RW (And.intro BY LY))
 clear GU RW BY LY
 revert F
 revert bY_
 revert g3
 revert z
 exact t1_2_101_.out
 )
 )
 focus (
 intro y g3 bX_ bY_ F
 obtain ⟨GU, RW, BX, LX, BY, LY, NE⟩ := F
 have hHeld := HC.out _ GU
 clear hHeld
 refine wpAnyH_ready (rs := [3]) (by kernel_rfl) (by simp) ?_
 refine AllReadyH.cons rfl (fun K hK => ?_) AllReadyH.nil
 focus (
 rw [if_pos]
 rotate_left
 · kernel_rfl
 have HCall := hideIt (toEdge9_any x y)
 go_wp2_with (go_at_call 51; refine HCall.out.mono ?_; rintro e z ⟨rfl, gg⟩; refine Hid.out ?_)
 refine hidp ?_
 refine hK.out _ _ (HC.out _ (Good.up GU gg)) (fun hHeld => ?_)
 clear hK K HCall
 try simp only [List.setIfInBounds_toArray, List.set_cons_zero, List.set_cons_succ]
 replace GU := Good.up GU gg
 replace RW := own_up RW gg
 replace BX := BX.up gg
 replace BY := BY.up gg
 clear gg
 clear hHeld
 refine lstH (l' := #[true, true, true, true, false, false, false, false, false, false, true, true, false, false, false, false]) (by kernel_rfl) ?_
 have F := And.intro GU (And.intro RW (And.intro BX (And.intro LX (And.intro BY (And.intro LY NE)))))
 clear GU RW BX LX BY LY NE
 revert F
 revert bY_
 revert bX_
 revert g3
 revert z
 exact t1_2_100_101_.out
 )
 )
 focus (
 intro y g3 bY_ F
 obtain ⟨GU, RW, BY, LY⟩ := F
 have hHeld := HC.out _ GU
 clear hHeld
 refine wpAnyH_ready (rs := [4, 10]) (by kernel_rfl) (by simp) ?_
 refine AllReadyH.cons rfl (fun K hK => ?_) (AllReadyH.cons rfl (fun K hK => ?_) AllReadyH.nil)
 focus (
 rw [if_pos]
 rotate_left
 · kernel_rfl
 have HCall := hideIt (HDs.out _ g3 _ RW)
 go_wp2_with (go_at_call 29; refine HCall.out.mono ?_; rintro e z ⟨aw, mw, cw, rfl, RA0, gg⟩; refine Hid.out ?_)
 refine hidp ?_
 refine hK.out _ _ (HC.out _ (Good.up GU gg)) (fun hHeld => ?_)
 clear hK K HCall
 try simp only [List.setIfInBounds_toArray, List.set_cons_zero, List.set_cons_succ]
 have RA := own_mono RA0 GU.size
 clear RA0
 replace GU := Good.up GU gg
 replace BY := BY.up gg
 clear gg RW
 replace hHeld := HC.out _ GU
 refine wpAnyH_take (i := 5) (v := ?_) rfl (by kernel_rfl) (by kernel_rfl) (by kernel_rfl) (fun _ _ _ h => h) (Or.inl ⟨by rfl, ?_⟩) (by assumption) ?_
 rotate_left
 · intro w hSw; (try dsimp only at hSw); go_simp; try with_reducible rfl
 try simp only [Act.put, List.getElem_toArray, List.getElem_cons_succ, List.getElem_cons_zero, List.setIfInBounds_toArray, List.set_cons_zero, List.set_cons_succ]
 refine wpAnyH_take (i := 6) (v := ?_) rfl (by kernel_rfl) (by kernel_rfl) (by kernel_rfl) (fun _ _ _ h => h) (Or.inl ⟨by rfl, ?_⟩) (by assumption) ?_
 rotate_left
 · intro w hSw; (try dsimp only at hSw); go_simp; try with_reducible rfl
 try simp only [Act.put, List.getElem_toArray, List.getElem_cons_succ, List.getElem_cons_zero, List.setIfInBounds_toArray, List.set_cons_zero, List.set_cons_succ]
 refine wpAnyH_take (i := 7) (v := ?_) rfl (by kernel_rfl) (by kernel_rfl) (by kernel_rfl) (fun _ _ _ h => h) (Or.inl ⟨by rfl, ?_⟩) (by assumption) ?_
 rotate_left
 · intro w hSw; (try dsimp only at hSw); go_simp; try with_reducible rfl
 try simp only [Act.put, List.getElem_toArray, List.getElem_cons_succ, List.getElem_cons_zero, List.setIfInBounds_toArray, List.set_cons_zero, List.set_cons_succ]
 refine wpAnyH_take (i := 8) (v := ?_) rfl (by kernel_rfl) (by kernel_rfl) (by kernel_rfl) (fun _ _ _ h => h) (Or.inl ⟨by rfl, ?_⟩) (by assumption) ?_
 rotate_left
 · intro w hSw; (try dsimp only at hSw); go_simp; try with_reducible rfl
 try simp only [Act.put, List.getElem_toArray, List.getElem_cons_succ, List.getElem_cons_zero, List.setIfInBounds_toArray, List.set_cons_zero, List.set_cons_succ]
 refine wpAnyH_take (i := 9) (v := ?_) rfl (by kernel_rfl) (by kernel_rfl) (by kernel_rfl) (fun _ _ _ h => h) (Or.inl ⟨by rfl, ?_⟩) (by assumption) ?_
 rotate_left
 · intro w hSw; (try dsimp only at hSw); go_simp; try with_reducible rfl
 try simp only [Act.put, List.getElem_toArray, List.getElem_cons_succ, List.getElem_cons_zero, List.setIfInBounds_toArray, List.set_cons_zero, List.set_cons_succ]
 clear hHeld
 refine lstH (l' := #[true, true, true, true, true, true, true, true, true, true, false, true, false, false, false, false]) (by kernel_rfl) ?_
 have F := And.intro GU (And.intro BY (And.intro LY RA))
 clear GU BY LY RA
 revert F
 revert bY_
 revert cw
 revert mw
 revert aw
 revert g3
 revert z
 exact t1_2_3_101_.out
 )
 focus (
 go_simp
 refine hK.out _ _ (HC.out _ (GU.alloc _)) (fun hHeld => ?_)
 clear hK K
 try simp only [List.setIfInBounds_toArray, List.set_cons_zero, List.set_cons_succ]
 obtain ⟨z, hz⟩ : ∃ z, z = y.alloc (.cells #[.int .i64 0, .slice none 0 0] 26) := ⟨_, rfl⟩
 have gg : Below y.heap.size y z := by rw [hz]; exact (Below.refl _ _).alloc (Nat.le_refl _) _
 have BX : Box7 z y.heap.size 26 (.int .i64 0) (.slice none 0 0) := by rw [hz]; exact Box7.new _ _ _ _ _ rfl
 have LX : w2.heap.size ≤ y.heap.size := GU.size
 have NE : y.heap.size ≠ bY_ := by have := BY.lt; omega
 replace GU := Good.up GU gg
 replace RW := own_up RW gg
 replace BY := BY.up gg
 rw [← hz]
 clear hz gg hHeld
 generalize y.heap.size = bX_ at *
 refine lstH (l' := #[true, true, true, true, false, false, false, false, false, false, true, true, false, false, false, false]) (by kernel_rfl) ?_
 have F := And.intro GU (And.intro RW (And.intro BX (And.intro LX (And.intro BY (And.intro LY NE)))))
 clear GU RW BX LX BY LY NE
 revert F
 revert bY_
 revert bX_
 revert g3
 revert z
 exact t1_2_100_101_.out
 )
 )
 focus (
 intro y g3 bX_ F
 obtain ⟨GU, RW, BX, LX⟩ := F
 have hHeld := HC.out _ GU
 clear hHeld
 refine wpAnyH_ready (rs := [4, 11]) (by kernel_rfl) (by simp) ?_
 refine AllReadyH.cons rfl (fun K hK => ?_) (AllReadyH.cons rfl (fun K hK => ?_) AllReadyH.nil)
 focus (
 rw [if_pos]
 rotate_left
 · kernel_rfl
 have HCall := hideIt (HDs.out _ g3 _ RW)
 go_wp2_with (go_at_call 29; refine HCall.out.mono ?_; rintro e z ⟨aw, mw, cw, rfl, RA0, gg⟩; refine Hid.out ?_)
 refine hidp ?_
 refine hK.out _ _ (HC.out _ (Good.up GU gg)) (fun hHeld => ?_)
 clear hK K HCall
 try simp only [List.setIfInBounds_toArray, List.set_cons_zero, List.set_cons_succ]
 have RA := own_mono RA0 GU.size
 clear RA0
 replace GU := Good.up GU gg
 replace BX := BX.up gg
 clear gg RW
 replace hHeld := HC.out _ GU
 refine wpAnyH_take (i := 5) (v := ?_) rfl (by kernel_rfl) (by kernel_rfl) (by kernel_rfl) (fun _ _ _ h => h) (Or.inl ⟨by rfl, ?_⟩) (by assumption) ?_
 rotate_left
 · intro w hSw; (try dsimp only at hSw); go_simp; try with_reducible rfl
 try simp only [Act.put, List.getElem_toArray, List.getElem_cons_succ, List.getElem_cons_zero, List.setIfInBounds_toArray, List.set_cons_zero, List.set_cons_succ]
 refine wpAnyH_take (i := 6) (v := ?_) rfl (by kernel_rfl) (by kernel_rfl) (by kernel_rfl) (fun _ _ _ h => h) (Or.inl ⟨by rfl, ?_⟩) (by assumption) ?_
 rotate_left
 · intro w hSw; (try dsimp only at hSw); go_simp; try with_reducible rfl
 try simp only [Act.put, List.getElem_toArray, List.getElem_cons_succ, List.getElem_cons_zero, List.setIfInBounds_toArray, List.set_cons_zero, List.set_cons_succ]
 refine wpAnyH_take (i := 7) (v := ?_) rfl (by kernel_rfl) (by kernel_rfl) (by kernel_rfl) (fun _ _ _ h => h) (Or.inl ⟨by rfl, ?_⟩) (by assumption) ?_
 rotate_left
 · intro w hSw; (try dsimp only at hSw); go_simp; try with_reducible rfl
 try simp only [Act.put, List.getElem_toArray, List.getElem_cons_succ, List.getElem_cons_zero, List.setIfInBounds_toArray, List.set_cons_zero, List.set_cons_succ]
 refine wpAnyH_take (i := 8) (v := ?_) rfl (by kernel_rfl) (by kernel_rfl) (by kernel_rfl) (fun _ _ _ h => h) (Or.inl ⟨by rfl, ?_⟩) (by assumption) ?_
 rotate_left
 · intro w hSw; (try dsimp only at hSw); go_simp; try with_reducible rfl
 try simp only [Act.put, List.getElem_toArray, List.getElem_cons_succ, List.getElem_cons_zero, List.setIfInBounds_toArray, List.set_cons_zero, List.set_cons_succ]
 refine wpAnyH_take (i := 9) (v := ?_) rfl (by kernel_rfl) (by kernel_rfl) (by kernel_rfl) (fun _ _ _ h => h) (Or.inl ⟨by rfl, ?_⟩) (by assumption) ?_
 rotate_left
 · intro w hSw; (try dsimp only at hSw); go_simp; try with_reducible rfl
 try simp only [Act.put, List.getElem_toArray, List.getElem_cons_succ, List.getElem_cons_zero, List.setIfInBounds_toArray, List.set_cons_zero, List.set_cons_succ]
 clear hHeld
 refine lstH (l' := #[true, true, true, true, true, true, true, true, true, true, true, false, false, false, false, false]) (by kernel_rfl) ?_
 have F := And.intro GU (And.intro BX (And.intro LX RA))
 clear GU BX LX RA
 revert F
 revert bX_
 revert cw
 revert mw
 revert aw
 revert g3
 revert z
 exact t1_2_3_100_.out
 )
 focus (
 go_simp
 refine hK.out _ _ (HC.out _ (GU.alloc _)) (fun hHeld => ?_)
 clear hK K
 try simp only [List.setIfInBounds_toArray, List.set_cons_zero, List.set_cons_succ]
 obtain ⟨z, hz⟩ : ∃ z, z = y.alloc (.cells #[.int .i64 0, .int .i64 0] 28) := ⟨_, rfl⟩
 have gg : Below y.heap.size y z := by rw [hz]; exact (Below.refl _ _).alloc (Nat.le_refl _) _
 have BY : Box7 z y.heap.size 28 (.int .i64 0) (.int .i64 0) := by rw [hz]; exact Box7.new _ _ _ _ _ rfl
 have LY : w2.heap.size ≤ y.heap.size := GU.size
 have NE : bX_ ≠ y.heap.size := by have := BX.lt; omega
 replace GU := Good.up GU gg
 replace RW := own_up RW gg
 replace BX := BX.up gg
 rw [← hz]
 clear hz gg hHeld
 generalize y.heap.size = bY_ at *
 refine lstH (l' := #[true, true, true, true, false, false, false, false, false, false, true, true, false, false, false, false]) (by kernel_rfl) ?_
 have F := And.intro GU (And.intro RW (And.intro BX (And.intro LX (And.intro BY (And.intro LY NE)))))
 clear GU RW BX LX BY LY NE
 revert F
 revert bY_
 revert bX_
 revert g3
 revert z
 exact t1_2_100_101_.out
 )
 )
 focus (
 intro y g3 aw mw cw F
 obtain ⟨GU, RA⟩ := F
 have hHeld := HC.out _ GU
 clear hHeld
 refine wpAnyH_ready (rs := [10, 11]) (by kernel_rfl) (by simp) ?_
 refine AllReadyH.cons rfl (fun K hK => ?_) (AllReadyH.cons rfl (fun K hK => ?_) AllReadyH.nil)
 focus (
 go_simp
 refine hK.out _ _ (HC.out _ (GU.alloc _)) (fun hHeld => ?_)
 clear hK K
 try simp only [List.setIfInBounds_toArray, List.set_cons_zero, List.set_cons_succ]
 obtain ⟨z, hz⟩ : ∃ z, z = y.alloc (.cells #[.int .i64 0, .slice none 0 0] 26) := ⟨_, rfl⟩
 have gg : Below y.heap.size y z := by rw [hz]; exact (Below.refl _ _).alloc (Nat.le_refl _) _
 have BX : Box7 z y.heap.size 26 (.int .i64 0) (.slice none 0 0) := by rw [hz]; exact Box7.new _ _ _ _ _ rfl
 have LX : w2.heap.size ≤ y.heap.size := GU.size
 replace GU := Good.up GU gg
 replace RA := own_up RA gg
 rw [← hz]
 clear hz gg hHeld
 generalize y.heap.size = bX_ at *
 refine lstH (l' := #[true, true, true, true, true, true, true, true, true, true, true, false, false, false, false, false]) (by kernel_rfl) ?_
 have F := And.intro GU (And.intro BX (And.intro LX RA))
 clear GU BX LX RA
 revert F
 revert bX_
 revert cw
 revert mw
 revert aw
 revert g3
 revert z
 exact t1_2_3_100_.out
 )
 focus (
 go_simp
 refine hK.out _ _ (HC.out _ (GU.alloc _)) (fun hHeld => ?_)
 clear hK K
 try simp only [List.setIfInBounds_toArray, List.set_cons_zero, List.set_cons_succ]
 obtain ⟨z, hz⟩ : ∃ z, z = y.alloc (.cells #[.int .i64 0, .int .i64 0] 28) := ⟨_, rfl⟩
 have gg : Below y.heap.size y z := by rw [hz]; exact (Below.refl _ _).alloc (Nat.le_refl _) _
 have BY : Box7 z y.heap.size 28 (.int .i64 0) (.int .i64 0) := by rw [hz]; exact Box7.new _ _ _ _ _ rfl
 have LY : w2.heap.size ≤ y.heap.size := GU.size
 replace GU := Good.up GU gg
 replace RA := own_up RA gg
 rw [← hz]
 clear hz gg hHeld
 generalize y.heap.size = bY_ at *
 refine lstH (l' := #[true, true, true, true, true, true, true, true, true, true, false, true, false, false, false, false]) (by kernel_rfl) ?_
 have F := And.intro GU (And.intro BY (And.intro LY RA))
 clear GU BY LY RA
 revert F
 revert bY_
 revert cw
 revert mw
 revert aw
 revert g3
 revert z
 exact t1_2_3_101_.out
 )
 )
 focus (
 intro y g3 bX_ bY_ F
 obtain ⟨GU, RW, BX, LX, BY, LY, NE⟩ := F
 have hHeld := HC.out _ GU
 clear hHeld
 refine wpAnyH_ready (rs := [4]) (by kernel_rfl) (by simp) ?_
 refine AllReadyH.cons rfl (fun K hK => ?_) AllReadyH.nil
 focus (
 rw [if_pos]
 rotate_left
 · kernel_rfl
 have HCall := hideIt (HDs.out _ g3 _ RW)
 go_wp2_with (go_at_call 29; refine HCall.out.mono ?_; rintro e z ⟨aw, mw, cw, rfl, RA0, gg⟩; refine Hid.out ?_)
 refine hidp ?_
 refine hK.out _ _ (HC.out _ (Good.up GU gg)) (fun hHeld => ?_)
 clear hK K HCall
 try simp only [List.setIfInBounds_toArray, List.set_cons_zero, List.set_cons_succ]
 have RA := own_mono RA0 GU.size
 clear RA0
 replace GU := Good.up GU gg
 replace BX := BX.up gg
 replace BY := BY.up gg
 clear gg RW
 replace hHeld := HC.out _ GU
 refine wpAnyH_take (i := 5) (v := ?_) rfl (by kernel_rfl) (by kernel_rfl) (by kernel_rfl) (fun _ _ _ h => h) (Or.inl ⟨by rfl, ?_⟩) (by assumption) ?_
 rotate_left
 · intro w hSw; (try dsimp only at hSw); go_simp; try with_reducible rfl
 try simp only [Act.put, List.getElem_toArray, List.getElem_cons_succ, List.getElem_cons_zero, List.setIfInBounds_toArray, List.set_cons_zero, List.set_cons_succ]
 refine wpAnyH_take (i := 6) (v := ?_) rfl (by kernel_rfl) (by kernel_rfl) (by kernel_rfl) (fun _ _ _ h => h) (Or.inl ⟨by rfl, ?_⟩) (by assumption) ?_
 rotate_left
 · intro w hSw; (try dsimp only at hSw); go_simp; try with_reducible rfl
 try simp only [Act.put, List.getElem_toArray, List.getElem_cons_succ, List.getElem_cons_zero, List.setIfInBounds_toArray, List.set_cons_zero, List.set_cons_succ]
 refine wpAnyH_take (i := 7) (v := ?_) rfl (by kernel_rfl) (by kernel_rfl) (by kernel_rfl) (fun _ _ _ h => h) (Or.inl ⟨by rfl, ?_⟩) (by assumption) ?_
 rotate_left
 · intro w hSw; (try dsimp only at hSw); go_simp; try with_reducible rfl
 try simp only [Act.put, List.getElem_toArray, List.getElem_cons_succ, List.getElem_cons_zero, List.setIfInBounds_toArray, List.set_cons_zero, List.set_cons_succ]
 refine wpAnyH_take (i := 8) (v := ?_) rfl (by kernel_rfl) (by kernel_rfl) (by kernel_rfl) (fun _ _ _ h => h) (Or.inl ⟨by rfl, ?_⟩) (by assumption) ?_
 rotate_left
 · intro w hSw; (try dsimp only at hSw); go_simp; try with_reducible rfl
 try simp only [Act.put, List.getElem_toArray, List.getElem_cons_succ, List.getElem_cons_zero, List.setIfInBounds_toArray, List.set_cons_zero, List.set_cons_succ]
 refine wpAnyH_take (i := 9) (v := ?_) rfl (by kernel_rfl) (by kernel_rfl) (by kernel_rfl) (fun _ _ _ h => h) (Or.inl ⟨by rfl, ?_⟩) (by assumption) ?_
 rotate_left
 · intro w hSw; (try dsimp only at hSw); go_simp; try with_reducible rfl
 try simp only [Act.put, List.getElem_toArray, List.getElem_cons_succ, List.getElem_cons_zero, List.setIfInBounds_toArray, List.set_cons_zero, List.set_cons_succ]
 clear hHeld
 refine lstH (l' := #[true, true, true, true, true, true, true, true, true, true, true, true, false, false, false, false]) (by kernel_rfl) ?_
 have F := And.intro GU (And.intro BX (And.intro LX (And.intro BY (And.intro LY (And.intro NE RA)))))
 clear GU BX LX BY LY NE RA
 revert F
 revert bY_
 revert bX_
 revert cw
 revert mw
 revert aw
 revert g3
 revert z
 exact t1_2_3_100_101_.out
 )
 )
 focus (
 intro y g3 aw mw cw bY_ F
 obtain ⟨GU, BY, LY, RA⟩ := F
 have hHeld := HC.out _ GU
 clear hHeld
 refine wpAnyH_ready (rs := [10]) (by kernel_rfl) (by simp) ?_
 refine AllReadyH.cons rfl (fun K hK => ?_) AllReadyH.nil
 focus (
 go_simp
 refine hK.out _ _ (HC.out _ (GU.alloc _)) (fun hHeld => ?_)
 clear hK K
 try simp only [List.setIfInBounds_toArray, List.set_cons_zero, List.set_cons_succ]
 obtain ⟨z, hz⟩ : ∃ z, z = y.alloc (.cells #[.int .i64 0, .slice none 0 0] 26) := ⟨_, rfl⟩
 have gg : Below y.heap.size y z := by rw [hz]; exact (Below.refl _ _).alloc (Nat.le_refl _) _
 have BX : Box7 z y.heap.size 26 (.int .i64 0) (.slice none 0 0) := by rw [hz]; exact Box7.new _ _ _ _ _ rfl
 have LX : w2.heap.size ≤ y.heap.size := GU.size
 have NE : y.heap.size ≠ bY_ := by have := BY.lt; omega
 replace GU := Good.up GU gg
 replace BY := BY.up gg
 replace RA := own_up RA gg
 rw [← hz]
 clear hz gg hHeld
 generalize y.heap.size = bX_ at *
 refine lstH (l' := #[true, true, true, true, true, true, true, true, true, true, true, true, false, false, false, false]) (by kernel_rfl) ?_
 have F := And.intro GU (And.intro BX (And.intro LX (And.intro BY (And.intro LY (And.intro NE RA)))))
 clear GU BX LX BY LY NE RA
 revert F
 revert bY_
 revert bX_
 revert cw
 revert mw
 revert aw
 revert g3
 revert z
 exact t1_2_3_100_101_.out
 )
 )
 focus (
 intro y g3 aw mw cw bX_ F
 obtain ⟨GU, BX, LX, RA⟩ := F
 have hHeld := HC.out _ GU
 clear hHeld
 refine wpAnyH_ready (rs := [11]) (by kernel_rfl) (by simp) ?_
 refine AllReadyH.cons rfl (fun K hK => ?_) AllReadyH.nil
 focus (
 go_simp
 refine hK.out _ _ (HC.out _ (GU.alloc _)) (fun hHeld => ?_)
 clear hK K
 try simp only [List.setIfInBounds_toArray, List.set_cons_zero, List.set_cons_succ]
 obtain ⟨z, hz⟩ : ∃ z, z = y.alloc (.cells #[.int .i64 0, .int .i64 0] 28) := ⟨_, rfl⟩
 have gg : Below y.heap.size y z := by rw [hz]; exact (Below.refl _ _).alloc (Nat.le_refl _) _
 have BY : Box7 z y.heap.size 28 (.int .i64 0) (.int .i64 0) := by rw [hz]; exact Box7.new _ _ _ _ _ rfl
 have LY : w2.heap.size ≤ y.heap.size := GU.size
 have NE : bX_ ≠ y.heap.size := by have := BX.lt; omega
 replace GU := Good.up GU gg
 replace BX := BX.up gg
 replace RA := own_up RA gg
 rw [← hz]
 clear hz gg hHeld
 generalize y.heap.size = bY_ at *
 refine lstH (l' := #[true, true, true, true, true, true, true, true, true, true, true, true, false, false, false, false]) (by kernel_rfl) ?_
 have F := And.intro GU (And.intro BX (And.intro LX (And.intro BY (And.intro LY (And.intro NE RA)))))
 clear GU BX LX BY LY NE RA
 revert F
 revert bY_
 revert bX_
 revert cw
 revert mw
 revert aw
 revert g3
 revert z
 exact t1_2_3_100_101_.out
 )
 )
 focus (
 intro y g3 aw mw cw bX_ bY_ F
 obtain ⟨GU, BX, LX, BY, LY, NE, RA⟩ := F
 have hHeld := HC.out _ GU
 have bc0 := BX.cell0
 have bc1 := BX.cell1
 have bz0 := BX.frozen 0
 have bz1 := BX.frozen 1
 refine wpAnyH_ready (rs := [12]) (by kernel_rfl) (by simp) ?_
 refine AllReadyH.cons rfl (fun K hK => ?_) AllReadyH.nil
 go_simp
 refine hK.out _ _ (HC.out _ (Good.set2 GU _ _ _ LX)) (fun hHeld => ?_)
 clear hK K
 try simp only [List.setIfInBounds_toArray, List.set_cons_zero, List.set_cons_succ]
 obtain ⟨uf, huf⟩ : ∃ uf, uf = (y.setCell ⟨bX_, 0, none⟩ (.int .i64 M)).setCell ⟨bX_, 1, none⟩ (.slice aw mw cw) := ⟨_, rfl⟩
 have TF := ta_one (M := M) GU BX BY RA LX NE
 rw [← huf] at TF hHeld ⊢
 clear huf bc0 bc1 bz0 bz1
 have bd0 := TF.2.2.cell0
 have bd1 := TF.2.2.cell1
 have be0 := TF.2.2.frozen 0
 have be1 := TF.2.2.frozen 1
 have HTF := hideIt TF
 have GF := TF.1
 clear TF
 refine wpAnyH_ready (rs := [13]) (by kernel_rfl) (by simp) ?_
 refine AllReadyH.cons rfl (fun K hK => ?_) AllReadyH.nil
 go_simp
 refine hK.out _ _ (HC.out _ (Good.set2 GF _ _ _ LY)) (fun hHeld => ?_)
 clear hK K
 try simp only [List.setIfInBounds_toArray, List.set_cons_zero, List.set_cons_succ]
 refine wpAnyH_ready (rs := [14]) (by kernel_rfl) (by simp) ?_
 refine AllReadyH.cons rfl (fun K hK => ?_) AllReadyH.nil
 go_simp
 refine hK.out _ _ (by assumption) (fun hHeld => ?_)
 clear hK K
 try simp only [List.setIfInBounds_toArray, List.set_cons_zero, List.set_cons_succ]
 refine wpAnyH_ready (rs := [15]) (by kernel_rfl) (by simp) ?_
 refine AllReadyH.cons rfl (fun K hK => ?_) AllReadyH.nil
 go_simp
 refine hK.out _ _ (by assumption) (fun hHeld => ?_)
 clear hK K
 try simp only [List.setIfInBounds_toArray, List.set_cons_zero, List.set_cons_succ]
 refine wpAnyH_done (by kernel_rfl) ?_ _
 have HZ := hideIt (ta_two (d := d) HTF.out LY NE)
 have HGZ := hideIt (Good.set2 GF bY_ (.int .i64 d.1) (.int .i64 d.2) LY)
 clear HTF GF bd0 bd1 be0 be1 hHeld
 go_wp2_with fail
 go_meet
 exact ⟨bX_, bY_, aw, mw, cw, rfl, rfl, rfl, rfl, HGZ.out, HZ.out⟩
 )
      )
    case rest =>
      obtain ⟨b, be, aw, mw, cw, rfl, rfl, rfl, rfl, G3, TW⟩ := hcut
      have DW := TW.pb
      have EW := TW.eb
      have hEw : be < wc.heap.size := EW.lt
      clear TW
      have L3 := L2.good G3
      have z3 := L3.size
      clear c0 c1 c2 c3 HC hS2
      obtain ⟨⟨c0, c1⟩, c2, c3⟩ := L3.cells
      have HT3 := hideIt (toWeb_G N fs n a c hn1 (L3.ls HF.out) (Good.refl wc))
      go_wp2_with (go_at_call 50; refine HT3.out.mono ?_; rintro e w4 ⟨g4, rfl, ho4, hg4, _⟩; refine Hid.out ?_)
      refine (show ∀ {p : Prop}, p → Hid p from fun h => h) ?_
      clear HT3 c0 c1 c2 c3
      go_upto_region 7 with fail
      have hz4 := hg4.size
      have DX := PBox.laid (t := 26) (M := N) (lo := wc.heap.size) hz4 ho4
      have G4 := hg4.alloc (.cells #[.int .i64 N, .slice (some ⟨g4, 0, none⟩) n n] 26)
      have L4 := L3.good G4
      have DW4 := DW.up G4
      have EW4 := EW.up G4
      clear EW
      have hC0 : w.heap.size + 2 ≤ w2.heap.size := zz
      have hC1 : w2.heap.size ≤ wc.heap.size := G3.size
      clear ho4 hg4 DW G3 L3 z3 hz4
      obtain ⟨u1, bX, C1, e1, e2, e3⟩ : ∃ u1 bX C1, u1 = w4.alloc (.cells #[.int .i64 N, .slice (some ⟨g4, 0, none⟩) n n] 26) ∧ bX = w4.heap.size ∧ C1 = wc.heap.size := ⟨_, _, _, rfl, rfl, rfl⟩
      rw [← e1] at DX L4 DW4 EW4 G4 ⊢
      rw [← e2] at DX ⊢
      rw [← e3] at DX DW4 hC1 hEw
      clear e1 e2 e3 G4
      have z4 := L4.size
      have HC4 := hideIt (fun u (hu : Good u1 u) => And.intro (And.intro (DX.up hu).cells (L4.good hu).cells.2) hu)
      have hS4 := HC4.out _ (Good.refl u1).drew
      have hox := DX.own.drew
      have o1 := DX.cells.1
      have o2 := DX.cells.2
      go_cut [11, 12, 13, 14] (fun p pe o2 ok wx => ∃ b2 be2 ag mg cg, p = .pointer (some ⟨b2, 0, none⟩) ∧ pe = .pointer (some ⟨be2, 0, none⟩) ∧ o2 = .bool tk ∧ ok = .bool fl ∧ Good u1 wx ∧ TAn wx u1.heap.size b2 be2 M ag mg cg gs d)
      case first =>
        (
 apply viaT
 intro t1_2_100_101_
 apply viaT
 intro t1_2_100_
 apply viaT
 intro t1_2_101_
 apply viaT
 intro t1_100_101_
 apply viaT
 intro t1_2_
 apply viaT
 intro t1_100_
 apply viaT
 intro t1_101_
 apply viaT
 intro t100_101_
 apply viaT
 intro t1_
 apply viaT
 intro t100_
 apply viaT
 intro t101_
 focus (
 refine wp_region_held_drew (S := (fun u => ((u.cell? ⟨bX, 0, none⟩ = some (.int .i64 N) ∧ u.cell? ⟨bX, 1, none⟩ = some (.slice (some ⟨g4, 0, none⟩) n n)) ∧ u.cell? ⟨w.heap.size + 1, 0, none⟩ = some (.int .i64 x.1) ∧ u.cell? ⟨w.heap.size + 1, 1, none⟩ = some (.int .i64 x.2)) ∧ Good u1 u)) (by kernel_rfl) hS4 (fun hHeld => ?_)
 refine wpAnyH_take (i := 0) (v := ?_) rfl (by kernel_rfl) (by kernel_rfl) (by kernel_rfl) (fun _ _ _ h => h) (Or.inl ⟨by rfl, ?_⟩) (by assumption) ?_
 rotate_left
 · intro w hSw; (try dsimp only at hSw); go_simp; try with_reducible rfl
 try simp only [Act.put, List.getElem_toArray, List.getElem_cons_zero, List.setIfInBounds_toArray, List.set_cons_zero, List.set_cons_succ]
 refine wpAnyH_take (i := 1) (v := ?_) rfl (by kernel_rfl) (by kernel_rfl) (by kernel_rfl) (fun _ _ _ h => h) (Or.inl ⟨by rfl, ?_⟩) (by assumption) ?_
 rotate_left
 · intro w hSw; (try dsimp only at hSw); go_simp; try with_reducible rfl
 try simp only [Act.put, List.getElem_toArray, List.getElem_cons_succ, List.getElem_cons_zero, List.setIfInBounds_toArray, List.set_cons_zero, List.set_cons_succ]
 obtain ⟨y, hy⟩ : ∃ y, y = u1.drew := ⟨_, rfl⟩
 have GU : Good u1 y := by rw [hy]; exact (Good.refl _).drew
 have RW : y.ownsRow C1 52 4 (.slice (some ⟨g4, 0, none⟩) n n) n (lcells fs) := by rw [hy]; exact hox
 rw [← hy]
 clear hy hHeld
 refine wpAnyH_ready (rs := [2, 9, 10]) (by kernel_rfl) (by simp) ?_
 refine AllReadyH.cons rfl (fun K hK => ?_) (AllReadyH.cons rfl (fun K hK => ?_) (AllReadyH.cons rfl (fun K hK => ?_) AllReadyH.nil))
 focus (
 rw [if_pos]
 rotate_left
 · kernel_rfl
 have HCall := hideIt (toEdge9_any x y)
 go_wp2_with (go_at_call 51; refine HCall.out.mono ?_; rintro e z ⟨rfl, gg⟩; refine Hid.out ?_)
 refine hidp ?_
 refine hK.out _ _ (HC4.out _ (Good.up GU gg)) (fun hHeld => ?_)
 clear hK K HCall
 try simp only [Act.put, List.getElem_toArray, List.getElem_cons_succ, List.getElem_cons_zero, List.setIfInBounds_toArray, List.set_cons_zero, List.set_cons_succ]
 replace GU := Good.up GU gg
 replace RW := own_up RW gg
 clear gg
 clear hHeld
 refine lstH (l' := #[true, true, true, false, false, false, false, false, false, false, false, false, false, false, false]) (by kernel_rfl) ?_
 have F := And.intro GU RW
 clear GU RW
 revert F
 revert z
 exact t1_.out
 )
 focus (
 go_simp
 refine hK.out _ _ (HC4.out _ (GU.alloc _)) (fun hHeld => ?_)
 clear hK K
 try simp only [Act.put, List.getElem_toArray, List.getElem_cons_succ, List.getElem_cons_zero, List.setIfInBounds_toArray, List.set_cons_zero, List.set_cons_succ]
 obtain ⟨z, hz⟩ : ∃ z, z = y.alloc (.cells #[.int .i64 0, .slice none 0 0] 26) := ⟨_, rfl⟩
 have gg : Below y.heap.size y z := by rw [hz]; exact (Below.refl _ _).alloc (Nat.le_refl _) _
 have BX : Box7 z y.heap.size 26 (.int .i64 0) (.slice none 0 0) := by rw [hz]; exact Box7.new _ _ _ _ _ rfl
 have LX : u1.heap.size ≤ y.heap.size := GU.size
 replace GU := Good.up GU gg
 replace RW := own_up RW gg
 rw [← hz]
 clear hz gg hHeld
 generalize y.heap.size = bX_ at *
 refine lstH (l' := #[true, true, false, false, false, false, false, false, false, true, false, false, false, false, false]) (by kernel_rfl) ?_
 have F := And.intro GU (And.intro RW (And.intro BX LX))
 clear GU RW BX LX
 revert F
 revert bX_
 revert z
 exact t100_.out
 )
 focus (
 go_simp
 refine hK.out _ _ (HC4.out _ (GU.alloc _)) (fun hHeld => ?_)
 clear hK K
 try simp only [Act.put, List.getElem_toArray, List.getElem_cons_succ, List.getElem_cons_zero, List.setIfInBounds_toArray, List.set_cons_zero, List.set_cons_succ]
 obtain ⟨z, hz⟩ : ∃ z, z = y.alloc (.cells #[.int .i64 0, .int .i64 0] 28) := ⟨_, rfl⟩
 have gg : Below y.heap.size y z := by rw [hz]; exact (Below.refl _ _).alloc (Nat.le_refl _) _
 have BY : Box7 z y.heap.size 28 (.int .i64 0) (.int .i64 0) := by rw [hz]; exact Box7.new _ _ _ _ _ rfl
 have LY : u1.heap.size ≤ y.heap.size := GU.size
 replace GU := Good.up GU gg
 replace RW := own_up RW gg
 rw [← hz]
 clear hz gg hHeld
 generalize y.heap.size = bY_ at *
 refine lstH (l' := #[true, true, false, false, false, false, false, false, false, false, true, false, false, false, false]) (by kernel_rfl) ?_
 have F := And.intro GU (And.intro RW (And.intro BY LY))
 clear GU RW BY LY
 revert F
 revert bY_
 revert z
 exact t101_.out
 )
 )
 focus (
 intro y bY_ F
 obtain ⟨GU, RW, BY, LY⟩ := F
 have hHeld := HC4.out _ GU
 clear hHeld
 refine wpAnyH_ready (rs := [2, 9]) (by kernel_rfl) (by simp) ?_
 refine AllReadyH.cons rfl (fun K hK => ?_) (AllReadyH.cons rfl (fun K hK => ?_) AllReadyH.nil)
 focus (
 rw [if_pos]
 rotate_left
 · kernel_rfl
 have HCall := hideIt (toEdge9_any x y)
 go_wp2_with (go_at_call 51; refine HCall.out.mono ?_; rintro e z ⟨rfl, gg⟩; refine Hid.out ?_)
 refine hidp ?_
 refine hK.out _ _ (HC4.out _ (Good.up GU gg)) (fun hHeld => ?_)
 clear hK K HCall
 try simp only [List.setIfInBounds_toArray, List.set_cons_zero, List.set_cons_succ]
 replace GU := Good.up GU gg
 replace RW := own_up RW gg
 replace BY := BY.up gg
 clear gg
 clear hHeld
 refine lstH (l' := #[true, true, true, false, false, false, false, false, false, false, true, false, false, false, false]) (by kernel_rfl) ?_
 have F := And.intro GU (And.intro RW (And.intro BY LY))
 clear GU RW BY LY
 revert F
 revert bY_
 revert z
 exact t1_101_.out
 )
 focus (
 go_simp
 refine hK.out _ _ (HC4.out _ (GU.alloc _)) (fun hHeld => ?_)
 clear hK K
 try simp only [List.setIfInBounds_toArray, List.set_cons_zero, List.set_cons_succ]
 obtain ⟨z, hz⟩ : ∃ z, z = y.alloc (.cells #[.int .i64 0, .slice none 0 0] 26) := ⟨_, rfl⟩
 have gg : Below y.heap.size y z := by rw [hz]; exact (Below.refl _ _).alloc (Nat.le_refl _) _
 have BX : Box7 z y.heap.size 26 (.int .i64 0) (.slice none 0 0) := by rw [hz]; exact Box7.new _ _ _ _ _ rfl
 have LX : u1.heap.size ≤ y.heap.size := GU.size
 have NE : y.heap.size ≠ bY_ := by have := BY.lt; omega
 replace GU := Good.up GU gg
 replace RW := own_up RW gg
 replace BY := BY.up gg
 rw [← hz]
 clear hz gg hHeld
 generalize y.heap.size = bX_ at *
 refine lstH (l' := #[true, true, false, false, false, false, false, false, false, true, true, false, false, false, false]) (by kernel_rfl) ?_
 have F := And.intro GU (And.intro RW (And.intro BX (And.intro LX (And.intro BY (And.intro LY NE)))))
 clear GU RW BX LX BY LY NE
 revert F
 revert bY_
 revert bX_
 revert z
 exact t100_101_.out
 )
 )
 focus (
 intro y bX_ F
 obtain ⟨GU, RW, BX, LX⟩ := F
 have hHeld := HC4.out _ GU
 clear hHeld
 refine wpAnyH_ready (rs := [2, 10]) (by kernel_rfl) (by simp) ?_
 refine AllReadyH.cons rfl (fun K hK => ?_) (AllReadyH.cons rfl (fun K hK => ?_) AllReadyH.nil)
 focus (
 rw [if_pos]
 rotate_left
 · kernel_rfl
 have HCall := hideIt (toEdge9_any x y)
 go_wp2_with (go_at_call 51; refine HCall.out.mono ?_; rintro e z ⟨rfl, gg⟩; refine Hid.out ?_)
 refine hidp ?_
 refine hK.out _ _ (HC4.out _ (Good.up GU gg)) (fun hHeld => ?_)
 clear hK K HCall
 try simp only [List.setIfInBounds_toArray, List.set_cons_zero, List.set_cons_succ]
 replace GU := Good.up GU gg
 replace RW := own_up RW gg
 replace BX := BX.up gg
 clear gg
 clear hHeld
 refine lstH (l' := #[true, true, true, false, false, false, false, false, false, true, false, false, false, false, false]) (by kernel_rfl) ?_
 have F := And.intro GU (And.intro RW (And.intro BX LX))
 clear GU RW BX LX
 revert F
 revert bX_
 revert z
 exact t1_100_.out
 )
 focus (
 go_simp
 refine hK.out _ _ (HC4.out _ (GU.alloc _)) (fun hHeld => ?_)
 clear hK K
 try simp only [List.setIfInBounds_toArray, List.set_cons_zero, List.set_cons_succ]
 obtain ⟨z, hz⟩ : ∃ z, z = y.alloc (.cells #[.int .i64 0, .int .i64 0] 28) := ⟨_, rfl⟩
 have gg : Below y.heap.size y z := by rw [hz]; exact (Below.refl _ _).alloc (Nat.le_refl _) _
 have BY : Box7 z y.heap.size 28 (.int .i64 0) (.int .i64 0) := by rw [hz]; exact Box7.new _ _ _ _ _ rfl
 have LY : u1.heap.size ≤ y.heap.size := GU.size
 have NE : bX_ ≠ y.heap.size := by have := BX.lt; omega
 replace GU := Good.up GU gg
 replace RW := own_up RW gg
 replace BX := BX.up gg
 rw [← hz]
 clear hz gg hHeld
 generalize y.heap.size = bY_ at *
 refine lstH (l' := #[true, true, false, false, false, false, false, false, false, true, true, false, false, false, false]) (by kernel_rfl) ?_
 have F := And.intro GU (And.intro RW (And.intro BX (And.intro LX (And.intro BY (And.intro LY NE)))))
 clear GU RW BX LX BY LY NE
 revert F
 revert bY_
 revert bX_
 revert z
 exact t100_101_.out
 )
 )
 focus (
 intro y F
 obtain ⟨GU, RW⟩ := F
 have hHeld := HC4.out _ GU
 clear hHeld
 refine wpAnyH_ready (rs := [3, 9, 10]) (by kernel_rfl) (by simp) ?_
 refine AllReadyH.cons rfl (fun K hK => ?_) (AllReadyH.cons rfl (fun K hK => ?_) (AllReadyH.cons rfl (fun K hK => ?_) AllReadyH.nil))
 focus (
 rw [if_pos]
 rotate_left
 · kernel_rfl
 have HCall := hideIt (HDi.out _ g4 _ RW)
 go_wp2_with (go_at_call 16; refine HCall.out.mono ?_; rintro e z ⟨ag, mg, cg, rfl, RA0, gg⟩; refine Hid.out ?_)
 refine hidp ?_
 refine hK.out _ _ (HC4.out _ (Good.up GU gg)) (fun hHeld => ?_)
 clear hK K HCall
 try simp only [List.setIfInBounds_toArray, List.set_cons_zero, List.set_cons_succ]
 have RA := own_mono RA0 GU.size
 clear RA0
 replace GU := Good.up GU gg
 clear gg RW
 replace hHeld := HC4.out _ GU
 refine wpAnyH_take (i := 4) (v := ?_) rfl (by kernel_rfl) (by kernel_rfl) (by kernel_rfl) (fun _ _ _ h => h) (Or.inl ⟨by rfl, ?_⟩) (by assumption) ?_
 rotate_left
 · intro w hSw; (try dsimp only at hSw); go_simp; try with_reducible rfl
 try simp only [Act.put, List.getElem_toArray, List.getElem_cons_succ, List.getElem_cons_zero, List.setIfInBounds_toArray, List.set_cons_zero, List.set_cons_succ]
 refine wpAnyH_take (i := 5) (v := ?_) rfl (by kernel_rfl) (by kernel_rfl) (by kernel_rfl) (fun _ _ _ h => h) (Or.inl ⟨by rfl, ?_⟩) (by assumption) ?_
 rotate_left
 · intro w hSw; (try dsimp only at hSw); go_simp; try with_reducible rfl
 try simp only [Act.put, List.getElem_toArray, List.getElem_cons_succ, List.getElem_cons_zero, List.setIfInBounds_toArray, List.set_cons_zero, List.set_cons_succ]
 refine wpAnyH_take (i := 6) (v := ?_) rfl (by kernel_rfl) (by kernel_rfl) (by kernel_rfl) (fun _ _ _ h => h) (Or.inl ⟨by rfl, ?_⟩) (by assumption) ?_
 rotate_left
 · intro w hSw; (try dsimp only at hSw); go_simp; try with_reducible rfl
 try simp only [Act.put, List.getElem_toArray, List.getElem_cons_succ, List.getElem_cons_zero, List.setIfInBounds_toArray, List.set_cons_zero, List.set_cons_succ]
 refine wpAnyH_take (i := 7) (v := ?_) rfl (by kernel_rfl) (by kernel_rfl) (by kernel_rfl) (fun _ _ _ h => h) (Or.inl ⟨by rfl, ?_⟩) (by assumption) ?_
 rotate_left
 · intro w hSw; (try dsimp only at hSw); go_simp; try with_reducible rfl
 try simp only [Act.put, List.getElem_toArray, List.getElem_cons_succ, List.getElem_cons_zero, List.setIfInBounds_toArray, List.set_cons_zero, List.set_cons_succ]
 refine wpAnyH_take (i := 8) (v := ?_) rfl (by kernel_rfl) (by kernel_rfl) (by kernel_rfl) (fun _ _ _ h => h) (Or.inl ⟨by rfl, ?_⟩) (by assumption) ?_
 rotate_left
 · intro w hSw; (try dsimp only at hSw); go_simp; try with_reducible rfl
 try simp only [Act.put, List.getElem_toArray, List.getElem_cons_succ, List.getElem_cons_zero, List.setIfInBounds_toArray, List.set_cons_zero, List.set_cons_succ]
 clear hHeld
 refine lstH (l' := #[true, true, true, true, true, true, true, true, true, false, false, false, false, false, false]) (by kernel_rfl) ?_
 have F := And.intro GU RA
 clear GU RA
 revert F
 revert cg
 revert mg
 revert ag
 revert z
 exact t1_2_.out
 )
 focus (
 go_simp
 refine hK.out _ _ (HC4.out _ (GU.alloc _)) (fun hHeld => ?_)
 clear hK K
 try simp only [List.setIfInBounds_toArray, List.set_cons_zero, List.set_cons_succ]
 obtain ⟨z, hz⟩ : ∃ z, z = y.alloc (.cells #[.int .i64 0, .slice none 0 0] 26) := ⟨_, rfl⟩
 have gg : Below y.heap.size y z := by rw [hz]; exact (Below.refl _ _).alloc (Nat.le_refl _) _
 have BX : Box7 z y.heap.size 26 (.int .i64 0) (.slice none 0 0) := by rw [hz]; exact Box7.new _ _ _ _ _ rfl
 have LX : u1.heap.size ≤ y.heap.size := GU.size
 replace GU := Good.up GU gg
 replace RW := own_up RW gg
 rw [← hz]
 clear hz gg hHeld
 generalize y.heap.size = bX_ at *
 refine lstH (l' := #[true, true, true, false, false, false, false, false, false, true, false, false, false, false, false]) (by kernel_rfl) ?_
 have F := And.intro GU (And.intro RW (And.intro BX LX))
 clear GU RW BX LX
 revert F
 revert bX_
 revert z
 exact t1_100_.out
 )
 focus (
 go_simp
 refine hK.out _ _ (HC4.out _ (GU.alloc _)) (fun hHeld => ?_)
 clear hK K
 try simp only [List.setIfInBounds_toArray, List.set_cons_zero, List.set_cons_succ]
 obtain ⟨z, hz⟩ : ∃ z, z = y.alloc (.cells #[.int .i64 0, .int .i64 0] 28) := ⟨_, rfl⟩
 have gg : Below y.heap.size y z := by rw [hz]; exact (Below.refl _ _).alloc (Nat.le_refl _) _
 have BY : Box7 z y.heap.size 28 (.int .i64 0) (.int .i64 0) := by rw [hz]; exact Box7.new _ _ _ _ _ rfl
 have LY : u1.heap.size ≤ y.heap.size := GU.size
 replace GU := Good.up GU gg
 replace RW := own_up RW gg
 rw [← hz]
 clear hz gg hHeld
 generalize y.heap.size = bY_ at *
 refine lstH (l' := #[true, true, true, false, false, false, false, false, false, false, true, false, false, false, false]) (by kernel_rfl) ?_
 have F := And.intro GU (And.intro RW (And.intro BY LY))
 clear GU RW BY LY
 revert F
 revert bY_
 revert z
 exact t1_101_.out
 )
 )
 focus (
 intro y bX_ bY_ F
 obtain ⟨GU, RW, BX, LX, BY, LY, NE⟩ := F
 have hHeld := HC4.out _ GU
 clear hHeld
 refine wpAnyH_ready (rs := [2]) (by kernel_rfl) (by simp) ?_
 refine AllReadyH.cons rfl (fun K hK => ?_) AllReadyH.nil
 focus (
 rw [if_pos]
 rotate_left
 · kernel_rfl
 have HCall := hideIt (toEdge9_any x y)
 go_wp2_with (go_at_call 51; refine HCall.out.mono ?_; rintro e z ⟨rfl, gg⟩; refine Hid.out ?_)
 refine hidp ?_
 refine hK.out _ _ (HC4.out _ (Good.up GU gg)) (fun hHeld => ?_)
 clear hK K HCall
 try simp only [List.setIfInBounds_toArray, List.set_cons_zero, List.set_cons_succ]
 replace GU := Good.up GU gg
 replace RW := own_up RW gg
 replace BX := BX.up gg
 replace BY := BY.up gg
 clear gg
 clear hHeld
 refine lstH (l' := #[true, true, true, false, false, false, false, false, false, true, true, false, false, false, false]) (by kernel_rfl) ?_
 have F := And.intro GU (And.intro RW (And.intro BX (And.intro LX (And.intro BY (And.intro LY NE)))))
 clear GU RW BX LX BY LY NE
 revert F
 revert bY_
 revert bX_
 revert z
 exact t1_100_101_.out
 )
 )
 focus (
 intro y bY_ F
 obtain ⟨GU, RW, BY, LY⟩ := F
 have hHeld := HC4.out _ GU
 clear hHeld
 refine wpAnyH_ready (rs := [3, 9]) (by kernel_rfl) (by simp) ?_
 refine AllReadyH.cons rfl (fun K hK => ?_) (AllReadyH.cons rfl (fun K hK => ?_) AllReadyH.nil)
 focus (
 rw [if_pos]
 rotate_left
 · kernel_rfl
 have HCall := hideIt (HDi.out _ g4 _ RW)
 go_wp2_with (go_at_call 16; refine HCall.out.mono ?_; rintro e z ⟨ag, mg, cg, rfl, RA0, gg⟩; refine Hid.out ?_)
 refine hidp ?_
 refine hK.out _ _ (HC4.out _ (Good.up GU gg)) (fun hHeld => ?_)
 clear hK K HCall
 try simp only [List.setIfInBounds_toArray, List.set_cons_zero, List.set_cons_succ]
 have RA := own_mono RA0 GU.size
 clear RA0
 replace GU := Good.up GU gg
 replace BY := BY.up gg
 clear gg RW
 replace hHeld := HC4.out _ GU
 refine wpAnyH_take (i := 4) (v := ?_) rfl (by kernel_rfl) (by kernel_rfl) (by kernel_rfl) (fun _ _ _ h => h) (Or.inl ⟨by rfl, ?_⟩) (by assumption) ?_
 rotate_left
 · intro w hSw; (try dsimp only at hSw); go_simp; try with_reducible rfl
 try simp only [Act.put, List.getElem_toArray, List.getElem_cons_succ, List.getElem_cons_zero, List.setIfInBounds_toArray, List.set_cons_zero, List.set_cons_succ]
 refine wpAnyH_take (i := 5) (v := ?_) rfl (by kernel_rfl) (by kernel_rfl) (by kernel_rfl) (fun _ _ _ h => h) (Or.inl ⟨by rfl, ?_⟩) (by assumption) ?_
 rotate_left
 · intro w hSw; (try dsimp only at hSw); go_simp; try with_reducible rfl
 try simp only [Act.put, List.getElem_toArray, List.getElem_cons_succ, List.getElem_cons_zero, List.setIfInBounds_toArray, List.set_cons_zero, List.set_cons_succ]
 refine wpAnyH_take (i := 6) (v := ?_) rfl (by kernel_rfl) (by kernel_rfl) (by kernel_rfl) (fun _ _ _ h => h) (Or.inl ⟨by rfl, ?_⟩) (by assumption) ?_
 rotate_left
 · intro w hSw; (try dsimp only at hSw); go_simp; try with_reducible rfl
 try simp only [Act.put, List.getElem_toArray, List.getElem_cons_succ, List.getElem_cons_zero, List.setIfInBounds_toArray, List.set_cons_zero, List.set_cons_succ]
 refine wpAnyH_take (i := 7) (v := ?_) rfl (by kernel_rfl) (by kernel_rfl) (by kernel_rfl) (fun _ _ _ h => h) (Or.inl ⟨by rfl, ?_⟩) (by assumption) ?_
 rotate_left
 · intro w hSw; (try dsimp only at hSw); go_simp; try with_reducible rfl
 try simp only [Act.put, List.getElem_toArray, List.getElem_cons_succ, List.getElem_cons_zero, List.setIfInBounds_toArray, List.set_cons_zero, List.set_cons_succ]
 refine wpAnyH_take (i := 8) (v := ?_) rfl (by kernel_rfl) (by kernel_rfl) (by kernel_rfl) (fun _ _ _ h => h) (Or.inl ⟨by rfl, ?_⟩) (by assumption) ?_
 rotate_left
 · intro w hSw; (try dsimp only at hSw); go_simp; try with_reducible rfl
 try simp only [Act.put, List.getElem_toArray, List.getElem_cons_succ, List.getElem_cons_zero, List.setIfInBounds_toArray, List.set_cons_zero, List.set_cons_succ]
 clear hHeld
 refine lstH (l' := #[true, true, true, true, true, true, true, true, true, false, true, false, false, false, false]) (by kernel_rfl) ?_
 have F := And.intro GU (And.intro BY (And.intro LY RA))
 clear GU BY LY RA
 revert F
 revert bY_
 revert cg
 revert mg
 revert ag
 revert z
 exact t1_2_101_.out
 )
 focus (
 go_simp
 refine hK.out _ _ (HC4.out _ (GU.alloc _)) (fun hHeld => ?_)
 clear hK K
 try simp only [List.setIfInBounds_toArray, List.set_cons_zero, List.set_cons_succ]
 obtain ⟨z, hz⟩ : ∃ z, z = y.alloc (.cells #[.int .i64 0, .slice none 0 0] 26) := ⟨_, rfl⟩
 have gg : Below y.heap.size y z := by rw [hz]; exact (Below.refl _ _).alloc (Nat.le_refl _) _
 have BX : Box7 z y.heap.size 26 (.int .i64 0) (.slice none 0 0) := by rw [hz]; exact Box7.new _ _ _ _ _ rfl
 have LX : u1.heap.size ≤ y.heap.size := GU.size
 have NE : y.heap.size ≠ bY_ := by have := BY.lt; omega
 replace GU := Good.up GU gg
 replace RW := own_up RW gg
 replace BY := BY.up gg
 rw [← hz]
 clear hz gg hHeld
 generalize y.heap.size = bX_ at *
 refine lstH (l' := #[true, true, true, false, false, false, false, false, false, true, true, false, false, false, false]) (by kernel_rfl) ?_
 have F := And.intro GU (And.intro RW (And.intro BX (And.intro LX (And.intro BY (And.intro LY NE)))))
 clear GU RW BX LX BY LY NE
 revert F
 revert bY_
 revert bX_
 revert z
 exact t1_100_101_.out
 )
 )
 focus (
 intro y bX_ F
 obtain ⟨GU, RW, BX, LX⟩ := F
 have hHeld := HC4.out _ GU
 clear hHeld
 refine wpAnyH_ready (rs := [3, 10]) (by kernel_rfl) (by simp) ?_
 refine AllReadyH.cons rfl (fun K hK => ?_) (AllReadyH.cons rfl (fun K hK => ?_) AllReadyH.nil)
 focus (
 rw [if_pos]
 rotate_left
 · kernel_rfl
 have HCall := hideIt (HDi.out _ g4 _ RW)
 go_wp2_with (go_at_call 16; refine HCall.out.mono ?_; rintro e z ⟨ag, mg, cg, rfl, RA0, gg⟩; refine Hid.out ?_)
 refine hidp ?_
 refine hK.out _ _ (HC4.out _ (Good.up GU gg)) (fun hHeld => ?_)
 clear hK K HCall
 try simp only [List.setIfInBounds_toArray, List.set_cons_zero, List.set_cons_succ]
 have RA := own_mono RA0 GU.size
 clear RA0
 replace GU := Good.up GU gg
 replace BX := BX.up gg
 clear gg RW
 replace hHeld := HC4.out _ GU
 refine wpAnyH_take (i := 4) (v := ?_) rfl (by kernel_rfl) (by kernel_rfl) (by kernel_rfl) (fun _ _ _ h => h) (Or.inl ⟨by rfl, ?_⟩) (by assumption) ?_
 rotate_left
 · intro w hSw; (try dsimp only at hSw); go_simp; try with_reducible rfl
 try simp only [Act.put, List.getElem_toArray, List.getElem_cons_succ, List.getElem_cons_zero, List.setIfInBounds_toArray, List.set_cons_zero, List.set_cons_succ]
 refine wpAnyH_take (i := 5) (v := ?_) rfl (by kernel_rfl) (by kernel_rfl) (by kernel_rfl) (fun _ _ _ h => h) (Or.inl ⟨by rfl, ?_⟩) (by assumption) ?_
 rotate_left
 · intro w hSw; (try dsimp only at hSw); go_simp; try with_reducible rfl
 try simp only [Act.put, List.getElem_toArray, List.getElem_cons_succ, List.getElem_cons_zero, List.setIfInBounds_toArray, List.set_cons_zero, List.set_cons_succ]
 refine wpAnyH_take (i := 6) (v := ?_) rfl (by kernel_rfl) (by kernel_rfl) (by kernel_rfl) (fun _ _ _ h => h) (Or.inl ⟨by rfl, ?_⟩) (by assumption) ?_
 rotate_left
 · intro w hSw; (try dsimp only at hSw); go_simp; try with_reducible rfl
 try simp only [Act.put, List.getElem_toArray, List.getElem_cons_succ, List.getElem_cons_zero, List.setIfInBounds_toArray, List.set_cons_zero, List.set_cons_succ]
 refine wpAnyH_take (i := 7) (v := ?_) rfl (by kernel_rfl) (by kernel_rfl) (by kernel_rfl) (fun _ _ _ h => h) (Or.inl ⟨by rfl, ?_⟩) (by assumption) ?_
 rotate_left
 · intro w hSw; (try dsimp only at hSw); go_simp; try with_reducible rfl
 try simp only [Act.put, List.getElem_toArray, List.getElem_cons_succ, List.getElem_cons_zero, List.setIfInBounds_toArray, List.set_cons_zero, List.set_cons_succ]
 refine wpAnyH_take (i := 8) (v := ?_) rfl (by kernel_rfl) (by kernel_rfl) (by kernel_rfl) (fun _ _ _ h => h) (Or.inl ⟨by rfl, ?_⟩) (by assumption) ?_
 rotate_left
 · intro w hSw; (try dsimp only at hSw); go_simp; try with_reducible rfl
 try simp only [Act.put, List.getElem_toArray, List.getElem_cons_succ, List.getElem_cons_zero, List.setIfInBounds_toArray, List.set_cons_zero, List.set_cons_succ]
 clear hHeld
 refine lstH (l' := #[true, true, true, true, true, true, true, true, true, true, false, false, false, false, false]) (by kernel_rfl) ?_
 have F := And.intro GU (And.intro BX (And.intro LX RA))
 clear GU BX LX RA
 revert F
 revert bX_
 revert cg
 revert mg
 revert ag
 revert z
 exact t1_2_100_.out
 )
 focus (
 go_simp
 refine hK.out _ _ (HC4.out _ (GU.alloc _)) (fun hHeld => ?_)
 clear hK K
 try simp only [List.setIfInBounds_toArray, List.set_cons_zero, List.set_cons_succ]
 obtain ⟨z, hz⟩ : ∃ z, z = y.alloc (.cells #[.int .i64 0, .int .i64 0] 28) := ⟨_, rfl⟩
 have gg : Below y.heap.size y z := by rw [hz]; exact (Below.refl _ _).alloc (Nat.le_refl _) _
 have BY : Box7 z y.heap.size 28 (.int .i64 0) (.int .i64 0) := by rw [hz]; exact Box7.new _ _ _ _ _ rfl
 have LY : u1.heap.size ≤ y.heap.size := GU.size
 have NE : bX_ ≠ y.heap.size := by have := BX.lt; omega
 replace GU := Good.up GU gg
 replace RW := own_up RW gg
 replace BX := BX.up gg
 rw [← hz]
 clear hz gg hHeld
 generalize y.heap.size = bY_ at *
 refine lstH (l' := #[true, true, true, false, false, false, false, false, false, true, true, false, false, false, false]) (by kernel_rfl) ?_
 have F := And.intro GU (And.intro RW (And.intro BX (And.intro LX (And.intro BY (And.intro LY NE)))))
 clear GU RW BX LX BY LY NE
 revert F
 revert bY_
 revert bX_
 revert z
 exact t1_100_101_.out
 )
 )
 focus (
 intro y ag mg cg F
 obtain ⟨GU, RA⟩ := F
 have hHeld := HC4.out _ GU
 clear hHeld
 refine wpAnyH_ready (rs := [9, 10]) (by kernel_rfl) (by simp) ?_
 refine AllReadyH.cons rfl (fun K hK => ?_) (AllReadyH.cons rfl (fun K hK => ?_) AllReadyH.nil)
 focus (
 go_simp
 refine hK.out _ _ (HC4.out _ (GU.alloc _)) (fun hHeld => ?_)
 clear hK K
 try simp only [List.setIfInBounds_toArray, List.set_cons_zero, List.set_cons_succ]
 obtain ⟨z, hz⟩ : ∃ z, z = y.alloc (.cells #[.int .i64 0, .slice none 0 0] 26) := ⟨_, rfl⟩
 have gg : Below y.heap.size y z := by rw [hz]; exact (Below.refl _ _).alloc (Nat.le_refl _) _
 have BX : Box7 z y.heap.size 26 (.int .i64 0) (.slice none 0 0) := by rw [hz]; exact Box7.new _ _ _ _ _ rfl
 have LX : u1.heap.size ≤ y.heap.size := GU.size
 replace GU := Good.up GU gg
 replace RA := own_up RA gg
 rw [← hz]
 clear hz gg hHeld
 generalize y.heap.size = bX_ at *
 refine lstH (l' := #[true, true, true, true, true, true, true, true, true, true, false, false, false, false, false]) (by kernel_rfl) ?_
 have F := And.intro GU (And.intro BX (And.intro LX RA))
 clear GU BX LX RA
 revert F
 revert bX_
 revert cg
 revert mg
 revert ag
 revert z
 exact t1_2_100_.out
 )
 focus (
 go_simp
 refine hK.out _ _ (HC4.out _ (GU.alloc _)) (fun hHeld => ?_)
 clear hK K
 try simp only [List.setIfInBounds_toArray, List.set_cons_zero, List.set_cons_succ]
 obtain ⟨z, hz⟩ : ∃ z, z = y.alloc (.cells #[.int .i64 0, .int .i64 0] 28) := ⟨_, rfl⟩
 have gg : Below y.heap.size y z := by rw [hz]; exact (Below.refl _ _).alloc (Nat.le_refl _) _
 have BY : Box7 z y.heap.size 28 (.int .i64 0) (.int .i64 0) := by rw [hz]; exact Box7.new _ _ _ _ _ rfl
 have LY : u1.heap.size ≤ y.heap.size := GU.size
 replace GU := Good.up GU gg
 replace RA := own_up RA gg
 rw [← hz]
 clear hz gg hHeld
 generalize y.heap.size = bY_ at *
 refine lstH (l' := #[true, true, true, true, true, true, true, true, true, false, true, false, false, false, false]) (by kernel_rfl) ?_
 have F := And.intro GU (And.intro BY (And.intro LY RA))
 clear GU BY LY RA
 revert F
 revert bY_
 revert cg
 revert mg
 revert ag
 revert z
 exact t1_2_101_.out
 )
 )
 focus (
 intro y bX_ bY_ F
 obtain ⟨GU, RW, BX, LX, BY, LY, NE⟩ := F
 have hHeld := HC4.out _ GU
 clear hHeld
 refine wpAnyH_ready (rs := [3]) (by kernel_rfl) (by simp) ?_
 refine AllReadyH.cons rfl (fun K hK => ?_) AllReadyH.nil
 focus (
 rw [if_pos]
 rotate_left
 · kernel_rfl
 have HCall := hideIt (HDi.out _ g4 _ RW)
 go_wp2_with (go_at_call 16; refine HCall.out.mono ?_; rintro e z ⟨ag, mg, cg, rfl, RA0, gg⟩; refine Hid.out ?_)
 refine hidp ?_
 refine hK.out _ _ (HC4.out _ (Good.up GU gg)) (fun hHeld => ?_)
 clear hK K HCall
 try simp only [List.setIfInBounds_toArray, List.set_cons_zero, List.set_cons_succ]
 have RA := own_mono RA0 GU.size
 clear RA0
 replace GU := Good.up GU gg
 replace BX := BX.up gg
 replace BY := BY.up gg
 clear gg RW
 replace hHeld := HC4.out _ GU
 refine wpAnyH_take (i := 4) (v := ?_) rfl (by kernel_rfl) (by kernel_rfl) (by kernel_rfl) (fun _ _ _ h => h) (Or.inl ⟨by rfl, ?_⟩) (by assumption) ?_
 rotate_left
 · intro w hSw; (try dsimp only at hSw); go_simp; try with_reducible rfl
 try simp only [Act.put, List.getElem_toArray, List.getElem_cons_succ, List.getElem_cons_zero, List.setIfInBounds_toArray, List.set_cons_zero, List.set_cons_succ]
 refine wpAnyH_take (i := 5) (v := ?_) rfl (by kernel_rfl) (by kernel_rfl) (by kernel_rfl) (fun _ _ _ h => h) (Or.inl ⟨by rfl, ?_⟩) (by assumption) ?_
 rotate_left
 · intro w hSw; (try dsimp only at hSw); go_simp; try with_reducible rfl
 try simp only [Act.put, List.getElem_toArray, List.getElem_cons_succ, List.getElem_cons_zero, List.setIfInBounds_toArray, List.set_cons_zero, List.set_cons_succ]
 refine wpAnyH_take (i := 6) (v := ?_) rfl (by kernel_rfl) (by kernel_rfl) (by kernel_rfl) (fun _ _ _ h => h) (Or.inl ⟨by rfl, ?_⟩) (by assumption) ?_
 rotate_left
 · intro w hSw; (try dsimp only at hSw); go_simp; try with_reducible rfl
 try simp only [Act.put, List.getElem_toArray, List.getElem_cons_succ, List.getElem_cons_zero, List.setIfInBounds_toArray, List.set_cons_zero, List.set_cons_succ]
 refine wpAnyH_take (i := 7) (v := ?_) rfl (by kernel_rfl) (by kernel_rfl) (by kernel_rfl) (fun _ _ _ h => h) (Or.inl ⟨by rfl, ?_⟩) (by assumption) ?_
 rotate_left
 · intro w hSw; (try dsimp only at hSw); go_simp; try with_reducible rfl
 try simp only [Act.put, List.getElem_toArray, List.getElem_cons_succ, List.getElem_cons_zero, List.setIfInBounds_toArray, List.set_cons_zero, List.set_cons_succ]
 refine wpAnyH_take (i := 8) (v := ?_) rfl (by kernel_rfl) (by kernel_rfl) (by kernel_rfl) (fun _ _ _ h => h) (Or.inl ⟨by rfl, ?_⟩) (by assumption) ?_
 rotate_left
 · intro w hSw; (try dsimp only at hSw); go_simp; try with_reducible rfl
 try simp only [Act.put, List.getElem_toArray, List.getElem_cons_succ, List.getElem_cons_zero, List.setIfInBounds_toArray, List.set_cons_zero, List.set_cons_succ]
 clear hHeld
 refine lstH (l' := #[true, true, true, true, true, true, true, true, true, true, true, false, false, false, false]) (by kernel_rfl) ?_
 have F := And.intro GU (And.intro BX (And.intro LX (And.intro BY (And.intro LY (And.intro NE RA)))))
 clear GU BX LX BY LY NE RA
 revert F
 revert bY_
 revert bX_
 revert cg
 revert mg
 revert ag
 revert z
 exact t1_2_100_101_.out
 )
 )
 focus (
 intro y ag mg cg bY_ F
 obtain ⟨GU, BY, LY, RA⟩ := F
 have hHeld := HC4.out _ GU
 clear hHeld
 refine wpAnyH_ready (rs := [9]) (by kernel_rfl) (by simp) ?_
 refine AllReadyH.cons rfl (fun K hK => ?_) AllReadyH.nil
 focus (
 go_simp
 refine hK.out _ _ (HC4.out _ (GU.alloc _)) (fun hHeld => ?_)
 clear hK K
 try simp only [List.setIfInBounds_toArray, List.set_cons_zero, List.set_cons_succ]
 obtain ⟨z, hz⟩ : ∃ z, z = y.alloc (.cells #[.int .i64 0, .slice none 0 0] 26) := ⟨_, rfl⟩
 have gg : Below y.heap.size y z := by rw [hz]; exact (Below.refl _ _).alloc (Nat.le_refl _) _
 have BX : Box7 z y.heap.size 26 (.int .i64 0) (.slice none 0 0) := by rw [hz]; exact Box7.new _ _ _ _ _ rfl
 have LX : u1.heap.size ≤ y.heap.size := GU.size
 have NE : y.heap.size ≠ bY_ := by have := BY.lt; omega
 replace GU := Good.up GU gg
 replace BY := BY.up gg
 replace RA := own_up RA gg
 rw [← hz]
 clear hz gg hHeld
 generalize y.heap.size = bX_ at *
 refine lstH (l' := #[true, true, true, true, true, true, true, true, true, true, true, false, false, false, false]) (by kernel_rfl) ?_
 have F := And.intro GU (And.intro BX (And.intro LX (And.intro BY (And.intro LY (And.intro NE RA)))))
 clear GU BX LX BY LY NE RA
 revert F
 revert bY_
 revert bX_
 revert cg
 revert mg
 revert ag
 revert z
 exact t1_2_100_101_.out
 )
 )
 focus (
 intro y ag mg cg bX_ F
 obtain ⟨GU, BX, LX, RA⟩ := F
 have hHeld := HC4.out _ GU
 clear hHeld
 refine wpAnyH_ready (rs := [10]) (by kernel_rfl) (by simp) ?_
 refine AllReadyH.cons rfl (fun K hK => ?_) AllReadyH.nil
 focus (
 go_simp
 refine hK.out _ _ (HC4.out _ (GU.alloc _)) (fun hHeld => ?_)
 clear hK K
 try simp only [List.setIfInBounds_toArray, List.set_cons_zero, List.set_cons_succ]
 obtain ⟨z, hz⟩ : ∃ z, z = y.alloc (.cells #[.int .i64 0, .int .i64 0] 28) := ⟨_, rfl⟩
 have gg : Below y.heap.size y z := by rw [hz]; exact (Below.refl _ _).alloc (Nat.le_refl _) _
 have BY : Box7 z y.heap.size 28 (.int .i64 0) (.int .i64 0) := by rw [hz]; exact Box7.new _ _ _ _ _ rfl
 have LY : u1.heap.size ≤ y.heap.size := GU.size
 have NE : bX_ ≠ y.heap.size := by have := BX.lt; omega
 replace GU := Good.up GU gg
 replace BX := BX.up gg
 replace RA := own_up RA gg
 rw [← hz]
 clear hz gg hHeld
 generalize y.heap.size = bY_ at *
 refine lstH (l' := #[true, true, true, true, true, true, true, true, true, true, true, false, false, false, false]) (by kernel_rfl) ?_
 have F := And.intro GU (And.intro BX (And.intro LX (And.intro BY (And.intro LY (And.intro NE RA)))))
 clear GU BX LX BY LY NE RA
 revert F
 revert bY_
 revert bX_
 revert cg
 revert mg
 revert ag
 revert z
 exact t1_2_100_101_.out
 )
 )
 focus (
 intro y ag mg cg bX_ bY_ F
 obtain ⟨GU, BX, LX, BY, LY, NE, RA⟩ := F
 have hHeld := HC4.out _ GU
 have bc0 := BX.cell0
 have bc1 := BX.cell1
 have bz0 := BX.frozen 0
 have bz1 := BX.frozen 1
 refine wpAnyH_ready (rs := [11]) (by kernel_rfl) (by simp) ?_
 refine AllReadyH.cons rfl (fun K hK => ?_) AllReadyH.nil
 go_simp
 refine hK.out _ _ (HC4.out _ (Good.set2 GU _ _ _ LX)) (fun hHeld => ?_)
 clear hK K
 try simp only [List.setIfInBounds_toArray, List.set_cons_zero, List.set_cons_succ]
 obtain ⟨uf, huf⟩ : ∃ uf, uf = (y.setCell ⟨bX_, 0, none⟩ (.int .i64 M)).setCell ⟨bX_, 1, none⟩ (.slice ag mg cg) := ⟨_, rfl⟩
 have TF := ta_one (M := M) GU BX BY RA LX NE
 rw [← huf] at TF hHeld ⊢
 clear huf bc0 bc1 bz0 bz1
 have bd0 := TF.2.2.cell0
 have bd1 := TF.2.2.cell1
 have be0 := TF.2.2.frozen 0
 have be1 := TF.2.2.frozen 1
 have HTF := hideIt TF
 have GF := TF.1
 clear TF
 refine wpAnyH_ready (rs := [12]) (by kernel_rfl) (by simp) ?_
 refine AllReadyH.cons rfl (fun K hK => ?_) AllReadyH.nil
 go_simp
 refine hK.out _ _ (HC4.out _ (Good.set2 GF _ _ _ LY)) (fun hHeld => ?_)
 clear hK K
 try simp only [List.setIfInBounds_toArray, List.set_cons_zero, List.set_cons_succ]
 refine wpAnyH_ready (rs := [13]) (by kernel_rfl) (by simp) ?_
 refine AllReadyH.cons rfl (fun K hK => ?_) AllReadyH.nil
 go_simp
 refine hK.out _ _ (by assumption) (fun hHeld => ?_)
 clear hK K
 try simp only [List.setIfInBounds_toArray, List.set_cons_zero, List.set_cons_succ]
 refine wpAnyH_ready (rs := [14]) (by kernel_rfl) (by simp) ?_
 refine AllReadyH.cons rfl (fun K hK => ?_) AllReadyH.nil
 go_simp
 refine hK.out _ _ (by assumption) (fun hHeld => ?_)
 clear hK K
 try simp only [List.setIfInBounds_toArray, List.set_cons_zero, List.set_cons_succ]
 refine wpAnyH_done (by kernel_rfl) ?_ _
 have HZ := hideIt (ta_two (d := d) HTF.out LY NE)
 have HGZ := hideIt (Good.set2 GF bY_ (.int .i64 d.1) (.int .i64 d.2) LY)
 clear HTF GF bd0 bd1 be0 be1 hHeld
 go_wp2_with fail
 go_meet
 exact ⟨bX_, bY_, ag, mg, cg, rfl, rfl, rfl, rfl, HGZ.out, HZ.out⟩
 )
        )
      case rest =>
        obtain ⟨b2, be2, ag, mg, cg, rfl, rfl, rfl, rfl, G5, TG⟩ := hcut
        have DG := TG.pb
        have EG := TG.eb
        have hEg := TG.le
        clear TG
        have L5 := L4.good G5
        have DW5 := DW4.up G5
        have EW5 := EW4.up G5
        clear EW4
        have DX5 := DX.up G5
        have hC2 : C1 ≤ u1.heap.size := by have := DX.least; have := DX.most; omega
        have hmg : mg ≤ 200 := by rw [← DG.len9]; exact hgl
        have hmw : mw ≤ 200 := by rw [← DW5.len9]; exact hgl
        clear HC4 hS4 hox o1 o2 DX DW4
        have q0 := DG.cells.1
        have q1 := DW5.cells.1
        have q2 := DG.cells.2
        have q3 := DW5.cells.2
        have HE5 := hideIt (eqWB DG DW5 (by omega))
        go_wp2_with (go_at_call 52; refine HE5.out.mono ?_; rintro e w5 ⟨rfl, hb5⟩; refine Hid.out ?_)
        refine (show ∀ {p : Prop}, p → Hid p from fun h => h) ?_
        have x0 := (EG.up hb5).cell0
        have x1 := (EG.up hb5).cell1
        have x2 := (EW5.up hb5).cell0
        have x3 := (EW5.up hb5).cell1
        have HEd := hideIt (HEe.out d w5)
        go_wp2_with (go_at_call 53; refine HEd.out.mono ?_; rintro e w6 ⟨rfl, hb56⟩; refine Hid.out ?_)
        refine (show ∀ {p : Prop}, p → Hid p from fun h => h) ?_
        have hb6 := Good.up hb5 hb56
        have EG6 := EG.up hb6
        have EW6 := EW5.up hb6
        clear x0 x1 x2 x3 HEd hb5 hb56 EG EW5
        have L6 := L5.up hb6
        have DW6 := DW5.up hb6
        have DX6 := DX5.up hb6
        have DG6 := DG.up hb6
        have hz6 := hb6.size
        clear HE5 hb6 q0 q1 q2 q3 DG DW5 DX5 L5
        have HC6 := hideIt (fun u (hu : Good w6 u) => And.intro (And.intro (DX6.up hu).cells (L6.good hu).cells.1) hu)
        have hS6 := HC6.out _ (Good.refl w6).drew
        have HT6 := hideIt (fun u (hu : Good w6 u) => toWeb_G N fs n a c hn1 (L6.ls HF.out) hu)
        have HX6 := hideIt (fun u (hu : Good w6 u) => Ls_of_own (DX6.up hu).own)
        go_upto_region 10 with fail
        go_region_held3 (fun u => ((u.cell? ⟨bX, 0, none⟩ = some (.int .i64 N) ∧ u.cell? ⟨bX, 1, none⟩ = some (.slice (some ⟨g4, 0, none⟩) n n)) ∧ u.cell? ⟨w.heap.size, 0, none⟩ = some (.int .i64 N) ∧ u.cell? ⟨w.heap.size, 1, none⟩ = some (.slice a n c)) ∧ Good w6 u)
          (first | assumption)
          (first
            | (go_at_call 50; refine (HT6.out _ (And.right (by assumption))).mono ?_; rintro e w7 ⟨g7, rfl, ho7, hg7, _⟩; have hS7 := HC6.out _ hg7)
            | (go_at_call 52; refine (eqWeb_same N fs n _ _ _ _ hn1 _ (HX6.out _ hg7) (Ls_of_own ho7)).mono ?_; rintro e w8 ⟨rfl, hb8⟩; have hg8 := hg7.up hb8; have hS8 := HC6.out _ hg8))
        have L8 := L6.good hg8
        have DW8 := DW6.up hg8
        have EG8 := EG6.up hg8
        have EW8 := EW6.up hg8
        clear EG6 EW6
        have DX8 := DX6.up hg8
        have DG8 := DG6.up hg8
        have hz8 := hg8.size
        clear HC6 hS6 HT6 HX6 hS7 hS8 hg7 ho7 hb8 L6 DW6 DX6 DG6
        have q2 := DX8.cells.1
        have q3 := DX8.cells.2
        have HM8 := hideIt (markWB DX8 1 hn1 (by omega))
        go_wp2_with (go_at_call 54; refine HM8.out.mono ?_; rintro e w9 ⟨rfl, hDX9, hr9⟩; refine Hid.out ?_)
        refine (show ∀ {p : Prop}, p → Hid p from fun h => h) ?_
        have L9 := L8.rng hr9 (by omega)
        have DW9 := DW8.rng hr9 (.inl (by omega))
        have EW9 := EW8.rng hr9 (.inl hEw)
        have EG9 := EG8.rng hr9 (.inr (by omega))
        clear EW8 EG8
        have DG9 := DG8.rng hr9 (.inr (Nat.le_refl _))
        clear HM8 q2 q3 L8 DW8 DX8 DG8 hr9 hDX9
        have d3 : decide ((1 : Int) + (n : Int) * 4 < 0) = false := decide_eq_false (by omega)
        have q0 := DG9.cells.1
        have q1 := DW9.cells.1
        have q2 := DG9.cells.2
        have q3 := DW9.cells.2
        have HE9 := hideIt (eqWB DG9 DW9 (by omega))
        go_wp2_with (go_at_call 52; refine HE9.out.mono ?_; rintro e w9a ⟨rfl, hb9a⟩; refine Hid.out ?_)
        refine (show ∀ {p : Prop}, p → Hid p from fun h => h) ?_
        have x0 := (EG9.up hb9a).cell0
        have x1 := (EG9.up hb9a).cell1
        have x2 := (EW9.up hb9a).cell0
        have x3 := (EW9.up hb9a).cell1
        have HEd := hideIt (HEe.out d w9a)
        go_wp2_with (go_at_call 53; refine HEd.out.mono ?_; rintro e w10 ⟨rfl, hb9b⟩; refine Hid.out ?_)
        refine (show ∀ {p : Prop}, p → Hid p from fun h => h) ?_
        have hb10 := Good.up hb9a hb9b
        have EW10 := EW9.up hb10
        clear x0 x1 x2 x3 HEd hb9a hb9b EG9 EW9
        have L10 := L9.up hb10
        have DW10 := DW9.up hb10
        have DG10 := DG9.up hb10
        clear HE9 hb10 q0 q1 q2 q3 L9 DW9 DG9
        have q0 := DG10.cells.1
        have q1 := DG10.cells.2
        have HM10 := hideIt (markWB DG10 1 (by omega) (by omega))
        go_wp2_with (go_at_call 54; refine HM10.out.mono ?_; rintro e w11 ⟨rfl, DG11, hr11⟩; refine Hid.out ?_)
        refine (show ∀ {p : Prop}, p → Hid p from fun h => h) ?_
        have L11 := L10.rng hr11 (by omega)
        have DW11 := DW10.rng hr11 (.inl (by omega))
        have EW11 := EW10.rng hr11 (.inl (by omega))
        clear EW10
        clear HM10 q0 q1 L10 DW10 DG10 hr11
        have q0 := DG11.cells.1
        have q1 := DG11.cells.2
        have HH11 := hideIt (heldWB 1 DG11 (by omega) (by omega))
        have d4 : decide ((1 : Int) + (mg : Int) * 4 < 0) = false := decide_eq_false (by omega)
        have d5 : ((1 : Int) + (mg : Int) * 4 != (1 : Int) + (mg : Int) * 4) = false := by simp
        go_wp2_with (go_at_call 55; refine HH11.out.mono ?_; rintro e w12 ⟨rfl, hb12⟩; refine Hid.out ?_)
        refine (show ∀ {p : Prop}, p → Hid p from fun h => h) ?_
        have L12 := L11.up hb12
        have DW12 := DW11.up hb12
        have EW12 := EW11.up hb12
        clear EW11
        have DG12 := DG11.up hb12
        clear HH11 hb12 q0 q1 L11 DW11 DG11
        have HC12 := hideIt (fun u (hu : Good w12 u) => And.intro (L12.good hu).cells hu)
        have hS12 := HC12.out _ (Good.refl w12).drew
        have zz12 := L12.size
        obtain ⟨⟨c0, c1⟩, c2, c3⟩ := L12.cells
        go_upto_region 24 with fail
        go_cut [18, 19, 20, 21] (fun p pe o2 ok wx => ∃ b3 be3 ah mh ch, p = .pointer (some ⟨b3, 0, none⟩) ∧ pe = .pointer (some ⟨be3, 0, none⟩) ∧ o2 = .bool tk ∧ ok = .bool fl ∧ Good w12 wx ∧ TAn wx w12.heap.size b3 be3 M ah mh ch gs d)
        case first =>
          have HT := hideIt (fun u (hu : Good w12 u) => toWeb_G N fs n a c hn1 (L12.ls HF.out) hu)
          (
 apply viaT
 intro t1_2_3_100_101_
 apply viaT
 intro t1_2_3_100_
 apply viaT
 intro t1_2_3_101_
 apply viaT
 intro t1_2_100_101_
 apply viaT
 intro t1_2_3_
 apply viaT
 intro t1_2_100_
 apply viaT
 intro t1_2_101_
 apply viaT
 intro t1_100_101_
 apply viaT
 intro t1_2_
 apply viaT
 intro t1_100_
 apply viaT
 intro t1_101_
 apply viaT
 intro t100_101_
 apply viaT
 intro t1_
 apply viaT
 intro t100_
 apply viaT
 intro t101_
 focus (
 refine wp_region_held_drew (S := (fun u => ((u.cell? ⟨w.heap.size, 0, none⟩ = some (.int .i64 N) ∧ u.cell? ⟨w.heap.size, 1, none⟩ = some (.slice a n c)) ∧ u.cell? ⟨w.heap.size + 1, 0, none⟩ = some (.int .i64 x.1) ∧ u.cell? ⟨w.heap.size + 1, 1, none⟩ = some (.int .i64 x.2)) ∧ Good w12 u)) (by kernel_rfl) hS12 (fun hHeld => ?_)
 refine wpAnyH_take (i := 0) (v := ?_) rfl (by kernel_rfl) (by kernel_rfl) (by kernel_rfl) (fun _ _ _ h => h) (Or.inl ⟨by rfl, ?_⟩) (by assumption) ?_
 rotate_left
 · intro w hSw; (try dsimp only at hSw); go_simp; try with_reducible rfl
 try simp only [Act.put, List.getElem_toArray, List.getElem_cons_zero, List.setIfInBounds_toArray, List.set_cons_zero, List.set_cons_succ]
 refine wpAnyH_take (i := 2) (v := ?_) rfl (by kernel_rfl) (by kernel_rfl) (by kernel_rfl) (fun _ _ _ h => h) (Or.inl ⟨by rfl, ?_⟩) (by assumption) ?_
 rotate_left
 · intro w hSw; (try dsimp only at hSw); go_simp; try with_reducible rfl
 try simp only [Act.put, List.getElem_toArray, List.getElem_cons_succ, List.getElem_cons_zero, List.setIfInBounds_toArray, List.set_cons_zero, List.set_cons_succ]
 obtain ⟨y, hy⟩ : ∃ y, y = w12.drew := ⟨_, rfl⟩
 have GU : Good w12 y := by rw [hy]; exact (Good.refl _).drew
 rw [← hy]
 clear hy hHeld
 refine wpAnyH_ready (rs := [1, 10, 11]) (by kernel_rfl) (by simp) ?_
 refine AllReadyH.cons rfl (fun K hK => ?_) (AllReadyH.cons rfl (fun K hK => ?_) (AllReadyH.cons rfl (fun K hK => ?_) AllReadyH.nil))
 focus (
 rw [if_pos]
 rotate_left
 · kernel_rfl
 have HCall := hideIt (HT.out _ GU)
 go_wp2_with (go_at_call 50; refine HCall.out.mono ?_; rintro e z ⟨g3, rfl, RW, -, gg⟩; refine Hid.out ?_)
 refine hidp ?_
 refine hK.out _ _ (HC12.out _ (Good.up GU gg)) (fun hHeld => ?_)
 clear hK K HCall
 try simp only [Act.put, List.getElem_toArray, List.getElem_cons_succ, List.getElem_cons_zero, List.setIfInBounds_toArray, List.set_cons_zero, List.set_cons_succ]
 replace GU := Good.up GU gg
 clear gg
 clear hHeld
 refine lstH (l' := #[true, true, true, false, false, false, false, false, false, false, false, false, false, false, false, false]) (by kernel_rfl) ?_
 have F := And.intro GU RW
 clear GU RW
 revert F
 revert g3
 revert z
 exact t1_.out
 )
 focus (
 go_simp
 refine hK.out _ _ (HC12.out _ (GU.alloc _)) (fun hHeld => ?_)
 clear hK K
 try simp only [Act.put, List.getElem_toArray, List.getElem_cons_succ, List.getElem_cons_zero, List.setIfInBounds_toArray, List.set_cons_zero, List.set_cons_succ]
 obtain ⟨z, hz⟩ : ∃ z, z = y.alloc (.cells #[.int .i64 0, .slice none 0 0] 26) := ⟨_, rfl⟩
 have gg : Below y.heap.size y z := by rw [hz]; exact (Below.refl _ _).alloc (Nat.le_refl _) _
 have BX : Box7 z y.heap.size 26 (.int .i64 0) (.slice none 0 0) := by rw [hz]; exact Box7.new _ _ _ _ _ rfl
 have LX : w12.heap.size ≤ y.heap.size := GU.size
 replace GU := Good.up GU gg
 rw [← hz]
 clear hz gg hHeld
 generalize y.heap.size = bX_ at *
 refine lstH (l' := #[true, false, true, false, false, false, false, false, false, false, true, false, false, false, false, false]) (by kernel_rfl) ?_
 have F := And.intro GU (And.intro BX LX)
 clear GU BX LX
 revert F
 revert bX_
 revert z
 exact t100_.out
 )
 focus (
 go_simp
 refine hK.out _ _ (HC12.out _ (GU.alloc _)) (fun hHeld => ?_)
 clear hK K
 try simp only [Act.put, List.getElem_toArray, List.getElem_cons_succ, List.getElem_cons_zero, List.setIfInBounds_toArray, List.set_cons_zero, List.set_cons_succ]
 obtain ⟨z, hz⟩ : ∃ z, z = y.alloc (.cells #[.int .i64 0, .int .i64 0] 28) := ⟨_, rfl⟩
 have gg : Below y.heap.size y z := by rw [hz]; exact (Below.refl _ _).alloc (Nat.le_refl _) _
 have BY : Box7 z y.heap.size 28 (.int .i64 0) (.int .i64 0) := by rw [hz]; exact Box7.new _ _ _ _ _ rfl
 have LY : w12.heap.size ≤ y.heap.size := GU.size
 replace GU := Good.up GU gg
 rw [← hz]
 clear hz gg hHeld
 generalize y.heap.size = bY_ at *
 refine lstH (l' := #[true, false, true, false, false, false, false, false, false, false, false, true, false, false, false, false]) (by kernel_rfl) ?_
 have F := And.intro GU (And.intro BY LY)
 clear GU BY LY
 revert F
 revert bY_
 revert z
 exact t101_.out
 )
 )
 focus (
 intro y bY_ F
 obtain ⟨GU, BY, LY⟩ := F
 have hHeld := HC12.out _ GU
 clear hHeld
 refine wpAnyH_ready (rs := [1, 10]) (by kernel_rfl) (by simp) ?_
 refine AllReadyH.cons rfl (fun K hK => ?_) (AllReadyH.cons rfl (fun K hK => ?_) AllReadyH.nil)
 focus (
 rw [if_pos]
 rotate_left
 · kernel_rfl
 have HCall := hideIt (HT.out _ GU)
 go_wp2_with (go_at_call 50; refine HCall.out.mono ?_; rintro e z ⟨g3, rfl, RW, -, gg⟩; refine Hid.out ?_)
 refine hidp ?_
 refine hK.out _ _ (HC12.out _ (Good.up GU gg)) (fun hHeld => ?_)
 clear hK K HCall
 try simp only [List.setIfInBounds_toArray, List.set_cons_zero, List.set_cons_succ]
 replace GU := Good.up GU gg
 replace BY := BY.up gg
 clear gg
 clear hHeld
 refine lstH (l' := #[true, true, true, false, false, false, false, false, false, false, false, true, false, false, false, false]) (by kernel_rfl) ?_
 have F := And.intro GU (And.intro RW (And.intro BY LY))
 clear GU RW BY LY
 revert F
 revert bY_
 revert g3
 revert z
 exact t1_101_.out
 )
 focus (
 go_simp
 refine hK.out _ _ (HC12.out _ (GU.alloc _)) (fun hHeld => ?_)
 clear hK K
 try simp only [List.setIfInBounds_toArray, List.set_cons_zero, List.set_cons_succ]
 obtain ⟨z, hz⟩ : ∃ z, z = y.alloc (.cells #[.int .i64 0, .slice none 0 0] 26) := ⟨_, rfl⟩
 have gg : Below y.heap.size y z := by rw [hz]; exact (Below.refl _ _).alloc (Nat.le_refl _) _
 have BX : Box7 z y.heap.size 26 (.int .i64 0) (.slice none 0 0) := by rw [hz]; exact Box7.new _ _ _ _ _ rfl
 have LX : w12.heap.size ≤ y.heap.size := GU.size
 have NE : y.heap.size ≠ bY_ := by have := BY.lt; omega
 replace GU := Good.up GU gg
 replace BY := BY.up gg
 rw [← hz]
 clear hz gg hHeld
 generalize y.heap.size = bX_ at *
 refine lstH (l' := #[true, false, true, false, false, false, false, false, false, false, true, true, false, false, false, false]) (by kernel_rfl) ?_
 have F := And.intro GU (And.intro BX (And.intro LX (And.intro BY (And.intro LY NE))))
 clear GU BX LX BY LY NE
 revert F
 revert bY_
 revert bX_
 revert z
 exact t100_101_.out
 )
 )
 focus (
 intro y bX_ F
 obtain ⟨GU, BX, LX⟩ := F
 have hHeld := HC12.out _ GU
 clear hHeld
 refine wpAnyH_ready (rs := [1, 11]) (by kernel_rfl) (by simp) ?_
 refine AllReadyH.cons rfl (fun K hK => ?_) (AllReadyH.cons rfl (fun K hK => ?_) AllReadyH.nil)
 focus (
 rw [if_pos]
 rotate_left
 · kernel_rfl
 have HCall := hideIt (HT.out _ GU)
 go_wp2_with (go_at_call 50; refine HCall.out.mono ?_; rintro e z ⟨g3, rfl, RW, -, gg⟩; refine Hid.out ?_)
 refine hidp ?_
 refine hK.out _ _ (HC12.out _ (Good.up GU gg)) (fun hHeld => ?_)
 clear hK K HCall
 try simp only [List.setIfInBounds_toArray, List.set_cons_zero, List.set_cons_succ]
 replace GU := Good.up GU gg
 replace BX := BX.up gg
 clear gg
 clear hHeld
 refine lstH (l' := #[true, true, true, false, false, false, false, false, false, false, true, false, false, false, false, false]) (by kernel_rfl) ?_
 have F := And.intro GU (And.intro RW (And.intro BX LX))
 clear GU RW BX LX
 revert F
 revert bX_
 revert g3
 revert z
 exact t1_100_.out
 )
 focus (
 go_simp
 refine hK.out _ _ (HC12.out _ (GU.alloc _)) (fun hHeld => ?_)
 clear hK K
 try simp only [List.setIfInBounds_toArray, List.set_cons_zero, List.set_cons_succ]
 obtain ⟨z, hz⟩ : ∃ z, z = y.alloc (.cells #[.int .i64 0, .int .i64 0] 28) := ⟨_, rfl⟩
 have gg : Below y.heap.size y z := by rw [hz]; exact (Below.refl _ _).alloc (Nat.le_refl _) _
 have BY : Box7 z y.heap.size 28 (.int .i64 0) (.int .i64 0) := by rw [hz]; exact Box7.new _ _ _ _ _ rfl
 have LY : w12.heap.size ≤ y.heap.size := GU.size
 have NE : bX_ ≠ y.heap.size := by have := BX.lt; omega
 replace GU := Good.up GU gg
 replace BX := BX.up gg
 rw [← hz]
 clear hz gg hHeld
 generalize y.heap.size = bY_ at *
 refine lstH (l' := #[true, false, true, false, false, false, false, false, false, false, true, true, false, false, false, false]) (by kernel_rfl) ?_
 have F := And.intro GU (And.intro BX (And.intro LX (And.intro BY (And.intro LY NE))))
 clear GU BX LX BY LY NE
 revert F
 revert bY_
 revert bX_
 revert z
 exact t100_101_.out
 )
 )
 focus (
 intro y g3 F
 obtain ⟨GU, RW⟩ := F
 have hHeld := HC12.out _ GU
 clear hHeld
 refine wpAnyH_ready (rs := [3, 10, 11]) (by kernel_rfl) (by simp) ?_
 refine AllReadyH.cons rfl (fun K hK => ?_) (AllReadyH.cons rfl (fun K hK => ?_) (AllReadyH.cons rfl (fun K hK => ?_) AllReadyH.nil))
 focus (
 rw [if_pos]
 rotate_left
 · kernel_rfl
 have HCall := hideIt (toEdge9_any x y)
 go_wp2_with (go_at_call 51; refine HCall.out.mono ?_; rintro e z ⟨rfl, gg⟩; refine Hid.out ?_)
 refine hidp ?_
 refine hK.out _ _ (HC12.out _ (Good.up GU gg)) (fun hHeld => ?_)
 clear hK K HCall
 try simp only [List.setIfInBounds_toArray, List.set_cons_zero, List.set_cons_succ]
 replace GU := Good.up GU gg
 replace RW := own_up RW gg
 clear gg
 clear hHeld
 refine lstH (l' := #[true, true, true, true, false, false, false, false, false, false, false, false, false, false, false, false]) (by kernel_rfl) ?_
 have F := And.intro GU RW
 clear GU RW
 revert F
 revert g3
 revert z
 exact t1_2_.out
 )
 focus (
 go_simp
 refine hK.out _ _ (HC12.out _ (GU.alloc _)) (fun hHeld => ?_)
 clear hK K
 try simp only [List.setIfInBounds_toArray, List.set_cons_zero, List.set_cons_succ]
 obtain ⟨z, hz⟩ : ∃ z, z = y.alloc (.cells #[.int .i64 0, .slice none 0 0] 26) := ⟨_, rfl⟩
 have gg : Below y.heap.size y z := by rw [hz]; exact (Below.refl _ _).alloc (Nat.le_refl _) _
 have BX : Box7 z y.heap.size 26 (.int .i64 0) (.slice none 0 0) := by rw [hz]; exact Box7.new _ _ _ _ _ rfl
 have LX : w12.heap.size ≤ y.heap.size := GU.size
 replace GU := Good.up GU gg
 replace RW := own_up RW gg
 rw [← hz]
 clear hz gg hHeld
 generalize y.heap.size = bX_ at *
 refine lstH (l' := #[true, true, true, false, false, false, false, false, false, false, true, false, false, false, false, false]) (by kernel_rfl) ?_
 have F := And.intro GU (And.intro RW (And.intro BX LX))
 clear GU RW BX LX
 revert F
 revert bX_
 revert g3
 revert z
 exact t1_100_.out
 )
 focus (
 go_simp
 refine hK.out _ _ (HC12.out _ (GU.alloc _)) (fun hHeld => ?_)
 clear hK K
 try simp only [List.setIfInBounds_toArray, List.set_cons_zero, List.set_cons_succ]
 obtain ⟨z, hz⟩ : ∃ z, z = y.alloc (.cells #[.int .i64 0, .int .i64 0] 28) := ⟨_, rfl⟩
 have gg : Below y.heap.size y z := by rw [hz]; exact (Below.refl _ _).alloc (Nat.le_refl _) _
 have BY : Box7 z y.heap.size 28 (.int .i64 0) (.int .i64 0) := by rw [hz]; exact Box7.new _ _ _ _ _ rfl
 have LY : w12.heap.size ≤ y.heap.size := GU.size
 replace GU := Good.up GU gg
 replace RW := own_up RW gg
 rw [← hz]
 clear hz gg hHeld
 generalize y.heap.size = bY_ at *
 refine lstH (l' := #[true, true, true, false, false, false, false, false, false, false, false, true, false, false, false, false]) (by kernel_rfl) ?_
 have F := And.intro GU (And.intro RW (And.intro BY LY))
 clear GU RW BY LY
 revert F
 revert bY_
 revert g3
 revert z
 exact t1_101_.out
 )
 )
 focus (
 intro y bX_ bY_ F
 obtain ⟨GU, BX, LX, BY, LY, NE⟩ := F
 have hHeld := HC12.out _ GU
 clear hHeld
 refine wpAnyH_ready (rs := [1]) (by kernel_rfl) (by simp) ?_
 refine AllReadyH.cons rfl (fun K hK => ?_) AllReadyH.nil
 focus (
 rw [if_pos]
 rotate_left
 · kernel_rfl
 have HCall := hideIt (HT.out _ GU)
 go_wp2_with (go_at_call 50; refine HCall.out.mono ?_; rintro e z ⟨g3, rfl, RW, -, gg⟩; refine Hid.out ?_)
 refine hidp ?_
 refine hK.out _ _ (HC12.out _ (Good.up GU gg)) (fun hHeld => ?_)
 clear hK K HCall
 try simp only [List.setIfInBounds_toArray, List.set_cons_zero, List.set_cons_succ]
 replace GU := Good.up GU gg
 replace BX := BX.up gg
 replace BY := BY.up gg
 clear gg
 clear hHeld
 refine lstH (l' := #[true, true, true, false, false, false, false, false, false, false, true, true, false, false, false, false]) (by kernel_rfl) ?_
 have F := And.intro GU (And.intro RW (And.intro BX (And.intro LX (And.intro BY (And.intro LY NE)))))
 clear GU RW BX LX BY LY NE
 revert F
 revert bY_
 revert bX_
 revert g3
 revert z
 exact t1_100_101_.out
 )
 )
 focus (
 intro y g3 bY_ F
 obtain ⟨GU, RW, BY, LY⟩ := F
 have hHeld := HC12.out _ GU
 clear hHeld
 refine wpAnyH_ready (rs := [3, 10]) (by kernel_rfl) (by simp) ?_
 refine AllReadyH.cons rfl (fun K hK => ?_) (AllReadyH.cons rfl (fun K hK => ?_) AllReadyH.nil)
 focus (
 rw [if_pos]
 rotate_left
 · kernel_rfl
 have HCall := hideIt (toEdge9_any x y)
 go_wp2_with (go_at_call 51; refine HCall.out.mono ?_; rintro e z ⟨rfl, gg⟩; refine Hid.out ?_)
 refine hidp ?_
 refine hK.out _ _ (HC12.out _ (Good.up GU gg)) (fun hHeld => ?_)
 clear hK K HCall
 try simp only [List.setIfInBounds_toArray, List.set_cons_zero, List.set_cons_succ]
 replace GU := Good.up GU gg
 replace RW := own_up RW gg
 replace BY := BY.up gg
 clear gg
 clear hHeld
 refine lstH (l' := #[true, true, true, true, false, false, false, false, false, false, false, true, false, false, false, false]) (by kernel_rfl) ?_
 have F := And.intro GU (And.intro RW (And.intro BY LY))
 clear GU RW BY LY
 revert F
 revert bY_
 revert g3
 revert z
 exact t1_2_101_.out
 )
 focus (
 go_simp
 refine hK.out _ _ (HC12.out _ (GU.alloc _)) (fun hHeld => ?_)
 clear hK K
 try simp only [List.setIfInBounds_toArray, List.set_cons_zero, List.set_cons_succ]
 obtain ⟨z, hz⟩ : ∃ z, z = y.alloc (.cells #[.int .i64 0, .slice none 0 0] 26) := ⟨_, rfl⟩
 have gg : Below y.heap.size y z := by rw [hz]; exact (Below.refl _ _).alloc (Nat.le_refl _) _
 have BX : Box7 z y.heap.size 26 (.int .i64 0) (.slice none 0 0) := by rw [hz]; exact Box7.new _ _ _ _ _ rfl
 have LX : w12.heap.size ≤ y.heap.size := GU.size
 have NE : y.heap.size ≠ bY_ := by have := BY.lt; omega
 replace GU := Good.up GU gg
 replace RW := own_up RW gg
 replace BY := BY.up gg
 rw [← hz]
 clear hz gg hHeld
 generalize y.heap.size = bX_ at *
 refine lstH (l' := #[true, true, true, false, false, false, false, false, false, false, true, true, false, false, false, false]) (by kernel_rfl) ?_
 have F := And.intro GU (And.intro RW (And.intro BX (And.intro LX (And.intro BY (And.intro LY NE)))))
 clear GU RW BX LX BY LY NE
 revert F
 revert bY_
 revert bX_
 revert g3
 revert z
 exact t1_100_101_.out
 )
 )
 focus (
 intro y g3 bX_ F
 obtain ⟨GU, RW, BX, LX⟩ := F
 have hHeld := HC12.out _ GU
 clear hHeld
 refine wpAnyH_ready (rs := [3, 11]) (by kernel_rfl) (by simp) ?_
 refine AllReadyH.cons rfl (fun K hK => ?_) (AllReadyH.cons rfl (fun K hK => ?_) AllReadyH.nil)
 focus (
 rw [if_pos]
 rotate_left
 · kernel_rfl
 have HCall := hideIt (toEdge9_any x y)
 go_wp2_with (go_at_call 51; refine HCall.out.mono ?_; rintro e z ⟨rfl, gg⟩; refine Hid.out ?_)
 refine hidp ?_
 refine hK.out _ _ (HC12.out _ (Good.up GU gg)) (fun hHeld => ?_)
 clear hK K HCall
 try simp only [List.setIfInBounds_toArray, List.set_cons_zero, List.set_cons_succ]
 replace GU := Good.up GU gg
 replace RW := own_up RW gg
 replace BX := BX.up gg
 clear gg
 clear hHeld
 refine lstH (l' := #[true, true, true, true, false, false, false, false, false, false, true, false, false, false, false, false]) (by kernel_rfl) ?_
 have F := And.intro GU (And.intro RW (And.intro BX LX))
 clear GU RW BX LX
 revert F
 revert bX_
 revert g3
 revert z
 exact t1_2_100_.out
 )
 focus (
 go_simp
 refine hK.out _ _ (HC12.out _ (GU.alloc _)) (fun hHeld => ?_)
 clear hK K
 try simp only [List.setIfInBounds_toArray, List.set_cons_zero, List.set_cons_succ]
 obtain ⟨z, hz⟩ : ∃ z, z = y.alloc (.cells #[.int .i64 0, .int .i64 0] 28) := ⟨_, rfl⟩
 have gg : Below y.heap.size y z := by rw [hz]; exact (Below.refl _ _).alloc (Nat.le_refl _) _
 have BY : Box7 z y.heap.size 28 (.int .i64 0) (.int .i64 0) := by rw [hz]; exact Box7.new _ _ _ _ _ rfl
 have LY : w12.heap.size ≤ y.heap.size := GU.size
 have NE : bX_ ≠ y.heap.size := by have := BX.lt; omega
 replace GU := Good.up GU gg
 replace RW := own_up RW gg
 replace BX := BX.up gg
 rw [← hz]
 clear hz gg hHeld
 generalize y.heap.size = bY_ at *
 refine lstH (l' := #[true, true, true, false, false, false, false, false, false, false, true, true, false, false, false, false]) (by kernel_rfl) ?_
 have F := And.intro GU (And.intro RW (And.intro BX (And.intro LX (And.intro BY (And.intro LY NE)))))
 clear GU RW BX LX BY LY NE
 revert F
 revert bY_
 revert bX_
 revert g3
 revert z
 exact t1_100_101_.out
 )
 )
 focus (
 intro y g3 F
 obtain ⟨GU, RW⟩ := F
 have hHeld := HC12.out _ GU
 clear hHeld
 refine wpAnyH_ready (rs := [4, 10, 11]) (by kernel_rfl) (by simp) ?_
 refine AllReadyH.cons rfl (fun K hK => ?_) (AllReadyH.cons rfl (fun K hK => ?_) (AllReadyH.cons rfl (fun K hK => ?_) AllReadyH.nil))
 focus (
 rw [if_pos]
 rotate_left
 · kernel_rfl
 have HCall := hideIt (HDi.out _ g3 _ RW)
 go_wp2_with (go_at_call 16; refine HCall.out.mono ?_; rintro e z ⟨ah, mh, ch, rfl, RA0, gg⟩; refine Hid.out ?_)
 refine hidp ?_
 refine hK.out _ _ (HC12.out _ (Good.up GU gg)) (fun hHeld => ?_)
 clear hK K HCall
 try simp only [List.setIfInBounds_toArray, List.set_cons_zero, List.set_cons_succ]
 have RA := own_mono RA0 GU.size
 clear RA0
 replace GU := Good.up GU gg
 clear gg RW
 replace hHeld := HC12.out _ GU
 refine wpAnyH_take (i := 5) (v := ?_) rfl (by kernel_rfl) (by kernel_rfl) (by kernel_rfl) (fun _ _ _ h => h) (Or.inl ⟨by rfl, ?_⟩) (by assumption) ?_
 rotate_left
 · intro w hSw; (try dsimp only at hSw); go_simp; try with_reducible rfl
 try simp only [Act.put, List.getElem_toArray, List.getElem_cons_succ, List.getElem_cons_zero, List.setIfInBounds_toArray, List.set_cons_zero, List.set_cons_succ]
 refine wpAnyH_take (i := 6) (v := ?_) rfl (by kernel_rfl) (by kernel_rfl) (by kernel_rfl) (fun _ _ _ h => h) (Or.inl ⟨by rfl, ?_⟩) (by assumption) ?_
 rotate_left
 · intro w hSw; (try dsimp only at hSw); go_simp; try with_reducible rfl
 try simp only [Act.put, List.getElem_toArray, List.getElem_cons_succ, List.getElem_cons_zero, List.setIfInBounds_toArray, List.set_cons_zero, List.set_cons_succ]
 refine wpAnyH_take (i := 7) (v := ?_) rfl (by kernel_rfl) (by kernel_rfl) (by kernel_rfl) (fun _ _ _ h => h) (Or.inl ⟨by rfl, ?_⟩) (by assumption) ?_
 rotate_left
 · intro w hSw; (try dsimp only at hSw); go_simp; try with_reducible rfl
 try simp only [Act.put, List.getElem_toArray, List.getElem_cons_succ, List.getElem_cons_zero, List.setIfInBounds_toArray, List.set_cons_zero, List.set_cons_succ]
 refine wpAnyH_take (i := 8) (v := ?_) rfl (by kernel_rfl) (by kernel_rfl) (by kernel_rfl) (fun _ _ _ h => h) (Or.inl ⟨by rfl, ?_⟩) (by assumption) ?_
 rotate_left
 · intro w hSw; (try dsimp only at hSw); go_simp; try with_reducible rfl
 try simp only [Act.put, List.getElem_toArray, List.getElem_cons_succ, List.getElem_cons_zero, List.setIfInBounds_toArray, List.set_cons_zero, List.set_cons_succ]
 refine wpAnyH_take (i := 9) (v := ?_) rfl (by kernel_rfl) (by kernel_rfl) (by kernel_rfl) (fun _ _ _ h => h) (Or.inl ⟨by rfl, ?_⟩) (by assumption) ?_
 rotate_left
 · intro w hSw; (try dsimp only at hSw); go_simp; try with_reducible rfl
 try simp only [Act.put, List.getElem_toArray, List.getElem_cons_succ, List.getElem_cons_zero, List.setIfInBounds_toArray, List.set_cons_zero, List.set_cons_succ]
 clear hHeld
 refine lstH (l' := #[true, true, true, true, true, true, true, true, true, true, false, false, false, false, false, false]) (by kernel_rfl) ?_
 have F := And.intro GU RA
 clear GU RA
 revert F
 revert ch
 revert mh
 revert ah
 revert g3
 revert z
 exact t1_2_3_.out
 )
 focus (
 go_simp
 refine hK.out _ _ (HC12.out _ (GU.alloc _)) (fun hHeld => ?_)
 clear hK K
 try simp only [List.setIfInBounds_toArray, List.set_cons_zero, List.set_cons_succ]
 obtain ⟨z, hz⟩ : ∃ z, z = y.alloc (.cells #[.int .i64 0, .slice none 0 0] 26) := ⟨_, rfl⟩
 have gg : Below y.heap.size y z := by rw [hz]; exact (Below.refl _ _).alloc (Nat.le_refl _) _
 have BX : Box7 z y.heap.size 26 (.int .i64 0) (.slice none 0 0) := by rw [hz]; exact Box7.new _ _ _ _ _ rfl
 have LX : w12.heap.size ≤ y.heap.size := GU.size
 replace GU := Good.up GU gg
 replace RW := own_up RW gg
 rw [← hz]
 clear hz gg hHeld
 generalize y.heap.size = bX_ at *
 refine lstH (l' := #[true, true, true, true, false, false, false, false, false, false, true, false, false, false, false, false]) (by kernel_rfl) ?_
 have F := And.intro GU (And.intro RW (And.intro BX LX))
 clear GU RW BX LX
 revert F
 revert bX_
 revert g3
 revert z
 exact t1_2_100_.out
 )
 focus (
 go_simp
 refine hK.out _ _ (HC12.out _ (GU.alloc _)) (fun hHeld => ?_)
 clear hK K
 try simp only [List.setIfInBounds_toArray, List.set_cons_zero, List.set_cons_succ]
 obtain ⟨z, hz⟩ : ∃ z, z = y.alloc (.cells #[.int .i64 0, .int .i64 0] 28) := ⟨_, rfl⟩
 have gg : Below y.heap.size y z := by rw [hz]; exact (Below.refl _ _).alloc (Nat.le_refl _) _
 have BY : Box7 z y.heap.size 28 (.int .i64 0) (.int .i64 0) := by rw [hz]; exact Box7.new _ _ _ _ _ rfl
 have LY : w12.heap.size ≤ y.heap.size := GU.size
 replace GU := Good.up GU gg
 replace RW := own_up RW gg
 rw [← hz]
 clear hz gg hHeld
 generalize y.heap.size = bY_ at *
 refine lstH (l' := #[true, true, true, true, false, false, false, false, false, false, false, true, false, false, false, false]) (by kernel_rfl) ?_
 have F := And.intro GU (And.intro RW (And.intro BY LY))
 clear GU RW BY LY
 revert F
 revert bY_
 revert g3
 revert z
 exact t1_2_101_.out
 )
 )
 focus (
 intro y g3 bX_ bY_ F
 obtain ⟨GU, RW, BX, LX, BY, LY, NE⟩ := F
 have hHeld := HC12.out _ GU
 clear hHeld
 refine wpAnyH_ready (rs := [3]) (by kernel_rfl) (by simp) ?_
 refine AllReadyH.cons rfl (fun K hK => ?_) AllReadyH.nil
 focus (
 rw [if_pos]
 rotate_left
 · kernel_rfl
 have HCall := hideIt (toEdge9_any x y)
 go_wp2_with (go_at_call 51; refine HCall.out.mono ?_; rintro e z ⟨rfl, gg⟩; refine Hid.out ?_)
 refine hidp ?_
 refine hK.out _ _ (HC12.out _ (Good.up GU gg)) (fun hHeld => ?_)
 clear hK K HCall
 try simp only [List.setIfInBounds_toArray, List.set_cons_zero, List.set_cons_succ]
 replace GU := Good.up GU gg
 replace RW := own_up RW gg
 replace BX := BX.up gg
 replace BY := BY.up gg
 clear gg
 clear hHeld
 refine lstH (l' := #[true, true, true, true, false, false, false, false, false, false, true, true, false, false, false, false]) (by kernel_rfl) ?_
 have F := And.intro GU (And.intro RW (And.intro BX (And.intro LX (And.intro BY (And.intro LY NE)))))
 clear GU RW BX LX BY LY NE
 revert F
 revert bY_
 revert bX_
 revert g3
 revert z
 exact t1_2_100_101_.out
 )
 )
 focus (
 intro y g3 bY_ F
 obtain ⟨GU, RW, BY, LY⟩ := F
 have hHeld := HC12.out _ GU
 clear hHeld
 refine wpAnyH_ready (rs := [4, 10]) (by kernel_rfl) (by simp) ?_
 refine AllReadyH.cons rfl (fun K hK => ?_) (AllReadyH.cons rfl (fun K hK => ?_) AllReadyH.nil)
 focus (
 rw [if_pos]
 rotate_left
 · kernel_rfl
 have HCall := hideIt (HDi.out _ g3 _ RW)
 go_wp2_with (go_at_call 16; refine HCall.out.mono ?_; rintro e z ⟨ah, mh, ch, rfl, RA0, gg⟩; refine Hid.out ?_)
 refine hidp ?_
 refine hK.out _ _ (HC12.out _ (Good.up GU gg)) (fun hHeld => ?_)
 clear hK K HCall
 try simp only [List.setIfInBounds_toArray, List.set_cons_zero, List.set_cons_succ]
 have RA := own_mono RA0 GU.size
 clear RA0
 replace GU := Good.up GU gg
 replace BY := BY.up gg
 clear gg RW
 replace hHeld := HC12.out _ GU
 refine wpAnyH_take (i := 5) (v := ?_) rfl (by kernel_rfl) (by kernel_rfl) (by kernel_rfl) (fun _ _ _ h => h) (Or.inl ⟨by rfl, ?_⟩) (by assumption) ?_
 rotate_left
 · intro w hSw; (try dsimp only at hSw); go_simp; try with_reducible rfl
 try simp only [Act.put, List.getElem_toArray, List.getElem_cons_succ, List.getElem_cons_zero, List.setIfInBounds_toArray, List.set_cons_zero, List.set_cons_succ]
 refine wpAnyH_take (i := 6) (v := ?_) rfl (by kernel_rfl) (by kernel_rfl) (by kernel_rfl) (fun _ _ _ h => h) (Or.inl ⟨by rfl, ?_⟩) (by assumption) ?_
 rotate_left
 · intro w hSw; (try dsimp only at hSw); go_simp; try with_reducible rfl
 try simp only [Act.put, List.getElem_toArray, List.getElem_cons_succ, List.getElem_cons_zero, List.setIfInBounds_toArray, List.set_cons_zero, List.set_cons_succ]
 refine wpAnyH_take (i := 7) (v := ?_) rfl (by kernel_rfl) (by kernel_rfl) (by kernel_rfl) (fun _ _ _ h => h) (Or.inl ⟨by rfl, ?_⟩) (by assumption) ?_
 rotate_left
 · intro w hSw; (try dsimp only at hSw); go_simp; try with_reducible rfl
 try simp only [Act.put, List.getElem_toArray, List.getElem_cons_succ, List.getElem_cons_zero, List.setIfInBounds_toArray, List.set_cons_zero, List.set_cons_succ]
 refine wpAnyH_take (i := 8) (v := ?_) rfl (by kernel_rfl) (by kernel_rfl) (by kernel_rfl) (fun _ _ _ h => h) (Or.inl ⟨by rfl, ?_⟩) (by assumption) ?_
 rotate_left
 · intro w hSw; (try dsimp only at hSw); go_simp; try with_reducible rfl
 try simp only [Act.put, List.getElem_toArray, List.getElem_cons_succ, List.getElem_cons_zero, List.setIfInBounds_toArray, List.set_cons_zero, List.set_cons_succ]
 refine wpAnyH_take (i := 9) (v := ?_) rfl (by kernel_rfl) (by kernel_rfl) (by kernel_rfl) (fun _ _ _ h => h) (Or.inl ⟨by rfl, ?_⟩) (by assumption) ?_
 rotate_left
 · intro w hSw; (try dsimp only at hSw); go_simp; try with_reducible rfl
 try simp only [Act.put, List.getElem_toArray, List.getElem_cons_succ, List.getElem_cons_zero, List.setIfInBounds_toArray, List.set_cons_zero, List.set_cons_succ]
 clear hHeld
 refine lstH (l' := #[true, true, true, true, true, true, true, true, true, true, false, true, false, false, false, false]) (by kernel_rfl) ?_
 have F := And.intro GU (And.intro BY (And.intro LY RA))
 clear GU BY LY RA
 revert F
 revert bY_
 revert ch
 revert mh
 revert ah
 revert g3
 revert z
 exact t1_2_3_101_.out
 )
 focus (
 go_simp
 refine hK.out _ _ (HC12.out _ (GU.alloc _)) (fun hHeld => ?_)
 clear hK K
 try simp only [List.setIfInBounds_toArray, List.set_cons_zero, List.set_cons_succ]
 obtain ⟨z, hz⟩ : ∃ z, z = y.alloc (.cells #[.int .i64 0, .slice none 0 0] 26) := ⟨_, rfl⟩
 have gg : Below y.heap.size y z := by rw [hz]; exact (Below.refl _ _).alloc (Nat.le_refl _) _
 have BX : Box7 z y.heap.size 26 (.int .i64 0) (.slice none 0 0) := by rw [hz]; exact Box7.new _ _ _ _ _ rfl
 have LX : w12.heap.size ≤ y.heap.size := GU.size
 have NE : y.heap.size ≠ bY_ := by have := BY.lt; omega
 replace GU := Good.up GU gg
 replace RW := own_up RW gg
 replace BY := BY.up gg
 rw [← hz]
 clear hz gg hHeld
 generalize y.heap.size = bX_ at *
 refine lstH (l' := #[true, true, true, true, false, false, false, false, false, false, true, true, false, false, false, false]) (by kernel_rfl) ?_
 have F := And.intro GU (And.intro RW (And.intro BX (And.intro LX (And.intro BY (And.intro LY NE)))))
 clear GU RW BX LX BY LY NE
 revert F
 revert bY_
 revert bX_
 revert g3
 revert z
 exact t1_2_100_101_.out
 )
 )
 focus (
 intro y g3 bX_ F
 obtain ⟨GU, RW, BX, LX⟩ := F
 have hHeld := HC12.out _ GU
 clear hHeld
 refine wpAnyH_ready (rs := [4, 11]) (by kernel_rfl) (by simp) ?_
 refine AllReadyH.cons rfl (fun K hK => ?_) (AllReadyH.cons rfl (fun K hK => ?_) AllReadyH.nil)
 focus (
 rw [if_pos]
 rotate_left
 · kernel_rfl
 have HCall := hideIt (HDi.out _ g3 _ RW)
 go_wp2_with (go_at_call 16; refine HCall.out.mono ?_; rintro e z ⟨ah, mh, ch, rfl, RA0, gg⟩; refine Hid.out ?_)
 refine hidp ?_
 refine hK.out _ _ (HC12.out _ (Good.up GU gg)) (fun hHeld => ?_)
 clear hK K HCall
 try simp only [List.setIfInBounds_toArray, List.set_cons_zero, List.set_cons_succ]
 have RA := own_mono RA0 GU.size
 clear RA0
 replace GU := Good.up GU gg
 replace BX := BX.up gg
 clear gg RW
 replace hHeld := HC12.out _ GU
 refine wpAnyH_take (i := 5) (v := ?_) rfl (by kernel_rfl) (by kernel_rfl) (by kernel_rfl) (fun _ _ _ h => h) (Or.inl ⟨by rfl, ?_⟩) (by assumption) ?_
 rotate_left
 · intro w hSw; (try dsimp only at hSw); go_simp; try with_reducible rfl
 try simp only [Act.put, List.getElem_toArray, List.getElem_cons_succ, List.getElem_cons_zero, List.setIfInBounds_toArray, List.set_cons_zero, List.set_cons_succ]
 refine wpAnyH_take (i := 6) (v := ?_) rfl (by kernel_rfl) (by kernel_rfl) (by kernel_rfl) (fun _ _ _ h => h) (Or.inl ⟨by rfl, ?_⟩) (by assumption) ?_
 rotate_left
 · intro w hSw; (try dsimp only at hSw); go_simp; try with_reducible rfl
 try simp only [Act.put, List.getElem_toArray, List.getElem_cons_succ, List.getElem_cons_zero, List.setIfInBounds_toArray, List.set_cons_zero, List.set_cons_succ]
 refine wpAnyH_take (i := 7) (v := ?_) rfl (by kernel_rfl) (by kernel_rfl) (by kernel_rfl) (fun _ _ _ h => h) (Or.inl ⟨by rfl, ?_⟩) (by assumption) ?_
 rotate_left
 · intro w hSw; (try dsimp only at hSw); go_simp; try with_reducible rfl
 try simp only [Act.put, List.getElem_toArray, List.getElem_cons_succ, List.getElem_cons_zero, List.setIfInBounds_toArray, List.set_cons_zero, List.set_cons_succ]
 refine wpAnyH_take (i := 8) (v := ?_) rfl (by kernel_rfl) (by kernel_rfl) (by kernel_rfl) (fun _ _ _ h => h) (Or.inl ⟨by rfl, ?_⟩) (by assumption) ?_
 rotate_left
 · intro w hSw; (try dsimp only at hSw); go_simp; try with_reducible rfl
 try simp only [Act.put, List.getElem_toArray, List.getElem_cons_succ, List.getElem_cons_zero, List.setIfInBounds_toArray, List.set_cons_zero, List.set_cons_succ]
 refine wpAnyH_take (i := 9) (v := ?_) rfl (by kernel_rfl) (by kernel_rfl) (by kernel_rfl) (fun _ _ _ h => h) (Or.inl ⟨by rfl, ?_⟩) (by assumption) ?_
 rotate_left
 · intro w hSw; (try dsimp only at hSw); go_simp; try with_reducible rfl
 try simp only [Act.put, List.getElem_toArray, List.getElem_cons_succ, List.getElem_cons_zero, List.setIfInBounds_toArray, List.set_cons_zero, List.set_cons_succ]
 clear hHeld
 refine lstH (l' := #[true, true, true, true, true, true, true, true, true, true, true, false, false, false, false, false]) (by kernel_rfl) ?_
 have F := And.intro GU (And.intro BX (And.intro LX RA))
 clear GU BX LX RA
 revert F
 revert bX_
 revert ch
 revert mh
 revert ah
 revert g3
 revert z
 exact t1_2_3_100_.out
 )
 focus (
 go_simp
 refine hK.out _ _ (HC12.out _ (GU.alloc _)) (fun hHeld => ?_)
 clear hK K
 try simp only [List.setIfInBounds_toArray, List.set_cons_zero, List.set_cons_succ]
 obtain ⟨z, hz⟩ : ∃ z, z = y.alloc (.cells #[.int .i64 0, .int .i64 0] 28) := ⟨_, rfl⟩
 have gg : Below y.heap.size y z := by rw [hz]; exact (Below.refl _ _).alloc (Nat.le_refl _) _
 have BY : Box7 z y.heap.size 28 (.int .i64 0) (.int .i64 0) := by rw [hz]; exact Box7.new _ _ _ _ _ rfl
 have LY : w12.heap.size ≤ y.heap.size := GU.size
 have NE : bX_ ≠ y.heap.size := by have := BX.lt; omega
 replace GU := Good.up GU gg
 replace RW := own_up RW gg
 replace BX := BX.up gg
 rw [← hz]
 clear hz gg hHeld
 generalize y.heap.size = bY_ at *
 refine lstH (l' := #[true, true, true, true, false, false, false, false, false, false, true, true, false, false, false, false]) (by kernel_rfl) ?_
 have F := And.intro GU (And.intro RW (And.intro BX (And.intro LX (And.intro BY (And.intro LY NE)))))
 clear GU RW BX LX BY LY NE
 revert F
 revert bY_
 revert bX_
 revert g3
 revert z
 exact t1_2_100_101_.out
 )
 )
 focus (
 intro y g3 ah mh ch F
 obtain ⟨GU, RA⟩ := F
 have hHeld := HC12.out _ GU
 clear hHeld
 refine wpAnyH_ready (rs := [10, 11]) (by kernel_rfl) (by simp) ?_
 refine AllReadyH.cons rfl (fun K hK => ?_) (AllReadyH.cons rfl (fun K hK => ?_) AllReadyH.nil)
 focus (
 go_simp
 refine hK.out _ _ (HC12.out _ (GU.alloc _)) (fun hHeld => ?_)
 clear hK K
 try simp only [List.setIfInBounds_toArray, List.set_cons_zero, List.set_cons_succ]
 obtain ⟨z, hz⟩ : ∃ z, z = y.alloc (.cells #[.int .i64 0, .slice none 0 0] 26) := ⟨_, rfl⟩
 have gg : Below y.heap.size y z := by rw [hz]; exact (Below.refl _ _).alloc (Nat.le_refl _) _
 have BX : Box7 z y.heap.size 26 (.int .i64 0) (.slice none 0 0) := by rw [hz]; exact Box7.new _ _ _ _ _ rfl
 have LX : w12.heap.size ≤ y.heap.size := GU.size
 replace GU := Good.up GU gg
 replace RA := own_up RA gg
 rw [← hz]
 clear hz gg hHeld
 generalize y.heap.size = bX_ at *
 refine lstH (l' := #[true, true, true, true, true, true, true, true, true, true, true, false, false, false, false, false]) (by kernel_rfl) ?_
 have F := And.intro GU (And.intro BX (And.intro LX RA))
 clear GU BX LX RA
 revert F
 revert bX_
 revert ch
 revert mh
 revert ah
 revert g3
 revert z
 exact t1_2_3_100_.out
 )
 focus (
 go_simp
 refine hK.out _ _ (HC12.out _ (GU.alloc _)) (fun hHeld => ?_)
 clear hK K
 try simp only [List.setIfInBounds_toArray, List.set_cons_zero, List.set_cons_succ]
 obtain ⟨z, hz⟩ : ∃ z, z = y.alloc (.cells #[.int .i64 0, .int .i64 0] 28) := ⟨_, rfl⟩
 have gg : Below y.heap.size y z := by rw [hz]; exact (Below.refl _ _).alloc (Nat.le_refl _) _
 have BY : Box7 z y.heap.size 28 (.int .i64 0) (.int .i64 0) := by rw [hz]; exact Box7.new _ _ _ _ _ rfl
 have LY : w12.heap.size ≤ y.heap.size := GU.size
 replace GU := Good.up GU gg
 replace RA := own_up RA gg
 rw [← hz]
 clear hz gg hHeld
 generalize y.heap.size = bY_ at *
 refine lstH (l' := #[true, true, true, true, true, true, true, true, true, true, false, true, false, false, false, false]) (by kernel_rfl) ?_
 have F := And.intro GU (And.intro BY (And.intro LY RA))
 clear GU BY LY RA
 revert F
 revert bY_
 revert ch
 revert mh
 revert ah
 revert g3
 revert z
 exact t1_2_3_101_.out
 )
 )
 focus (
 intro y g3 bX_ bY_ F
 obtain ⟨GU, RW, BX, LX, BY, LY, NE⟩ := F
 have hHeld := HC12.out _ GU
 clear hHeld
 refine wpAnyH_ready (rs := [4]) (by kernel_rfl) (by simp) ?_
 refine AllReadyH.cons rfl (fun K hK => ?_) AllReadyH.nil
 focus (
 rw [if_pos]
 rotate_left
 · kernel_rfl
 have HCall := hideIt (HDi.out _ g3 _ RW)
 go_wp2_with (go_at_call 16; refine HCall.out.mono ?_; rintro e z ⟨ah, mh, ch, rfl, RA0, gg⟩; refine Hid.out ?_)
 refine hidp ?_
 refine hK.out _ _ (HC12.out _ (Good.up GU gg)) (fun hHeld => ?_)
 clear hK K HCall
 try simp only [List.setIfInBounds_toArray, List.set_cons_zero, List.set_cons_succ]
 have RA := own_mono RA0 GU.size
 clear RA0
 replace GU := Good.up GU gg
 replace BX := BX.up gg
 replace BY := BY.up gg
 clear gg RW
 replace hHeld := HC12.out _ GU
 refine wpAnyH_take (i := 5) (v := ?_) rfl (by kernel_rfl) (by kernel_rfl) (by kernel_rfl) (fun _ _ _ h => h) (Or.inl ⟨by rfl, ?_⟩) (by assumption) ?_
 rotate_left
 · intro w hSw; (try dsimp only at hSw); go_simp; try with_reducible rfl
 try simp only [Act.put, List.getElem_toArray, List.getElem_cons_succ, List.getElem_cons_zero, List.setIfInBounds_toArray, List.set_cons_zero, List.set_cons_succ]
 refine wpAnyH_take (i := 6) (v := ?_) rfl (by kernel_rfl) (by kernel_rfl) (by kernel_rfl) (fun _ _ _ h => h) (Or.inl ⟨by rfl, ?_⟩) (by assumption) ?_
 rotate_left
 · intro w hSw; (try dsimp only at hSw); go_simp; try with_reducible rfl
 try simp only [Act.put, List.getElem_toArray, List.getElem_cons_succ, List.getElem_cons_zero, List.setIfInBounds_toArray, List.set_cons_zero, List.set_cons_succ]
 refine wpAnyH_take (i := 7) (v := ?_) rfl (by kernel_rfl) (by kernel_rfl) (by kernel_rfl) (fun _ _ _ h => h) (Or.inl ⟨by rfl, ?_⟩) (by assumption) ?_
 rotate_left
 · intro w hSw; (try dsimp only at hSw); go_simp; try with_reducible rfl
 try simp only [Act.put, List.getElem_toArray, List.getElem_cons_succ, List.getElem_cons_zero, List.setIfInBounds_toArray, List.set_cons_zero, List.set_cons_succ]
 refine wpAnyH_take (i := 8) (v := ?_) rfl (by kernel_rfl) (by kernel_rfl) (by kernel_rfl) (fun _ _ _ h => h) (Or.inl ⟨by rfl, ?_⟩) (by assumption) ?_
 rotate_left
 · intro w hSw; (try dsimp only at hSw); go_simp; try with_reducible rfl
 try simp only [Act.put, List.getElem_toArray, List.getElem_cons_succ, List.getElem_cons_zero, List.setIfInBounds_toArray, List.set_cons_zero, List.set_cons_succ]
 refine wpAnyH_take (i := 9) (v := ?_) rfl (by kernel_rfl) (by kernel_rfl) (by kernel_rfl) (fun _ _ _ h => h) (Or.inl ⟨by rfl, ?_⟩) (by assumption) ?_
 rotate_left
 · intro w hSw; (try dsimp only at hSw); go_simp; try with_reducible rfl
 try simp only [Act.put, List.getElem_toArray, List.getElem_cons_succ, List.getElem_cons_zero, List.setIfInBounds_toArray, List.set_cons_zero, List.set_cons_succ]
 clear hHeld
 refine lstH (l' := #[true, true, true, true, true, true, true, true, true, true, true, true, false, false, false, false]) (by kernel_rfl) ?_
 have F := And.intro GU (And.intro BX (And.intro LX (And.intro BY (And.intro LY (And.intro NE RA)))))
 clear GU BX LX BY LY NE RA
 revert F
 revert bY_
 revert bX_
 revert ch
 revert mh
 revert ah
 revert g3
 revert z
 exact t1_2_3_100_101_.out
 )
 )
 focus (
 intro y g3 ah mh ch bY_ F
 obtain ⟨GU, BY, LY, RA⟩ := F
 have hHeld := HC12.out _ GU
 clear hHeld
 refine wpAnyH_ready (rs := [10]) (by kernel_rfl) (by simp) ?_
 refine AllReadyH.cons rfl (fun K hK => ?_) AllReadyH.nil
 focus (
 go_simp
 refine hK.out _ _ (HC12.out _ (GU.alloc _)) (fun hHeld => ?_)
 clear hK K
 try simp only [List.setIfInBounds_toArray, List.set_cons_zero, List.set_cons_succ]
 obtain ⟨z, hz⟩ : ∃ z, z = y.alloc (.cells #[.int .i64 0, .slice none 0 0] 26) := ⟨_, rfl⟩
 have gg : Below y.heap.size y z := by rw [hz]; exact (Below.refl _ _).alloc (Nat.le_refl _) _
 have BX : Box7 z y.heap.size 26 (.int .i64 0) (.slice none 0 0) := by rw [hz]; exact Box7.new _ _ _ _ _ rfl
 have LX : w12.heap.size ≤ y.heap.size := GU.size
 have NE : y.heap.size ≠ bY_ := by have := BY.lt; omega
 replace GU := Good.up GU gg
 replace BY := BY.up gg
 replace RA := own_up RA gg
 rw [← hz]
 clear hz gg hHeld
 generalize y.heap.size = bX_ at *
 refine lstH (l' := #[true, true, true, true, true, true, true, true, true, true, true, true, false, false, false, false]) (by kernel_rfl) ?_
 have F := And.intro GU (And.intro BX (And.intro LX (And.intro BY (And.intro LY (And.intro NE RA)))))
 clear GU BX LX BY LY NE RA
 revert F
 revert bY_
 revert bX_
 revert ch
 revert mh
 revert ah
 revert g3
 revert z
 exact t1_2_3_100_101_.out
 )
 )
 focus (
 intro y g3 ah mh ch bX_ F
 obtain ⟨GU, BX, LX, RA⟩ := F
 have hHeld := HC12.out _ GU
 clear hHeld
 refine wpAnyH_ready (rs := [11]) (by kernel_rfl) (by simp) ?_
 refine AllReadyH.cons rfl (fun K hK => ?_) AllReadyH.nil
 focus (
 go_simp
 refine hK.out _ _ (HC12.out _ (GU.alloc _)) (fun hHeld => ?_)
 clear hK K
 try simp only [List.setIfInBounds_toArray, List.set_cons_zero, List.set_cons_succ]
 obtain ⟨z, hz⟩ : ∃ z, z = y.alloc (.cells #[.int .i64 0, .int .i64 0] 28) := ⟨_, rfl⟩
 have gg : Below y.heap.size y z := by rw [hz]; exact (Below.refl _ _).alloc (Nat.le_refl _) _
 have BY : Box7 z y.heap.size 28 (.int .i64 0) (.int .i64 0) := by rw [hz]; exact Box7.new _ _ _ _ _ rfl
 have LY : w12.heap.size ≤ y.heap.size := GU.size
 have NE : bX_ ≠ y.heap.size := by have := BX.lt; omega
 replace GU := Good.up GU gg
 replace BX := BX.up gg
 replace RA := own_up RA gg
 rw [← hz]
 clear hz gg hHeld
 generalize y.heap.size = bY_ at *
 refine lstH (l' := #[true, true, true, true, true, true, true, true, true, true, true, true, false, false, false, false]) (by kernel_rfl) ?_
 have F := And.intro GU (And.intro BX (And.intro LX (And.intro BY (And.intro LY (And.intro NE RA)))))
 clear GU BX LX BY LY NE RA
 revert F
 revert bY_
 revert bX_
 revert ch
 revert mh
 revert ah
 revert g3
 revert z
 exact t1_2_3_100_101_.out
 )
 )
 focus (
 intro y g3 ah mh ch bX_ bY_ F
 obtain ⟨GU, BX, LX, BY, LY, NE, RA⟩ := F
 have hHeld := HC12.out _ GU
 have bc0 := BX.cell0
 have bc1 := BX.cell1
 have bz0 := BX.frozen 0
 have bz1 := BX.frozen 1
 refine wpAnyH_ready (rs := [12]) (by kernel_rfl) (by simp) ?_
 refine AllReadyH.cons rfl (fun K hK => ?_) AllReadyH.nil
 go_simp
 refine hK.out _ _ (HC12.out _ (Good.set2 GU _ _ _ LX)) (fun hHeld => ?_)
 clear hK K
 try simp only [List.setIfInBounds_toArray, List.set_cons_zero, List.set_cons_succ]
 obtain ⟨uf, huf⟩ : ∃ uf, uf = (y.setCell ⟨bX_, 0, none⟩ (.int .i64 M)).setCell ⟨bX_, 1, none⟩ (.slice ah mh ch) := ⟨_, rfl⟩
 have TF := ta_one (M := M) GU BX BY RA LX NE
 rw [← huf] at TF hHeld ⊢
 clear huf bc0 bc1 bz0 bz1
 have bd0 := TF.2.2.cell0
 have bd1 := TF.2.2.cell1
 have be0 := TF.2.2.frozen 0
 have be1 := TF.2.2.frozen 1
 have HTF := hideIt TF
 have GF := TF.1
 clear TF
 refine wpAnyH_ready (rs := [13]) (by kernel_rfl) (by simp) ?_
 refine AllReadyH.cons rfl (fun K hK => ?_) AllReadyH.nil
 go_simp
 refine hK.out _ _ (HC12.out _ (Good.set2 GF _ _ _ LY)) (fun hHeld => ?_)
 clear hK K
 try simp only [List.setIfInBounds_toArray, List.set_cons_zero, List.set_cons_succ]
 refine wpAnyH_ready (rs := [14]) (by kernel_rfl) (by simp) ?_
 refine AllReadyH.cons rfl (fun K hK => ?_) AllReadyH.nil
 go_simp
 refine hK.out _ _ (by assumption) (fun hHeld => ?_)
 clear hK K
 try simp only [List.setIfInBounds_toArray, List.set_cons_zero, List.set_cons_succ]
 refine wpAnyH_ready (rs := [15]) (by kernel_rfl) (by simp) ?_
 refine AllReadyH.cons rfl (fun K hK => ?_) AllReadyH.nil
 go_simp
 refine hK.out _ _ (by assumption) (fun hHeld => ?_)
 clear hK K
 try simp only [List.setIfInBounds_toArray, List.set_cons_zero, List.set_cons_succ]
 refine wpAnyH_done (by kernel_rfl) ?_ _
 have HZ := hideIt (ta_two (d := d) HTF.out LY NE)
 have HGZ := hideIt (Good.set2 GF bY_ (.int .i64 d.1) (.int .i64 d.2) LY)
 clear HTF GF bd0 bd1 be0 be1 hHeld
 go_wp2_with fail
 go_meet
 exact ⟨bX_, bY_, ah, mh, ch, rfl, rfl, rfl, rfl, HGZ.out, HZ.out⟩
 )
          )
        case rest =>
          obtain ⟨b3, be3, ah, mh, ch, rfl, rfl, rfl, rfl, G13, TH⟩ := hcut
          have DH := TH.pb
          have EH := TH.eb
          clear TH
          have L13 := L12.good G13
          have DW13 := DW12.up G13
          have EW13 := EW12.up G13
          clear EW12
          have DG13 := DG12.up G13
          have hmh : mh ≤ 200 := by rw [← DH.len9]; exact hgl
          clear c0 c1 c2 c3 HC12 hS12 L12 DW12 DG12
          have q0 := DH.cells.1
          have q1 := DW13.cells.1
          have q2 := DH.cells.2
          have q3 := DW13.cells.2
          have HE13 := hideIt (eqWB DH DW13 (by omega))
          go_wp2_with (go_at_call 52; refine HE13.out.mono ?_; rintro e w13a ⟨rfl, hb13a⟩; refine Hid.out ?_)
          refine (show ∀ {p : Prop}, p → Hid p from fun h => h) ?_
          have x0 := (EH.up hb13a).cell0
          have x1 := (EH.up hb13a).cell1
          have x2 := (EW13.up hb13a).cell0
          have x3 := (EW13.up hb13a).cell1
          have HEd := hideIt (HEe.out d w13a)
          go_wp2_with (go_at_call 53; refine HEd.out.mono ?_; rintro e w14 ⟨rfl, hb13b⟩; refine Hid.out ?_)
          refine (show ∀ {p : Prop}, p → Hid p from fun h => h) ?_
          have hb14 := Good.up hb13a hb13b
          clear x0 x1 x2 x3 HEd hb13a hb13b
          have L14 := L13.up hb14
          have DG14 := DG13.up hb14
          clear HE13 hb14 q0 q1 q2 q3 L13 DW13 DG13
          have q0 := DG14.cells.1
          have q1 := DG14.cells.2
          have HH14 := hideIt (heldWB 1 DG14 (by omega) (by omega))
          go_wp2_with (go_at_call 55; refine HH14.out.mono ?_; rintro e w15 ⟨rfl, hb15⟩)
          go_ret
          exact ⟨rfl, (L14.up hb15).below⟩
  · have e1 : szw n = -1 := by unfold szw; rw [if_neg hn1]
    rw [e1] at HS
    clear e1
    go_enter Tryz.func9, Tryz.ntmps9
    go_wp2_with (go_at_call 49; refine (show Calls Tryz.prog 49 _ (lw9 w N a n c x) _ from HS.out).mono ?_; rintro e w1 ⟨rfl, hb1⟩)
    go_ret
    exact ⟨rfl, HB.out.trans (Below.mono hb1 (by rw [lw9_size]; omega))⟩
end Go.Proofs.YtgjnlhdgekfieaaGreat
namespace Go.Proofs.YtgjnlhdgekfieaaGreat
open Go.RowKit Go.ChangeShapes Go.WideShapes Go.ChangeAt

theorem two7 {α : Type} {l : List α} (h : l.length = 2) : ∃ a b, l = [a, b] := by
  match l, h with
  | [a, b], _ => exact ⟨a, b, rfl⟩
theorem four9 {α : Type} {l : List α} (h : l.length = 4) : ∃ a b c d, l = [a, b, c, d] := by
  match l, h with
  | [a, b, c, d], _ => exact ⟨a, b, c, d, rfl⟩
theorem open_ledge1 {H : Type} {enc : TypeId × Value → H} {W : World} {fuel : Nat} {cs : List Value} {y : DataW H × List MemPlace}
    (h : DataW.trod enc Tryz.prog W 0 (fun _ => true) true fuel 215 cs = some y) : ∃ x : Ld, cs = [.int .i64 x.a, .int .i64 x.b, .int .i64 x.l, .bool x.t] := by
  obtain ⟨xs, n, _, _, hl, hlen, hf⟩ := DataW.trod_struct Tryz.underlying215 h
  rw [show Tryz.prog.cellsOf 215 = 4 by kernel_rfl] at hl
  obtain ⟨c0, c1, c2, c3, rfl⟩ := four9 hl
  have h0 : DataW.trod enc Tryz.prog W 0 (fun _ => true) true n 3 (([c0, c1, c2, c3].drop 0).take (Tryz.prog.cellsOf 3)) = xs[0]? := hf 0 _ rfl
  have h1 : DataW.trod enc Tryz.prog W 0 (fun _ => true) true n 3 (([c0, c1, c2, c3].drop 1).take (Tryz.prog.cellsOf 3)) = xs[1]? := hf 1 _ rfl
  have h2 : DataW.trod enc Tryz.prog W 0 (fun _ => true) true n 3 (([c0, c1, c2, c3].drop 2).take (Tryz.prog.cellsOf 3)) = xs[2]? := hf 2 _ rfl
  have h3 : DataW.trod enc Tryz.prog W 0 (fun _ => true) true n 4 (([c0, c1, c2, c3].drop 3).take (Tryz.prog.cellsOf 4)) = xs[3]? := hf 3 _ rfl
  rw [show Tryz.prog.cellsOf 3 = 1 by kernel_rfl] at h0 h1 h2
  rw [show Tryz.prog.cellsOf 4 = 1 by kernel_rfl] at h3
  have g : ∀ i, i < 4 → ∃ z, xs[i]? = some z := fun i hi => ⟨xs[i]'(by simp at hlen; omega), List.getElem?_eq_getElem _⟩
  obtain ⟨z0, e0⟩ := g 0 (by omega)
  obtain ⟨z1, e1⟩ := g 1 (by omega)
  obtain ⟨z2, e2⟩ := g 2 (by omega)
  obtain ⟨z3, e3⟩ := g 3 (by omega)
  rw [e0] at h0
  rw [e1] at h1
  rw [e2] at h2
  rw [e3] at h3
  obtain ⟨k0, hk0, _⟩ := DataW.trod_int Tryz.underlying3 h0
  obtain ⟨k1, hk1, _⟩ := DataW.trod_int Tryz.underlying3 h1
  obtain ⟨k2, hk2, _⟩ := DataW.trod_int Tryz.underlying3 h2
  obtain ⟨k3, hk3, _⟩ := DataW.trod_bool Tryz.underlying4 h3
  simp at hk0 hk1 hk2 hk3
  subst hk0 hk1 hk2 hk3
  exact ⟨⟨k0, k1, k2, k3⟩, rfl⟩
theorem open_ledgeS {H : Type} {enc : TypeId × Value → H} {W : World} {a : Option Addr} {len cap fuel : Nat} {x : DataW H × List MemPlace}
    (h : DataW.trod enc Tryz.prog W 0 (fun _ => true) true fuel 82 [.slice a len cap] = some x) : len ≤ maxLen ∧ ∃ ls : List Ld, Ls W W.heap.size a len ls := by
  rcases DataW.trod_slice Tryz.underlying82 h with ⟨hcs, _⟩ | ⟨ad, l, c, elems, rest, n, _, hcs, _, _, hlc, hm, hel, hei, _, _⟩
  · simp at hcs
    obtain ⟨rfl, rfl, rfl⟩ := hcs
    exact ⟨by unfold maxLen; omega, [], ⟨rfl, .inl rfl⟩⟩
  · simp at hcs
    obtain ⟨rfl, rfl, rfl⟩ := hcs
    refine ⟨by omega, ?_⟩
    have each : ∀ i, i < len → ∃ x : Ld, W.cell? ((ad.add (i * 4)).add 0) = some (.int .i64 x.a) ∧ W.cell? ((ad.add (i * 4)).add 1) = some (.int .i64 x.b) ∧ W.cell? ((ad.add (i * 4)).add 2) = some (.int .i64 x.l) ∧ W.cell? ((ad.add (i * 4)).add 3) = some (.bool x.t) := by
      intro i hi
      have h1 := hei i hi
      obtain ⟨y, hy⟩ : ∃ y, elems[i]? = some y := ⟨elems[i]'(by omega), List.getElem?_eq_getElem _⟩
      rw [hy, Option.bind_eq_some_iff] at h1
      obtain ⟨cs', hc, ht⟩ := h1
      obtain ⟨x, rfl⟩ := open_ledge1 ht
      rw [show Tryz.prog.cellsOf 215 = 4 by kernel_rfl] at hc
      have hcell := (World.cells?_some hc).2.2
      exact ⟨x, by simpa using hcell 0 (by omega), by simpa using hcell 1 (by omega), by simpa using hcell 2 (by omega), by simpa using hcell 3 (by omega)⟩
    by_cases h0 : len = 0
    · subst h0
      exact ⟨[], ⟨rfl, .inl rfl⟩⟩
    · obtain ⟨f0, hc0, _⟩ := each 0 (by omega)
      obtain ⟨b, off, spot⟩ := ad
      have hspot : spot = none := by simpa [Addr.add] using World.cell?_spot hc0
      subst hspot
      have hb : b < W.heap.size := by
        have := World.block_lt_of_cell? W _ hc0
        simpa [Addr.add] using this
      obtain ⟨F, hF⟩ := Classical.axiomOfChoice (fun i : Fin len => each i.1 i.2)
      refine ⟨List.ofFn F, ⟨by simp, .inr ⟨b, off, rfl, hb, fun j f hf => ?_⟩⟩⟩
      obtain ⟨hj, rfl⟩ := List.getElem?_eq_some_iff.1 hf
      have hj' : j < len := by simpa using hj
      obtain ⟨c0, c1, c2, c3⟩ := hF ⟨j, hj'⟩
      rw [add_plain, add_plain] at c0 c1 c2 c3
      simp only [List.getElem_ofFn]
      exact ⟨c0, c1, c2, c3⟩
set_option maxRecDepth 100000 in
/-- a web that comes in -/
theorem open_web {H : Type} {enc : TypeId × Value → H} {W : World} {r : Reach} {base : Nat} {v : Value} {d : DataW H} {p : List MemPlace}
    (hv : Value.okWide Tryz.prog W r base 84 v) (h : DataW.Trod enc Tryz.prog W 0 (fun _ => true) true 84 v d p) :
    ∃ (N : Int) (a : Option Addr) (n c : Nat) (ls : List Ld), v = .agg #[.int .i64 N, .slice a n c] ∧ (Lit.int .i64 N).wf = true ∧ n ≤ maxLen ∧ Ls W W.heap.size a n ls := by
  obtain ⟨cs, rfl, hcs⟩ := okWide_struct Tryz.underlying84 hv
  obtain ⟨fuel, hf⟩ := h
  obtain ⟨xs, n, _, _, hl, hlen, hfi⟩ := DataW.trod_struct Tryz.underlying84 hf
  rw [show Tryz.prog.cellsOf 84 = 2 by kernel_rfl] at hcs hl
  obtain ⟨l⟩ := cs
  obtain ⟨c0, c1, rfl⟩ := two7 (by simpa using hcs : l.length = 2)
  have ec : (Value.agg (List.toArray [c0, c1])).cells.toList = [c0, c1] := by simp [Value.cells]
  rw [ec] at hfi
  have h0 : DataW.trod enc Tryz.prog W 0 (fun _ => true) true n 3 (([c0, c1].drop 0).take (Tryz.prog.cellsOf 3)) = xs[0]? := hfi 0 _ rfl
  have h1 : DataW.trod enc Tryz.prog W 0 (fun _ => true) true n 82 (([c0, c1].drop 1).take (Tryz.prog.cellsOf 82)) = xs[1]? := hfi 1 _ rfl
  rw [show Tryz.prog.cellsOf 3 = 1 by kernel_rfl] at h0
  rw [show Tryz.prog.cellsOf 82 = 1 by kernel_rfl] at h1
  have g : ∀ i, i < 2 → ∃ z, xs[i]? = some z := fun i hi => ⟨xs[i]'(by simp at hlen; omega), List.getElem?_eq_getElem _⟩
  obtain ⟨z0, e0⟩ := g 0 (by omega)
  obtain ⟨z1, e1⟩ := g 1 (by omega)
  rw [e0] at h0
  rw [e1] at h1
  obtain ⟨k0, hk0, _, w0⟩ := DataW.trod_int Tryz.underlying3 h0
  simp at hk0
  subst hk0
  have h1' : DataW.trod enc Tryz.prog W 0 (fun _ => true) true n 82 [c1] = some z1 := by simpa using h1
  rcases DataW.trod_slice Tryz.underlying82 h1' with ⟨hx, _⟩ | ⟨ad, l, c, _, _, _, _, hx, _⟩
  · simp at hx
    subst hx
    obtain ⟨q1, fs, q2⟩ := open_ledgeS h1'
    exact ⟨k0, _, _, _, fs, rfl, w0, q1, q2⟩
  · simp at hx
    subst hx
    obtain ⟨q1, fs, q2⟩ := open_ledgeS h1'
    exact ⟨k0, _, _, _, fs, rfl, w0, q1, q2⟩
theorem open_edge1 {H : Type} {enc : TypeId × Value → H} {W : World} {fuel : Nat} {cs : List Value} {y : DataW H × List MemPlace}
    (h : DataW.trod enc Tryz.prog W 0 (fun _ => true) true fuel 85 cs = some y) : ∃ f : Int × Int, cs = [.int .i64 f.1, .int .i64 f.2] ∧ ((Lit.int .i64 f.1).wf = true ∧ (Lit.int .i64 f.2).wf = true) := by
  obtain ⟨xs, n, _, _, hl, hlen, hf⟩ := DataW.trod_struct Tryz.underlying85 h
  rw [show Tryz.prog.cellsOf 85 = 2 by kernel_rfl] at hl
  obtain ⟨c0, c1, rfl⟩ := two7 hl
  have h0 : DataW.trod enc Tryz.prog W 0 (fun _ => true) true n 3 (([c0, c1].drop 0).take (Tryz.prog.cellsOf 3)) = xs[0]? := hf 0 _ rfl
  have h1 : DataW.trod enc Tryz.prog W 0 (fun _ => true) true n 3 (([c0, c1].drop 1).take (Tryz.prog.cellsOf 3)) = xs[1]? := hf 1 _ rfl
  rw [show Tryz.prog.cellsOf 3 = 1 by kernel_rfl] at h0 h1
  have g : ∀ i, i < 2 → ∃ z, xs[i]? = some z := fun i hi => ⟨xs[i]'(by simp at hlen; omega), List.getElem?_eq_getElem _⟩
  obtain ⟨z0, e0⟩ := g 0 (by omega)
  obtain ⟨z1, e1⟩ := g 1 (by omega)
  rw [e0] at h0
  rw [e1] at h1
  obtain ⟨k0, hk0, _, w0⟩ := DataW.trod_int Tryz.underlying3 h0
  obtain ⟨k1, hk1, _, w1⟩ := DataW.trod_int Tryz.underlying3 h1
  simp at hk0 hk1
  subst hk0 hk1
  exact ⟨⟨k0, k1⟩, rfl, w0, w1⟩
set_option maxRecDepth 100000 in
/-- an edge that comes in -/
theorem open_edge {H : Type} {enc : TypeId × Value → H} {W : World} {r : Reach} {base : Nat} {v : Value} {d : DataW H} {p : List MemPlace}
    (hv : Value.okWide Tryz.prog W r base 85 v) (h : DataW.Trod enc Tryz.prog W 0 (fun _ => true) true 85 v d p) :
    ∃ f : Int × Int, v = .agg #[.int .i64 f.1, .int .i64 f.2] ∧ ((Lit.int .i64 f.1).wf = true ∧ (Lit.int .i64 f.2).wf = true) := by
  obtain ⟨cs, rfl, hcs⟩ := okWide_struct Tryz.underlying85 hv
  obtain ⟨fuel, hf⟩ := h
  obtain ⟨f, hcs2, hft⟩ := open_edge1 hf
  refine ⟨f, ?_, hft⟩
  have : (Value.agg cs).cells.toList = [.int .i64 f.1, .int .i64 f.2] := hcs2
  obtain ⟨l⟩ := cs
  simp [Value.cells] at this
  rw [this]
end Go.Proofs.YtgjnlhdgekfieaaGreat
