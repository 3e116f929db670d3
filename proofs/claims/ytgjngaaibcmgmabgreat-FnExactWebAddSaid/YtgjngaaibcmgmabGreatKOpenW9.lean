/- The specification's WebAdd. WebAdd. Where a law over webs stands that looks at fresh memory: webs in ranges of blocks of their own. Where a law over webs and an edge stands. The walk of FnExactWebAdd. A web that comes in. -/
import Derived.Test.YtgjngaaibcmgmabGreatKSAdd9
import Derived.Test.YtgjngaaibcmgmabGreatKILo9
import Derived.Test.YtgjngaaibcmgmabGreatKSWo9
import Derived.Test.YtgjngaaibcmgmabGreatKIns9
import Derived.Test.YtgjngaaibcmgmabGreatKFind6
import Derived.Test.YtgjngaaibcmgmabGreatKBx7
import Derived.Deep.DeepCutAuto
import Derived.WalkKit
import Derived.ProofKit
import Derived.OpenShut
import Derived.ChangeOld
import Derived.ChangeArms
import Derived.Below
import Derived.ChangeSlices
namespace Go.Proofs.YtgjngaaibcmgmabGreat
open Go.RowKit

set_option maxRecDepth 100000 in
set_option maxHeartbeats 8000000 in
theorem sWebAdd_any (N : Int) (ls : List Ld) (f : EdgeV) (n : Nat) (a : Option Addr) (c : Nat) (hn : n ≤ 1048576) (w : World) (h : Ls w w.heap.size a n ls) :
    Calls Tryz.prog 13 #[.agg #[.int .i64 N, .slice a n c], .agg #[.int .i64 f.1, .int .i64 f.2]] w fun e w' => WAns w N (waO N ls f) e w' := by
  have hA : Hid (∀ u, In3w w N a n c f u → Ls u u.heap.size a n ls) := fun u hu => h.up hu.below
  have HGr : Hid (∀ u, In3w w N a n c f u → Calls Tryz.prog 30 #[.agg #[.int .i64 N, .slice a n c]] u fun e v => ∃ ag cg, e = .returned (.agg #[.int .i64 N, .slice ag n cg]) ∧ Hid (Es v v.heap.size ag n (gE ls)) ∧ In3w w N a n c f v ∧ Below u.heap.size u v) := fun u hu =>
    (sGraphOf_any N ls n a c hn u (hA.out u hu)).mono fun _ _ ⟨ag, cg, he, ho, hb⟩ => ⟨ag, cg, he, Es_of_own ho, hu.up hb, hb⟩
  have HAd : Hid (∀ ag cg u, In3w w N a n c f u → Hid (Es u u.heap.size ag n (gE ls)) → Calls Tryz.prog 40 #[.agg #[.int .i64 N, .slice ag n cg], .agg #[.int .i64 f.1, .int .i64 f.2]] u fun e v => ∃ a1 m1 c1, e = .returned (.tuple #[.agg #[.int .i64 (if (addE N (gE ls) f).isSome then N else 0), .slice a1 m1 c1], .bool (addE N (gE ls) f).isSome]) ∧ Hid (v.ownsRow u.heap.size 37 2 (.slice a1 m1 c1) m1 (ecells ((addE N (gE ls) f).getD []))) ∧ In3w w N a n c f v ∧ Below u.heap.size u v) := fun ag cg u hu he =>
    (sAddEdge_any N (gE ls) f n ag cg hn u he.out).mono fun _ _ ⟨a1, m1, c1, h1, h2, h3⟩ => ⟨a1, m1, c1, h1, h2, hu.up h3, h3⟩
  have S1 := In3w.start w N a n c f
  have HK : Hid (∀ u, In3w w N a n c f u → ((u.cell? ⟨w.heap.size, 0, none⟩ = some (.int .i64 N) ∧ u.cell? ⟨w.heap.size, 1, none⟩ = some (.slice a n c)) ∧ (u.cell? ⟨w.heap.size + 1, 0, none⟩ = some (.int .i64 f.1) ∧ u.cell? ⟨w.heap.size + 1, 1, none⟩ = some (.int .i64 f.2))) ∧ In3w w N a n c f u) := fun u hu => ⟨hu.cells, hu⟩
  obtain ⟨O, hO⟩ : ∃ O, addE N (gE ls) f = O := ⟨_, rfl⟩
  rw [hO] at HAd
  have HO := hideIt hO
  have Hls := hideIt h
  clear h hO
  generalize hfl : O.isSome = fl at *
  generalize hM : (if fl = true then N else 0) = M at *
  generalize hgs : O.getD [] = gs at *
  go_enter Tryz.func13, Tryz.ntmps13
  go_upto_region 1 with fail
  obtain ⟨W, hW⟩ : ∃ W, W = w3w w N a n c f := ⟨_, rfl⟩
  have hW' : (((w.alloc (.cells #[.int .i64 N, .slice a n c] 29)).alloc (.cells #[.int .i64 f.1, .int .i64 f.2] 37)).alloc (.cells #[.int .i64 0, .slice none 0 0] 29)) = W := hW.symm
  rw [hW']
  rw [← hW] at S1
  clear hW hW'
  have zW := S1.size
  go_cut [6, 7] (fun p ok wx => ∃ b a1 m1 c1, p = .pointer (some ⟨b, 0, none⟩) ∧ ok = .bool fl ∧ In3w w N a n c f wx ∧ Hid (EB wx (w.heap.size + 3) b M a1 m1 c1 gs))
  case first =>
    have hS1 := HK.out _ S1.drew
    clear hA Hls HO
    go_region_held3 (fun u => ((u.cell? ⟨w.heap.size, 0, none⟩ = some (.int .i64 N) ∧ u.cell? ⟨w.heap.size, 1, none⟩ = some (.slice a n c)) ∧ (u.cell? ⟨w.heap.size + 1, 0, none⟩ = some (.int .i64 f.1) ∧ u.cell? ⟨w.heap.size + 1, 1, none⟩ = some (.int .i64 f.2))) ∧ In3w w N a n c f u)
      (first | assumption | exact HK.out _ (InW.alloc (And.right (by assumption)) _) | exact HK.out _ (InW.set (InW.set (And.right (by assumption)) _ _ _ (by omega)) _ _ _ (by omega)))
      (first
        | (go_at_call 30; refine (HGr.out _ (And.right (by assumption))).mono ?_; rintro e w3 ⟨ag, cg, rfl, ho3, hg3, hb3⟩; have hS3 := HK.out _ hg3; have z3 := hg3.size; (first | have bx := Box7.up (Box7.new W.drew 54 (.int .i64 0) (.slice none 0 0) W.heap.size rfl) hb3 | skip))
        | (go_at_call 40; refine (HAd.out _ _ _ (And.right (by assumption)) (by first | exact ho3 | exact hideIt (Es.up (Hid.out ho3) ((Below.refl _ _).alloc (Nat.le_refl _) _)))).mono ?_; rintro e w4 ⟨a1, m1, c1, rfl, ho4, hg4, hb4⟩; have hS4 := HK.out _ hg4; have z4 := hg4.size; (first | have bx := Box7.up bx hb4 | have bx := Box7.up (Box7.new w3 54 (.int .i64 0) (.slice none 0 0) w3.heap.size rfl) hb4 | skip); (try (have bc0 := bx.cell0; have bc1 := bx.cell1; have bz0 := bx.frozen 0; have bz1 := bx.frozen 1))))
    all_goals
      go_wp2_with fail
      go_meet
      first
        | exact ⟨_, a1, m1, c1, rfl, rfl, InW.set (InW.set hg4 _ _ _ (by omega)) _ _ _ (by omega), EB.stored bx (by omega) ho4.out⟩
        | exact ⟨_, a1, m1, c1, rfl, rfl, InW.alloc hg4 _, EB.laid (by omega) ho4.out⟩
  case rest =>
    obtain ⟨b, a1, m1, c1, rfl, rfl, S2, hE2⟩ := hcut
    obtain ⟨⟨⟨k0, k1⟩, k2, k3⟩, _⟩ := HK.out _ S2
    have s2 := S2.size
    by_cases hW : WOk N ls
    · obtain ⟨nn, rfl, hn1, hn12⟩ := gB_n hW.1
      obtain ⟨ts, hts, hall⟩ := hW.trees 0 (by omega)
      have hts : ftK (fE ls 0) nn nn = some ts := hts
      have HG0 := sWebOk_any (nn : Int) ls n a c hn _ (hA.out _ S2)
      rw [wB_yes hW] at HG0
      have HG := hideIt HG0
      clear HG0
      by_cases hy : eB (nn : Int) f = true ∧ hasB (gE ls) f = false
      · have hO2 : O = some (putE (gE ls) f) := by rw [← HO.out]; exact addE_yes hW hy.1 hy.2
        subst hO2
        simp only [Option.isSome_some] at hfl
        subst hfl
        have HFo : Hid (∀ u, In3w w (nn : Int) a n c f u → Calls Tryz.prog 32 #[.agg #[.int .i64 (nn : Int), .slice a n c], .int .i64 0] u fun e v => ∃ a' m c', e = .returned (.tuple #[.agg #[.int .i64 (nn : Int), .slice a' m c'], .bool true]) ∧ Ts v v.heap.size a' m ts ∧ Below u.heap.size u v) := fun u hu => by
          have := sForestAt_any nn ls 0 n a c hn1 hn12 hW.1 u (hA.out u hu)
          rw [hts] at this
          exact this.mono fun _ _ h => h.weak
        have HW := hideIt (waO_yes hW hy.1 hy.2)
        have hlen : ls.length = n := Hls.out.1
        have HR : Hid (∀ (v : Int) (a' : Option Addr) (m c' : Nat) (u : World), Ts u u.heap.size a' m ts → Calls Tryz.prog 34 #[.agg #[.int .i64 (nn : Int), .slice a' m c'], .int .i64 v] u fun e w' => e = .returned (.int .i64 (trI ts v)) ∧ Below u.heap.size u w') := fun v a' m c' u hu => by
          have := sTreeOf_any (nn : Int) ts v m a' c' (by have := hu.1; have := ft_lnS hall; omega) u hu
          rw [treeO_yes hall.fp] at this
          exact this
        have hcm : cmL (nn : Int) ls f = ⟨f.1, f.2, 0, trI ts f.1 != trI ts f.2⟩ := by
          unfold cmL
          rw [gndT_is hts]
          by_cases e : trI ts f.1 = trI ts f.2 <;> simp [e]
        rw [hcm] at HW
        obtain ⟨Tf, hTf⟩ : ∃ Tf, trI ts = Tf := ⟨_, rfl⟩
        rw [hTf] at HW HR
        clear hcm hy hall hts hTf HGr HAd HO hW
        have HPu := hideIt (fun u (hu : In3w w (nn : Int) a n c f u) tb => l08Put_any ls ⟨f.1, f.2, 0, tb⟩ n a c hn u (hA.out u hu))
        go_wp2_with (go_at_call 9; refine HG.out.mono ?_; rintro e w3 ⟨rfl, hb3⟩; refine Hid.out ?_)
        refine (show ∀ {p : Prop}, p → Hid p from fun h => h) ?_
        have S3 := S2.up hb3
        obtain ⟨⟨⟨x0, x1⟩, x2, x3⟩, _⟩ := HK.out _ S3
        have HF3 := hideIt (HFo.out _ S3)
        clear k0 k1 k2 k3 hb3 HG HFo hE2
        go_wp2_with (go_at_call 32; refine HF3.out.mono ?_; rintro e w4 ⟨a3, m3, c3, rfl, hT4, hb4⟩; refine Hid.out ?_)
        refine (show ∀ {p : Prop}, p → Hid p from fun h => h) ?_
        obtain ⟨w5, hw5⟩ : ∃ w5, w5 = w4.alloc (.cells #[.int .i64 (nn : Int), .slice a3 m3 c3] 61) := ⟨_, rfl⟩
        have hba : Below w4.heap.size w4 w5 := by rw [hw5]; exact (Below.refl _ _).alloc (Nat.le_refl _) _
        have S5 := (S3.up hb4).up hba
        have HT5 := hideIt (hT4.up hba)
        have bx5 : Box7 w5 w4.heap.size 61 (.int .i64 (nn : Int)) (.slice a3 m3 c3) := by rw [hw5]; exact Box7.new w4 _ _ _ _ rfl
        have HC5 : Hid (∀ u, Good w5 u → ((u.cell? ⟨w4.heap.size, 0, none⟩ = some (.int .i64 (nn : Int)) ∧ u.cell? ⟨w4.heap.size, 1, none⟩ = some (.slice a3 m3 c3)) ∧ (u.cell? ⟨w.heap.size + 1, 0, none⟩ = some (.int .i64 f.1) ∧ u.cell? ⟨w.heap.size + 1, 1, none⟩ = some (.int .i64 f.2))) ∧ Good w5 u) := fun u hu => ⟨⟨⟨(bx5.up hu).cell0, (bx5.up hu).cell1⟩, (S5.up hu).cells.2⟩, hu⟩
        have HP5 : Hid (∀ v u, Good w5 u → Calls Tryz.prog 34 #[.agg #[.int .i64 (nn : Int), .slice a3 m3 c3], .int .i64 v] u fun e v' => e = .returned (.int .i64 (Tf v)) ∧ Good w5 v' ∧ Below u.heap.size u v') := fun v u hu => (HR.out v a3 m3 c3 u (HT5.out.up hu)).mono fun _ _ ⟨he, hb⟩ => ⟨he, hu.up hb, hb⟩
        have s5 := S5.size
        clear x0 x1 x2 x3 HF3 hb4 HR HT5 bx5 hT4 S3 hba
        go_upto_region 5 with fail
        rw [← hw5]
        clear hw5
        go_cut [10] (fun p wx => ∃ b3, p = .pointer (some ⟨b3, 0, none⟩) ∧ w.heap.size + 3 ≤ b3 ∧ In3w w (nn : Int) a n c f wx ∧ Hid (Box4 wx b3 ⟨f.1, f.2, 0, Tf f.1 != Tf f.2⟩))
        case first =>
          have hS5 := HC5.out _ (Good.refl w5).drew
          clear hA Hls HW HPu
          go_region_held3 (fun u => ((u.cell? ⟨w4.heap.size, 0, none⟩ = some (.int .i64 (nn : Int)) ∧ u.cell? ⟨w4.heap.size, 1, none⟩ = some (.slice a3 m3 c3)) ∧ (u.cell? ⟨w.heap.size + 1, 0, none⟩ = some (.int .i64 f.1) ∧ u.cell? ⟨w.heap.size + 1, 1, none⟩ = some (.int .i64 f.2))) ∧ Good w5 u)
            (first | with_reducible assumption | with_reducible exact HC5.out _ (Good.alloc (And.right (by assumption)) _) | with_reducible exact HC5.out _ (Good.set4 (And.right (by assumption)) _ _ _ _ _ (by omega)))
            ((go_at_call 34; refine (HP5.out _ _ (And.right (by assumption))).mono ?_; rintro e w6 ⟨rfl, hg6, hb6⟩; have hS6 := HC5.out _ hg6; have z6 := hg6.size; (first | with_reducible have bx := Box4.up bx hb6 | with_reducible have bx := Box4.up (Box4.new0 _) hb6 | with_reducible have bx := Box4.up (Box4.new0d _) hb6 | skip); (try (obtain ⟨bc0, bc1, bc2, bc3⟩ := bx.cells; have bz0 := bx.frozen 0; have bz1 := bx.frozen 1; have bz2 := bx.frozen 2; have bz3 := bx.frozen 3))))
          all_goals
            go_wp2_with fail
            go_meet
            first
              | (have hbx := bx; exact ⟨_, rfl, by omega, S5.up (Good.set4 hg6 _ _ _ _ _ (by omega)), bx.set4 ⟨f.1, f.2, 0, Tf f.1 != Tf f.2⟩⟩)
              | exact ⟨_, rfl, by omega, S5.up (Good.alloc hg6 _), Box4.new w6 ⟨f.1, f.2, 0, Tf f.1 != Tf f.2⟩ _ rfl⟩
        case rest =>
          obtain ⟨b3, rfl, hb3, S7, hx7⟩ := hcut
          have S7d := S7.drew
          have X7d : Box4 wc.drew b3 ⟨f.1, f.2, 0, Tf f.1 != Tf f.2⟩ := hx7.out
          have HP7 := hideIt (HPu.out _ S7d (Tf f.1 != Tf f.2))
          generalize (Tf f.1 != Tf f.2) = tb at *
          have s7 := S7.size
          clear HP5 HC5 s5 S5 S2 s2 S1 zW HK Hls HPu
          go_upto_region 6 with fail
          go_region_held3 (fun u => (u.cell? ⟨w.heap.size, 0, none⟩ = some (.int .i64 (nn : Int)) ∧ u.cell? ⟨w.heap.size, 1, none⟩ = some (.slice a n c)) ∧ u.cell? ⟨b3, 0, none⟩ = some (.int .i64 f.1) ∧ u.cell? ⟨b3, 1, none⟩ = some (.int .i64 f.2) ∧ u.cell? ⟨b3, 2, none⟩ = some (.int .i64 0) ∧ u.cell? ⟨b3, 3, none⟩ = some (.bool tb))
            (first | with_reducible assumption | exact heldWset S8 X8 hb3 _ _ | exact heldW S8 X8 | exact heldW S7d X7d)
            ((go_at_call 41; refine HP7.out.mono ?_; rintro e w8 ⟨a', m', c', rfl, hown8, hb8⟩; have S8 := S7d.up hb8; have X8 := X7d.up hb8; obtain ⟨⟨r0, r1⟩, r2, r3⟩ := S8.out))
          all_goals
            have hown9 : w8.ownsRow wc.heap.size 58 4 (.slice a' m' c') m' (lcells (putL ls ⟨f.1, f.2, 0, tb⟩)) := hown8
            go_wp2
            exact bodyPost_ret (v := .tuple #[.agg #[.int .i64 (nn : Int), .slice a' m' c'], .bool true]) (by simp [results, Tryz.results13, go_sem, r0, r1]) rfl (wans_yes S8 HW.out (by omega) hown9)
      · have HW := hideIt (waO_no (N := (nn : Int)) (ls := ls) (f := f) (fun h => hy h.2))
        have hO2 : O = none := by rw [← HO.out]; exact addE_no hW HW.out
        subst hO2
        simp only [Option.isSome_none] at hfl
        subst hfl
        clear hW hts hall hy HGr HAd hA HO Hls hE2
        go_wp2_with (go_at_call 9; refine HG.out.mono ?_; rintro e w3 ⟨rfl, hb3⟩; refine Hid.out ?_)
        refine (show ∀ {p : Prop}, p → Hid p from fun h => h) ?_
        have S3 := S2.up hb3
        obtain ⟨⟨r0, r1⟩, r2, r3⟩ := S3.out
        have s3 := S3.size
        have HA3 := hideIt (wans_no S3 HW.out)
        clear k0 k1 k2 k3 hb3 HG
        go_wp2
        exact bodyPost_ret (v := .tuple #[.agg #[.int .i64 0, .slice none 0 0], .bool false]) (by simp [results, Tryz.results13, go_sem, r0, r1]) rfl HA3.out
    · have HG0 := sWebOk_any N ls n a c hn _ (hA.out _ S2)
      rw [wB_no hW] at HG0
      have HG := hideIt HG0
      have HW := hideIt (waO_no (N := N) (ls := ls) (f := f) (fun h => hW h.1))
      clear HG0 hW HGr HAd hA HO Hls hE2
      go_wp2_with (go_at_call 9; refine HG.out.mono ?_; rintro e w3 ⟨rfl, hb3⟩; refine Hid.out ?_)
      refine (show ∀ {p : Prop}, p → Hid p from fun h => h) ?_
      have S3 := S2.up hb3
      obtain ⟨⟨r0, r1⟩, r2, r3⟩ := S3.out
      have s3 := S3.size
      have HA3 := hideIt (wans_no S3 HW.out)
      clear k0 k1 k2 k3 hb3 HG
      go_wp2
      exact bodyPost_ret (v := .tuple #[.agg #[.int .i64 0, .slice none 0 0], .bool false]) (by simp [results, Tryz.results13, go_sem, r0, r1]) rfl HA3.out
end Go.Proofs.YtgjngaaibcmgmabGreat
namespace Go.Proofs.YtgjngaaibcmgmabGreat
open Go.RowKit

set_option maxRecDepth 100000 in
set_option maxHeartbeats 8000000 in
theorem iWebAdd_any (N : Int) (ls : List Ld) (f : EdgeV) (n : Nat) (a : Option Addr) (c : Nat) (hsl : Sl a n c) (hn : n ≤ 1048576) (w : World) (h : Ls w w.heap.size a n ls) :
    Calls Tryz.prog 15 #[.agg #[.int .i64 N, .slice a n c], .agg #[.int .i64 f.1, .int .i64 f.2]] w fun e w' => WAns w N (waO N ls f) e w' := by
  have hA : Hid (∀ u, In3w w N a n c f u → Ls u u.heap.size a n ls) := fun u hu => h.up hu.below
  have HGr : Hid (∀ u, In3w w N a n c f u → Calls Tryz.prog 37 #[.agg #[.int .i64 N, .slice a n c]] u fun e v => ∃ g, e = .returned (.agg #[.int .i64 N, .slice (some ⟨g, 0, none⟩) n n]) ∧ Hid (Es v v.heap.size (some ⟨g, 0, none⟩) n (gE ls)) ∧ In3w w N a n c f v ∧ Below u.heap.size u v) := fun u hu =>
    (iGraphOf_any N ls n a c hn u (hA.out u hu)).mono fun _ _ ⟨g, he, ho, hb⟩ => ⟨g, he, Es_of_own ho, hu.up hb, hb⟩
  have HAd : Hid (∀ g u, In3w w N a n c f u → Hid (Es u u.heap.size (some ⟨g, 0, none⟩) n (gE ls)) → Calls Tryz.prog 42 #[.agg #[.int .i64 N, .slice (some ⟨g, 0, none⟩) n n], .agg #[.int .i64 f.1, .int .i64 f.2]] u fun e v => ∃ a1 m1 c1, e = .returned (.tuple #[.agg #[.int .i64 (if (addE N (gE ls) f).isSome then N else 0), .slice a1 m1 c1], .bool (addE N (gE ls) f).isSome]) ∧ Hid (v.ownsRow u.heap.size 37 2 (.slice a1 m1 c1) m1 (ecells ((addE N (gE ls) f).getD []))) ∧ In3w w N a n c f v ∧ Below u.heap.size u v) := fun g u hu he =>
    (iAddEdge_any N (gE ls) f n (some ⟨g, 0, none⟩) n ⟨Nat.le_refl _, by unfold maxLen; omega, .inr ⟨g, 0, rfl⟩⟩ hn u he.out).mono fun _ _ ⟨a1, m1, c1, h1, h2, h3⟩ => ⟨a1, m1, c1, h1, h2, hu.up h3, h3⟩
  have S1 := In3w.start w N a n c f
  have HK : Hid (∀ u, In3w w N a n c f u → ((u.cell? ⟨w.heap.size, 0, none⟩ = some (.int .i64 N) ∧ u.cell? ⟨w.heap.size, 1, none⟩ = some (.slice a n c)) ∧ (u.cell? ⟨w.heap.size + 1, 0, none⟩ = some (.int .i64 f.1) ∧ u.cell? ⟨w.heap.size + 1, 1, none⟩ = some (.int .i64 f.2))) ∧ In3w w N a n c f u) := fun u hu => ⟨hu.cells, hu⟩
  obtain ⟨O, hO⟩ : ∃ O, addE N (gE ls) f = O := ⟨_, rfl⟩
  rw [hO] at HAd
  have HO := hideIt hO
  have Hls := hideIt h
  clear h hO
  generalize hfl : O.isSome = fl at *
  generalize hM : (if fl = true then N else 0) = M at *
  generalize hgs : O.getD [] = gs at *
  go_enter Tryz.func15, Tryz.ntmps15
  go_upto_region 1 with fail
  obtain ⟨W, hW⟩ : ∃ W, W = w3w w N a n c f := ⟨_, rfl⟩
  have hW' : (((w.alloc (.cells #[.int .i64 N, .slice a n c] 29)).alloc (.cells #[.int .i64 f.1, .int .i64 f.2] 37)).alloc (.cells #[.int .i64 0, .slice none 0 0] 29)) = W := hW.symm
  rw [hW']
  rw [← hW] at S1
  clear hW hW'
  have zW := S1.size
  go_cut [6, 7] (fun p ok wx => ∃ b a1 m1 c1, p = .pointer (some ⟨b, 0, none⟩) ∧ ok = .bool fl ∧ In3w w N a n c f wx ∧ Hid (EB wx (w.heap.size + 3) b M a1 m1 c1 gs))
  case first =>
    have hS1 := HK.out _ S1.drew
    clear hA Hls HO hsl
    go_region_held3 (fun u => ((u.cell? ⟨w.heap.size, 0, none⟩ = some (.int .i64 N) ∧ u.cell? ⟨w.heap.size, 1, none⟩ = some (.slice a n c)) ∧ (u.cell? ⟨w.heap.size + 1, 0, none⟩ = some (.int .i64 f.1) ∧ u.cell? ⟨w.heap.size + 1, 1, none⟩ = some (.int .i64 f.2))) ∧ In3w w N a n c f u)
      (first | assumption | exact HK.out _ (InW.alloc (And.right (by assumption)) _) | exact HK.out _ (InW.set (InW.set (And.right (by assumption)) _ _ _ (by omega)) _ _ _ (by omega)))
      (first
        | (go_at_call 37; refine (HGr.out _ (And.right (by assumption))).mono ?_; rintro e w3 ⟨g3, rfl, ho3, hg3, hb3⟩; have hS3 := HK.out _ hg3; have z3 := hg3.size; (first | have bx := Box7.up (Box7.new W.drew 54 (.int .i64 0) (.slice none 0 0) W.heap.size rfl) hb3 | skip))
        | (go_at_call 42; refine (HAd.out _ _ (And.right (by assumption)) (by first | exact ho3 | exact hideIt (Es.up (Hid.out ho3) ((Below.refl _ _).alloc (Nat.le_refl _) _)))).mono ?_; rintro e w4 ⟨a1, m1, c1, rfl, ho4, hg4, hb4⟩; have hS4 := HK.out _ hg4; have z4 := hg4.size; (first | have bx := Box7.up bx hb4 | have bx := Box7.up (Box7.new w3 54 (.int .i64 0) (.slice none 0 0) w3.heap.size rfl) hb4 | skip); (try (have bc0 := bx.cell0; have bc1 := bx.cell1; have bz0 := bx.frozen 0; have bz1 := bx.frozen 1))))
    all_goals
      go_wp2_with fail
      go_meet
      first
        | exact ⟨_, a1, m1, c1, rfl, rfl, InW.set (InW.set hg4 _ _ _ (by omega)) _ _ _ (by omega), EB.stored bx (by omega) ho4.out⟩
        | exact ⟨_, a1, m1, c1, rfl, rfl, InW.alloc hg4 _, EB.laid (by omega) ho4.out⟩
  case rest =>
    obtain ⟨b, a1, m1, c1, rfl, rfl, S2, hE2⟩ := hcut
    obtain ⟨⟨⟨k0, k1⟩, k2, k3⟩, _⟩ := HK.out _ S2
    have s2 := S2.size
    by_cases hW : WOk N ls
    · obtain ⟨nn, rfl, hn1, hn12⟩ := gB_n hW.1
      obtain ⟨ts, hts, hall⟩ := hW.trees 0 (by omega)
      have hts : ftK (fE ls 0) nn nn = some ts := hts
      have HG := hideIt (groundOf_yes nn ls n a c hn hW ts hts _ (hA.out _ S2))
      by_cases hy : eB (nn : Int) f = true ∧ hasB (gE ls) f = false
      · have hO2 : O = some (putE (gE ls) f) := by rw [← HO.out]; exact addE_yes hW hy.1 hy.2
        subst hO2
        simp only [Option.isSome_some] at hfl
        subst hfl
        simp only [if_true] at hM
        subst hM
        simp only [Option.getD_some] at hgs
        subst hgs
        have HW := hideIt (waO_yes hW hy.1 hy.2)
        obtain ⟨k, hk, hix, hput⟩ := put_at (x := cmL (nn : Int) ls f) hW.1 hy.2
        have hix : idxE (putE (gE ls) f) f = (k : Int) := hix
        have hl66 := (gB_chk hW.1).2.2
        have hpl := putE_length (gE ls) f
        rw [gE_len] at hl66 hpl
        have hlen : ls.length = n := Hls.out.1
        have HR : Hid (∀ (v : Int) (a' : Option Addr) (m c' : Nat) (u : World), Ts u u.heap.size a' m ts → Calls Tryz.prog 45 #[.agg #[.int .i64 (nn : Int), .slice a' m c'], .int .i64 v] u fun e w' => e = .returned (.int .i64 (trI ts v)) ∧ Below u.heap.size u w') := fun v a' m c' u hu => by
          have := iTreeOf_any (nn : Int) ts v m a' c' (by have := hu.1; have := ft_lnS hall; omega) u hu
          rw [treeO_yes hall.fp] at this
          exact this
        have hcm : cmL (nn : Int) ls f = ⟨f.1, f.2, 0, trI ts f.1 != trI ts f.2⟩ := by
          unfold cmL
          rw [gndT_is hts]
          by_cases e : trI ts f.1 = trI ts f.2 <;> simp [e]
        rw [hcm] at HW hput
        have HIx : Hid (∀ u a' m c', Es u u.heap.size a' m (putE (gE ls) f) → Calls Tryz.prog 44 #[.slice a' m c', .agg #[.int .i64 f.1, .int .i64 f.2]] u fun e v => e = .returned (.int .i64 (k : Int)) ∧ Below u.heap.size u v) := fun u a' m c' hu => by
          have := Index_any (putE (gE ls) f) f m a' c' (by have := hu.1; omega) u hu
          rw [hix] at this
          exact this
        have HP := hideIt hput
        have hnz : ((nn : Int) == 0) = false := by simp; omega
        obtain ⟨Tf, hTf⟩ : ∃ Tf, trI ts = Tf := ⟨_, rfl⟩
        rw [hTf] at HW HP HR
        clear hput hix hcm hy hall hts hTf HGr HAd HO hW hpl
        go_wp2_with (go_at_call 43; refine HG.out.mono ?_; rintro e w3 ⟨a3, m3, c3, rfl, hT3, hb3⟩; refine Hid.out ?_)
        refine (show ∀ {p : Prop}, p → Hid p from fun h => h) ?_
        have S3 := S2.up hb3
        have hba : Below w3.heap.size w3 (w3.alloc (.cells #[.int .i64 (nn : Int), .slice a3 m3 c3] 61)) := (Below.refl _ _).alloc (Nat.le_refl _) _
        have S4 := S3.up hba
        have s3 := S3.size
        have HE4 := hideIt ((hE2.out.up hb3).up hba)
        have HT4 := hideIt (hT3.up hba)
        have bx4 := Box7.new w3 61 (.int .i64 (nn : Int)) (.slice a3 m3 c3) w3.heap.size rfl
        have HX := hideIt (HIx.out _ _ _ c1 HE4.out.row)
        have g0 := HE4.out.box.cell0
        have g1 := HE4.out.box.cell1
        have f0 := bx4.cell0
        obtain ⟨⟨⟨x0, x1⟩, x2, x3⟩, _⟩ := HK.out _ S4
        have HB4 := hideIt bx4
        clear k0 k1 k2 k3 hb3 hT3 HG HIx hE2 bx4 hba S3
        go_wp2_with (go_at_call 44; refine HX.out.mono ?_; rintro e w5 ⟨rfl, hb5⟩; refine Hid.out ?_)
        refine (show ∀ {p : Prop}, p → Hid p from fun h => h) ?_
        have S5 := S4.up hb5
        have HT5 := hideIt (HT4.out.up hb5)
        have bx5 := HB4.out.up hb5
        have HC5 : Hid (∀ u, Good w5 u → ((u.cell? ⟨w3.heap.size, 0, none⟩ = some (.int .i64 (nn : Int)) ∧ u.cell? ⟨w3.heap.size, 1, none⟩ = some (.slice a3 m3 c3)) ∧ (u.cell? ⟨w.heap.size + 1, 0, none⟩ = some (.int .i64 f.1) ∧ u.cell? ⟨w.heap.size + 1, 1, none⟩ = some (.int .i64 f.2))) ∧ Good w5 u) := fun u hu => ⟨⟨⟨(bx5.up hu).cell0, (bx5.up hu).cell1⟩, (S5.up hu).cells.2⟩, hu⟩
        have HP5 : Hid (∀ v u, Good w5 u → Calls Tryz.prog 45 #[.agg #[.int .i64 (nn : Int), .slice a3 m3 c3], .int .i64 v] u fun e v' => e = .returned (.int .i64 (Tf v)) ∧ Good w5 v' ∧ Below u.heap.size u v') := fun v u hu => (HR.out v a3 m3 c3 u (HT5.out.up hu)).mono fun _ _ ⟨he, hb⟩ => ⟨he, hu.up hb, hb⟩
        have s5 := S5.size
        clear x0 x1 x2 x3 g0 g1 f0 HX HE4 HB4 S4 hb5 HT4 HR HT5 bx5
        go_upto_region 6 with fail
        go_cut [10] (fun p wx => ∃ b3, p = .pointer (some ⟨b3, 0, none⟩) ∧ w.heap.size + 3 ≤ b3 ∧ In3w w (nn : Int) a n c f wx ∧ Hid (Box4 wx b3 ⟨f.1, f.2, 0, Tf f.1 != Tf f.2⟩))
        case first =>
          have hS5 := HC5.out _ (Good.refl w5).drew
          clear hA Hls HW HP hsl
          go_region_held3 (fun u => ((u.cell? ⟨w3.heap.size, 0, none⟩ = some (.int .i64 (nn : Int)) ∧ u.cell? ⟨w3.heap.size, 1, none⟩ = some (.slice a3 m3 c3)) ∧ (u.cell? ⟨w.heap.size + 1, 0, none⟩ = some (.int .i64 f.1) ∧ u.cell? ⟨w.heap.size + 1, 1, none⟩ = some (.int .i64 f.2))) ∧ Good w5 u)
            (first | with_reducible assumption | with_reducible exact HC5.out _ (Good.alloc (And.right (by assumption)) _) | with_reducible exact HC5.out _ (Good.set4 (And.right (by assumption)) _ _ _ _ _ (by omega)))
            ((go_at_call 45; refine (HP5.out _ _ (And.right (by assumption))).mono ?_; rintro e w6 ⟨rfl, hg6, hb6⟩; have hS6 := HC5.out _ hg6; have z6 := hg6.size; (first | with_reducible have bx := Box4.up bx hb6 | with_reducible have bx := Box4.up (Box4.new0 _) hb6 | with_reducible have bx := Box4.up (Box4.new0d _) hb6 | skip); (try (obtain ⟨bc0, bc1, bc2, bc3⟩ := bx.cells; have bz0 := bx.frozen 0; have bz1 := bx.frozen 1; have bz2 := bx.frozen 2; have bz3 := bx.frozen 3))))
          all_goals
            go_wp2_with fail
            go_meet
            first
              | (have hbx := bx; exact ⟨_, rfl, by omega, S5.up (Good.set4 hg6 _ _ _ _ _ (by omega)), bx.set4 ⟨f.1, f.2, 0, Tf f.1 != Tf f.2⟩⟩)
              | exact ⟨_, rfl, by omega, S5.up (Good.alloc hg6 _), Box4.new w6 ⟨f.1, f.2, 0, Tf f.1 != Tf f.2⟩ _ rfl⟩
        case rest =>
          obtain ⟨b3, rfl, hb3, S7, hx7⟩ := hcut
          have S7d := S7.drew
          have X7d : Box4 wc.drew b3 ⟨f.1, f.2, 0, Tf f.1 != Tf f.2⟩ := hx7.out
          generalize (Tf f.1 != Tf f.2) = tb at *
          have s7 := S7.size
          have HES := hideIt (hA.out wc S7)
          obtain ⟨hnc, hcm, hform⟩ := hsl
          unfold maxLen at hcm
          clear HP5 HC5 s5 S5 S2 s2 S1 zW HK Hls
          rcases hform with ⟨rfl, rfl, rfl⟩ | ⟨ba, off, rfl⟩
          · obtain rfl : k = 0 := by omega
            have e0 : ls = [] := List.length_eq_zero_iff.1 (by omega)
            have T1 : In3w w (nn : Int) none 0 0 f (wc.alloc (.cells #[.int .i64 f.1, .int .i64 f.2, .int .i64 0, .bool tb] 58)).drew := (S7.up ((Below.refl _ _).alloc (Nat.le_refl _) _)).drew
            have X1 : Box4 (wc.alloc (.cells #[.int .i64 f.1, .int .i64 f.2, .int .i64 0, .bool tb] 58)).drew b3 ⟨f.1, f.2, 0, tb⟩ := hx7.out.up (((Below.refl _ _).alloc (Nat.le_refl _) _).drew)
            have T2b : Below wc.heap.size wc ((wc.alloc (.cells #[.int .i64 f.1, .int .i64 f.2, .int .i64 0, .bool tb] 58)).alloc (.cells #[.slice none 0 0, .slice (some ⟨wc.heap.size, 0, none⟩) 1 1, .slice none 0 0] 27)).drew := (((Below.refl _ _).alloc (Nat.le_refl _) _).alloc (by simp) _).drew
            have T2 := S7.up T2b
            have X2 := hx7.out.up T2b
            have HCc : Hid (Calls Tryz.prog 46 #[.slice (some ⟨wc.heap.size + 1, 0, none⟩) 3 3] ((wc.alloc (.cells #[.int .i64 f.1, .int .i64 f.2, .int .i64 0, .bool tb] 58)).alloc (.cells #[.slice none 0 0, .slice (some ⟨wc.heap.size, 0, none⟩) 1 1, .slice none 0 0] 27)).drew
                fun e v => ∃ a' m' c', e = .returned (.slice a' m' c') ∧ Hid (v.ownsRow (wc.heap.size + 2) 58 4 (.slice a' m' c') m' (lcells (putL ls ⟨f.1, f.2, 0, tb⟩))) ∧ In3w w (nn : Int) none 0 0 f v ∧ Box4 v b3 ⟨f.1, f.2, 0, tb⟩) := by
              have hE2 := HES.out.up T2b
              refine (ConcatL_any [⟨none, 0, 0, []⟩, ⟨some ⟨wc.heap.size, 0, none⟩, 1, 1, [⟨f.1, f.2, 0, tb⟩]⟩, ⟨none, 0, 0, []⟩] (wc.heap.size + 1) 3 rfl (by omega) _ ⟨by simp, fun j q hq => ?_⟩ (by simp [pLenL])).mono fun e v ⟨a', m', c', he, ho, hb⟩ => ⟨a', m', c', he, ?_, T2.up hb, X2.up hb⟩
              · rcases j with _ | _ | _ | j
                · simp at hq; subst hq
                  exact ⟨by simp [go_sem], ⟨rfl, .inl rfl⟩, fun _ => ⟨rfl, rfl⟩⟩
                · simp at hq; subst hq
                  refine ⟨by simp [go_sem], ?_, fun h => by cases h⟩
                  exact (Ls.single (w := wc) (x := ⟨f.1, f.2, 0, tb⟩) rfl).up (((Below.refl _ _).alloc (Nat.le_refl _) _).drew)
                · simp at hq; subst hq
                  exact ⟨by simp [go_sem], ⟨rfl, .inl rfl⟩, fun _ => ⟨rfl, rfl⟩⟩
                · simp at hq
              · have hp : pAllL [⟨none, 0, 0, []⟩, ⟨some ⟨wc.heap.size, 0, none⟩, 1, 1, [⟨f.1, f.2, 0, tb⟩]⟩, ⟨none, 0, 0, []⟩] = putL ls ⟨f.1, f.2, 0, tb⟩ := by rw [HP.out, e0]; simp [pAllL]
                rw [hp] at ho
                exact own_mono ho (by simp)
            clear hA HP
            go_upto_region 7 with fail
            go_region_held3 (fun u => (u.cell? ⟨w.heap.size, 0, none⟩ = some (.int .i64 (nn : Int)) ∧ u.cell? ⟨w.heap.size, 1, none⟩ = some (.slice none 0 0)) ∧ u.cell? ⟨b3, 0, none⟩ = some (.int .i64 f.1) ∧ u.cell? ⟨b3, 1, none⟩ = some (.int .i64 f.2) ∧ u.cell? ⟨b3, 2, none⟩ = some (.int .i64 0) ∧ u.cell? ⟨b3, 3, none⟩ = some (.bool tb))
              (first | with_reducible assumption | exact heldWset S8 X8 hb3 _ _ | exact heldW S8 X8 | exact heldW T2 X2 | exact heldW T1 X1 | exact heldW S7d X7d)
              ((go_at_call 46; refine HCc.out.mono ?_; rintro e w8 ⟨a', m', c', rfl, hown8, S8, X8⟩; obtain ⟨⟨r0, r1⟩, r2, r3⟩ := S8.out))
            all_goals
              go_wp2
              exact bodyPost_ret (v := .tuple #[.agg #[.int .i64 (nn : Int), .slice a' m' c'], .bool true]) (by simp [results, Tryz.results15, go_sem, r0, r1]) rfl (wans_yes S8 HW.out (by omega) hown8.out)
          · by_cases hck : c = k
            · obtain rfl : n = k := by omega
              subst hck
              have b1 : (0 : Int) ≤ (c : Int) := by omega
              have T1 : In3w w (nn : Int) (some ⟨ba, off, none⟩) c c f (wc.alloc (.cells #[.int .i64 f.1, .int .i64 f.2, .int .i64 0, .bool tb] 58)).drew := (S7.up ((Below.refl _ _).alloc (Nat.le_refl _) _)).drew
              have X1 : Box4 (wc.alloc (.cells #[.int .i64 f.1, .int .i64 f.2, .int .i64 0, .bool tb] 58)).drew b3 ⟨f.1, f.2, 0, tb⟩ := hx7.out.up (((Below.refl _ _).alloc (Nat.le_refl _) _).drew)
              have T2b : Below wc.heap.size wc ((wc.alloc (.cells #[.int .i64 f.1, .int .i64 f.2, .int .i64 0, .bool tb] 58)).alloc (.cells #[.slice (some ⟨ba, off, none⟩) c c, .slice (some ⟨wc.heap.size, 0, none⟩) 1 1, .slice (some ⟨ba, off, none⟩) 0 0] 27)).drew := (((Below.refl _ _).alloc (Nat.le_refl _) _).alloc (by simp) _).drew
              have T2 := S7.up T2b
              have X2 := hx7.out.up T2b
              have HCc : Hid (Calls Tryz.prog 46 #[.slice (some ⟨wc.heap.size + 1, 0, none⟩) 3 3] ((wc.alloc (.cells #[.int .i64 f.1, .int .i64 f.2, .int .i64 0, .bool tb] 58)).alloc (.cells #[.slice (some ⟨ba, off, none⟩) c c, .slice (some ⟨wc.heap.size, 0, none⟩) 1 1, .slice (some ⟨ba, off, none⟩) 0 0] 27)).drew
                  fun e v => ∃ a' m' c', e = .returned (.slice a' m' c') ∧ Hid (v.ownsRow (wc.heap.size + 2) 58 4 (.slice a' m' c') m' (lcells (putL ls ⟨f.1, f.2, 0, tb⟩))) ∧ In3w w (nn : Int) (some ⟨ba, off, none⟩) c c f v ∧ Box4 v b3 ⟨f.1, f.2, 0, tb⟩) := by
                have hE2 := HES.out.up T2b
                refine (ConcatL_any [⟨some ⟨ba, off, none⟩, c, c, ls.take c⟩, ⟨some ⟨wc.heap.size, 0, none⟩, 1, 1, [⟨f.1, f.2, 0, tb⟩]⟩, ⟨some ⟨ba, off, none⟩, 0, 0, ls.drop c⟩] (wc.heap.size + 1) 3 rfl (by omega) _ ⟨by simp, fun j q hq => ?_⟩ (by simp [pLenL]; omega)).mono fun e v ⟨a', m', c', he, ho, hb⟩ => ⟨a', m', c', he, ?_, T2.up hb, X2.up hb⟩
                · rcases j with _ | _ | _ | j
                  · simp at hq; subst hq
                    exact ⟨by simp [go_sem], hE2.take (Nat.le_refl _), fun h => by cases h⟩
                  · simp at hq; subst hq
                    refine ⟨by simp [go_sem], ?_, fun h => by cases h⟩
                    exact (Ls.single (w := wc) (x := ⟨f.1, f.2, 0, tb⟩) rfl).up (((Below.refl _ _).alloc (Nat.le_refl _) _).drew)
                  · simp at hq; subst hq
                    exact ⟨by simp [go_sem], ⟨by show (ls.drop c).length = 0; rw [List.length_drop]; omega, .inl rfl⟩, fun h => by cases h⟩
                  · simp at hq
                · have hp : pAllL [⟨some ⟨ba, off, none⟩, c, c, ls.take c⟩, ⟨some ⟨wc.heap.size, 0, none⟩, 1, 1, [⟨f.1, f.2, 0, tb⟩]⟩, ⟨some ⟨ba, off, none⟩, 0, 0, ls.drop c⟩] = putL ls ⟨f.1, f.2, 0, tb⟩ := by rw [HP.out]; simp [pAllL]
                  rw [hp] at ho
                  exact own_mono ho (by simp)
              clear hA HP
              go_upto_region 7 with fail
              go_region_held3 (fun u => (u.cell? ⟨w.heap.size, 0, none⟩ = some (.int .i64 (nn : Int)) ∧ u.cell? ⟨w.heap.size, 1, none⟩ = some (.slice (some ⟨ba, off, none⟩) c c)) ∧ u.cell? ⟨b3, 0, none⟩ = some (.int .i64 f.1) ∧ u.cell? ⟨b3, 1, none⟩ = some (.int .i64 f.2) ∧ u.cell? ⟨b3, 2, none⟩ = some (.int .i64 0) ∧ u.cell? ⟨b3, 3, none⟩ = some (.bool tb))
                (first | with_reducible assumption | exact heldWset S8 X8 hb3 _ _ | exact heldW S8 X8 | exact heldW T2 X2 | exact heldW T1 X1 | exact heldW S7d X7d)
                ((go_at_call 46; refine HCc.out.mono ?_; rintro e w8 ⟨a', m', c', rfl, hown8, S8, X8⟩; obtain ⟨⟨r0, r1⟩, r2, r3⟩ := S8.out))
              all_goals
                go_wp2
                exact bodyPost_ret (v := .tuple #[.agg #[.int .i64 (nn : Int), .slice a' m' c'], .bool true]) (by simp [results, Tryz.results15, go_sem, r0, r1]) rfl (wans_yes S8 HW.out (by omega) hown8.out)
            · have b1 : (0 : Int) ≤ (k : Int) := by omega
              have b2 : (k : Int) ≤ (n : Int) := by omega
              have b3' : (n : Int) ≤ (c : Int) := by omega
              have b4 : (k : Int) ≤ (c : Int) := by omega
              have hkn : k ≤ n := by omega
              have T1 : In3w w (nn : Int) (some ⟨ba, off, none⟩) n c f (wc.alloc (.cells #[.int .i64 f.1, .int .i64 f.2, .int .i64 0, .bool tb] 58)).drew := (S7.up ((Below.refl _ _).alloc (Nat.le_refl _) _)).drew
              have X1 : Box4 (wc.alloc (.cells #[.int .i64 f.1, .int .i64 f.2, .int .i64 0, .bool tb] 58)).drew b3 ⟨f.1, f.2, 0, tb⟩ := hx7.out.up (((Below.refl _ _).alloc (Nat.le_refl _) _).drew)
              have T2b : Below wc.heap.size wc ((wc.alloc (.cells #[.int .i64 f.1, .int .i64 f.2, .int .i64 0, .bool tb] 58)).alloc (.cells #[.slice (some ⟨ba, off, none⟩) k c, .slice (some ⟨wc.heap.size, 0, none⟩) 1 1, .slice (some ⟨ba, off + k * 4, none⟩) (n - k) (c - k)] 27)).drew := (((Below.refl _ _).alloc (Nat.le_refl _) _).alloc (by simp) _).drew
              have T2 := S7.up T2b
              have X2 := hx7.out.up T2b
              have HCc : Hid (Calls Tryz.prog 46 #[.slice (some ⟨wc.heap.size + 1, 0, none⟩) 3 3] ((wc.alloc (.cells #[.int .i64 f.1, .int .i64 f.2, .int .i64 0, .bool tb] 58)).alloc (.cells #[.slice (some ⟨ba, off, none⟩) k c, .slice (some ⟨wc.heap.size, 0, none⟩) 1 1, .slice (some ⟨ba, off + k * 4, none⟩) (n - k) (c - k)] 27)).drew
                  fun e v => ∃ a' m' c', e = .returned (.slice a' m' c') ∧ Hid (v.ownsRow (wc.heap.size + 2) 58 4 (.slice a' m' c') m' (lcells (putL ls ⟨f.1, f.2, 0, tb⟩))) ∧ In3w w (nn : Int) (some ⟨ba, off, none⟩) n c f v ∧ Box4 v b3 ⟨f.1, f.2, 0, tb⟩) := by
                have hE2 := HES.out.up T2b
                refine (ConcatL_any [⟨some ⟨ba, off, none⟩, k, c, ls.take k⟩, ⟨some ⟨wc.heap.size, 0, none⟩, 1, 1, [⟨f.1, f.2, 0, tb⟩]⟩, ⟨some ⟨ba, off + k * 4, none⟩, n - k, c - k, ls.drop k⟩] (wc.heap.size + 1) 3 rfl (by omega) _ ⟨by simp, fun j q hq => ?_⟩ (by simp [pLenL]; omega)).mono fun e v ⟨a', m', c', he, ho, hb⟩ => ⟨a', m', c', he, ?_, T2.up hb, X2.up hb⟩
                · rcases j with _ | _ | _ | j
                  · simp at hq; subst hq
                    exact ⟨by simp [go_sem], hE2.take hkn, fun h => by cases h⟩
                  · simp at hq; subst hq
                    refine ⟨by simp [go_sem], ?_, fun h => by cases h⟩
                    exact (Ls.single (w := wc) (x := ⟨f.1, f.2, 0, tb⟩) rfl).up (((Below.refl _ _).alloc (Nat.le_refl _) _).drew)
                  · simp at hq; subst hq
                    exact ⟨by simp [go_sem], hE2.drop k hkn, fun h => by cases h⟩
                  · simp at hq
                · have hp : pAllL [⟨some ⟨ba, off, none⟩, k, c, ls.take k⟩, ⟨some ⟨wc.heap.size, 0, none⟩, 1, 1, [⟨f.1, f.2, 0, tb⟩]⟩, ⟨some ⟨ba, off + k * 4, none⟩, n - k, c - k, ls.drop k⟩] = putL ls ⟨f.1, f.2, 0, tb⟩ := by rw [HP.out]; simp [pAllL]
                  rw [hp] at ho
                  exact own_mono ho (by simp)
              clear hA HP
              go_upto_region 7 with fail
              go_region_held3 (fun u => (u.cell? ⟨w.heap.size, 0, none⟩ = some (.int .i64 (nn : Int)) ∧ u.cell? ⟨w.heap.size, 1, none⟩ = some (.slice (some ⟨ba, off, none⟩) n c)) ∧ u.cell? ⟨b3, 0, none⟩ = some (.int .i64 f.1) ∧ u.cell? ⟨b3, 1, none⟩ = some (.int .i64 f.2) ∧ u.cell? ⟨b3, 2, none⟩ = some (.int .i64 0) ∧ u.cell? ⟨b3, 3, none⟩ = some (.bool tb))
                (first | with_reducible assumption | exact heldWset S8 X8 hb3 _ _ | exact heldW S8 X8 | exact heldW T2 X2 | exact heldW T1 X1 | exact heldW S7d X7d)
                ((go_at_call 46; refine HCc.out.mono ?_; rintro e w8 ⟨a', m', c', rfl, hown8, S8, X8⟩; obtain ⟨⟨r0, r1⟩, r2, r3⟩ := S8.out))
              all_goals
                go_wp2
                exact bodyPost_ret (v := .tuple #[.agg #[.int .i64 (nn : Int), .slice a' m' c'], .bool true]) (by simp [results, Tryz.results15, go_sem, r0, r1]) rfl (wans_yes S8 HW.out (by omega) hown8.out)
      · have HW := hideIt (waO_no (N := (nn : Int)) (ls := ls) (f := f) (fun h => hy h.2))
        have hO2 : O = none := by rw [← HO.out]; exact addE_no hW HW.out
        subst hO2
        simp only [Option.isSome_none] at hfl
        subst hfl
        clear hW hts hall hy HGr HAd hA HO Hls hsl hE2
        go_wp2_with (go_at_call 43; refine HG.out.mono ?_; rintro e w3 ⟨a3, m3, c3, rfl, hT3, hb3⟩; refine Hid.out ?_)
        refine (show ∀ {p : Prop}, p → Hid p from fun h => h) ?_
        have S3 := S2.up hb3
        have S3a := InW.alloc S3 (.cells #[.int .i64 (nn : Int), .slice a3 m3 c3] 61)
        obtain ⟨⟨r0, r1⟩, r2, r3⟩ := S3.out
        obtain ⟨⟨p0, p1⟩, p2, p3⟩ := S3a.out
        have s3 := S3.size
        have HA3 := hideIt (wans_no S3a HW.out)
        clear k0 k1 k2 k3 hT3 hb3 HG
        go_wp2
        exact bodyPost_ret (v := .tuple #[.agg #[.int .i64 0, .slice none 0 0], .bool false]) (by simp [results, Tryz.results15, go_sem, p0, p1]) rfl HA3.out
    · have HG := hideIt (groundOf_no N ls n a c hn hW _ (hA.out _ S2))
      have HW := hideIt (waO_no (N := N) (ls := ls) (f := f) (fun h => hW h.1))
      clear hW HGr HAd hA HO Hls hsl hE2
      cases fl with
      | false =>
        go_wp2_with (go_at_call 43; refine HG.out.mono ?_; rintro e w3 ⟨rfl, hb3⟩; refine Hid.out ?_)
        refine (show ∀ {p : Prop}, p → Hid p from fun h => h) ?_
        have S3 := S2.up hb3
        have S3a := InW.alloc S3 (.cells #[.int .i64 0, .slice none 0 0] 61)
        obtain ⟨⟨r0, r1⟩, r2, r3⟩ := S3.out
        obtain ⟨⟨p0, p1⟩, p2, p3⟩ := S3a.out
        have s3 := S3.size
        have HA3 := hideIt (wans_no S3a HW.out)
        clear k0 k1 k2 k3 hb3 HG
        go_wp2
        exact bodyPost_ret (v := .tuple #[.agg #[.int .i64 0, .slice none 0 0], .bool false]) (by simp [results, Tryz.results15, go_sem, p0, p1]) rfl HA3.out
      | true =>
        go_wp2_with (go_at_call 43; refine HG.out.mono ?_; rintro e w3 ⟨rfl, hb3⟩; refine Hid.out ?_)
        refine (show ∀ {p : Prop}, p → Hid p from fun h => h) ?_
        have S3 := S2.up hb3
        have S3a := InW.alloc S3 (.cells #[.int .i64 0, .slice none 0 0] 61)
        obtain ⟨⟨r0, r1⟩, r2, r3⟩ := S3.out
        obtain ⟨⟨p0, p1⟩, p2, p3⟩ := S3a.out
        have s3 := S3.size
        have HA3 := hideIt (wans_no S3a HW.out)
        clear k0 k1 k2 k3 hb3 HG
        go_wp2
        exact bodyPost_ret (v := .tuple #[.agg #[.int .i64 0, .slice none 0 0], .bool false]) (by simp [results, Tryz.results15, go_sem, p0, p1]) rfl HA3.out
end Go.Proofs.YtgjngaaibcmgmabGreat
namespace Go.Proofs.YtgjngaaibcmgmabGreat
open Go.RowKit

/-- a struct of a number and a list that is ours: its box and its list lie in blocks lo .. hi -/
structure PBox (u : World) (lo hi b : Nat) (t e s : Nat) (M : Int) (a : Option Addr) (m c : Nat) (xs : List Value) : Prop where
  box : Box7 u b t (.int .i64 M) (.slice a m c)
  own : u.ownsRow lo e s (.slice a m c) m xs
  least : lo ≤ b
  most : b < hi
  row : ∀ g, (Value.slice a m c).ownBlock = some g → g < hi
  there : hi ≤ u.heap.size
theorem PBox.rng {u v : World} {lo hi b l2 h2 t e s : Nat} {M : Int} {a : Option Addr} {m c : Nat} {xs : List Value} (h : PBox u lo hi b t e s M a m c xs) (hr : Rng l2 h2 u v) (ho : hi ≤ l2 ∨ h2 ≤ lo) : PBox v lo hi b t e s M a m c xs := by
  have hth := h.there
  have hb := h.least
  have hb' := h.most
  have g1 : ∀ k, lo ≤ k → k < hi → v.heap[k]? = u.heap[k]? := fun k h3 h4 => hr.block k (by omega) (by omega)
  refine ⟨?_, ?_, hb, hb', h.row, Nat.le_trans hth hr.size⟩
  · unfold Box7; rw [g1 b hb hb']; exact h.box
  · refine ⟨h.own.1, ?_⟩
    rcases h.own.2 with h3 | ⟨g, cap, cur, hv, hg, hcur, hrest⟩
    · exact .inl h3
    · refine .inr ⟨g, cap, cur, hv, hg, ?_, hrest⟩
      rw [g1 g hg (h.row g (by rw [hv]; rfl))]
      exact hcur
theorem PBox.up {u v : World} {lo hi b t e s : Nat} {M : Int} {a : Option Addr} {m c : Nat} {xs : List Value} (h : PBox u lo hi b t e s M a m c xs) (hb : Below u.heap.size u v) : PBox v lo hi b t e s M a m c xs :=
  h.rng (l2 := hi) (h2 := hi) (Rng.of_below hb) (.inl (Nat.le_refl _))
theorem PBox.cells {u : World} {lo hi b t e s : Nat} {M : Int} {a : Option Addr} {m c : Nat} {xs : List Value} (h : PBox u lo hi b t e s M a m c xs) : u.cell? ⟨b, 0, none⟩ = some (.int .i64 M) ∧ u.cell? ⟨b, 1, none⟩ = some (.slice a m c) := ⟨h.box.cell0, h.box.cell1⟩
theorem PBox.laid {u : World} {lo t e s : Nat} {M : Int} {a : Option Addr} {m c : Nat} {xs : List Value} (hl : lo ≤ u.heap.size) (ho : u.ownsRow lo e s (.slice a m c) m xs) :
    PBox (u.alloc (.cells #[.int .i64 M, .slice a m c] t)) lo (u.alloc (.cells #[.int .i64 M, .slice a m c] t)).heap.size u.heap.size t e s M a m c xs :=
  ⟨Box7.new _ _ _ _ _ rfl, ho.alloc _, hl, by simp, fun g hg => by have := (ho.lt g hg).2; simp; omega, Nat.le_refl _⟩
theorem PBox.ne {u : World} {lo hi b t e s : Nat} {M : Int} {a : Option Addr} {m c : Nat} {xs : List Value} (h : PBox u lo hi b t e s M a m c xs) (hte : t ≠ e) : ∀ g, (Value.slice a m c).ownBlock = some g → b ≠ g := fun g hg e2 => by
  rcases h.own.2 with ⟨h3, _⟩ | ⟨g2, cap, cur, hv, hg2, hcur, hrest⟩
  · simp at h3
    rw [h3.1] at hg
    simp [Value.ownBlock] at hg
  · simp only [Value.slice.injEq] at hv
    rw [hv.1] at hg
    simp [Value.ownBlock] at hg
    subst hg
    have hbx : u.heap[b]? = some (.cells #[.int .i64 M, .slice a m c] t (0, 0)) := h.box
    rw [e2, hcur] at hbx
    simp at hbx
    exact hte hbx.2.symm
/-- the list is turned, the box stays -/
theorem PBox.turned {u v : World} {lo hi b t e s : Nat} {M : Int} {a : Option Addr} {m c : Nat} {xs ys : List Value} (h : PBox u lo hi b t e s M a m c xs) (hte : t ≠ e) {g : Nat} (hg : (Value.slice a m c).ownBlock = some g) (ho : v.ownsRow lo e s (.slice a m c) m ys) (hgr : u.grownBy v (some g)) : PBox v lo hi b t e s M a m c ys ∧ Rng lo hi u v :=
  ⟨⟨h.box.grown hgr (by have := h.ne hte g hg; simpa using this), ho, h.least, h.most, h.row, Nat.le_trans h.there hgr.size⟩, Rng.of_grown hgr (h.own.lt g hg).1 (h.row g hg)⟩
/-- a web of lo .. is marked -/
theorem markWB {u : World} {lo hi b : Nat} {M : Int} {a : Option Addr} {m c : Nat} {ls : List Ld} (h : PBox u lo hi b 29 58 4 M a m c (lcells ls)) (k0 : Nat) (hm : m ≤ 1048576) (h1 : k0 ≤ 10000000) :
    Calls Tryz.prog 16 #[.agg #[.int .i64 M, .slice a m c], .int .i64 (k0 : Int)] u fun e v => e = .returned (.int .i64 ((k0 : Int) + (m : Int) * 4)) ∧ PBox v lo hi b 29 58 4 M a m c (lcells (lmarks k0 m)) ∧ Rng lo hi u v := by
  rcases h.own.2 with ⟨hv, hm0⟩ | ⟨g, cap, cur, hv, hg, hcur, hrest⟩
  · subst hm0
    refine (markWeb_zero M a c (k0 : Int) u).mono fun e v ⟨he, hb⟩ => ⟨by rw [he]; simp, ?_, Rng.of_below hb⟩
    have h2 := h.up hb
    have hl := h.own.1
    rw [lcells_length] at hl
    have hg0 : ls = [] := List.length_eq_zero_iff.1 (by omega)
    subst hg0
    exact h2
  · have hv' := hv
    simp at hv'
    obtain ⟨rfl, rfl⟩ := hv'
    refine (markWeb_any M lo g c m k0 ls hm h1 u h.own).mono fun e v ⟨he, ho, hgr⟩ => ?_
    obtain ⟨p1, p2⟩ := h.turned (by decide) (g := g) rfl ho hgr
    exact ⟨he, p1, p2⟩
theorem heldWB {u : World} {lo hi b : Nat} {M : Int} {a : Option Addr} {m c : Nat} (k0 : Nat) (h : PBox u lo hi b 29 58 4 M a m c (lcells (lmarks k0 m))) (hm : m ≤ 1048576) (h1 : k0 ≤ 10000000) :
    Calls Tryz.prog 17 #[.agg #[.int .i64 M, .slice a m c], .int .i64 (k0 : Int)] u fun e v => e = .returned (.int .i64 ((k0 : Int) + (m : Int) * 4)) ∧ Below u.heap.size u v :=
  heldWeb_any M m k0 a c hm h1 u (Ls_of_own h.own)
theorem eqWB {u : World} {lo hi b lo' hi' b' : Nat} {M : Int} {a a' : Option Addr} {m c m' c' : Nat} {ls : List Ld} (h : PBox u lo hi b 29 58 4 M a m c (lcells ls)) (h' : PBox u lo' hi' b' 29 58 4 M a' m' c' (lcells ls)) (hm : m ≤ 1048576) :
    Calls Tryz.prog 12 #[.agg #[.int .i64 M, .slice a m c], .agg #[.int .i64 M, .slice a' m' c']] u fun e v => e = .returned (.bool true) ∧ Below u.heap.size u v := by
  have h1 := h.own.1
  have h2 := h'.own.1
  rw [lcells_length] at h1 h2
  have e : m' = m := by omega
  subst e
  exact eqWeb_same M ls m' a a' c c' hm u (Ls_of_own h.own) (Ls_of_own h'.own)
/-- nothing of the law's own box has turned -/
def LWx (w : World) (N : Int) (a : Option Addr) (n c : Nat) : World := w.alloc (.cells #[.int .i64 N, .slice a n c] 24)
theorem LWx_size (w : World) (N : Int) (a : Option Addr) (n c : Nat) : (LWx w N a n c).heap.size = w.heap.size + 1 := by simp [LWx]
def LW (w : World) (N : Int) (a : Option Addr) (n c : Nat) (u : World) : Prop := Below (w.heap.size + 1) (LWx w N a n c) u
theorem LW.start (w : World) (N : Int) (a : Option Addr) (n c : Nat) : LW w N a n c (LWx w N a n c) := Below.refl _ _
theorem LW.size {w : World} {N : Int} {a : Option Addr} {n c : Nat} {u : World} (h : LW w N a n c u) : w.heap.size + 1 ≤ u.heap.size := by have := Below.size h; rw [LWx_size] at this; exact this
theorem LW.up {w : World} {N : Int} {a : Option Addr} {n c : Nat} {u v : World} (h : LW w N a n c u) (hb : Below u.heap.size u v) : LW w N a n c v := Below.trans h (hb.mono h.size)
theorem LW.rng {w : World} {N : Int} {a : Option Addr} {n c : Nat} {u v : World} {lo hi : Nat} (h : LW w N a n c u) (hr : Rng lo hi u v) (hl : w.heap.size + 1 ≤ lo) : LW w N a n c v := Below.trans h (hr.below hl h.size)
theorem LW.below {w : World} {N : Int} {a : Option Addr} {n c : Nat} {u : World} (h : LW w N a n c u) : Below w.heap.size w u :=
  ((Below.refl w.heap.size w).alloc (Nat.le_refl _) _).trans (Below.mono h (by omega))
theorem LW.ls {w : World} {N : Int} {a : Option Addr} {n c : Nat} {u : World} {ls : List Ld} (h : LW w N a n c u) (hf : Ls w w.heap.size a n ls) : Ls u u.heap.size a n ls := hf.up h.below
theorem LW.cells {w : World} {N : Int} {a : Option Addr} {n c : Nat} {u : World} (h : LW w N a n c u) : u.cell? ⟨w.heap.size, 0, none⟩ = some (.int .i64 N) ∧ u.cell? ⟨w.heap.size, 1, none⟩ = some (.slice a n c) := by
  refine ⟨?_, ?_⟩
  · rw [Below.cell h (by show w.heap.size < _; omega)]; simp [LWx]
  · rw [Below.cell h (by show w.heap.size < _; omega)]; simp [LWx]
end Go.Proofs.YtgjngaaibcmgmabGreat
namespace Go.Proofs.YtgjngaaibcmgmabGreat
open Go.RowKit

theorem PBox.len9 {u : World} {lo hi b : Nat} {M : Int} {a : Option Addr} {m c : Nat} {gs : List Ld} (h : PBox u lo hi b 29 58 4 M a m c (lcells gs)) : gs.length = m := by
  have := h.own.1
  rw [lcells_length] at this
  omega
/-- a struct that a call has made is laid into a box: the box came ahead of the call -/
theorem PBox.stored {u : World} {lo b t e s : Nat} {M : Int} {a : Option Addr} {m c : Nat} {xs : List Value} {v0 v1 : Value} (hte : t ≠ e) (bx : Box7 u b t v0 v1) (hl : lo ≤ b) (ho : u.ownsRow lo e s (.slice a m c) m xs) :
    PBox ((u.setCell ⟨b, 0, none⟩ (.int .i64 M)).setCell ⟨b, 1, none⟩ (.slice a m c)) lo ((u.setCell ⟨b, 0, none⟩ (.int .i64 M)).setCell ⟨b, 1, none⟩ (.slice a m c)).heap.size b t e s M a m c xs := by
  have ho' := own_kinds (j := 1) (x := .slice a m c) (own_kinds (j := 0) (x := .int .i64 M) ho bx hte) (show (u.setCell ⟨b, 0, none⟩ (.int .i64 M)).heap[b]? = some (.cells #[.int .i64 M, v1] t (0, 0)) by rw [heap_setCell_same u b 0 _ _ _ bx]; rfl) hte
  have hb' := bx.set2 (.int .i64 M) (.slice a m c)
  exact ⟨hb', ho', hl, hb'.lt, fun g hg => (ho'.lt g hg).2, Nat.le_refl _⟩
theorem Good.set9 {w u : World} (h : Good w u) (b j : Nat) (v : Value) (hb : w.heap.size ≤ b) : Good w (u.setCell ⟨b, j, none⟩ v) := Below.setCell h (p := ⟨b, j, none⟩) hb v
theorem toWeb_G (N : Int) (ls : List Ld) (n : Nat) (a : Option Addr) (c : Nat) (hn : n ≤ 1048576) {u0 u : World} (hf : Ls u0 u0.heap.size a n ls) (h : Good u0 u) :
    Calls Tryz.prog 10 #[.agg #[.int .i64 N, .slice a n c]] u fun e v => ∃ g, e = .returned (.agg #[.int .i64 N, .slice (some ⟨g, 0, none⟩) n n]) ∧ v.ownsRow u0.heap.size 58 4 (.slice (some ⟨g, 0, none⟩) n n) n (lcells ls) ∧ Good u0 v ∧ Below u.heap.size u v :=
  (toWeb_any N ls n a c hn u (hf.up h)).mono fun _ _ ⟨g, he, ho, hb⟩ => ⟨g, he, own_mono ho h.size, h.up hb, hb⟩
theorem toEdge9_any (f : EdgeV) (w : World) :
    Calls Tryz.prog 14 #[.agg #[.int .i64 f.1, .int .i64 f.2]] w fun e w' => e = .returned (.agg #[.int .i64 f.1, .int .i64 f.2]) ∧ Below w.heap.size w w' := by
  go_enter Tryz.func14, Tryz.ntmps14
  go_wp2
  exact bodyPost_ret (v := .agg #[.int .i64 f.1, .int .i64 f.2]) (by simp [results, Tryz.results14, go_sem]) rfl ⟨rfl, (((Below.refl _ _).alloc (Nat.le_refl _) _).alloc (by simp) _).alloc (by simp; omega) _⟩
theorem toEdge_G9 (x : EdgeV) {u0 u : World} (h : Good u0 u) {B m cc : Nat} {aa : Option Addr} {ds : List Ld} (ho : u.ownsRow B 58 4 (.slice aa m cc) m (lcells ds)) :
    Calls Tryz.prog 14 #[.agg #[.int .i64 x.1, .int .i64 x.2]] u fun e v => e = .returned (.agg #[.int .i64 x.1, .int .i64 x.2]) ∧ v.ownsRow B 58 4 (.slice aa m cc) m (lcells ds) ∧ Good u0 v ∧ Below u.heap.size u v :=
  (toEdge9_any x u).mono fun _ _ ⟨he, hb⟩ => ⟨he, own_up ho hb, h.up hb, hb⟩
/-- what is asked of either side -/
theorem ans_G9 {F : Nat} {N : Int} {ls : List Ld} {n : Nat} {x : EdgeV} {o : Option (List Ld)}
    (H : ∀ (g : Nat) (w : World) (_ : Ls w w.heap.size (some ⟨g, 0, none⟩) n ls), Calls Tryz.prog F #[.agg #[.int .i64 N, .slice (some ⟨g, 0, none⟩) n n], .agg #[.int .i64 x.1, .int .i64 x.2]] w (WAns w N o))
    {u0 u : World} (h : Good u0 u) {B g : Nat} (ho : u.ownsRow B 58 4 (.slice (some ⟨g, 0, none⟩) n n) n (lcells ls)) :
    Calls Tryz.prog F #[.agg #[.int .i64 N, .slice (some ⟨g, 0, none⟩) n n], .agg #[.int .i64 x.1, .int .i64 x.2]] u fun e v => ∃ aw mw cw, e = .returned (.tuple #[.agg #[.int .i64 (if o.isSome then N else 0), .slice aw mw cw], .bool o.isSome]) ∧ v.ownsRow u0.heap.size 58 4 (.slice aw mw cw) mw (lcells (o.getD [])) ∧ Good u0 v ∧ Below u.heap.size u v :=
  (H g u (Ls_of_own ho)).mono fun _ _ ⟨aw, mw, cw, he, hw, hb⟩ => ⟨aw, mw, cw, he, own_mono hw h.size, h.up hb, hb⟩
def FitE9 (f : EdgeV) : Prop := (Lit.int .i64 f.1).wf = true ∧ (Lit.int .i64 f.2).wf = true
/-- the world behind the law's two boxes -/
def lw9 (w : World) (N : Int) (a : Option Addr) (n c : Nat) (x : EdgeV) : World := (w.alloc (.cells #[.int .i64 N, .slice a n c] 24)).alloc (.cells #[.int .i64 x.1, .int .i64 x.2] 34)
theorem lw9_size (w : World) (N : Int) (a : Option Addr) (n c : Nat) (x : EdgeV) : (lw9 w N a n c x).heap.size = w.heap.size + 2 := by simp [lw9]
/-- nothing of these has turned -/
def LG9 (w : World) (N : Int) (a : Option Addr) (n c : Nat) (x : EdgeV) (u : World) : Prop := Below (w.heap.size + 2) (lw9 w N a n c x) u
theorem LG9.start (w : World) (N : Int) (a : Option Addr) (n c : Nat) (x : EdgeV) : LG9 w N a n c x (lw9 w N a n c x) := Below.refl _ _
theorem LG9.size {w : World} {N : Int} {a : Option Addr} {n c : Nat} {x : EdgeV} {u : World} (h : LG9 w N a n c x u) : w.heap.size + 2 ≤ u.heap.size := by have := Below.size h; rw [lw9_size] at this; exact this
theorem LG9.up {w : World} {N : Int} {a : Option Addr} {n c : Nat} {x : EdgeV} {u v : World} (h : LG9 w N a n c x u) (hb : Below u.heap.size u v) : LG9 w N a n c x v := Below.trans h (hb.mono h.size)
theorem LG9.good {w : World} {N : Int} {a : Option Addr} {n c : Nat} {x : EdgeV} {u v : World} (h : LG9 w N a n c x u) (hb : Good u v) : LG9 w N a n c x v := h.up hb
theorem LG9.rng {w : World} {N : Int} {a : Option Addr} {n c : Nat} {x : EdgeV} {u v : World} {lo hi : Nat} (h : LG9 w N a n c x u) (hr : Rng lo hi u v) (hl : w.heap.size + 2 ≤ lo) : LG9 w N a n c x v := Below.trans h (hr.below hl h.size)
theorem LG9.below {w : World} {N : Int} {a : Option Addr} {n c : Nat} {x : EdgeV} {u : World} (h : LG9 w N a n c x u) : Below w.heap.size w u :=
  (((Below.refl w.heap.size w).alloc (Nat.le_refl _) _).alloc (by simp) _).trans (Below.mono h (by omega))
theorem LG9.ls {w : World} {N : Int} {a : Option Addr} {n c : Nat} {x : EdgeV} {u : World} {fs : List Ld} (h : LG9 w N a n c x u) (hf : Ls w w.heap.size a n fs) : Ls u u.heap.size a n fs := hf.up h.below
theorem LG9.cells {w : World} {N : Int} {a : Option Addr} {n c : Nat} {x : EdgeV} {u : World} (h : LG9 w N a n c x u) :
    (u.cell? ⟨w.heap.size, 0, none⟩ = some (.int .i64 N) ∧ u.cell? ⟨w.heap.size, 1, none⟩ = some (.slice a n c)) ∧ u.cell? ⟨w.heap.size + 1, 0, none⟩ = some (.int .i64 x.1) ∧ u.cell? ⟨w.heap.size + 1, 1, none⟩ = some (.int .i64 x.2) := by
  refine ⟨⟨?_, ?_⟩, ?_, ?_⟩
  · rw [Below.cell h (by show w.heap.size < _; omega)]; simp [lw9, go_sem]
  · rw [Below.cell h (by show w.heap.size < _; omega)]; simp [lw9, go_sem]
  · rw [Below.cell h (by show w.heap.size + 1 < _; omega)]; simp [lw9, go_sem]
  · rw [Below.cell h (by show w.heap.size + 1 < _; omega)]; simp [lw9, go_sem]
end Go.Proofs.YtgjngaaibcmgmabGreat
namespace Go.Proofs.YtgjngaaibcmgmabGreat
open Go.RowKit

theorem waO_len {N : Int} {fs : List Ld} {x : EdgeV} : ((waO N fs x).getD []).length ≤ 200 := by
  by_cases h : WOk N fs ∧ eB N x = true ∧ hasB (gE fs) x = false
  · rw [waO_yes h.1 h.2.1 h.2.2]
    have h1 := (gB_chk h.1.1).2.2
    rw [gE_len] at h1
    have h2 := List.length_filter_le (fun d : Ld => lt d.e (cmL N fs x).e) fs
    have h3 := List.length_filter_le (fun d : Ld => lt (cmL N fs x).e d.e) fs
    simp only [Option.getD_some, putL, List.length_append, List.length_cons, List.length_nil]
    omega
  · rw [waO_no h]
    simp
set_option maxRecDepth 100000 in
set_option maxHeartbeats 8000000 in
theorem fnExactWebAdd.walk (N : Int) (_hN : (Lit.int .i64 N).wf = true) (fs : List Ld) (n : Nat) (a : Option Addr) (c : Nat) (hn : n ≤ maxLen) (x : EdgeV) (_hx : FitE9 x) (w : World) (h : Ls w w.heap.size a n fs) :
    Calls Tryz.prog 4 #[.agg #[.int .i64 N, .slice a n c], .agg #[.int .i64 x.1, .int .i64 x.2]] w fun e w' => e = .returned (.bool true) ∧ Below w.heap.size w w' := by
  have HS := hideIt (szWeb_any N n a c hn (lw9 w N a n c x))
  have HF := hideIt h
  have HB := hideIt (LG9.start w N a n c x).below
  clear h
  by_cases hn1 : n ≤ 1048576
  · have e1 : szw n = 1048576 - (n : Int) := by unfold szw; rw [if_pos hn1]
    rw [e1] at HS
    clear e1
    have d1 : decide (1048576 - (n : Int) < 0) = false := decide_eq_false (by omega)
    have hgl := waO_len (N := N) (fs := fs) (x := x)
    have hsl : ∀ g, Sl (some ⟨g, 0, none⟩) n n := fun g => ⟨Nat.le_refl _, hn, .inr ⟨g, 0, rfl⟩⟩
    have HDs := hideIt (fun u0 u (hu : Good u0 u) B g ho => ans_G9 (fun g w h => sWebAdd_any N fs x n (some ⟨g, 0, none⟩) n hn1 w h) hu (B := B) (g := g) ho)
    have HDi := hideIt (fun u0 u (hu : Good u0 u) B g ho => ans_G9 (fun g w h => iWebAdd_any N fs x n (some ⟨g, 0, none⟩) n (hsl g) hn1 w h) hu (B := B) (g := g) ho)
    have HA := hideIt (fun u0 u (hu : Good u0 u) B m cc aa ds ho => toEdge_G9 x hu (B := B) (m := m) (cc := cc) (aa := aa) (ds := ds) ho)
    generalize (if (waO N fs x).isSome then N else 0) = M at *
    generalize (waO N fs x).isSome = fl at *
    generalize (waO N fs x).getD [] = gs at *
    have hff : (fl != fl) = false := by simp
    clear hsl
    go_enter Tryz.func4, Tryz.ntmps4
    go_wp2_with (go_at_call 8; refine (show Calls Tryz.prog 8 _ (lw9 w N a n c x) _ from HS.out).mono ?_; rintro e w2 ⟨rfl, hb1⟩; refine Hid.out ?_)
    refine (show ∀ {p : Prop}, p → Hid p from fun h => h) ?_
    have L2 : LG9 w N a n c x w2 := (LG9.start w N a n c x).up hb1
    clear hb1 HS
    obtain ⟨⟨c0, c1⟩, c2, c3⟩ := L2.cells
    have HC := hideIt (fun u (hu : Good w2 u) => And.intro (L2.good hu).cells hu)
    have hS2 := HC.out _ (Good.refl w2).drew
    have zz := L2.size
    go_upto_region 5 with fail
    go_cut [6, 7] (fun p ok wx => ∃ b aw mw cw, p = .pointer (some ⟨b, 0, none⟩) ∧ ok = .bool fl ∧ Good w2 wx ∧ PBox wx w2.heap.size wx.heap.size b 29 58 4 M aw mw cw (lcells gs))
    case first =>
      have HT := hideIt (fun u (hu : Good w2 u) => toWeb_G N fs n a c hn1 (L2.ls HF.out) hu)
      go_region_held3 (fun u => ((u.cell? ⟨w.heap.size, 0, none⟩ = some (.int .i64 N) ∧ u.cell? ⟨w.heap.size, 1, none⟩ = some (.slice a n c)) ∧ u.cell? ⟨w.heap.size + 1, 0, none⟩ = some (.int .i64 x.1) ∧ u.cell? ⟨w.heap.size + 1, 1, none⟩ = some (.int .i64 x.2)) ∧ Good w2 u)
        (first | assumption | exact HC.out _ (Good.alloc (And.right (by assumption)) _) | exact HC.out _ (Good.set9 (Good.set9 (And.right (by assumption)) _ _ _ (by omega)) _ _ _ (by omega)))
        (first
          | (go_at_call 10; refine (HT.out _ (And.right (by assumption))).mono ?_; rintro e w3 ⟨g3, rfl, ho3, hg3, hk3⟩; have hS3 := HC.out _ hg3; have z3 := hg3.size; try (have bx := Box7.up (Box7.new w2.drew 29 (.int .i64 0) (.slice none 0 0) w2.heap.size rfl) hk3))
          | (go_at_call 14; refine (HA.out w2 _ (And.right (by assumption)) _ _ _ _ _ (by first | assumption | exact World.ownsRow.alloc (by assumption) _)).mono ?_; rintro e w4 ⟨rfl, ho4, hg4, hk4⟩; have hS4 := HC.out _ hg4; have z4 := hg4.size; first | have bx := Box7.up bx hk4 | have bx := Box7.up (Box7.new w3 29 (.int .i64 0) (.slice none 0 0) w3.heap.size rfl) hk4 | skip)
          | (go_at_call 13; refine (HDs.out w2 _ (And.right (by assumption)) _ _ (by first | assumption | exact World.ownsRow.alloc (by assumption) _)).mono ?_; rintro e w5 ⟨aw, mw, cw, rfl, ho5, hg5, hk5⟩; have hS5 := HC.out _ hg5; have z5 := hg5.size; (first | have bx := Box7.up bx hk5 | have bx := Box7.up (Box7.new w4 29 (.int .i64 0) (.slice none 0 0) w4.heap.size rfl) hk5 | skip); try (have bc0 := bx.cell0; have bc1 := bx.cell1; have bz0 := bx.frozen 0; have bz1 := bx.frozen 1)))
      all_goals
        go_wp2_with fail
        go_meet
        first
          | exact ⟨_, aw, mw, cw, rfl, rfl, Good.set9 (Good.set9 hg5 _ _ _ (by omega)) _ _ _ (by omega), PBox.stored (by decide) bx (by omega) ho5⟩
          | exact ⟨_, aw, mw, cw, rfl, rfl, Good.alloc hg5 _, PBox.laid (by omega) ho5⟩
    case rest =>
      obtain ⟨b, aw, mw, cw, rfl, rfl, G3, DW⟩ := hcut
      have L3 := L2.good G3
      have z3 := L3.size
      clear c0 c1 c2 c3 HC hS2
      obtain ⟨⟨c0, c1⟩, c2, c3⟩ := L3.cells
      have HT3 := hideIt (toWeb_G N fs n a c hn1 (L3.ls HF.out) (Good.refl wc))
      go_wp2_with (go_at_call 10; refine HT3.out.mono ?_; rintro e w4 ⟨g4, rfl, ho4, hg4, _⟩; refine Hid.out ?_)
      refine (show ∀ {p : Prop}, p → Hid p from fun h => h) ?_
      clear HT3 c0 c1 c2 c3
      go_upto_region 7 with fail
      have hz4 := hg4.size
      have DX := PBox.laid (t := 29) (M := N) (lo := wc.heap.size) hz4 ho4
      have G4 := hg4.alloc (.cells #[.int .i64 N, .slice (some ⟨g4, 0, none⟩) n n] 29)
      have L4 := L3.good G4
      have DW4 := DW.up G4
      have hC0 : w.heap.size + 2 ≤ w2.heap.size := zz
      have hC1 : w2.heap.size ≤ wc.heap.size := G3.size
      clear ho4 hg4 DW G3 L3 z3 hz4
      obtain ⟨u1, bX, C1, e1, e2, e3⟩ : ∃ u1 bX C1, u1 = w4.alloc (.cells #[.int .i64 N, .slice (some ⟨g4, 0, none⟩) n n] 29) ∧ bX = w4.heap.size ∧ C1 = wc.heap.size := ⟨_, _, _, rfl, rfl, rfl⟩
      rw [← e1] at DX L4 DW4 G4 ⊢
      rw [← e2] at DX ⊢
      rw [← e3] at DX DW4 hC1
      clear e1 e2 e3 G4
      have z4 := L4.size
      have HC4 := hideIt (fun u (hu : Good u1 u) => And.intro (And.intro (DX.up hu).cells (L4.good hu).cells.2) hu)
      have hS4 := HC4.out _ (Good.refl u1).drew
      have hox := DX.own.drew
      have o1 := DX.cells.1
      have o2 := DX.cells.2
      go_cut [9, 10] (fun p ok wx => ∃ b2 ag mg cg, p = .pointer (some ⟨b2, 0, none⟩) ∧ ok = .bool fl ∧ Good u1 wx ∧ PBox wx u1.heap.size wx.heap.size b2 29 58 4 M ag mg cg (lcells gs))
      case first =>
        go_region_held3 (fun u => ((u.cell? ⟨bX, 0, none⟩ = some (.int .i64 N) ∧ u.cell? ⟨bX, 1, none⟩ = some (.slice (some ⟨g4, 0, none⟩) n n)) ∧ u.cell? ⟨w.heap.size + 1, 0, none⟩ = some (.int .i64 x.1) ∧ u.cell? ⟨w.heap.size + 1, 1, none⟩ = some (.int .i64 x.2)) ∧ Good u1 u)
          (first | assumption | exact HC4.out _ (Good.alloc (And.right (by assumption)) _) | exact HC4.out _ (Good.set9 (Good.set9 (And.right (by assumption)) _ _ _ (by omega)) _ _ _ (by omega)))
          (first
            | (go_at_call 14; refine (HA.out u1 _ (And.right (by assumption)) C1 n n (some ⟨g4, 0, none⟩) fs (by first | assumption | exact World.ownsRow.alloc (by assumption) _)).mono ?_; rintro e w5 ⟨rfl, ho5, hg5, hk5⟩; have hS5 := HC4.out _ hg5; have z5 := hg5.size; first | have bx := Box7.up (Box7.new u1.drew 29 (.int .i64 0) (.slice none 0 0) u1.heap.size rfl) hk5 | skip)
            | (go_at_call 15; refine (HDi.out u1 _ (And.right (by assumption)) C1 g4 (by first | assumption | exact World.ownsRow.alloc (by assumption) _)).mono ?_; rintro e w6 ⟨ag, mg, cg, rfl, ho6, hg6, hk6⟩; have hS6 := HC4.out _ hg6; have z6 := hg6.size; (first | have bx := Box7.up bx hk6 | have bx := Box7.up (Box7.new w5 29 (.int .i64 0) (.slice none 0 0) w5.heap.size rfl) hk6 | skip); try (have bc0 := bx.cell0; have bc1 := bx.cell1; have bz0 := bx.frozen 0; have bz1 := bx.frozen 1)))
        all_goals
          go_wp2_with fail
          go_meet
          first
            | exact ⟨_, ag, mg, cg, rfl, rfl, Good.set9 (Good.set9 hg6 _ _ _ (by omega)) _ _ _ (by omega), PBox.stored (by decide) bx (by omega) ho6⟩
            | exact ⟨_, ag, mg, cg, rfl, rfl, Good.alloc hg6 _, PBox.laid (by omega) ho6⟩
      case rest =>
        obtain ⟨b2, ag, mg, cg, rfl, rfl, G5, DG⟩ := hcut
        have L5 := L4.good G5
        have DW5 := DW4.up G5
        have DX5 := DX.up G5
        have hC2 : C1 ≤ u1.heap.size := by have := DX.least; have := DX.most; omega
        have hmg : mg ≤ 200 := by rw [← DG.len9]; exact hgl
        have hmw : mw ≤ 200 := by rw [← DW5.len9]; exact hgl
        clear HC4 hS4 hox o1 o2 DX DW4
        have q0 := DG.cells.1
        have q1 := DW5.cells.1
        have q2 := DG.cells.2
        have q3 := DW5.cells.2
        have HE5 := hideIt (eqWB DG DW5 (by omega))
        go_wp2_with (go_at_call 12; refine HE5.out.mono ?_; rintro e w6 ⟨rfl, hb6⟩; refine Hid.out ?_)
        refine (show ∀ {p : Prop}, p → Hid p from fun h => h) ?_
        have L6 := L5.up hb6
        have DW6 := DW5.up hb6
        have DX6 := DX5.up hb6
        have DG6 := DG.up hb6
        have hz6 := hb6.size
        clear HE5 hb6 q0 q1 q2 q3 DG DW5 DX5 L5
        have HC6 := hideIt (fun u (hu : Good w6 u) => And.intro (And.intro (DX6.up hu).cells (L6.good hu).cells.1) hu)
        have hS6 := HC6.out _ (Good.refl w6).drew
        have HT6 := hideIt (fun u (hu : Good w6 u) => toWeb_G N fs n a c hn1 (L6.ls HF.out) hu)
        have HX6 := hideIt (fun u (hu : Good w6 u) => Ls_of_own (DX6.up hu).own)
        go_upto_region 10 with fail
        go_region_held3 (fun u => ((u.cell? ⟨bX, 0, none⟩ = some (.int .i64 N) ∧ u.cell? ⟨bX, 1, none⟩ = some (.slice (some ⟨g4, 0, none⟩) n n)) ∧ u.cell? ⟨w.heap.size, 0, none⟩ = some (.int .i64 N) ∧ u.cell? ⟨w.heap.size, 1, none⟩ = some (.slice a n c)) ∧ Good w6 u)
          (first | assumption)
          (first
            | (go_at_call 10; refine (HT6.out _ (And.right (by assumption))).mono ?_; rintro e w7 ⟨g7, rfl, ho7, hg7, _⟩; have hS7 := HC6.out _ hg7)
            | (go_at_call 12; refine (eqWeb_same N fs n _ _ _ _ hn1 _ (HX6.out _ hg7) (Ls_of_own ho7)).mono ?_; rintro e w8 ⟨rfl, hb8⟩; have hg8 := hg7.up hb8; have hS8 := HC6.out _ hg8))
        have L8 := L6.good hg8
        have DW8 := DW6.up hg8
        have DX8 := DX6.up hg8
        have DG8 := DG6.up hg8
        have hz8 := hg8.size
        clear HC6 hS6 HT6 HX6 hS7 hS8 hg7 ho7 hb8 L6 DW6 DX6 DG6
        have q2 := DX8.cells.1
        have q3 := DX8.cells.2
        have HM8 := hideIt (markWB DX8 1 hn1 (by omega))
        go_wp2_with (go_at_call 16; refine HM8.out.mono ?_; rintro e w9 ⟨rfl, hDX9, hr9⟩; refine Hid.out ?_)
        refine (show ∀ {p : Prop}, p → Hid p from fun h => h) ?_
        have L9 := L8.rng hr9 (by omega)
        have DW9 := DW8.rng hr9 (.inl (Nat.le_refl _))
        have DG9 := DG8.rng hr9 (.inr (Nat.le_refl _))
        clear HM8 q2 q3 L8 DW8 DX8 DG8 hr9 hDX9
        have d3 : decide ((1 : Int) + (n : Int) * 4 < 0) = false := decide_eq_false (by omega)
        have q0 := DG9.cells.1
        have q1 := DW9.cells.1
        have q2 := DG9.cells.2
        have q3 := DW9.cells.2
        have HE9 := hideIt (eqWB DG9 DW9 (by omega))
        go_wp2_with (go_at_call 12; refine HE9.out.mono ?_; rintro e w10 ⟨rfl, hb10⟩; refine Hid.out ?_)
        refine (show ∀ {p : Prop}, p → Hid p from fun h => h) ?_
        have L10 := L9.up hb10
        have DW10 := DW9.up hb10
        have DG10 := DG9.up hb10
        clear HE9 hb10 q0 q1 q2 q3 L9 DW9 DG9
        have q0 := DG10.cells.1
        have q1 := DG10.cells.2
        have HM10 := hideIt (markWB DG10 1 (by omega) (by omega))
        go_wp2_with (go_at_call 16; refine HM10.out.mono ?_; rintro e w11 ⟨rfl, DG11, hr11⟩; refine Hid.out ?_)
        refine (show ∀ {p : Prop}, p → Hid p from fun h => h) ?_
        have L11 := L10.rng hr11 (by omega)
        have DW11 := DW10.rng hr11 (.inl (by omega))
        clear HM10 q0 q1 L10 DW10 DG10 hr11
        have q0 := DG11.cells.1
        have q1 := DG11.cells.2
        have HH11 := hideIt (heldWB 1 DG11 (by omega) (by omega))
        have d4 : decide ((1 : Int) + (mg : Int) * 4 < 0) = false := decide_eq_false (by omega)
        have d5 : ((1 : Int) + (mg : Int) * 4 != (1 : Int) + (mg : Int) * 4) = false := by simp
        go_wp2_with (go_at_call 17; refine HH11.out.mono ?_; rintro e w12 ⟨rfl, hb12⟩; refine Hid.out ?_)
        refine (show ∀ {p : Prop}, p → Hid p from fun h => h) ?_
        have L12 := L11.up hb12
        have DW12 := DW11.up hb12
        have DG12 := DG11.up hb12
        clear HH11 hb12 q0 q1 L11 DW11 DG11
        have HC12 := hideIt (fun u (hu : Good w12 u) => And.intro (L12.good hu).cells hu)
        have hS12 := HC12.out _ (Good.refl w12).drew
        have zz12 := L12.size
        obtain ⟨⟨c0, c1⟩, c2, c3⟩ := L12.cells
        go_upto_region 24 with fail
        go_cut [14, 15] (fun p ok wx => ∃ b3 ah mh ch, p = .pointer (some ⟨b3, 0, none⟩) ∧ ok = .bool fl ∧ Good w12 wx ∧ PBox wx w12.heap.size wx.heap.size b3 29 58 4 M ah mh ch (lcells gs))
        case first =>
          have HT := hideIt (fun u (hu : Good w12 u) => toWeb_G N fs n a c hn1 (L12.ls HF.out) hu)
          go_region_held3 (fun u => ((u.cell? ⟨w.heap.size, 0, none⟩ = some (.int .i64 N) ∧ u.cell? ⟨w.heap.size, 1, none⟩ = some (.slice a n c)) ∧ u.cell? ⟨w.heap.size + 1, 0, none⟩ = some (.int .i64 x.1) ∧ u.cell? ⟨w.heap.size + 1, 1, none⟩ = some (.int .i64 x.2)) ∧ Good w12 u)
            (first | assumption | exact HC12.out _ (Good.alloc (And.right (by assumption)) _) | exact HC12.out _ (Good.set9 (Good.set9 (And.right (by assumption)) _ _ _ (by omega)) _ _ _ (by omega)))
            (first
              | (go_at_call 10; refine (HT.out _ (And.right (by assumption))).mono ?_; rintro e w3 ⟨g3, rfl, ho3, hg3, hk3⟩; have hS3 := HC12.out _ hg3; have z3 := hg3.size; try (have bx := Box7.up (Box7.new w12.drew 29 (.int .i64 0) (.slice none 0 0) w12.heap.size rfl) hk3))
              | (go_at_call 14; refine (HA.out w12 _ (And.right (by assumption)) _ _ _ _ _ (by first | assumption | exact World.ownsRow.alloc (by assumption) _)).mono ?_; rintro e w4 ⟨rfl, ho4, hg4, hk4⟩; have hS4 := HC12.out _ hg4; have z4 := hg4.size; first | have bx := Box7.up bx hk4 | have bx := Box7.up (Box7.new w3 29 (.int .i64 0) (.slice none 0 0) w3.heap.size rfl) hk4 | skip)
              | (go_at_call 15; refine (HDi.out w12 _ (And.right (by assumption)) _ _ (by first | assumption | exact World.ownsRow.alloc (by assumption) _)).mono ?_; rintro e w5 ⟨ah, mh, ch, rfl, ho5, hg5, hk5⟩; have hS5 := HC12.out _ hg5; have z5 := hg5.size; (first | have bx := Box7.up bx hk5 | have bx := Box7.up (Box7.new w4 29 (.int .i64 0) (.slice none 0 0) w4.heap.size rfl) hk5 | skip); try (have bc0 := bx.cell0; have bc1 := bx.cell1; have bz0 := bx.frozen 0; have bz1 := bx.frozen 1)))
          all_goals
            go_wp2_with fail
            go_meet
            first
              | exact ⟨_, ah, mh, ch, rfl, rfl, Good.set9 (Good.set9 hg5 _ _ _ (by omega)) _ _ _ (by omega), PBox.stored (by decide) bx (by omega) ho5⟩
              | exact ⟨_, ah, mh, ch, rfl, rfl, Good.alloc hg5 _, PBox.laid (by omega) ho5⟩
        case rest =>
          obtain ⟨b3, ah, mh, ch, rfl, rfl, G13, DH⟩ := hcut
          have L13 := L12.good G13
          have DW13 := DW12.up G13
          have DG13 := DG12.up G13
          have hmh : mh ≤ 200 := by rw [← DH.len9]; exact hgl
          clear c0 c1 c2 c3 HC12 hS12 L12 DW12 DG12
          have q0 := DH.cells.1
          have q1 := DW13.cells.1
          have q2 := DH.cells.2
          have q3 := DW13.cells.2
          have HE13 := hideIt (eqWB DH DW13 (by omega))
          go_wp2_with (go_at_call 12; refine HE13.out.mono ?_; rintro e w14 ⟨rfl, hb14⟩; refine Hid.out ?_)
          refine (show ∀ {p : Prop}, p → Hid p from fun h => h) ?_
          have L14 := L13.up hb14
          have DG14 := DG13.up hb14
          clear HE13 hb14 q0 q1 q2 q3 L13 DW13 DG13
          have q0 := DG14.cells.1
          have q1 := DG14.cells.2
          have HH14 := hideIt (heldWB 1 DG14 (by omega) (by omega))
          go_wp2_with (go_at_call 17; refine HH14.out.mono ?_; rintro e w15 ⟨rfl, hb15⟩)
          go_ret
          exact ⟨rfl, (L14.up hb15).below⟩
  · have e1 : szw n = -1 := by unfold szw; rw [if_neg hn1]
    rw [e1] at HS
    clear e1
    go_enter Tryz.func4, Tryz.ntmps4
    go_wp2_with (go_at_call 8; refine (show Calls Tryz.prog 8 _ (lw9 w N a n c x) _ from HS.out).mono ?_; rintro e w1 ⟨rfl, hb1⟩)
    go_ret
    exact ⟨rfl, HB.out.trans (Below.mono hb1 (by rw [lw9_size]; omega))⟩
end Go.Proofs.YtgjngaaibcmgmabGreat
namespace Go.Proofs.YtgjngaaibcmgmabGreat
open Go.RowKit Go.ChangeShapes Go.WideShapes Go.ChangeAt

theorem two7 {α : Type} {l : List α} (h : l.length = 2) : ∃ a b, l = [a, b] := by
  match l, h with
  | [a, b], _ => exact ⟨a, b, rfl⟩
theorem four9 {α : Type} {l : List α} (h : l.length = 4) : ∃ a b c d, l = [a, b, c, d] := by
  match l, h with
  | [a, b, c, d], _ => exact ⟨a, b, c, d, rfl⟩
theorem open_ledge1 {H : Type} {enc : TypeId × Value → H} {W : World} {fuel : Nat} {cs : List Value} {y : DataW H × List MemPlace}
    (h : DataW.trod enc Tryz.prog W 0 (fun _ => true) true fuel 89 cs = some y) : ∃ x : Ld, cs = [.int .i64 x.a, .int .i64 x.b, .int .i64 x.l, .bool x.t] := by
  obtain ⟨xs, n, _, _, hl, hlen, hf⟩ := DataW.trod_struct Tryz.underlying89 h
  rw [show Tryz.prog.cellsOf 89 = 4 by kernel_rfl] at hl
  obtain ⟨c0, c1, c2, c3, rfl⟩ := four9 hl
  have h0 : DataW.trod enc Tryz.prog W 0 (fun _ => true) true n 3 (([c0, c1, c2, c3].drop 0).take (Tryz.prog.cellsOf 3)) = xs[0]? := hf 0 _ rfl
  have h1 : DataW.trod enc Tryz.prog W 0 (fun _ => true) true n 3 (([c0, c1, c2, c3].drop 1).take (Tryz.prog.cellsOf 3)) = xs[1]? := hf 1 _ rfl
  have h2 : DataW.trod enc Tryz.prog W 0 (fun _ => true) true n 3 (([c0, c1, c2, c3].drop 2).take (Tryz.prog.cellsOf 3)) = xs[2]? := hf 2 _ rfl
  have h3 : DataW.trod enc Tryz.prog W 0 (fun _ => true) true n 4 (([c0, c1, c2, c3].drop 3).take (Tryz.prog.cellsOf 4)) = xs[3]? := hf 3 _ rfl
  rw [show Tryz.prog.cellsOf 3 = 1 by kernel_rfl] at h0 h1 h2
  rw [show Tryz.prog.cellsOf 4 = 1 by kernel_rfl] at h3
  have g : ∀ i, i < 4 → ∃ z, xs[i]? = some z := fun i hi => ⟨xs[i]'(by simp at hlen; omega), List.getElem?_eq_getElem _⟩
  obtain ⟨z0, e0⟩ := g 0 (by omega)
  obtain ⟨z1, e1⟩ := g 1 (by omega)
  obtain ⟨z2, e2⟩ := g 2 (by omega)
  obtain ⟨z3, e3⟩ := g 3 (by omega)
  rw [e0] at h0
  rw [e1] at h1
  rw [e2] at h2
  rw [e3] at h3
  obtain ⟨k0, hk0, _⟩ := DataW.trod_int Tryz.underlying3 h0
  obtain ⟨k1, hk1, _⟩ := DataW.trod_int Tryz.underlying3 h1
  obtain ⟨k2, hk2, _⟩ := DataW.trod_int Tryz.underlying3 h2
  obtain ⟨k3, hk3, _⟩ := DataW.trod_bool Tryz.underlying4 h3
  simp at hk0 hk1 hk2 hk3
  subst hk0 hk1 hk2 hk3
  exact ⟨⟨k0, k1, k2, k3⟩, rfl⟩
theorem open_ledgeS {H : Type} {enc : TypeId × Value → H} {W : World} {a : Option Addr} {len cap fuel : Nat} {x : DataW H × List MemPlace}
    (h : DataW.trod enc Tryz.prog W 0 (fun _ => true) true fuel 22 [.slice a len cap] = some x) : len ≤ maxLen ∧ ∃ ls : List Ld, Ls W W.heap.size a len ls := by
  rcases DataW.trod_slice Tryz.underlying22 h with ⟨hcs, _⟩ | ⟨ad, l, c, elems, rest, n, _, hcs, _, _, hlc, hm, hel, hei, _, _⟩
  · simp at hcs
    obtain ⟨rfl, rfl, rfl⟩ := hcs
    exact ⟨by unfold maxLen; omega, [], ⟨rfl, .inl rfl⟩⟩
  · simp at hcs
    obtain ⟨rfl, rfl, rfl⟩ := hcs
    refine ⟨by omega, ?_⟩
    have each : ∀ i, i < len → ∃ x : Ld, W.cell? ((ad.add (i * 4)).add 0) = some (.int .i64 x.a) ∧ W.cell? ((ad.add (i * 4)).add 1) = some (.int .i64 x.b) ∧ W.cell? ((ad.add (i * 4)).add 2) = some (.int .i64 x.l) ∧ W.cell? ((ad.add (i * 4)).add 3) = some (.bool x.t) := by
      intro i hi
      have h1 := hei i hi
      obtain ⟨y, hy⟩ : ∃ y, elems[i]? = some y := ⟨elems[i]'(by omega), List.getElem?_eq_getElem _⟩
      rw [hy, Option.bind_eq_some_iff] at h1
      obtain ⟨cs', hc, ht⟩ := h1
      obtain ⟨x, rfl⟩ := open_ledge1 ht
      rw [show Tryz.prog.cellsOf 89 = 4 by kernel_rfl] at hc
      have hcell := (World.cells?_some hc).2.2
      exact ⟨x, by simpa using hcell 0 (by omega), by simpa using hcell 1 (by omega), by simpa using hcell 2 (by omega), by simpa using hcell 3 (by omega)⟩
    by_cases h0 : len = 0
    · subst h0
      exact ⟨[], ⟨rfl, .inl rfl⟩⟩
    · obtain ⟨f0, hc0, _⟩ := each 0 (by omega)
      obtain ⟨b, off, spot⟩ := ad
      have hspot : spot = none := by simpa [Addr.add] using World.cell?_spot hc0
      subst hspot
      have hb : b < W.heap.size := by
        have := World.block_lt_of_cell? W _ hc0
        simpa [Addr.add] using this
      obtain ⟨F, hF⟩ := Classical.axiomOfChoice (fun i : Fin len => each i.1 i.2)
      refine ⟨List.ofFn F, ⟨by simp, .inr ⟨b, off, rfl, hb, fun j f hf => ?_⟩⟩⟩
      obtain ⟨hj, rfl⟩ := List.getElem?_eq_some_iff.1 hf
      have hj' : j < len := by simpa using hj
      obtain ⟨c0, c1, c2, c3⟩ := hF ⟨j, hj'⟩
      rw [add_plain, add_plain] at c0 c1 c2 c3
      simp only [List.getElem_ofFn]
      exact ⟨c0, c1, c2, c3⟩
set_option maxRecDepth 100000 in
/-- a web that comes in -/
theorem open_web {H : Type} {enc : TypeId × Value → H} {W : World} {r : Reach} {base : Nat} {v : Value} {d : DataW H} {p : List MemPlace}
    (hv : Value.okWide Tryz.prog W r base 24 v) (h : DataW.Trod enc Tryz.prog W 0 (fun _ => true) true 24 v d p) :
    ∃ (N : Int) (a : Option Addr) (n c : Nat) (ls : List Ld), v = .agg #[.int .i64 N, .slice a n c] ∧ (Lit.int .i64 N).wf = true ∧ n ≤ maxLen ∧ Ls W W.heap.size a n ls := by
  obtain ⟨cs, rfl, hcs⟩ := okWide_struct Tryz.underlying24 hv
  obtain ⟨fuel, hf⟩ := h
  obtain ⟨xs, n, _, _, hl, hlen, hfi⟩ := DataW.trod_struct Tryz.underlying24 hf
  rw [show Tryz.prog.cellsOf 24 = 2 by kernel_rfl] at hcs hl
  obtain ⟨l⟩ := cs
  obtain ⟨c0, c1, rfl⟩ := two7 (by simpa using hcs : l.length = 2)
  have ec : (Value.agg (List.toArray [c0, c1])).cells.toList = [c0, c1] := by simp [Value.cells]
  rw [ec] at hfi
  have h0 : DataW.trod enc Tryz.prog W 0 (fun _ => true) true n 3 (([c0, c1].drop 0).take (Tryz.prog.cellsOf 3)) = xs[0]? := hfi 0 _ rfl
  have h1 : DataW.trod enc Tryz.prog W 0 (fun _ => true) true n 22 (([c0, c1].drop 1).take (Tryz.prog.cellsOf 22)) = xs[1]? := hfi 1 _ rfl
  rw [show Tryz.prog.cellsOf 3 = 1 by kernel_rfl] at h0
  rw [show Tryz.prog.cellsOf 22 = 1 by kernel_rfl] at h1
  have g : ∀ i, i < 2 → ∃ z, xs[i]? = some z := fun i hi => ⟨xs[i]'(by simp at hlen; omega), List.getElem?_eq_getElem _⟩
  obtain ⟨z0, e0⟩ := g 0 (by omega)
  obtain ⟨z1, e1⟩ := g 1 (by omega)
  rw [e0] at h0
  rw [e1] at h1
  obtain ⟨k0, hk0, _, w0⟩ := DataW.trod_int Tryz.underlying3 h0
  simp at hk0
  subst hk0
  have h1' : DataW.trod enc Tryz.prog W 0 (fun _ => true) true n 22 [c1] = some z1 := by simpa using h1
  rcases DataW.trod_slice Tryz.underlying22 h1' with ⟨hx, _⟩ | ⟨ad, l, c, _, _, _, _, hx, _⟩
  · simp at hx
    subst hx
    obtain ⟨q1, fs, q2⟩ := open_ledgeS h1'
    exact ⟨k0, _, _, _, fs, rfl, w0, q1, q2⟩
  · simp at hx
    subst hx
    obtain ⟨q1, fs, q2⟩ := open_ledgeS h1'
    exact ⟨k0, _, _, _, fs, rfl, w0, q1, q2⟩
theorem open_edge1 {H : Type} {enc : TypeId × Value → H} {W : World} {fuel : Nat} {cs : List Value} {y : DataW H × List MemPlace}
    (h : DataW.trod enc Tryz.prog W 0 (fun _ => true) true fuel 34 cs = some y) : ∃ f : Int × Int, cs = [.int .i64 f.1, .int .i64 f.2] ∧ ((Lit.int .i64 f.1).wf = true ∧ (Lit.int .i64 f.2).wf = true) := by
  obtain ⟨xs, n, _, _, hl, hlen, hf⟩ := DataW.trod_struct Tryz.underlying34 h
  rw [show Tryz.prog.cellsOf 34 = 2 by kernel_rfl] at hl
  obtain ⟨c0, c1, rfl⟩ := two7 hl
  have h0 : DataW.trod enc Tryz.prog W 0 (fun _ => true) true n 3 (([c0, c1].drop 0).take (Tryz.prog.cellsOf 3)) = xs[0]? := hf 0 _ rfl
  have h1 : DataW.trod enc Tryz.prog W 0 (fun _ => true) true n 3 (([c0, c1].drop 1).take (Tryz.prog.cellsOf 3)) = xs[1]? := hf 1 _ rfl
  rw [show Tryz.prog.cellsOf 3 = 1 by kernel_rfl] at h0 h1
  have g : ∀ i, i < 2 → ∃ z, xs[i]? = some z := fun i hi => ⟨xs[i]'(by simp at hlen; omega), List.getElem?_eq_getElem _⟩
  obtain ⟨z0, e0⟩ := g 0 (by omega)
  obtain ⟨z1, e1⟩ := g 1 (by omega)
  rw [e0] at h0
  rw [e1] at h1
  obtain ⟨k0, hk0, _, w0⟩ := DataW.trod_int Tryz.underlying3 h0
  obtain ⟨k1, hk1, _, w1⟩ := DataW.trod_int Tryz.underlying3 h1
  simp at hk0 hk1
  subst hk0 hk1
  exact ⟨⟨k0, k1⟩, rfl, w0, w1⟩
set_option maxRecDepth 100000 in
/-- an edge that comes in -/
theorem open_edge {H : Type} {enc : TypeId × Value → H} {W : World} {r : Reach} {base : Nat} {v : Value} {d : DataW H} {p : List MemPlace}
    (hv : Value.okWide Tryz.prog W r base 34 v) (h : DataW.Trod enc Tryz.prog W 0 (fun _ => true) true 34 v d p) :
    ∃ f : Int × Int, v = .agg #[.int .i64 f.1, .int .i64 f.2] ∧ ((Lit.int .i64 f.1).wf = true ∧ (Lit.int .i64 f.2).wf = true) := by
  obtain ⟨cs, rfl, hcs⟩ := okWide_struct Tryz.underlying34 hv
  obtain ⟨fuel, hf⟩ := h
  obtain ⟨f, hcs2, hft⟩ := open_edge1 hf
  refine ⟨f, ?_, hft⟩
  have : (Value.agg cs).cells.toList = [.int .i64 f.1, .int .i64 f.2] := hcs2
  obtain ⟨l⟩ := cs
  simp [Value.cells] at this
  rw [this]
end Go.Proofs.YtgjngaaibcmgmabGreat
