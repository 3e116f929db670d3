/- What the specification's CutActs answers. -/
import Derived.Test.YtibcdpnodikpiaiSLose
import Derived.Test.YtibcdpnodikpiaiSDoActs
import Derived.Test.YtibcdpnodikpiaiCut
namespace Go.Proofs.Ytibcdpnodikpiai
open Go.RowKit

/-- where CutActs stands: her argument, her answer, all else as it was -/
structure CutS (w : World) (a : Option Addr) (n c : Nat) (u : World) : Prop where
  x0 : Box u w.heap.size 31 (.slice a n c)
  x1 : Box u (w.heap.size + 1) 31 (.slice none 0 0)
  size : w.heap.size + 2 ≤ u.heap.size
  below : Below w.heap.size w u
theorem CutS.up {w u v : World} {a : Option Addr} {n c : Nat} (h : CutS w a n c u) (hb : Below u.heap.size u v) : CutS w a n c v := by
  have := h.size
  exact ⟨h.x0.below hb (by omega), h.x1.below hb (by omega), Nat.le_trans h.size hb.size, h.below.trans (hb.mono (by omega))⟩
theorem CutS.start (w : World) (a : Option Addr) (n c : Nat) : CutS w a n c (w2L w a n c) := ⟨w2L_box0 w a n c, w2L_box1 w a n c, by rw [w2L_size]; omega, w2L_below w a n c⟩
theorem CutS.set {w u : World} {a : Option Addr} {n c : Nat} (h : CutS w a n c u) (v : Value) : (u.setCell ⟨w.heap.size + 1, 0, none⟩ v).cell? ⟨w.heap.size + 1, 0, none⟩ = some v ∧ Below w.heap.size w (u.setCell ⟨w.heap.size + 1, 0, none⟩ v) :=
  ⟨(h.x1.set v).cell, h.below.setCell (p := ⟨w.heap.size + 1, 0, none⟩) (by show w.heap.size ≤ w.heap.size + 1; omega) v⟩

theorem run_letters {fs : List FileV} (h : fs.length + letters fs ≤ 1048576) (xs : List ActV) : (runActs fs xs).1.length + letters (runActs fs xs).1 ≤ 1048576 := by
  by_cases hd : DiskR fs
  · exact disk_letters (run_disk xs fs hd)
  · rw [run_bad hd]; exact h

set_option maxRecDepth 100000 in
set_option maxHeartbeats 8000000 in
theorem sCutActs_any (fs : List FileV) (hlet : fs.length + letters fs ≤ 1048576) (n : Nat) (b0 o0 : Nat) (c : Nat) (xs : List ActV) (hx : FitsA xs) (na : Nat) (ga oa : Nat) (ca : Nat) (hna : na ≤ 1048576) (hca : na ≤ ca) (z : Int) (ls : List Int) (ln : Nat) (al : Option Addr) (cl : Nat) (hln : ln ≤ 1048576)
    (w : World) (h : Fs w w.heap.size (some ⟨b0, o0, none⟩) n fs) (ha : As w w.heap.size (some ⟨ga, oa, none⟩) na xs) (hl : Is w w.heap.size al ln ls) :
    Calls Try.prog 28 #[.agg #[.slice (some ⟨b0, o0, none⟩) n c], .slice (some ⟨ga, oa, none⟩) na ca, .int .i64 z, .slice al ln cl] w (ActAns w (cutO fs xs z ls)) := by
  have hlenA := ha.1
  have C0 := CutS.start w (some ⟨b0, o0, none⟩) n c
  by_cases hz : 0 ≤ z ∧ z ≤ na
  · obtain ⟨k, rfl⟩ : ∃ k : Nat, z = (k : Int) := ⟨z.toNat, by omega⟩
    have hk : k ≤ na := by omega
    have b1 : (0 : Int) ≤ (k : Int) := by omega
    have b2 : (k : Int) ≤ (ca : Int) := by omega
    have HI := hideIt (fun W => l01In_yes (k : Int) 0 (na : Int) (by omega) (by omega) W)
    have HD := hideIt (fun u (hu : Good (w2L w (some ⟨b0, o0, none⟩) n c) u) => (sDoActs_any fs hlet n b0 o0 c (xs.take k) (fits_take hx k) k (some ⟨ga, oa, none⟩) ca (by omega) u (h.up (C0.up hu).below) ((ha.up (C0.up hu).below).take hk)).mono fun _ v hA => (show ∃ a2 m2 c2, _ ∧ v.ownsRow (w2L w (some ⟨b0, o0, none⟩) n c).heap.size 63 3 (.slice a2 m2 c2) m2 (fcells (runActs fs (xs.take k)).1) ∧ Good (w2L w (some ⟨b0, o0, none⟩) n c) v ∧ Keep u v by
      obtain ⟨a2, m2, c2, he, hw, hbb⟩ := hA
      exact ⟨a2, m2, c2, he, own_mono hw hu.size, hu.up hbb, Keep.of hbb⟩))
    have HL := hideIt hl
    have hrl := run_letters hlet (xs.take k)
    have ho1 := fun h2 => cutO_yes (fs := fs) (xs := xs) (z := (k : Int)) ls (by omega) (by omega) h2
    have ho2 := fun h2 => cutO_less (fs := fs) (xs := xs) (z := (k : Int)) ls h2
    simp only [Int.toNat_natCast] at ho1 ho2
    generalize hgP : runActs fs (xs.take k) = P at *
    have HC : Hid (∀ u, Good (w2L w (some ⟨b0, o0, none⟩) n c) u → u.cell? ⟨w.heap.size, 0, none⟩ = some (.slice (some ⟨b0, o0, none⟩) n c) ∧ Good (w2L w (some ⟨b0, o0, none⟩) n c) u) := fun u hu => ⟨(C0.up hu).x0.cell, hu⟩
    have hS0 := HC.out _ (Good.refl (w2L w (some ⟨b0, o0, none⟩) n c)).drew
    have zz : w.heap.size + 2 ≤ (w2L w (some ⟨b0, o0, none⟩) n c).heap.size := by rw [w2L_size]; omega
    have HC0 := hideIt C0
    clear h ha hl hx hlet C0
    go_enter Try.func28, Try.ntmps28
    go_upto_region 3 with (go_at_call 50; refine (HI.out _).mono ?_; rintro e w' ⟨rfl, rfl⟩)
    rw [show (w.alloc (.cells #[.slice (some ⟨b0, o0, none⟩) n c] 31)).alloc (.cells #[.slice none 0 0] 31) = w2L w (some ⟨b0, o0, none⟩) n c from rfl]
    generalize hW0 : w2L w (some ⟨b0, o0, none⟩) n c = W0 at *
    clear hW0
    go_cut [10, 11] (fun p q wx => ∃ bN a2 m2 c2, p = .pointer (some ⟨bN, 0, none⟩) ∧ q = .int .i64 (P.2 : Int) ∧ Good W0 wx ∧ DBox wx W0.heap.size wx.heap.size bN a2 m2 c2 P.1)
    case first =>
      go_region_held3 (fun u => u.cell? ⟨w.heap.size, 0, none⟩ = some (.slice (some ⟨b0, o0, none⟩) n c) ∧ Good W0 u)
        (first | assumption | exact HC.out _ (Good.alloc (And.right (by assumption)) _) | exact HC.out _ (Good.set (And.right (by assumption)) _ _ _ (by omega)))
        ((go_at_call 18; refine (HD.out _ (And.right (by assumption))).mono ?_; rintro e w5 ⟨a2, m2, c2, rfl, ho5, hg5, hk5⟩; have hS5 := HC.out _ hg5; have z5 := hg5.size; (first | have bx := hk5.nil (Box.new W0 _ _ _ rfl) | skip); try (have bc := bx.cell; have bz := bx.frozen)))
      all_goals
        go_wp2_with fail
        go_meet
        first
          | exact ⟨_, a2, m2, c2, rfl, rfl, Good.set hg5 _ _ _ (by omega), DBox.stored bx (by omega) ho5⟩
          | exact ⟨_, a2, m2, c2, rfl, rfl, Good.alloc hg5 _, DBox.laid (by omega) ho5⟩
    case rest =>
      obtain ⟨bN, a2, m2, c2, rfl, rfl, G, DN⟩ := hcut
      have C1 := HC0.out.up G
      clear HC hS0 HD
      by_cases hq : (P.2 : Int) < (k : Int)
      · have ho := ho2 hq
        have d3 : decide ((P.2 : Int) < (k : Int)) = true := by simp; omega
        have r0 := C1.x1.cell
        have r1 := C1.x1.frozen
        obtain ⟨s1, q1⟩ := C1.set (.slice none 0 0)
        clear ho1 ho2 DN
        go_wp2
        exact bodyPost_ret (v := .tuple #[.agg #[.slice none 0 0], .bool false]) (by simp [results, Try.results28, go_sem, s1]) rfl (by rw [ho]; exact ⟨rfl, q1⟩)
      · have ho := ho1 (by omega)
        have d3 : decide ((P.2 : Int) < (k : Int)) = false := by simp; omega
        have r4 := DN.cell
        have HLo := hideIt (sLoseDisk_any P.1 ls hrl m2 a2 c2 ln al cl hln wc DN.fs (HL.out.up C1.below))
        have z4 := C1.size
        clear ho1 ho2 DN
        cases hlo : loseO P.1 ls with
        | none =>
          rw [hlo] at HLo
          unfold ActAns at HLo
          dsimp only at HLo
          go_wp2_with (go_at_call 23; refine HLo.out.mono ?_; rintro e w5 ⟨rfl, hb5⟩; refine Hid.out ?_)
          refine (show ∀ {p : Prop}, p → Hid p from fun h => h) ?_
          have C5 := C1.up hb5
          have r0 := C5.x1.cell
          have r1 := C5.x1.frozen
          obtain ⟨s1, q1⟩ := C5.set (.slice none 0 0)
          clear hb5 C1 C5 HLo
          go_wp2
          exact bodyPost_ret (v := .tuple #[.agg #[.slice none 0 0], .bool false]) (by simp [results, Try.results28, go_sem, s1]) rfl (by rw [ho, hlo]; exact ⟨rfl, q1⟩)
        | some hs =>
          rw [hlo] at HLo
          unfold ActAns at HLo
          dsimp only at HLo
          go_wp2_with (go_at_call 23; refine HLo.out.mono ?_; rintro e w5 ⟨a5, m5, c5, rfl, hown5, hb5⟩; refine Hid.out ?_)
          refine (show ∀ {p : Prop}, p → Hid p from fun h => h) ?_
          have C5 := C1.up hb5
          have r0 := C5.x1.cell
          have r1 := C5.x1.frozen
          obtain ⟨s1, q1⟩ := C5.set (.slice a5 m5 c5)
          have HO := hideIt (own_mono (own_setLow hown5 (w.heap.size + 1) 0 (.slice a5 m5 c5) (by omega)) (show w.heap.size ≤ _ by omega))
          clear hown5 hb5 C1 C5 HLo
          go_wp2
          exact bodyPost_ret (v := .tuple #[.agg #[.slice a5 m5 c5], .bool true]) (by simp [results, Try.results28, go_sem, s1]) rfl (by rw [ho, hlo]; exact ⟨a5, m5, c5, rfl, HO.out, q1⟩)
  · have ho := cutO_range (fs := fs) (xs := xs) (z := z) ls (by omega)
    have HI := hideIt (fun W => l01In_no z 0 (na : Int) (by omega) W)
    rw [ho]
    unfold ActAns
    dsimp only
    clear h ha hl hx hlet ho hz
    go_enter Try.func28, Try.ntmps28
    go_wp2_with (go_at_call 50; refine (HI.out _).mono ?_; rintro e w' ⟨rfl, rfl⟩)
    exact bodyPost_ret (v := .tuple #[.agg #[.slice none 0 0], .bool false]) (by simp [results, Try.results28, go_sem]) rfl ⟨rfl, ((Below.refl _ _).alloc (Nat.le_refl _) _).alloc (by simp) _⟩
end Go.Proofs.Ytibcdpnodikpiai
