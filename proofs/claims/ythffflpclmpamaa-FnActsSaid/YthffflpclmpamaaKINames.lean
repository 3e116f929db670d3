/- Acts of which the power leaves the first ones: pure. What the specification's CutActs answers. The specification's CutActs where the disk's list may be none. The program's table of files: a map from names to files that lie in blocks of their own. The library's contracts on the sorted keys of a map at this program, by the shelf's own laying in plain words. The names of a table, sorted. -/
import Derived.Test.YthffflpclmpamaaKPq16
import Derived.Test.YthffflpclmpamaaKSLose
import Derived.Maps.OwnSet
import Derived.Maps.Ext
import Derived.Shelf.SlIter.Nil
import Derived.Shelf.SortM.Plain
import Derived.Shelf.SortM.SortNone
import Derived.Ground.GgzProg
import Derived.Ground.SlgmProg
import Derived.Test.YthffflpclmpamaaProg
namespace Go.Proofs.Ythffflpclmpamaa
open Go.RowKit

theorem As.take {w : World} {B : Nat} {a : Option Addr} {n : Nat} {xs : List ActV} (h : As w B a n xs) {k : Nat} (hk : k ≤ n) : As w B a k (xs.take k) := by
  refine ⟨by rw [List.length_take]; have := h.1; omega, ?_⟩
  rcases h.2 with h0 | ⟨b, off, h1, h2, h3⟩
  · exact .inl (by omega)
  · refine .inr ⟨b, off, h1, h2, fun j x hx => h3 j x ?_⟩
    have hj : j < k := by have := (List.getElem?_eq_some_iff.1 hx).1; rw [List.length_take] at this; omega
    rw [List.getElem?_take_of_lt hj] at hx
    exact hx

open Classical in
/-- what CutActs answers -/
noncomputable def cutO (fs : List FileV) (xs : List ActV) (z : Int) (ls : List Int) : Option (List FileV) :=
  if 0 ≤ z ∧ z ≤ xs.length ∧ ¬ (((runActs fs (xs.take z.toNat)).2 : Int) < z) then loseO (runActs fs (xs.take z.toNat)).1 ls else none
theorem cutO_yes {fs : List FileV} {xs : List ActV} {z : Int} (ls : List Int) (h0 : 0 ≤ z) (h1 : z ≤ xs.length) (h2 : ¬ (((runActs fs (xs.take z.toNat)).2 : Int) < z)) : cutO fs xs z ls = loseO (runActs fs (xs.take z.toNat)).1 ls := by
  unfold cutO; rw [if_pos ⟨h0, h1, h2⟩]
theorem cutO_range {fs : List FileV} {xs : List ActV} {z : Int} (ls : List Int) (h : z < 0 ∨ (xs.length : Int) < z) : cutO fs xs z ls = none := by
  unfold cutO; rw [if_neg (by omega)]
theorem cutO_less {fs : List FileV} {xs : List ActV} {z : Int} (ls : List Int) (h : ((runActs fs (xs.take z.toNat)).2 : Int) < z) : cutO fs xs z ls = none := by
  unfold cutO; rw [if_neg (by omega)]
theorem cutO_bad {fs : List FileV} {xs : List ActV} {z : Int} (ls : List Int) (h : ¬ DiskR fs) : cutO fs xs z ls = none := by
  unfold cutO
  rw [run_bad h, loseO_no h]
  split <;> rfl
theorem cutO_len {fs : List FileV} {xs : List ActV} {z : Int} {ls : List Int} : ((cutO fs xs z ls).getD []).length ≤ 30 := by
  unfold cutO
  split
  · exact loseO_len
  · simp
theorem fits_take {xs : List ActV} (h : FitsA xs) (k : Nat) : FitsA (xs.take k) := fun x hx => h x (List.mem_of_mem_take hx)
end Go.Proofs.Ythffflpclmpamaa
namespace Go.Proofs.Ythffflpclmpamaa
open Go.RowKit

/-- where CutActs stands: her argument, her answer, all else as it was -/
structure CutS (w : World) (a : Option Addr) (n c : Nat) (u : World) : Prop where
  x0 : Box u w.heap.size 26 (.slice a n c)
  x1 : Box u (w.heap.size + 1) 26 (.slice none 0 0)
  size : w.heap.size + 2 ≤ u.heap.size
  below : Below w.heap.size w u
theorem CutS.up {w u v : World} {a : Option Addr} {n c : Nat} (h : CutS w a n c u) (hb : Below u.heap.size u v) : CutS w a n c v := by
  have := h.size
  exact ⟨h.x0.below hb (by omega), h.x1.below hb (by omega), Nat.le_trans h.size hb.size, h.below.trans (hb.mono (by omega))⟩
theorem CutS.start (w : World) (a : Option Addr) (n c : Nat) : CutS w a n c (w2L w a n c) := ⟨w2L_box0 w a n c, w2L_box1 w a n c, by rw [w2L_size]; omega, w2L_below w a n c⟩
theorem CutS.set {w u : World} {a : Option Addr} {n c : Nat} (h : CutS w a n c u) (v : Value) : (u.setCell ⟨w.heap.size + 1, 0, none⟩ v).cell? ⟨w.heap.size + 1, 0, none⟩ = some v ∧ Below w.heap.size w (u.setCell ⟨w.heap.size + 1, 0, none⟩ v) :=
  ⟨(h.x1.set v).cell, h.below.setCell (p := ⟨w.heap.size + 1, 0, none⟩) (by show w.heap.size ≤ w.heap.size + 1; omega) v⟩

theorem run_letters {fs : List FileV} (h : fs.length + letters fs ≤ 1048576) (xs : List ActV) : (runActs fs xs).1.length + letters (runActs fs xs).1 ≤ 1048576 := by
  by_cases hd : DiskR fs
  · exact disk_letters (run_disk xs fs hd)
  · rw [run_bad hd]; exact h

set_option maxRecDepth 100000 in
set_option maxHeartbeats 8000000 in
theorem sCutActs_any (fs : List FileV) (hlet : fs.length + letters fs ≤ 1048576) (n : Nat) (b0 o0 : Nat) (c : Nat) (xs : List ActV) (hx : FitsA xs) (na : Nat) (ga oa : Nat) (ca : Nat) (hna : na ≤ 1048576) (hca : na ≤ ca) (z : Int) (ls : List Int) (ln : Nat) (al : Option Addr) (cl : Nat) (hln : ln ≤ 1048576)
    (w : World) (h : Fs w w.heap.size (some ⟨b0, o0, none⟩) n fs) (ha : As w w.heap.size (some ⟨ga, oa, none⟩) na xs) (hl : Is w w.heap.size al ln ls) :
    Calls Try.prog 12 #[.agg #[.slice (some ⟨b0, o0, none⟩) n c], .slice (some ⟨ga, oa, none⟩) na ca, .int .i64 z, .slice al ln cl] w (ActAns w (cutO fs xs z ls)) := by
  have hlenA := ha.1
  have C0 := CutS.start w (some ⟨b0, o0, none⟩) n c
  by_cases hz : 0 ≤ z ∧ z ≤ na
  · obtain ⟨k, rfl⟩ : ∃ k : Nat, z = (k : Int) := ⟨z.toNat, by omega⟩
    have hk : k ≤ na := by omega
    have b1 : (0 : Int) ≤ (k : Int) := by omega
    have b2 : (k : Int) ≤ (ca : Int) := by omega
    have HI := hideIt (fun W => l01In_yes (k : Int) 0 (na : Int) (by omega) (by omega) W)
    have HD := hideIt (fun u (hu : Good (w2L w (some ⟨b0, o0, none⟩) n c) u) => (sDoActs_any fs hlet n b0 o0 c (xs.take k) (fits_take hx k) k (some ⟨ga, oa, none⟩) ca (by omega) u (h.up (C0.up hu).below) ((ha.up (C0.up hu).below).take hk)).mono fun _ v hA => (show ∃ a2 m2 c2, _ ∧ v.ownsRow (w2L w (some ⟨b0, o0, none⟩) n c).heap.size 49 3 (.slice a2 m2 c2) m2 (fcells (runActs fs (xs.take k)).1) ∧ Good (w2L w (some ⟨b0, o0, none⟩) n c) v ∧ Keep u v by
      obtain ⟨a2, m2, c2, he, hw, hbb⟩ := hA
      exact ⟨a2, m2, c2, he, own_mono hw hu.size, hu.up hbb, Keep.of hbb⟩))
    have HL := hideIt hl
    have hrl := run_letters hlet (xs.take k)
    have ho1 := fun h2 => cutO_yes (fs := fs) (xs := xs) (z := (k : Int)) ls (by omega) (by omega) h2
    have ho2 := fun h2 => cutO_less (fs := fs) (xs := xs) (z := (k : Int)) ls h2
    simp only [Int.toNat_natCast] at ho1 ho2
    generalize hgP : runActs fs (xs.take k) = P at *
    have HC : Hid (∀ u, Good (w2L w (some ⟨b0, o0, none⟩) n c) u → u.cell? ⟨w.heap.size, 0, none⟩ = some (.slice (some ⟨b0, o0, none⟩) n c) ∧ Good (w2L w (some ⟨b0, o0, none⟩) n c) u) := fun u hu => ⟨(C0.up hu).x0.cell, hu⟩
    have hS0 := HC.out _ (Good.refl (w2L w (some ⟨b0, o0, none⟩) n c)).drew
    have zz : w.heap.size + 2 ≤ (w2L w (some ⟨b0, o0, none⟩) n c).heap.size := by rw [w2L_size]; omega
    have HC0 := hideIt C0
    clear h ha hl hx hlet C0
    go_enter Try.func12, Try.ntmps12
    go_upto_region 3 with (go_at_call 27; refine (HI.out _).mono ?_; rintro e w' ⟨rfl, rfl⟩)
    rw [show (w.alloc (.cells #[.slice (some ⟨b0, o0, none⟩) n c] 26)).alloc (.cells #[.slice none 0 0] 26) = w2L w (some ⟨b0, o0, none⟩) n c from rfl]
    generalize hW0 : w2L w (some ⟨b0, o0, none⟩) n c = W0 at *
    clear hW0
    go_cut [10, 11] (fun p q wx => ∃ bN a2 m2 c2, p = .pointer (some ⟨bN, 0, none⟩) ∧ q = .int .i64 (P.2 : Int) ∧ Good W0 wx ∧ DBox wx W0.heap.size wx.heap.size bN a2 m2 c2 P.1)
    case first =>
      go_region_held3 (fun u => u.cell? ⟨w.heap.size, 0, none⟩ = some (.slice (some ⟨b0, o0, none⟩) n c) ∧ Good W0 u)
        (first | assumption | exact HC.out _ (Good.alloc (And.right (by assumption)) _) | exact HC.out _ (Good.set (And.right (by assumption)) _ _ _ (by omega)))
        ((go_at_call 7; refine (HD.out _ (And.right (by assumption))).mono ?_; rintro e w5 ⟨a2, m2, c2, rfl, ho5, hg5, hk5⟩; have hS5 := HC.out _ hg5; have z5 := hg5.size; (first | have bx := hk5.nil (Box.new W0 _ _ _ rfl) | skip); try (have bc := bx.cell; have bz := bx.frozen)))
      all_goals
        go_wp2_with fail
        go_meet
        first
          | exact ⟨_, a2, m2, c2, rfl, rfl, Good.set hg5 _ _ _ (by omega), DBox.stored bx (by omega) ho5⟩
          | exact ⟨_, a2, m2, c2, rfl, rfl, Good.alloc hg5 _, DBox.laid (by omega) ho5⟩
    case rest =>
      obtain ⟨bN, a2, m2, c2, rfl, rfl, G, DN⟩ := hcut
      have C1 := HC0.out.up G
      clear HC hS0 HD
      by_cases hq : (P.2 : Int) < (k : Int)
      · have ho := ho2 hq
        have d3 : decide ((P.2 : Int) < (k : Int)) = true := by simp; omega
        have r0 := C1.x1.cell
        have r1 := C1.x1.frozen
        obtain ⟨s1, q1⟩ := C1.set (.slice none 0 0)
        clear ho1 ho2 DN
        go_wp2
        exact bodyPost_ret (v := .tuple #[.agg #[.slice none 0 0], .bool false]) (by simp [results, Try.results12, go_sem, s1]) rfl (by rw [ho]; exact ⟨rfl, q1⟩)
      · have ho := ho1 (by omega)
        have d3 : decide ((P.2 : Int) < (k : Int)) = false := by simp; omega
        have r4 := DN.cell
        have HLo := hideIt (sLoseDisk_any P.1 ls hrl m2 a2 c2 ln al cl hln wc DN.fs (HL.out.up C1.below))
        have z4 := C1.size
        clear ho1 ho2 DN
        cases hlo : loseO P.1 ls with
        | none =>
          rw [hlo] at HLo
          unfold ActAns at HLo
          dsimp only at HLo
          go_wp2_with (go_at_call 28; refine HLo.out.mono ?_; rintro e w5 ⟨rfl, hb5⟩; refine Hid.out ?_)
          refine (show ∀ {p : Prop}, p → Hid p from fun h => h) ?_
          have C5 := C1.up hb5
          have r0 := C5.x1.cell
          have r1 := C5.x1.frozen
          obtain ⟨s1, q1⟩ := C5.set (.slice none 0 0)
          clear hb5 C1 C5 HLo
          go_wp2
          exact bodyPost_ret (v := .tuple #[.agg #[.slice none 0 0], .bool false]) (by simp [results, Try.results12, go_sem, s1]) rfl (by rw [ho, hlo]; exact ⟨rfl, q1⟩)
        | some hs =>
          rw [hlo] at HLo
          unfold ActAns at HLo
          dsimp only at HLo
          go_wp2_with (go_at_call 28; refine HLo.out.mono ?_; rintro e w5 ⟨a5, m5, c5, rfl, hown5, hb5⟩; refine Hid.out ?_)
          refine (show ∀ {p : Prop}, p → Hid p from fun h => h) ?_
          have C5 := C1.up hb5
          have r0 := C5.x1.cell
          have r1 := C5.x1.frozen
          obtain ⟨s1, q1⟩ := C5.set (.slice a5 m5 c5)
          have HO := hideIt (own_mono (own_setLow hown5 (w.heap.size + 1) 0 (.slice a5 m5 c5) (by omega)) (show w.heap.size ≤ _ by omega))
          clear hown5 hb5 C1 C5 HLo
          go_wp2
          exact bodyPost_ret (v := .tuple #[.agg #[.slice a5 m5 c5], .bool true]) (by simp [results, Try.results12, go_sem, s1]) rfl (by rw [ho, hlo]; exact ⟨a5, m5, c5, rfl, HO.out, q1⟩)
  · have ho := cutO_range (fs := fs) (xs := xs) (z := z) ls (by omega)
    have HI := hideIt (fun W => l01In_no z 0 (na : Int) (by omega) W)
    rw [ho]
    unfold ActAns
    dsimp only
    clear h ha hl hx hlet ho hz
    go_enter Try.func12, Try.ntmps12
    go_wp2_with (go_at_call 27; refine (HI.out _).mono ?_; rintro e w' ⟨rfl, rfl⟩)
    exact bodyPost_ret (v := .tuple #[.agg #[.slice none 0 0], .bool false]) (by simp [results, Try.results12, go_sem]) rfl ⟨rfl, ((Below.refl _ _).alloc (Nat.le_refl _) _).alloc (by simp) _⟩
end Go.Proofs.Ythffflpclmpamaa
namespace Go.Proofs.Ythffflpclmpamaa
open Go.RowKit

set_option maxRecDepth 100000 in
set_option maxHeartbeats 8000000 in
theorem sCutActs_opt (fs : List FileV) (hlet : fs.length + letters fs ≤ 1048576) (n : Nat) (ad : Option Addr) (c : Nat) (hnil : ad = none → n = 0 ∧ c = 0) (xs : List ActV) (hx : FitsA xs) (na : Nat) (ga oa : Nat) (ca : Nat) (hna : na ≤ 1048576) (hca : na ≤ ca) (z : Int) (ls : List Int) (ln : Nat) (al : Option Addr) (cl : Nat) (hln : ln ≤ 1048576)
    (w : World) (h : Fs w w.heap.size ad n fs) (ha : As w w.heap.size (some ⟨ga, oa, none⟩) na xs) (hl : Is w w.heap.size al ln ls) :
    Calls Try.prog 12 #[.agg #[.slice ad n c], .slice (some ⟨ga, oa, none⟩) na ca, .int .i64 z, .slice al ln cl] w (ActAns w (cutO fs xs z ls)) := by
  have hlenA := ha.1
  have C0 := CutS.start w ad n c
  by_cases hz : 0 ≤ z ∧ z ≤ na
  · obtain ⟨k, rfl⟩ : ∃ k : Nat, z = (k : Int) := ⟨z.toNat, by omega⟩
    have hk : k ≤ na := by omega
    have b1 : (0 : Int) ≤ (k : Int) := by omega
    have b2 : (k : Int) ≤ (ca : Int) := by omega
    have HI := hideIt (fun W => l01In_yes (k : Int) 0 (na : Int) (by omega) (by omega) W)
    have HD := hideIt (fun u (hu : Good (w2L w ad n c) u) => (sDoActs_opt fs hlet n ad c hnil (xs.take k) (fits_take hx k) k (some ⟨ga, oa, none⟩) ca (by omega) u (h.up (C0.up hu).below) ((ha.up (C0.up hu).below).take hk)).mono fun _ v hA => (show ∃ a2 m2 c2, _ ∧ v.ownsRow (w2L w ad n c).heap.size 49 3 (.slice a2 m2 c2) m2 (fcells (runActs fs (xs.take k)).1) ∧ Good (w2L w ad n c) v ∧ Keep u v by
      obtain ⟨a2, m2, c2, he, hw, hbb⟩ := hA
      exact ⟨a2, m2, c2, he, own_mono hw hu.size, hu.up hbb, Keep.of hbb⟩))
    have HL := hideIt hl
    have hrl := run_letters hlet (xs.take k)
    have ho1 := fun h2 => cutO_yes (fs := fs) (xs := xs) (z := (k : Int)) ls (by omega) (by omega) h2
    have ho2 := fun h2 => cutO_less (fs := fs) (xs := xs) (z := (k : Int)) ls h2
    simp only [Int.toNat_natCast] at ho1 ho2
    generalize hgP : runActs fs (xs.take k) = P at *
    have HC : Hid (∀ u, Good (w2L w ad n c) u → u.cell? ⟨w.heap.size, 0, none⟩ = some (.slice ad n c) ∧ Good (w2L w ad n c) u) := fun u hu => ⟨(C0.up hu).x0.cell, hu⟩
    have hS0 := HC.out _ (Good.refl (w2L w ad n c)).drew
    have zz : w.heap.size + 2 ≤ (w2L w ad n c).heap.size := by rw [w2L_size]; omega
    have HC0 := hideIt C0
    clear h ha hl hx hlet C0
    go_enter Try.func12, Try.ntmps12
    go_upto_region 3 with (go_at_call 27; refine (HI.out _).mono ?_; rintro e w' ⟨rfl, rfl⟩)
    rw [show (w.alloc (.cells #[.slice ad n c] 26)).alloc (.cells #[.slice none 0 0] 26) = w2L w ad n c from rfl]
    generalize hW0 : w2L w ad n c = W0 at *
    clear hW0
    go_cut [10, 11] (fun p q wx => ∃ bN a2 m2 c2, p = .pointer (some ⟨bN, 0, none⟩) ∧ q = .int .i64 (P.2 : Int) ∧ Good W0 wx ∧ DBox wx W0.heap.size wx.heap.size bN a2 m2 c2 P.1)
    case first =>
      go_region_held3 (fun u => u.cell? ⟨w.heap.size, 0, none⟩ = some (.slice ad n c) ∧ Good W0 u)
        (first | assumption | exact HC.out _ (Good.alloc (And.right (by assumption)) _) | exact HC.out _ (Good.set (And.right (by assumption)) _ _ _ (by omega)))
        ((go_at_call 7; refine (HD.out _ (And.right (by assumption))).mono ?_; rintro e w5 ⟨a2, m2, c2, rfl, ho5, hg5, hk5⟩; have hS5 := HC.out _ hg5; have z5 := hg5.size; (first | have bx := hk5.nil (Box.new W0 _ _ _ rfl) | skip); try (have bc := bx.cell; have bz := bx.frozen)))
      all_goals
        go_wp2_with fail
        go_meet
        first
          | exact ⟨_, a2, m2, c2, rfl, rfl, Good.set hg5 _ _ _ (by omega), DBox.stored bx (by omega) ho5⟩
          | exact ⟨_, a2, m2, c2, rfl, rfl, Good.alloc hg5 _, DBox.laid (by omega) ho5⟩
    case rest =>
      obtain ⟨bN, a2, m2, c2, rfl, rfl, G, DN⟩ := hcut
      have C1 := HC0.out.up G
      clear HC hS0 HD
      by_cases hq : (P.2 : Int) < (k : Int)
      · have ho := ho2 hq
        have d3 : decide ((P.2 : Int) < (k : Int)) = true := by simp; omega
        have r0 := C1.x1.cell
        have r1 := C1.x1.frozen
        obtain ⟨s1, q1⟩ := C1.set (.slice none 0 0)
        clear ho1 ho2 DN
        go_wp2
        exact bodyPost_ret (v := .tuple #[.agg #[.slice none 0 0], .bool false]) (by simp [results, Try.results12, go_sem, s1]) rfl (by rw [ho]; exact ⟨rfl, q1⟩)
      · have ho := ho1 (by omega)
        have d3 : decide ((P.2 : Int) < (k : Int)) = false := by simp; omega
        have r4 := DN.cell
        have HLo := hideIt (sLoseDisk_any P.1 ls hrl m2 a2 c2 ln al cl hln wc DN.fs (HL.out.up C1.below))
        have z4 := C1.size
        clear ho1 ho2 DN
        cases hlo : loseO P.1 ls with
        | none =>
          rw [hlo] at HLo
          unfold ActAns at HLo
          dsimp only at HLo
          go_wp2_with (go_at_call 28; refine HLo.out.mono ?_; rintro e w5 ⟨rfl, hb5⟩; refine Hid.out ?_)
          refine (show ∀ {p : Prop}, p → Hid p from fun h => h) ?_
          have C5 := C1.up hb5
          have r0 := C5.x1.cell
          have r1 := C5.x1.frozen
          obtain ⟨s1, q1⟩ := C5.set (.slice none 0 0)
          clear hb5 C1 C5 HLo
          go_wp2
          exact bodyPost_ret (v := .tuple #[.agg #[.slice none 0 0], .bool false]) (by simp [results, Try.results12, go_sem, s1]) rfl (by rw [ho, hlo]; exact ⟨rfl, q1⟩)
        | some hs =>
          rw [hlo] at HLo
          unfold ActAns at HLo
          dsimp only at HLo
          go_wp2_with (go_at_call 28; refine HLo.out.mono ?_; rintro e w5 ⟨a5, m5, c5, rfl, hown5, hb5⟩; refine Hid.out ?_)
          refine (show ∀ {p : Prop}, p → Hid p from fun h => h) ?_
          have C5 := C1.up hb5
          have r0 := C5.x1.cell
          have r1 := C5.x1.frozen
          obtain ⟨s1, q1⟩ := C5.set (.slice a5 m5 c5)
          have HO := hideIt (own_mono (own_setLow hown5 (w.heap.size + 1) 0 (.slice a5 m5 c5) (by omega)) (show w.heap.size ≤ _ by omega))
          clear hown5 hb5 C1 C5 HLo
          go_wp2
          exact bodyPost_ret (v := .tuple #[.agg #[.slice a5 m5 c5], .bool true]) (by simp [results, Try.results12, go_sem, s1]) rfl (by rw [ho, hlo]; exact ⟨a5, m5, c5, rfl, HO.out, q1⟩)
  · have ho := cutO_range (fs := fs) (xs := xs) (z := z) ls (by omega)
    have HI := hideIt (fun W => l01In_no z 0 (na : Int) (by omega) W)
    rw [ho]
    unfold ActAns
    dsimp only
    clear h ha hl hx hlet ho hz
    go_enter Try.func12, Try.ntmps12
    go_wp2_with (go_at_call 27; refine (HI.out _).mono ?_; rintro e w' ⟨rfl, rfl⟩)
    exact bodyPost_ret (v := .tuple #[.agg #[.slice none 0 0], .bool false]) (by simp [results, Try.results12, go_sem]) rfl ⟨rfl, ((Below.refl _ _).alloc (Nat.le_refl _) _).alloc (by simp) _⟩
end Go.Proofs.Ythffflpclmpamaa
namespace Go.Proofs.Ythffflpclmpamaa
open Go.RowKit Go.WideMaps Go.Maps

theorem keyLaw : Keyed Try.prog 9 := string_keyed Try.underlying9
theorem zeroPF (w : World) : (zeroValue 73).run Try.prog w = .ok (.pointer none) w := by kernel_rfl

/-- how a pointer reads -/
def ptrR : Value → Option (DataW Unit × List MemPlace)
  | .pointer (some ⟨b, 0, none⟩) => some (.lit (.int .i64 (b : Int)), [])
  | .pointer none => some (.lit (.bool false), [])
  | _ => none
theorem ptrR_at {v : Value} {b : Nat} {ps : List MemPlace} (h : ptrR v = some (.lit (.int .i64 (b : Int)), ps)) : v = .pointer (some ⟨b, 0, none⟩) := by
  unfold ptrR at h
  split at h
  · simp at h
    obtain ⟨h, _⟩ := h
    have : _ = b := Int.ofNat.inj h
    rw [this]
  · simp at h
  · cases h
theorem ptrR_nil {v : Value} {ps : List MemPlace} (h : ptrR v = some (.lit (.bool false), ps)) : v = .pointer none := by
  unfold ptrR at h
  split at h
  · simp at h
  · rfl
  · cases h

def keyL (s : ByteArray) : Lit := .string s.data.toList
theorem keyL_ne {s t : ByteArray} (h : s ≠ t) : keyL s ≠ keyL t := fun e => h (bytes_ext (by simpa [keyL] using e))
theorem keyL_is (s : ByteArray) : WideAt.IsKeyLit (keyL s) := trivial
theorem keyL_of {s : ByteArray} (h : s.size ≤ maxLen) : keyOf Try.prog 9 (.string s) = some (keyL s) := keyOf_string_mk Try.underlying9 h

/-- a file in a block of its own -/
def FBox (W : World) (b : Nat) (f : FileV) : Prop := W.heap[b]? = some (.cells #[.string f.name, .string f.text, .int .i64 f.kept] 49 (0, 0))
theorem FBox.lt {W : World} {b : Nat} {f : FileV} (h : FBox W b f) : b < W.heap.size := (Array.getElem?_eq_some_iff.1 h).1
theorem FBox.cells {W : World} {b : Nat} {f : FileV} (h : FBox W b f) : W.cell? ⟨b, 0, none⟩ = some (.string f.name) ∧ W.cell? ⟨b, 1, none⟩ = some (.string f.text) ∧ W.cell? ⟨b, 2, none⟩ = some (.int .i64 f.kept) :=
  ⟨by rw [cell_of_row W b 0 _ _ _ h]; rfl, by rw [cell_of_row W b 1 _ _ _ h]; rfl, by rw [cell_of_row W b 2 _ _ _ h]; rfl⟩
theorem FBox.frozen {W : World} {b : Nat} {f : FileV} (h : FBox W b f) (j : Nat) : W.frozen? ⟨b, j, none⟩ = false := frozen_of_row W b j _ _ h
theorem FBox.grown {w w' : World} {b : Nat} {f : FileV} {row : Option Nat} (h : FBox w b f) (hg : w.grownBy w' row) (hr : some b ≠ row) : FBox w' b f := by
  unfold FBox; rw [hg.block b h.lt hr]; exact h
theorem FBox.new (w : World) (f : FileV) : FBox (w.alloc (.cells #[.string f.name, .string f.text, .int .i64 f.kept] 49)) w.heap.size f := heap_alloc_new w _
theorem FBox.below {w w' : World} {b : Nat} {f : FileV} (h : FBox w b f) (hb : Below w.heap.size w w') : FBox w' b f := by
  unfold FBox; rw [hb.block b h.lt]; exact h
theorem FBox.text {w : World} {b : Nat} {f : FileV} (h : FBox w b f) (t : ByteArray) : FBox (w.setCell ⟨b, 1, none⟩ (.string t)) b ⟨f.name, t, f.kept⟩ := by
  unfold FBox; rw [heap_setCell_same w b 1 _ 49 _ h]; rfl
theorem FBox.name {w : World} {b : Nat} {f : FileV} (h : FBox w b f) (t : ByteArray) : FBox (w.setCell ⟨b, 0, none⟩ (.string t)) b ⟨t, f.text, f.kept⟩ := by
  unfold FBox; rw [heap_setCell_same w b 0 _ 49 _ h]; rfl
theorem FBox.kept {w : World} {b : Nat} {f : FileV} (h : FBox w b f) (t : Int) : FBox (w.setCell ⟨b, 2, none⟩ (.int .i64 t)) b ⟨f.name, f.text, t⟩ := by
  unfold FBox; rw [heap_setCell_same w b 2 _ 49 _ h]; rfl

theorem own_size {W : World} {M n : Nat} {D : DataW Unit} (h : W.ownsMap Try.prog 9 ptrR M n D) : W.ownsMap Try.prog 9 ptrR M (Maps.size D) D := by
  obtain ⟨es, clock, hb, F, hs, rfl⟩ := h
  refine ⟨es, clock, hb, F, ?_, rfl⟩
  rw [size_eq, length_read]
  exact Nat.le_refl _

/-- the table of the files fs, in block M; the file of a name lies in block 'loc' of it; all lie from B on -/
structure Tab (W : World) (B M : Nat) (loc : ByteArray → Nat) (fs : List FileV) (D : DataW Unit) : Prop where
  own : W.ownsMap Try.prog 9 ptrR M fs.length D
  size : Maps.size D = fs.length
  has : ∀ s : ByteArray, Maps.has D (keyL s) = isIn fs s
  elt : ∀ f ∈ fs, ∀ z, D.atKey (keyL f.name) z = .lit (.int .i64 (loc f.name : Int))
  box : ∀ f ∈ fs, FBox W (loc f.name) f
  apart : ∀ f ∈ fs, loc f.name ≠ M ∧ B ≤ loc f.name
  inj : ∀ f ∈ fs, ∀ g ∈ fs, loc f.name = loc g.name → f.name = g.name
  base : B ≤ M

theorem grownOf {w w' : World} (h : Below w.heap.size w w') (row : Option Nat) : w.grownBy w' row :=
  ⟨h.os, h.tape, h.output, h.size, fun k hk _ => h.block k hk⟩
theorem Tab.up {W W' : World} {B M : Nat} {loc : ByteArray → Nat} {fs : List FileV} {D : DataW Unit} (h : Tab W B M loc fs D) (hb : Below W.heap.size W W') : Tab W' B M loc fs D :=
  { h with own := h.own.kept (grownOf hb none) (by simp), box := fun f hf => (h.box f hf).below hb }
theorem Tab.alloc {W : World} {B M : Nat} {loc : ByteArray → Nat} {fs : List FileV} {D : DataW Unit} (h : Tab W B M loc fs D) (o : Obj) : Tab (W.alloc o) B M loc fs D :=
  h.up ((Below.refl _ _).alloc (Nat.le_refl _) _)
theorem Tab.congr {W : World} {B M : Nat} {loc : ByteArray → Nat} {fs gs : List FileV} {D : DataW Unit} (h : Tab W B M loc fs D) (hm : ∀ g, g ∈ gs ↔ g ∈ fs) (hl : gs.length = fs.length) : Tab W B M loc gs D where
  own := by rw [hl]; exact h.own
  size := by rw [hl]; exact h.size
  has := fun s => by
    rw [h.has]
    cases h1 : isIn gs s
    · refine isIn_no fun f hf e => ?_
      have := isIn_iff.2 ⟨f, (hm f).2 hf, e⟩
      rw [h1] at this
      cases this
    · obtain ⟨f, hf, e⟩ := isIn_iff.1 h1
      exact isIn_iff.2 ⟨f, (hm f).1 hf, e⟩
  elt := fun f hf => h.elt f ((hm f).1 hf)
  box := fun f hf => h.box f ((hm f).1 hf)
  apart := fun f hf => h.apart f ((hm f).1 hf)
  inj := fun f hf g hg => h.inj f ((hm f).1 hf) g ((hm g).1 hg)
  base := h.base

theorem Tab.made (w : World) (B : Nat) (loc : ByteArray → Nat) (hB : B ≤ w.heap.size) : Tab (w.alloc (.map #[] 0)) B w.heap.size loc [] (.map []) where
  own := World.ownsMap_made w _ _ _
  size := rfl
  has := fun s => rfl
  elt := fun f hf => by cases hf
  box := fun f hf => by cases hf
  apart := fun f hf => by cases hf
  inj := fun f hf => by cases hf
  base := hB

open Classical in
noncomputable def upd (loc : ByteArray → Nat) (nm : ByteArray) (b : Nat) : ByteArray → Nat := fun s => if s = nm then b else loc s
theorem upd_same (loc : ByteArray → Nat) (nm : ByteArray) (b : Nat) : upd loc nm b nm = b := by simp [upd]
theorem upd_other (loc : ByteArray → Nat) (nm : ByteArray) (b : Nat) {s : ByteArray} (h : s ≠ nm) : upd loc nm b s = loc s := by simp [upd, h]

/-- a file is put into the table -/
theorem Tab.put {W W' : World} {B M : Nat} {loc : ByteArray → Nat} {fs gs : List FileV} {D : DataW Unit} (h : Tab W B M loc fs D) {f : FileV} {b n : Nat} (hbox : FBox W b f) (hb1 : b ≠ M) (hb2 : B ≤ b)
    (hfree : ∀ g ∈ fs, g.name ≠ f.name → loc g.name ≠ b) (hown : W'.ownsMap Try.prog 9 ptrR M n (D.put (keyL f.name) (.lit (.int .i64 (b : Int))))) (hg : W.grownBy W' (some M))
    (hm : ∀ g, g ∈ gs ↔ g = f ∨ (g ∈ fs ∧ g.name ≠ f.name)) (hl : gs.length + (if isIn fs f.name then 1 else 0) = fs.length + 1) : Tab W' B M (upd loc f.name b) gs (D.put (keyL f.name) (.lit (.int .i64 (b : Int)))) := by
  have hsz : Maps.size (D.put (keyL f.name) (.lit (.int .i64 (b : Int)))) = gs.length := by
    rw [size_put (h.own.tidy keyLaw), h.has, h.size]
    cases hi : isIn fs f.name <;> rw [hi] at hl <;> simp at hl ⊢ <;> omega
  exact {
    own := by have := own_size hown; rw [hsz] at this; exact this
    size := hsz
    has := fun s => by
      by_cases e : s = f.name
      · subst e
        rw [has_put_same h.own.isMap (keyL_is _)]
        exact (isIn_iff.2 ⟨f, (hm f).2 (.inl rfl), rfl⟩).symm
      · rw [has_put_other (keyL_ne e), h.has]
        cases h1 : isIn gs s
        · refine isIn_no fun g hg' e' => ?_
          have := isIn_iff.2 ⟨g, (hm g).2 (.inr ⟨hg', fun e2 => e (by rw [← e', e2])⟩), e'⟩
          rw [h1] at this
          cases this
        · obtain ⟨g, hg', e'⟩ := isIn_iff.1 h1
          rcases (hm g).1 hg' with rfl | ⟨h2, _⟩
          · exact absurd e'.symm e
          · exact isIn_iff.2 ⟨g, h2, e'⟩
    elt := fun g hg' z => by
      rcases (hm g).1 hg' with rfl | ⟨h2, h3⟩
      · rw [atKey_put_same h.own.isMap (keyL_is _), upd_same]
      · rw [atKey_put_other (keyL_ne h3), upd_other _ _ _ h3]
        exact h.elt g h2 z
    box := fun g hg' => by
      rcases (hm g).1 hg' with rfl | ⟨h2, h3⟩
      · rw [upd_same]; exact hbox.grown hg (by simpa using hb1)
      · rw [upd_other _ _ _ h3]
        exact (h.box g h2).grown hg (by simpa using (h.apart g h2).1)
    apart := fun g hg' => by
      rcases (hm g).1 hg' with rfl | ⟨h2, h3⟩
      · rw [upd_same]; exact ⟨hb1, hb2⟩
      · rw [upd_other _ _ _ h3]; exact h.apart g h2
    inj := fun g hg' g' hg'' e => by
      rcases (hm g).1 hg' with rfl | ⟨h2, h3⟩ <;> rcases (hm g').1 hg'' with rfl | ⟨h4, h5⟩
      · rfl
      · rw [upd_same, upd_other _ _ _ h5] at e
        exact absurd e.symm (hfree g' h4 h5)
      · rw [upd_same, upd_other _ _ _ h3] at e
        exact absurd e (hfree g h2 h3)
      · rw [upd_other _ _ _ h3, upd_other _ _ _ h5] at e
        exact h.inj g h2 g' h4 e
    base := h.base }

/-- a file is struck from the table -/
theorem Tab.del {W W' : World} {B M : Nat} {loc : ByteArray → Nat} {fs gs : List FileV} {D : DataW Unit} (h : Tab W B M loc fs D) (nm : ByteArray) {n : Nat} (hown : W'.ownsMap Try.prog 9 ptrR M n (D.del (keyL nm))) (hg : W.grownBy W' (some M))
    (hm : ∀ g, g ∈ gs ↔ g ∈ fs ∧ g.name ≠ nm) (hl : gs.length + (if isIn fs nm then 1 else 0) = fs.length) : Tab W' B M loc gs (D.del (keyL nm)) := by
  have hsz : Maps.size (D.del (keyL nm)) = gs.length := by
    have := size_del (k := keyL nm) (h.own.tidy keyLaw)
    rw [h.has, h.size] at this
    omega
  exact {
    own := by have := own_size hown; rw [hsz] at this; exact this
    size := hsz
    has := fun s => by
      by_cases e : s = nm
      · subst e
        rw [has_del_same]
        exact (isIn_no fun g hg' => ((hm g).1 hg').2).symm
      · rw [has_del_other (keyL_ne e), h.has]
        cases h1 : isIn gs s
        · refine isIn_no fun g hg' e' => ?_
          have := isIn_iff.2 ⟨g, (hm g).2 ⟨hg', fun e2 => e (by rw [← e', e2])⟩, e'⟩
          rw [h1] at this
          cases this
        · obtain ⟨g, hg', e'⟩ := isIn_iff.1 h1
          exact isIn_iff.2 ⟨g, ((hm g).1 hg').1, e'⟩
    elt := fun g hg' z => by
      obtain ⟨h2, h3⟩ := (hm g).1 hg'
      rw [atKey_del_other (keyL_ne h3)]
      exact h.elt g h2 z
    box := fun g hg' => (h.box g ((hm g).1 hg').1).grown hg (by simpa using (h.apart g ((hm g).1 hg').1).1)
    apart := fun g hg' => h.apart g ((hm g).1 hg').1
    inj := fun g hg' g' hg'' e => h.inj g ((hm g).1 hg').1 g' ((hm g').1 hg'').1 e
    base := h.base }

/-- one file's own block has turned -/
theorem Tab.turn {W W' : World} {B M : Nat} {loc : ByteArray → Nat} {fs gs : List FileV} {D : DataW Unit} (h : Tab W B M loc fs D) {f f' : FileV} (hf : f ∈ fs) (hn : f'.name = f.name) (hg : W.grownBy W' (some (loc f.name))) (hbox : FBox W' (loc f.name) f')
    (hm : ∀ g, g ∈ gs ↔ g = f' ∨ (g ∈ fs ∧ g.name ≠ f.name)) (hl : gs.length = fs.length) : Tab W' B M loc gs D where
  own := by rw [hl]; exact h.own.kept hg (by simpa using Ne.symm (h.apart f hf).1)
  size := by rw [hl]; exact h.size
  has := fun s => by
    rw [h.has]
    cases h1 : isIn gs s
    · refine isIn_no fun g hg' e' => ?_
      by_cases e : g.name = f.name
      · have := isIn_iff.2 ⟨f', (hm f').2 (.inl rfl), by rw [hn, ← e, e']⟩
        rw [h1] at this
        cases this
      · have := isIn_iff.2 ⟨g, (hm g).2 (.inr ⟨hg', e⟩), e'⟩
        rw [h1] at this
        cases this
    · obtain ⟨g, hg', e'⟩ := isIn_iff.1 h1
      rcases (hm g).1 hg' with rfl | ⟨h2, _⟩
      · exact isIn_iff.2 ⟨f, hf, by rw [← hn, e']⟩
      · exact isIn_iff.2 ⟨g, h2, e'⟩
  elt := fun g hg' z => by
    rcases (hm g).1 hg' with rfl | ⟨h2, _⟩
    · rw [hn]; exact h.elt f hf z
    · exact h.elt g h2 z
  box := fun g hg' => by
    rcases (hm g).1 hg' with rfl | ⟨h2, h3⟩
    · rw [hn]; exact hbox
    · exact (h.box g h2).grown hg (by simpa using fun e => h3 (h.inj g h2 f hf e))
  apart := fun g hg' => by
    rcases (hm g).1 hg' with rfl | ⟨h2, _⟩
    · rw [hn]; exact h.apart f hf
    · exact h.apart g h2
  inj := fun g hg' g' hg'' e => by
    rcases (hm g).1 hg' with rfl | ⟨h2, h3⟩ <;> rcases (hm g').1 hg'' with rfl | ⟨h4, h5⟩
    · rfl
    · rw [hn] at e; exact absurd (h.inj f hf g' h4 e).symm h5
    · rw [hn] at e; exact absurd (h.inj g h2 f hf e) h3
    · exact h.inj g h2 g' h4 e
  base := h.base

section
variable {ops : Array Oper} {rest : List Oper} {o : Oper} {a : Go.Act} {Q : Exit → Go.Act → World → Prop}

/-- the look for a file that is there -/
theorem look_yes (w : World) (hg : o.guard = none) (m x : Operand) (hop : o.op = Op.lookup 52 m x true) {B M : Nat} {loc : ByteArray → Nat} {fs : List FileV} {D : DataW Unit} (T : Tab w B M loc fs D) {f : FileV} (hf : f ∈ fs) {nm : ByteArray} (hn : f.name = nm) (hsz : nm.size ≤ maxLen)
    (hm : a.eval m = .map (some M)) (hx : a.eval x = .string nm) (hK : wpList Try.prog ops Q rest (a.put o.dst (.tuple #[.pointer (some ⟨loc nm, 0, none⟩), .bool true])) w) : wpList Try.prog ops Q (o :: rest) a w := by
  subst hn
  refine wpList_lookup_own_ok w hg m x 52 hop 9 73 keyLaw Try.underlying52 ptrR (zeroPF _) (.lit (.bool false)) [] rfl M _ D hm T.own _ (keyL f.name) hx (keyL_of hsz) ?_
  intro v ps hv
  rw [T.elt f hf] at hv
  obtain rfl := ptrR_at hv
  rw [T.has, isIn_iff.2 ⟨f, hf, rfl⟩]
  exact hK
/-- the look for a file that is not there -/
theorem look_no (w : World) (hg : o.guard = none) (m x : Operand) (hop : o.op = Op.lookup 52 m x true) {B M : Nat} {loc : ByteArray → Nat} {fs : List FileV} {D : DataW Unit} (T : Tab w B M loc fs D) {nm : ByteArray} (hno : isIn fs nm = false) (hsz : nm.size ≤ maxLen)
    (hm : a.eval m = .map (some M)) (hx : a.eval x = .string nm) (hK : wpList Try.prog ops Q rest (a.put o.dst (.tuple #[.pointer none, .bool false])) w) : wpList Try.prog ops Q (o :: rest) a w := by
  refine wpList_lookup_own_ok w hg m x 52 hop 9 73 keyLaw Try.underlying52 ptrR (zeroPF _) (.lit (.bool false)) [] rfl M _ D hm T.own _ (keyL nm) hx (keyL_of hsz) ?_
  intro v ps hv
  rw [atKey_of_not_has (by rw [T.has]; exact hno)] at hv
  obtain rfl := ptrR_nil hv
  rw [T.has, hno]
  exact hK
/-- 'table[name]' of a file that is there -/
theorem look_at (w : World) (hg : o.guard = none) (m x : Operand) (hop : o.op = Op.lookup 52 m x false) {B M : Nat} {loc : ByteArray → Nat} {fs : List FileV} {D : DataW Unit} (T : Tab w B M loc fs D) {f : FileV} (hf : f ∈ fs) {nm : ByteArray} (hn : f.name = nm) (hsz : nm.size ≤ maxLen)
    (hm : a.eval m = .map (some M)) (hx : a.eval x = .string nm) (hK : wpList Try.prog ops Q rest (a.put o.dst (.pointer (some ⟨loc nm, 0, none⟩))) w) : wpList Try.prog ops Q (o :: rest) a w := by
  subst hn
  refine wpList_plain hg fun K' hK' => ?_
  obtain ⟨v, ps, hrun, hv⟩ := T.own.lookup keyLaw Try.underlying52 (zeroPF _) (zd := .lit (.bool false)) (zp := []) rfl (keyL_of hsz)
  rw [T.elt f hf] at hv
  obtain rfl := ptrR_at hv
  unfold Oper.wp
  simp [execOp, hop, hm, hx, hrun, Result.andThen]
  exact hK' _ _ hK
/-- 'table[name] = f' -/
theorem put_at (w : World) (hg : o.guard = none) (m x v : Operand) (hop : o.op = Op.mapUpdate 52 m x v) {B M b : Nat} {loc : ByteArray → Nat} {fs gs : List FileV} {D : DataW Unit} (T : Tab w B M loc fs D) (h30 : fs.length ≤ 1048576) {f : FileV} {nm : ByteArray} (hn : f.name = nm) (hsz : nm.size ≤ maxLen)
    (hbox : FBox w b f) (hb1 : b ≠ M) (hb2 : B ≤ b) (hfree : ∀ g ∈ fs, g.name ≠ f.name → loc g.name ≠ b) (hmm : ∀ g, g ∈ gs ↔ g = f ∨ (g ∈ fs ∧ g.name ≠ f.name)) (hl : gs.length + (if isIn fs f.name then 1 else 0) = fs.length + 1)
    (hm : a.eval m = .map (some M)) (hx : a.eval x = .string nm) (hv : a.eval v = .pointer (some ⟨b, 0, none⟩))
    (hK : ∀ w', (∃ D', Tab w' B M (upd loc nm b) gs D') → w.grownBy w' (some M) → wpList Try.prog ops Q rest (a.put o.dst undef) w') : wpList Try.prog ops Q (o :: rest) a w := by
  subst hn
  refine wpList_mapUpdate_own w hg m x v 52 hop 9 73 keyLaw Try.underlying52 ptrR M _ D hm T.own (by unfold maxLen; omega) _ _ (keyL f.name) hx hv (keyL_of hsz) (.lit (.int .i64 (b : Int))) [] rfl ?_
  intro w' hown hgr
  exact hK w' ⟨_, T.put hbox hb1 hb2 hfree hown hgr hmm hl⟩ hgr
/-- 'delete(table, name)' -/
theorem del_at (w : World) (hg : o.guard = none) (m x : Operand) (hop : o.op = Op.call { callee := Callee.builtin Builtin.delete, args := #[m, x], argTypes := #[52, 9] }) {B M : Nat} {loc : ByteArray → Nat} {fs gs : List FileV} {D : DataW Unit} (T : Tab w B M loc fs D) {nm : ByteArray} (hsz : nm.size ≤ maxLen)
    (hmm : ∀ g, g ∈ gs ↔ g ∈ fs ∧ g.name ≠ nm) (hl : gs.length + (if isIn fs nm then 1 else 0) = fs.length)
    (hm : a.eval m = .map (some M)) (hx : a.eval x = .string nm)
    (hK : ∀ w', (∃ D', Tab w' B M loc gs D') → w.grownBy w' (some M) → wpList Try.prog ops Q rest (a.put o.dst (.tuple #[])) w') : wpList Try.prog ops Q (o :: rest) a w := by
  refine wpList_delete_own w hg m x 52 9 hop 73 keyLaw Try.underlying52 ptrR M _ D hm T.own _ (keyL nm) hx (keyL_of hsz) ?_
  intro w' hown ht
  exact hK w' ⟨_, T.del nm hown ht.grown hmm hl⟩ ht.grown
/-- 'len(table)' -/
theorem len_at (w : World) (hg : o.guard = none) (m : Operand) (hop : o.op = Op.call { callee := Callee.builtin Builtin.len, args := #[m], argTypes := #[52] }) {B M : Nat} {loc : ByteArray → Nat} {fs : List FileV} {D : DataW Unit} (T : Tab w B M loc fs D)
    (hm : a.eval m = .map (some M)) (hK : wpList Try.prog ops Q rest (a.put o.dst (.int .i64 (fs.length : Int))) w) : wpList Try.prog ops Q (o :: rest) a w := by
  refine wpList_len_own w hg m 52 hop 9 73 Try.underlying52 ptrR M _ D hm T.own ?_
  rw [T.size]
  exact hK
end

theorem Tab.map_lt {W : World} {B M : Nat} {loc : ByteArray → Nat} {fs : List FileV} {D : DataW Unit} (h : Tab W B M loc fs D) : M < W.heap.size := h.own.lt
end Go.Proofs.Ythffflpclmpamaa
namespace Go.Proofs
section
open Go.Shelf
def Try.keys41_ren : Go.Shelf.Ren := ⟨fun | 7 => 41 | 10 => 53 | n => n, fun | 23 => 52 | 26 => 9 | 3 => 73 | 28 => 76 | 0 => 0 | 27 => 75 | 33 => 72 | 4 => 4 | n => n, fun | n => n⟩
theorem Try.keys41 : Go.Proofs.SlLaysZ.n7 Try.prog Try.keys41_ren := {
  mixed := by kernel_rfl
  f7 := ⟨Try.f41.name, by decide, Try.func41.trans (congrArg some (by kernel_rfl))⟩
  f10 := ⟨Try.f53.name, by decide, Try.func53.trans (congrArg some (by kernel_rfl))⟩
  t0 := Try.underlying0
  a0 := Try.isAgg0
  z0 := Try.sizeOf0
  v0 := Try.zeroValue0
  t4 := Try.underlying4
  a4 := Try.isAgg4
  z4 := Try.sizeOf4
  v4 := Try.zeroValue4
  t23 := Try.underlying52
  a23 := Try.isAgg52
  z23 := Try.sizeOf52
  v23 := Try.zeroValue52
  t26 := Try.underlying9
  a26 := Try.isAgg9
  z26 := Try.sizeOf9
  v26 := Try.zeroValue9
  t27 := Try.underlying75
  a27 := Try.isAgg75
  z27 := Try.sizeOf75
  v27 := Try.zeroValue75
  t28 := Try.underlying76
  a28 := Try.isAgg76
  z28 := Try.sizeOf76
  v28 := Try.zeroValue76
  t33 := Try.underlying72
  a33 := Try.isAgg72
  z33 := Try.sizeOf72
  v33 := Try.zeroValue72 }
def Try.sorted40_ren : Go.Shelf.Ren := ⟨fun | 6 => 40 | 8 => 51 | 9 => 52 | 11 => 54 | 13 => 56 | 12 => 55 | 23 => 66 | 24 => 67 | 14 => 57 | 15 => 58 | 16 => 59 | 17 => 60 | 18 => 61 | 19 => 62 | 20 => 63 | 21 => 64 | 22 => 65 | 25 => 68 | 26 => 69 | 27 => 70 | 28 => 71 | 29 => 72 | 30 => 73 | 31 => 74 | n => n, fun | 26 => 9 | 28 => 76 | 24 => 67 | 0 => 0 | 3 => 3 | 37 => 87 | 48 => 100 | 50 => 102 | 4 => 4 | 40 => 93 | 39 => 92 | 45 => 97 | 5 => 5 | 9 => 9 | 51 => 103 | 55 => 107 | 57 => 109 | 58 => 110 | 33 => 72 | n => n, fun | n => n⟩
theorem Try.sorted40 : Go.Proofs.SlLaysZ.n6 Try.prog Try.sorted40_ren := {
  mixed := by kernel_rfl
  f6 := ⟨Try.f40.name, by decide, Try.func40.trans (congrArg some (by kernel_rfl))⟩
  f8 := ⟨Try.f51.name, by decide, Try.func51.trans (congrArg some (by kernel_rfl))⟩
  f11 := ⟨Try.f54.name, by decide, Try.func54.trans (congrArg some (by kernel_rfl))⟩
  t0 := Try.underlying0
  a0 := Try.isAgg0
  z0 := Try.sizeOf0
  v0 := Try.zeroValue0
  t24 := Try.underlying67
  a24 := Try.isAgg67
  z24 := Try.sizeOf67
  v24 := Try.zeroValue67
  t26 := Try.underlying9
  a26 := Try.isAgg9
  z26 := Try.sizeOf9
  v26 := Try.zeroValue9
  t28 := Try.underlying76
  a28 := Try.isAgg76
  z28 := Try.sizeOf76
  v28 := Try.zeroValue76
  i26 := by kernel_rfl }
def Try.sort52_ren : Go.Shelf.Ren := ⟨fun | 6 => 52 | 8 => 56 | 9 => 55 | 19 => 66 | 20 => 67 | 21 => 57 | 22 => 58 | 23 => 59 | 24 => 60 | 25 => 61 | 26 => 62 | 27 => 63 | 28 => 64 | 29 => 65 | 36 => 68 | 31 => 69 | 32 => 70 | 37 => 71 | 38 => 72 | 39 => 73 | 41 => 74 | n => n, fun | 27 => 67 | 29 => 9 | 3 => 3 | 32 => 87 | 26 => 67 | 0 => 0 | 44 => 100 | 46 => 102 | 4 => 4 | 36 => 93 | 35 => 92 | 41 => 97 | 5 => 5 | 9 => 9 | 53 => 103 | 57 => 107 | 63 => 109 | 64 => 110 | n => n, fun | n => n⟩
theorem Try.sort52 : Go.Proofs.SlLaysM.n6 Try.prog Try.sort52_ren := {
  mixed := by kernel_rfl
  f6 := ⟨Try.f52.name, by decide, Try.func52.trans (congrArg some (by kernel_rfl))⟩
  f8 := Try.func56.trans (congrArg some (by kernel_rfl))
  f9 := ⟨Try.f55.name, by decide, Try.func55.trans (congrArg some (by kernel_rfl))⟩
  f19 := Try.func66.trans (congrArg some (by kernel_rfl))
  f20 := Try.func67.trans (congrArg some (by kernel_rfl))
  f21 := ⟨Try.f57.name, by decide, Try.func57.trans (congrArg some (by kernel_rfl))⟩
  f22 := ⟨Try.f58.name, by decide, Try.func58.trans (congrArg some (by kernel_rfl))⟩
  f23 := ⟨Try.f59.name, by decide, Try.func59.trans (congrArg some (by kernel_rfl))⟩
  f24 := ⟨Try.f60.name, by decide, Try.func60.trans (congrArg some (by kernel_rfl))⟩
  f25 := ⟨Try.f61.name, by decide, Try.func61.trans (congrArg some (by kernel_rfl))⟩
  f26 := ⟨Try.f62.name, by decide, Try.func62.trans (congrArg some (by kernel_rfl))⟩
  f27 := ⟨Try.f63.name, by decide, Try.func63.trans (congrArg some (by kernel_rfl))⟩
  f28 := ⟨Try.f64.name, by decide, Try.func64.trans (congrArg some (by kernel_rfl))⟩
  f29 := ⟨Try.f65.name, by decide, Try.func65.trans (congrArg some (by kernel_rfl))⟩
  f31 := Try.func69.trans (congrArg some (by kernel_rfl))
  f32 := Try.func70.trans (congrArg some (by kernel_rfl))
  f36 := ⟨Try.f68.name, by decide, Try.func68.trans (congrArg some (by kernel_rfl))⟩
  f37 := ⟨Try.f71.name, by decide, Try.func71.trans (congrArg some (by kernel_rfl))⟩
  f38 := ⟨Try.f72.name, by decide, Try.func72.trans (congrArg some (by kernel_rfl))⟩
  f39 := ⟨Try.f73.name, by decide, Try.func73.trans (congrArg some (by kernel_rfl))⟩
  f41 := ⟨Try.f74.name, by decide, Try.func74.trans (congrArg some (by kernel_rfl))⟩
  t0 := Try.underlying0
  a0 := Try.isAgg0
  z0 := Try.sizeOf0
  v0 := Try.zeroValue0
  t3 := Try.underlying3
  a3 := Try.isAgg3
  z3 := Try.sizeOf3
  v3 := Try.zeroValue3
  t4 := Try.underlying4
  a4 := Try.isAgg4
  z4 := Try.sizeOf4
  v4 := Try.zeroValue4
  t5 := Try.underlying5
  a5 := Try.isAgg5
  z5 := Try.sizeOf5
  v5 := Try.zeroValue5
  t9 := Try.underlying9
  a9 := Try.isAgg9
  z9 := Try.sizeOf9
  v9 := Try.zeroValue9
  t26 := Try.underlying67
  a26 := Try.isAgg67
  z26 := Try.sizeOf67
  v26 := Try.zeroValue67
  t27 := Try.underlying67
  a27 := Try.isAgg67
  z27 := Try.sizeOf67
  v27 := Try.zeroValue67
  t29 := Try.underlying9
  a29 := Try.isAgg9
  z29 := Try.sizeOf9
  v29 := Try.zeroValue9
  t32 := Try.underlying87
  a32 := Try.isAgg87
  z32 := Try.sizeOf87
  v32 := Try.zeroValue87
  t35 := Try.underlying92
  a35 := Try.isAgg92
  z35 := Try.sizeOf92
  v35 := Try.zeroValue92
  t36 := Try.underlying93
  a36 := Try.isAgg93
  z36 := Try.sizeOf93
  v36 := Try.zeroValue93
  t41 := Try.underlying97
  a41 := Try.isAgg97
  z41 := Try.sizeOf97
  v41 := Try.zeroValue97
  t44 := Try.underlying100
  a44 := Try.isAgg100
  z44 := Try.sizeOf100
  v44 := Try.zeroValue100
  t46 := Try.underlying102
  a46 := Try.isAgg102
  z46 := Try.sizeOf102
  v46 := Try.zeroValue102
  t53 := Try.underlying103
  a53 := Try.isAgg103
  z53 := Try.sizeOf103
  v53 := Try.zeroValue103
  t57 := Try.underlying107
  a57 := Try.isAgg107
  z57 := Try.sizeOf107
  v57 := Try.zeroValue107
  t63 := Try.underlying109
  a63 := Try.isAgg109
  z63 := Try.sizeOf109
  v63 := Try.zeroValue109
  t64 := Try.underlying110
  a64 := Try.isAgg110
  z64 := Try.sizeOf110
  v64 := Try.zeroValue110 }
end
section
open Go.RowKit Go.Maps Go.Sort Go.Shelf


theorem Try.sorts40 (m : Nat) : AnyZ.SortsIn Try.prog Try.sorted40_ren Fence.wide m :=
  ⟨fun blk off cap ss W hH hblk hsz => callsIn_wide.2 (AnyM.slices_Sort_string Try.sort52 blk off cap ss W hH hblk hsz),
   fun p cap W => callsIn_wide.2 (AnyM.slices_Sort_string_none Try.sort52 p cap W)⟩

theorem Try.maps_Keys_41 (mb : Option Nat) (W : World) : CallsIn Fence.wide 5 Try.prog 41 #[.map mb] W fun e w' => e = .returned (.func (.func 53) #[] #[.pointer (some ⟨W.heap.size, 0, none⟩)]) ∧ w' = W.alloc (.cells #[.map mb] 52) :=
  AnyZ.keys_in Try.keys41 Fence.wide 5 trivial rfl mb W

set_option maxHeartbeats 1000000 in
theorem Try.slices_Sorted_keys_40_41 {H : Type} (b nn : Nat) (D0 : DataW H) (R : Value → Option (DataW H × List MemPlace)) (w : World) (hown : w.ownsMap Try.prog 9 R b nn D0) (hmax : Maps.size D0 ≤ maxLen) (hbytes : Maps.size D0 * 16 ≤ 140737488355328) :
    CallsIn Fence.wide 5 Try.prog 40 #[.func (.func 53) #[] #[.pointer (some ⟨w.heap.size, 0, none⟩)]] (w.alloc (.cells #[.map (some b)] 52)) fun e w' => ∃ (v : Value) (ss : List (List UInt8)), e = .returned v ∧ ss.Perm (strKeys D0) ∧
      w'.ownsRow (w.alloc (.cells #[.map (some b)] 52)).heap.size 9 1 v ss.length ((ss.mergeSort (fun x y => decide (x ≤ y))).map encStr) ∧ (v = .slice none 0 0 ↔ ss = []) ∧ Below (w.alloc (.cells #[.map (some b)] 52)).heap.size (w.alloc (.cells #[.map (some b)] 52)) w' := by
  have hbl := hown.lt
  have hseq : SeqGives Fence.wide 2 Try.prog 53 #[.pointer (some ⟨w.heap.size, 0, none⟩)] encStr (fun ss => ss.Perm (strKeys D0)) (Maps.size D0) (w.alloc (.cells #[.map (some b)] 52)) :=
    AnyZ.keys_gives (ρ := Try.keys41_ren) { Try.keys41 with } Fence.wide _ trivial rfl (by omega) w.heap.size b nn D0 _ (by simp) (by simp) (by
      obtain ⟨es, clock, hb, Ft, hs, hD⟩ := hown
      exact ⟨es, clock, (Below.heap_alloc _ _ b hbl).trans hb, Ft, hs, hD⟩)
  exact AnyZ.sorted_in Try.sorted40 Fence.wide 5 trivial trivial trivial trivial rfl (by omega) (Try.sorts40 _) (enters_of Try.func52 (by kernel_rfl) rfl) 53 #[.pointer (some ⟨w.heap.size, 0, none⟩)] trivial (enters_of Try.func53 (by kernel_rfl) rfl) _ _ hmax hbytes _ hseq

set_option maxHeartbeats 1000000 in
theorem Try.slices_Sorted_keys_nil_40_41 (w : World) :
    CallsIn Fence.wide 5 Try.prog 40 #[.func (.func 53) #[] #[.pointer (some ⟨w.heap.size, 0, none⟩)]] (w.alloc (.cells #[.map none] 52)) fun e w' => ∃ (v : Value) (ss : List (List UInt8)), e = .returned v ∧ ss = [] ∧
      w'.ownsRow (w.alloc (.cells #[.map none] 52)).heap.size 9 1 v ss.length ((ss.mergeSort (fun x y => decide (x ≤ y))).map encStr) ∧ (v = .slice none 0 0 ↔ ss = []) ∧ Below (w.alloc (.cells #[.map none] 52)).heap.size (w.alloc (.cells #[.map none] 52)) w' := by
  have hseq : SeqGives Fence.wide 2 Try.prog 53 #[.pointer (some ⟨w.heap.size, 0, none⟩)] encStr (fun ss : List (List UInt8) => ss = []) 0 (w.alloc (.cells #[.map none] 52)) :=
    AnyZ.keys_gives_nil (ρ := Try.keys41_ren) { Try.keys41 with } Fence.wide _ trivial rfl w.heap.size _ (by simp) (by simp)
  exact AnyZ.sorted_in Try.sorted40 Fence.wide 5 trivial trivial trivial trivial rfl (by omega) (Try.sorts40 _) (enters_of Try.func52 (by kernel_rfl) rfl) 53 #[.pointer (some ⟨w.heap.size, 0, none⟩)] trivial (enters_of Try.func53 (by kernel_rfl) rfl) _ 0 (Nat.zero_le _) (by omega) _ hseq


end
end Go.Proofs
namespace Go.Proofs.Ythffflpclmpamaa
open Go.RowKit Go.WideMaps Go.Maps Go.Sort

theorem names_perm {W : World} {B M : Nat} {loc : ByteArray → Nat} {fs : List FileV} {D : DataW Unit} (T : Tab W B M loc fs D) (hs : Sorted fs) : (fs.map nmOf).Perm (strKeys D) := by
  obtain ⟨es, hD, hpw, _⟩ := T.own.entries keyLaw
  obtain ⟨es', hD', hko⟩ := T.own.keysOf
  obtain rfl : es = es' := by rw [hD] at hD'; simpa using hD'
  subst hD
  refine perm_strKeys hpw (fun p hp => by obtain ⟨v, hv⟩ := hko p hp; obtain ⟨x, _, hx, _⟩ := Maps.keyOf_str Try.underlying9 hv; exact ⟨x, hx⟩) ?_ ?_
  · have : fs.Pairwise fun f g => nmOf f ≠ nmOf g := List.Pairwise.imp (fun {f g} hlt e => by rw [e] at hlt; exact Std.lt_irrefl hlt) hs
    exact List.pairwise_map.2 this
  · intro x
    have h1 := T.has ⟨x.toArray⟩
    have h2 : keyL ⟨x.toArray⟩ = .string x := by simp [keyL]
    rw [h2] at h1
    rw [h1, isIn_iff, List.mem_map]
    constructor
    · rintro ⟨f, hf, rfl⟩
      exact ⟨f, hf, bytes_ext (by simp [nmOf])⟩
    · rintro ⟨f, hf, e⟩
      exact ⟨f, hf, by unfold nmOf; rw [e]⟩
theorem names_sorted {W : World} {B M : Nat} {loc : ByteArray → Nat} {fs : List FileV} {D : DataW Unit} (T : Tab W B M loc fs D) (hs : Sorted fs) {ss : List (List UInt8)} (hp : ss.Perm (strKeys D)) : ss.mergeSort (fun x y => decide (x ≤ y)) = fs.map nmOf := by
  refine List.Perm.eq_of_pairwise (le := fun x y => x ≤ y) (fun a b _ _ h1 h2 => Std.le_antisymm h1 h2) ?_ ?_ ?_
  · have := List.pairwise_mergeSort (le := fun x y : List UInt8 => decide (x ≤ y)) (fun a b c h1 h2 => by simp at h1 h2 ⊢; exact Std.le_trans h1 h2) (fun a b => by simp; exact Std.le_total) ss
    exact List.Pairwise.imp (fun h => by simpa using h) this
  · exact List.pairwise_map.2 (List.Pairwise.imp (fun h => Std.le_of_lt h) hs)
  · exact ((List.mergeSort_perm _ _).trans hp).trans (names_perm T hs).symm
end Go.Proofs.Ythffflpclmpamaa
