/- What the program's CutActs answers. -/
import Derived.Test.YtibcdpnodikpiaiIDoActs
import Derived.Test.YtibcdpnodikpiaiILose
import Derived.Test.YtibcdpnodikpiaiSDoActs
import Derived.Test.YtibcdpnodikpiaiCut
namespace Go.Proofs.Ytibcdpnodikpiai
open Go.RowKit Go.WideMaps Go.Maps

/-- where CutActs stands: her answer, all else as it was -/
structure CutAt (w u : World) : Prop where
  x1 : Box u (w.heap.size + 1) 31 (.slice none 0 0)
  size : w.heap.size + 2 ≤ u.heap.size
  below : Below w.heap.size w u
theorem CutAt.upB {w u v : World} {C : Nat} (h : CutAt w u) (hb : Below C u v) (hC : w.heap.size + 2 ≤ C) : CutAt w v :=
  ⟨h.x1.below hb (by omega), Nat.le_trans h.size hb.size, h.below.trans (hb.mono (by omega))⟩
theorem CutAt.up {w u v : World} (h : CutAt w u) (hb : Below u.heap.size u v) : CutAt w v := h.upB hb h.size
theorem CutAt.start (w : World) (a : Option Addr) (n c : Nat) : CutAt w (w2A w a n c) := ⟨w2A_box1 w a n c, by rw [w2A_size]; omega, w2A_below w a n c⟩
theorem CutAt.set {w u : World} (h : CutAt w u) (v : Value) : (u.setCell ⟨w.heap.size + 1, 0, none⟩ v).cell? ⟨w.heap.size + 1, 0, none⟩ = some v ∧ Below w.heap.size w (u.setCell ⟨w.heap.size + 1, 0, none⟩ v) :=
  ⟨(h.x1.set v).cell, h.below.setCell (p := ⟨w.heap.size + 1, 0, none⟩) (by show w.heap.size ≤ w.heap.size + 1; omega) v⟩

set_option maxRecDepth 100000 in
set_option maxHeartbeats 8000000 in
theorem iCutActs_any (fs : List FileV) (hlet : fs.length + letters fs ≤ 1048576) (n : Nat) (a : Option Addr) (c : Nat) (xs : List ActV) (hx : FitsA xs) (na : Nat) (ga oa : Nat) (ca : Nat) (hna : na ≤ 1048576) (hca : na ≤ ca) (z : Int) (ls : List Int) (ln : Nat) (al : Option Addr) (cl : Nat) (hln : ln ≤ 1048576)
    (w : World) (h : Fs w w.heap.size a n fs) (ha : As w w.heap.size (some ⟨ga, oa, none⟩) na xs) (hl : Is w w.heap.size al ln ls) :
    Calls Try.prog 29 #[.agg #[.slice a n c], .slice (some ⟨ga, oa, none⟩) na ca, .int .i64 z, .slice al ln cl] w (ActAns w (cutO fs xs z ls)) := by
  have hn : n ≤ maxLen := by unfold maxLen; have := h.1; omega
  have H := iDiskOk_any fs (fits_of hlet) n a c hn (w2A w a n c) (h.up (w2A_below w a n c))
  have hlenA := ha.1
  by_cases hd : DiskR fs
  · rw [dB_true hd] at H
    have HD := hideIt H
    have HF := hideIt h
    have HA := hideIt ha
    have HL := hideIt hl
    have HX := hideIt hx
    have HDR := hideIt hd
    clear H h ha hl hx hd hlet hn
    by_cases hz : 0 ≤ z ∧ z ≤ na
    · obtain ⟨k, rfl⟩ : ∃ k : Nat, z = (k : Int) := ⟨z.toNat, by omega⟩
      have hk : k ≤ na := by omega
      have d1 : decide ((k : Int) < 0) = false := by simp
      have d2 : decide ((na : Int) < (k : Int)) = false := by simp; omega
      have b1 : (0 : Int) ≤ (k : Int) := by omega
      have b2 : (k : Int) ≤ (ca : Int) := by omega
      have HRD := hideIt (run_disk (xs.take k) fs HDR.out)
      go_enter Try.func29, Try.ntmps29
      go_wp2_with (go_at_call 39; refine (show Calls Try.prog 39 #[.agg #[.slice a n c]] (w2A w a n c) _ from HD.out).mono ?_; rintro e w1 ⟨rfl, hb1⟩; refine Hid.out ?_)
      refine (show ∀ {p : Prop}, p → Hid p from fun h => h) ?_
      have C1 := (CutAt.start w a n c).up hb1
      have e0 := ((w2A_box0 w a n c).below hb1 (by rw [w2A_size]; omega)).cell
      have HTb := hideIt (tableOf_any fs n a c w1 HDR.out (HF.out.up C1.below))
      clear HD hb1
      go_wp2_with (go_at_call 40; refine HTb.out.mono ?_; rintro e w2 ⟨M, loc, D, rfl, hT2, hb2⟩; refine Hid.out ?_)
      refine (show ∀ {p : Prop}, p → Hid p from fun h => h) ?_
      have z1 := C1.size
      have C2 := C1.up hb2
      have HE := hideIt (tDoEach_any w2 w1.heap.size M loc fs D hT2 HDR.out (xs.take k) (fits_take HX.out k) k (some ⟨ga, oa, none⟩) ca (by omega) (((HA.out.up C1.below).below hb2 (Nat.le_refl _)).take hk))
      have hz2 : w1.heap.size ≤ w2.heap.size := hb2.size
      clear HTb e0 hb2 C1 hT2
      go_wp2_with (go_at_call 47; refine HE.out.mono ?_; rintro e w3 ⟨rfl, hT3, hb3⟩; refine Hid.out ?_)
      refine (show ∀ {p : Prop}, p → Hid p from fun h => h) ?_
      have C3 := C2.upB hb3 (by omega)
      have hz3 : w1.heap.size ≤ w3.heap.size := by have := hb3.size; omega
      clear HE hb3 C2
      by_cases hq : (((runActs fs (xs.take k)).2 : Nat) : Int) < (k : Int)
      · have ho := cutO_less (fs := fs) (xs := xs) (z := (k : Int)) ls (by simpa using hq)
        have d3 : decide (((runActs fs (xs.take k)).2 : Int) < (k : Int)) = true := by simp; omega
        have r0 := C3.x1.cell
        have r1 := C3.x1.frozen
        obtain ⟨s1, q1⟩ := C3.set (.slice none 0 0)
        clear hT3
        go_wp2
        exact bodyPost_ret (v := .tuple #[.agg #[.slice none 0 0], .bool false]) (by simp [results, Try.results29, go_sem, s1]) rfl (by rw [ho]; exact ⟨rfl, q1⟩)
      · have ho := cutO_yes (fs := fs) (xs := xs) (z := (k : Int)) ls (by omega) (by omega) (by simpa using hq)
        have d3 : decide (((runActs fs (xs.take k)).2 : Int) < (k : Int)) = false := by simp; omega
        rw [Int.toNat_natCast] at ho
        generalize hgP : (runActs fs (xs.take k)).1 = gs at *
        obtain ⟨loc3, D3, T3⟩ := hT3
        have HTd := hideIt (tDisk_any w3 w1.heap.size M loc3 gs D3 T3 HRD.out)
        clear T3
        go_wp2_with (go_at_call 42; refine HTd.out.mono ?_; rintro e w4 ⟨g, c', rfl, hown, hb4⟩; refine Hid.out ?_)
        refine (show ∀ {p : Prop}, p → Hid p from fun h => h) ?_
        have C4 := C3.up hb4
        have HLo := hideIt (iLoseDisk_any gs ls (disk_letters HRD.out) gs.length (some ⟨g, 0, none⟩) c' ln al cl hln w4 (Fs_of_own hown) (HL.out.up C4.below))
        have z4 := C4.size
        clear HTd hown hb4 C3
        go_wp2_with (go_at_call 25; refine (HLo.out.mono fun _ _ hA => act_ans hA).mono ?_; rintro e w5 ⟨a5, m5, c5, rfl, hown5, hb5⟩; refine Hid.out ?_)
        refine (show ∀ {p : Prop}, p → Hid p from fun h => h) ?_
        have C5 := C4.up hb5
        have r0 := C5.x1.cell
        have r1 := C5.x1.frozen
        obtain ⟨s1, q1⟩ := C5.set (.slice a5 m5 c5)
        have HO := hideIt (own_mono (own_setLow hown5 (w.heap.size + 1) 0 (.slice a5 m5 c5) (by omega)) (show w.heap.size ≤ _ by omega))
        clear hown5 hb5 C4 C5
        go_wp2
        refine bodyPost_ret (v := .tuple #[.agg #[.slice a5 m5 c5], .bool (loseO gs ls).isSome]) (by simp [results, Try.results29, go_sem, s1]) rfl ?_
        have hlo := loseO_yes HRD.out ls
        rw [hlo] at HO
        rw [ho, hlo]
        exact ⟨a5, m5, c5, rfl, HO.out, q1⟩
    · have ho := cutO_range (fs := fs) (xs := xs) (z := z) ls (by omega)
      rw [ho]
      unfold ActAns
      dsimp only
      by_cases hz0 : z < 0
      · have d1 : decide (z < 0) = true := by simp; omega
        clear ho hz
        go_enter Try.func29, Try.ntmps29
        go_wp2_with (go_at_call 39; refine (show Calls Try.prog 39 #[.agg #[.slice a n c]] (w2A w a n c) _ from HD.out).mono ?_; rintro e w1 ⟨rfl, hb1⟩; refine Hid.out ?_)
        refine (show ∀ {p : Prop}, p → Hid p from fun h => h) ?_
        have C1 := (CutAt.start w a n c).up hb1
        have r0 := C1.x1.cell
        have r1 := C1.x1.frozen
        obtain ⟨s1, q1⟩ := C1.set (.slice none 0 0)
        clear hb1 HD
        go_wp2
        exact bodyPost_ret (v := .tuple #[.agg #[.slice none 0 0], .bool false]) (by simp [results, Try.results29, go_sem, s1]) rfl ⟨rfl, q1⟩
      · have d1 : decide (z < 0) = false := by simp; omega
        have d2 : decide ((na : Int) < z) = true := by simp; omega
        clear ho hz
        go_enter Try.func29, Try.ntmps29
        go_wp2_with (go_at_call 39; refine (show Calls Try.prog 39 #[.agg #[.slice a n c]] (w2A w a n c) _ from HD.out).mono ?_; rintro e w1 ⟨rfl, hb1⟩; refine Hid.out ?_)
        refine (show ∀ {p : Prop}, p → Hid p from fun h => h) ?_
        have C1 := (CutAt.start w a n c).up hb1
        have r0 := C1.x1.cell
        have r1 := C1.x1.frozen
        obtain ⟨s1, q1⟩ := C1.set (.slice none 0 0)
        clear hb1 HD
        go_wp2
        exact bodyPost_ret (v := .tuple #[.agg #[.slice none 0 0], .bool false]) (by simp [results, Try.results29, go_sem, s1]) rfl ⟨rfl, q1⟩
  · rw [dB_false hd] at H
    have HD := hideIt H
    rw [cutO_bad ls hd]
    unfold ActAns
    dsimp only
    clear H hd h ha hl hx hlet
    go_enter Try.func29, Try.ntmps29
    go_wp2_with (go_at_call 39; refine (show Calls Try.prog 39 #[.agg #[.slice a n c]] (w2A w a n c) _ from HD.out).mono ?_; rintro e w1 ⟨rfl, hb1⟩; refine Hid.out ?_)
    refine (show ∀ {p : Prop}, p → Hid p from fun h => h) ?_
    have C1 := (CutAt.start w a n c).up hb1
    have r0 := C1.x1.cell
    have r1 := C1.x1.frozen
    obtain ⟨s1, q1⟩ := C1.set (.slice none 0 0)
    clear hb1 HD
    go_wp2
    exact bodyPost_ret (v := .tuple #[.agg #[.slice none 0 0], .bool false]) (by simp [results, Try.results29, go_sem, s1]) rfl ⟨rfl, q1⟩
end Go.Proofs.Ytibcdpnodikpiai
