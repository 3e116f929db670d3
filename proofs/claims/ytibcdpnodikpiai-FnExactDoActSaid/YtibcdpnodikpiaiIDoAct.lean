/- What the program's DoAct answers at every list of files and every act. -/
import Derived.Test.YtibcdpnodikpiaiITDisk
namespace Go.Proofs.Ytibcdpnodikpiai
open Go.RowKit

theorem ActAt.upB {w : World} {a : Option Addr} {n c : Nat} {x : ActV} {u u' : World} {C : Nat} (h : ActAt w a n c x u) (hb : Below C u u') (hC : w.heap.size + 3 ≤ C) : ActAt w a n c x u' :=
  ⟨h.x0.below hb (by omega), by rw [hb.block _ (by omega)]; exact h.x1, h.x2.below hb (by omega), Nat.le_trans h.size hb.size, h.below.trans (hb.mono (by omega))⟩

set_option maxRecDepth 100000 in
set_option maxHeartbeats 8000000 in
theorem iDoAct_any (fs : List FileV) (hlet : fs.length + letters fs ≤ 1048576) (n : Nat) (a : Option Addr) (c : Nat) (x : ActV) (hx : FitA x) (w : World) (h : Fs w w.heap.size a n fs) :
    Calls Try.prog 13 #[.agg #[.slice a n c], .agg #[.int .i64 x.kind, .string x.name, .string x.text, .string x.to]] w (ActAns w (doAct fs x)) := by
  have hfit := fits_of hlet
  have hn : n ≤ maxLen := by unfold maxLen; have := h.1; omega
  have H := iDiskOk_any fs hfit n a c hn (w3 w a n c x) (w3_fs h)
  by_cases hd : DiskR fs
  · rw [dB_true hd] at H
    have HD := hideIt H
    have HF := hideIt (w3_fs (a := a) (n := n) (c := c) (x := x) h)
    have HDR := hideIt hd
    have HX := hideIt hx
    clear H h hfit hlet hd hx
    go_enter Try.func13, Try.ntmps13
    go_wp2_with (go_at_call 39; refine (show Calls Try.prog 39 #[.agg #[.slice a n c]] (w3 w a n c x) _ from HD.out).mono ?_; rintro e w1 ⟨rfl, hb1⟩; refine Hid.out ?_)
    refine (show ∀ {p : Prop}, p → Hid p from fun h => h) ?_
    have hA := (ActAt.start w a n c x).up hb1
    obtain ⟨c0, c1, c2, c3, c4, c5, f5⟩ := hA.cells
    have F1 := HF.out.up hb1
    have HTb := hideIt (tableOf_any fs n a c w1 HDR.out F1)
    have HA := hideIt hA
    have z1 := hA.size
    clear HD hb1 hA F1 HF
    go_wp2_with (go_at_call 40; refine HTb.out.mono ?_; rintro e w2 ⟨M, loc, D, rfl, hT2, hb2⟩; refine Hid.out ?_)
    refine (show ∀ {p : Prop}, p → Hid p from fun h => h) ?_
    have hA2 := HA.out.up hb2
    have HDo := hideIt (tDo_any w2 w1.heap.size M loc fs D hT2 HDR.out x HX.out)
    clear c0 c1 c2 c3 c4 c5 f5 HTb HA
    obtain ⟨c0, c1, c2, c3, c4, c5, f5⟩ := hA2.cells
    have HA2 := hideIt hA2
    clear hA2 hT2
    cases ho : doAct fs x with
    | none =>
      rw [ho] at HDo
      unfold Done at HDo
      go_wp2_with (go_at_call 41; refine HDo.out.mono ?_; rintro e w3' ⟨rfl, _, hb3⟩; refine Hid.out ?_)
      refine (show ∀ {p : Prop}, p → Hid p from fun h => h) ?_
      have hA3 := HA2.out.upB hb3 z1
      clear c0 c1 c2 c3 c4 c5 f5
      obtain ⟨c0, c1, c2, c3, c4, c5, f5⟩ := hA3.cells
      obtain ⟨s1, q1⟩ := hA3.refused
      clear hb3 hA3 HDo
      go_wp2
      exact bodyPost_ret (v := .tuple #[.agg #[.slice none 0 0], .bool false]) (by simp [results, Try.results13, go_sem, s1]) rfl (by rw [ho]; exact ⟨rfl, q1⟩)
    | some gs =>
      rw [ho] at HDo
      unfold Done at HDo
      have hgs := doAct_disk ho
      go_wp2_with (go_at_call 41; refine HDo.out.mono ?_; rintro e w3' ⟨rfl, hT3, hb3⟩; refine Hid.out ?_)
      refine (show ∀ {p : Prop}, p → Hid p from fun h => h) ?_
      have hA3 := HA2.out.upB hb3 z1
      clear c0 c1 c2 c3 c4 c5 f5
      obtain ⟨c0, c1, c2, c3, c4, c5, f5⟩ := hA3.cells
      have HT3 := hideIt hT3
      have HA3 := hideIt hA3
      have HG := hideIt hgs
      clear hb3 hA3 HDo hT3 hgs
      obtain ⟨loc3, D3, T3⟩ := HT3.out
      have T3' : Tab w3' w1.heap.size M loc3 gs D3 := T3
      have HTd := hideIt (tDisk_any w3' w1.heap.size M loc3 gs D3 T3' HG.out)
      clear T3 T3' HT3
      go_wp2_with (go_at_call 42; refine HTd.out.mono ?_; rintro e w4 ⟨g, c', rfl, hown, hb4⟩; refine Hid.out ?_)
      refine (show ∀ {p : Prop}, p → Hid p from fun h => h) ?_
      have hA4 := HA3.out.up hb4
      clear c0 c1 c2 c3 c4 c5 f5
      obtain ⟨c0, c1, c2, c3, c4, c5, f5⟩ := hA4.cells
      have s1 := (hA4.x2.set (.slice (some ⟨g, 0, none⟩) gs.length c')).cell
      have q1 := hideIt (hA4.below.setCell (p := ⟨w.heap.size + 1 + 1, 0, none⟩) (by show w.heap.size ≤ w.heap.size + 1 + 1; omega) (.slice (some ⟨g, 0, none⟩) gs.length c'))
      have z3 := HA3.out.size
      have HO := hideIt (own_mono (own_setLow hown (w.heap.size + 1 + 1) 0 (.slice (some ⟨g, 0, none⟩) gs.length c') (by omega)) (show w.heap.size ≤ _ by omega))
      clear hown hA4 hb4 HTd
      go_wp2
      exact bodyPost_ret (v := .tuple #[.agg #[.slice (some ⟨g, 0, none⟩) gs.length c'], .bool true]) (by simp [results, Try.results13, go_sem, s1]) rfl (by rw [ho]; exact ⟨_, _, _, rfl, HO.out, q1.out⟩)
  · rw [dB_false hd] at H
    have HD := hideIt H
    have ho : doAct fs x = none := by unfold doAct; rw [if_neg (fun hh => hd hh.1)]
    rw [ho]
    unfold ActAns
    dsimp only
    clear H hd h hfit hlet ho hx
    go_enter Try.func13, Try.ntmps13
    go_wp2_with (go_at_call 39; refine (show Calls Try.prog 39 #[.agg #[.slice a n c]] (w3 w a n c x) _ from HD.out).mono ?_; rintro e w1 ⟨rfl, hb1⟩; refine Hid.out ?_)
    refine (show ∀ {p : Prop}, p → Hid p from fun h => h) ?_
    have hA := (ActAt.start w a n c x).up hb1
    obtain ⟨c0, c1, c2, c3, c4, c5, f5⟩ := hA.cells
    obtain ⟨s1, q1⟩ := hA.refused
    clear HD hb1 hA
    go_wp2
    exact bodyPost_ret (v := .tuple #[.agg #[.slice none 0 0], .bool false]) (by simp [results, Try.results13, go_sem, s1]) rfl ⟨rfl, q1⟩
end Go.Proofs.Ytibcdpnodikpiai
