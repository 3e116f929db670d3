/- The draw of a right disk. -/
import Derived.Test.YtegknhnmfaafmaaDrawT
import Derived.Test.YtegknhnmfaafmaaSPut2
import Derived.Deep.RegionWith
namespace Go.Proofs.Ytegknhnmfaafmaa
open Go.RowKit

theorem code_up {w w' : World} {a : Option Addr} {len : Nat} (h : Code w w.heap.size a len) (hb : Below w.heap.size w w') : Code w' w'.heap.size a len := by
  rcases h with h | ⟨b, off, ha, hbl, hn, hc⟩
  · exact .inl h
  · have := hb.size
    refine .inr ⟨b, off, ha, by omega, by omega, fun j hj => ?_⟩
    obtain ⟨z, hz, hcell⟩ := hc j hj
    exact ⟨z, hz, by rw [hb.cell hbl]; exact hcell⟩

set_option maxRecDepth 100000 in
set_option maxHeartbeats 8000000 in
theorem drawRightDisk_any (w : World) (a : Option Addr) (len cap : Nat) (hl : len ≤ 1048576) (hcode : Code w w.heap.size a len) :
    Calls Try.prog 6 #[.slice a len cap] w fun e w' => ∃ (gs : List FileV) (a' : Option Addr) (m c' : Nat), (Right gs ∧ gs.length ≤ 6) ∧ e = .returned (.agg #[.slice a' m c']) ∧ w'.ownsRow w.heap.size 36 3 (.slice a' m c') m (fcells gs) ∧ Below w.heap.size w w' := by
  have HLow := hideIt (code_low (B := w.heap.size) hcode (Nat.le_refl _))
  have HN := hideIt (l01New_any (w.alloc (.cells #[.slice none 0 0] 26)) a len cap hl (code_up hcode ((Below.refl _ _).alloc (Nat.le_refl _) _)))
  have HB := hideIt (fun (n : Int) (h0 : 0 < n) (h1 : n ≤ 4294967296) (W : World) (G : Nat) (hc : Cur W G a len cap) (hd : Code W G a len) => l01Below_any n h0 h1 W G a len cap hl hc hd)
  have HT := hideIt (fun (n : Nat) (hn : n ≤ 5000) (W : World) (G : Nat) (hc : Cur W G a len cap) (hd : Code W G a len) => l01Text_drawn n hn W G a len cap hl hc hd)
  have HM := hideIt (fun (W : World) (G : Nat) (hc : Cur W G a len cap) (hd : Code W G a len) => l03Named_any W G a len cap hl hc hd)
  clear hcode
  go_enter Try.func6, Try.ntmps6
  go_wp2_with (go_at_call 21; refine HN.out.mono ?_; rintro e w1 ⟨rfl, hc, hd, hb, hs⟩; refine Hid.out ?_)
  refine (show ∀ {p : Prop}, p → Hid p from fun h => h) ?_
  rw [show (w.alloc (.cells #[.slice none 0 0] 26)).heap.size = w.heap.size + 1 by simp] at hc hd hb hs
  have D0 : DrawAt w (w.heap.size + 1) w1.heap.size a len cap [] none 0 0 (w1.alloc (.cells #[.slice none 0 0] 26)) :=
    ⟨hc.alloc _, hd.alloc _, ((Box.new w _ _ _ rfl).below hb (by omega)).alloc _, Box.new _ _ _ _ rfl, World.ownsRow_nil _ _ _ _, (((Below.refl w.heap.size w).alloc (Nat.le_refl _) _).trans (hb.mono (by omega))).alloc (by omega) _, by omega, by omega⟩
  have HD0 := hideIt D0
  have z1 : w.heap.size + 1 < w1.heap.size := by omega
  clear HN hc hd hb hs D0
  go_wp2
  go_loopw [5] (fun i wr => ∃ (k : Nat) (gs : List FileV) (a' : Option Addr) (m c' : Nat), k ≤ 6 ∧ i = .int .i64 (k : Int) ∧ Hid (Right gs ∧ gs.length ≤ k) ∧ Hid (DrawAt w (w.heap.size + 1) w1.heap.size a len cap gs a' m c' wr)) (fun i _ => 7 - (intOf i).toNat)
  case atStart => exact ⟨0, [], none, 0, 0, by omega, rfl, ⟨⟨List.Pairwise.nil, by simp⟩, by simp⟩, HD0⟩
  case round =>
    obtain ⟨k, gs, a', m, c', hk, rfl, hR, hD⟩ := hrel
    clear HD0
    have HX := hideIt (HB.out 6 (by omega) (by omega) wr (w.heap.size + 1) hD.out.cur hD.out.code)
    go_wp2_with (go_at_call 22; refine HX.out.mono ?_; rintro e w2 ⟨x, hx, rfl, dr2⟩; refine Hid.out ?_)
    refine (show ∀ {p : Prop}, p → Hid p from fun h => h) ?_
    have D2 := hideIt (hD.out.drawn dr2)
    clear HX dr2 hD
    by_cases hkx : k < x
    · have d1 : decide ((k : Int) < (x : Int)) = true := by simp; omega
      have HX := hideIt (HB.out 30 (by omega) (by omega) w2 (w.heap.size + 1) D2.out.cur D2.out.code)
      go_wp2_with (go_at_call 22; refine HX.out.mono ?_; rintro e w3 ⟨y, hy, rfl, dr3⟩; refine Hid.out ?_)
      refine (show ∀ {p : Prop}, p → Hid p from fun h => h) ?_
      have D3 := hideIt (D2.out.drawn dr3)
      have HX3 := hideIt (HT.out y (by omega) w3 (w.heap.size + 1) D3.out.cur D3.out.code)
      clear HX dr3 D2
      go_wp2_with (go_at_call 23; refine HX3.out.mono ?_; rintro e w4 ⟨S, hS, rfl, dr4⟩; refine Hid.out ?_)
      refine (show ∀ {p : Prop}, p → Hid p from fun h => h) ?_
      subst hS
      have D4 := hideIt (D3.out.drawn dr4)
      clear HX3 dr4 D3
      have q4 := D4.out.drew.x2.cell
      have HM4 := hideIt (HM.out w4.drew (w.heap.size + 1) D4.out.drew.cur D4.out.drew.code)
      have hm6 : m ≤ 1048576 := by
        have h1 := D4.out.own.1
        rw [fcells_length] at h1
        have := hR.out.2
        omega
      have hwr : IntKind.i64.wrap ((S.size : Int) + 1) = (S.size : Int) + 1 := by rw [IntKind.wrap_i64]; omega
      go_upto_region 7 with fail
      go_region_with (first
        | (go_at_call 25; refine HM4.out.mono ?_; rintro e w5 ⟨nm, hnm, rfl, dr5⟩; have D5 := hideIt (D4.out.drew.drawn dr5); have q5 := D5.out.x2.cell)
        | (go_at_call 22; refine (HB.out ((S.size : Int) + 1) (by omega) (by omega) w5 (w.heap.size + 1) D5.out.cur D5.out.code).mono ?_; rintro e w6 ⟨z, hz, rfl, dr6⟩; have D6 := hideIt (D5.out.drawn dr6); have q6 := D6.out.x2.cell)
        | (go_at_call 24; refine (l03Put_any gs ⟨nm, S, (z : Int)⟩ m a' c' hm6 w6 (Fs_of_ownv D6.out.own)).mono ?_; rintro e w7 ⟨a2, m2, c2, rfl, hown7, hb7⟩; have D7 := hideIt (D6.out.up hb7); have q7 := D7.out.x2.cell; have f7 := D7.out.x2.frozen))
      all_goals
        have l6 := D6.out.x2.lt
        have hfo : FileOk ⟨nm, S, (z : Int)⟩ := ⟨hnm, by show S.size ≤ 20000; omega, by show (0 : Int) ≤ (z : Int); omega, by show (z : Int) ≤ (S.size : Int); omega⟩
        have HR2 : Hid (Right (put gs ⟨nm, S, (z : Int)⟩) ∧ (put gs ⟨nm, S, (z : Int)⟩).length ≤ k + 1) := ⟨hR.out.1.put hfo, by have := put_short gs ⟨nm, S, (z : Int)⟩; have := hR.out.2; omega⟩
        have D8 := hideIt (D7.out.turn HLow.out (own_mono hown7 (show w1.heap.size + 1 ≤ _ by omega)))
        clear hfo hown7 D7 D6 D5 D4
        go_wp2
        exact ⟨⟨k + 1, _, a2, m2, c2, by omega, by go_num, HR2, D8⟩, by simp [intOf]; omega⟩
    · have d1 : decide ((k : Int) < (x : Int)) = false := by simp; omega
      have r0 := D2.out.x1.cell
      have r1 := D2.out.x1.frozen
      have r2 := D2.out.x2.cell
      have s1 := (D2.out.x1.set (.slice a' m c')).cell
      have HO := hideIt (own_mono (own_setLow D2.out.own w.heap.size 0 (.slice a' m c') (by omega)) (show w.heap.size ≤ _ by omega))
      have q3 := D2.out.below.setCell (p := ⟨w.heap.size, 0, none⟩) (Nat.le_refl _) (.slice a' m c')
      clear D2
      go_wp2
      exact bodyPost_ret (v := .agg #[.slice a' m c']) (by simp [results, Try.results6, go_sem, s1]) rfl ⟨gs, a', m, c', ⟨hR.out.1, by have := hR.out.2; omega⟩, rfl, HO.out, q3⟩
end Go.Proofs.Ytegknhnmfaafmaa
