/- The walk of FnFrames: for every bytes the law returns true and nothing that was there has turned, where the program's table stands. -/
import Derived.Test.YtegknhnmfaafmaaDoorFramesLaw
namespace Go.Proofs.YtegknhnmfaafmaaDoor
open Go.RowKit Vt Crc

/-- what the loop over the three texts bears -/
structure FrL (L : List ByteArray) (w : World) (gl gp z B k ge ce : Nat) (wr : World) : Prop where
  at_ : FrW L w gl gp z B wr
  row : wr.ownsRow B 3 1 (.slice (some ⟨ge, 0, none⟩) (k + 1) ce) (k + 1) (nvs (ends L k))

theorem FrL.below {L : List ByteArray} {w : World} {gl gp z B k ge ce : Nat} {wr w1 : World} (h : FrL L w gl gp z B k ge ce wr) (hb : Below wr.heap.size wr w1) : FrL L w gl gp z B k ge ce w1 :=
  ⟨h.at_.below hb, h.row.kept (grown_low hb none) (.inr (by simp [Value.ownBlock]))⟩

theorem FrL.next {L : List ByteArray} {w : World} {gl gp z B k ge ce : Nat} {wr w1 : World} {o : Obj} {g1 c1 : Nat} (h : FrL L w gl gp z B k ge ce wr) (hg : (wr.alloc o).grownBy w1 (some ge)) {E : Int} (hE : E = ((endAt L (k + 1) : Nat) : Int))
    (hown : w1.ownsRow B 3 1 (.slice (some ⟨g1, 0, none⟩) (k + 1 + 1) c1) (k + 1 + 1) (nvs (ends L k) ++ [.int .i64 E])) : FrL L w gl gp z B (k + 1) g1 c1 w1 := by
  have hl := (h.row.lt ge rfl).1
  refine ⟨(h.at_.grown (World.grownBy_alloc wr o none) (fun q hq => by cases hq)).grown hg (fun q hq => by cases hq; exact hl), ?_⟩
  rw [← ends_snoc, ← nvs_snoc, ← hE]
  exact hown

theorem FrL.start {w w2 : World} (A : ByteArray) {gp z : Nat} (hb : Below w.heap.size w w2) (hgp : gp < w2.heap.size) (hp : w2.cell? ⟨gp, 0, none⟩ = some (.int .i64 (z : Int))) :
    FrL (three A) w w2.heap.size gp z (w2.heap.size + 1) 0 (w2.heap.size + 1) 1 ((w2.alloc (.cells #[.string A, .string ⟨#[116, 119, 111]⟩, .string ⟨#[116, 104, 114, 101, 101, 32, 97, 110, 100, 32, 109, 111, 114, 101]⟩] 9)).alloc (.cells #[.int .i64 0] 3)) := by
  have hs := hb.size
  have W1 : FrW (three A) w w2.heap.size gp z (w2.heap.size + 1) (w2.alloc (.cells #[.string A, .string ⟨#[116, 119, 111]⟩, .string ⟨#[116, 104, 114, 101, 101, 32, 97, 110, 100, 32, 109, 111, 114, 101]⟩] 9)) := by
    refine ⟨hb.alloc hs _, by omega, by simp, fun j hj => ?_, by omega, ?_, by omega⟩
    · rw [cell_of_row _ w2.heap.size j _ 9 (0, 0) (heap_alloc_new w2 _)]
      rcases (show j = 0 ∨ j = 1 ∨ j = 2 by omega) with rfl | rfl | rfl <;> rfl
    · rw [World.cell?_of_block (w := w2) (Below.heap_alloc w2 _ gp hgp)]; exact hp
  have r1 := World.ownsRow_lit (e := 3) (size := 1) (w2.alloc (.cells #[.string A, .string ⟨#[116, 119, 111]⟩, .string ⟨#[116, 104, 114, 101, 101, 32, 97, 110, 100, 32, 109, 111, 114, 101]⟩] 9)) #[.int .i64 0] 1 (Nat.le_refl _) (by unfold maxLen; omega) rfl
  rw [World.size_alloc] at r1
  refine ⟨W1.grown (World.grownBy_alloc _ _ none) (fun k hk => by cases hk), ?_⟩
  exact r1

set_option maxRecDepth 100000 in
set_option maxHeartbeats 4000000 in
theorem fnFrames.walk (a : Option Addr) (len cap : Nat) (w : World) (hcode : Code w w.heap.size a len) (ht : Tab w) :
    Calls Tryd.prog 3 #[.slice a len cap] w fun e w' => e = .returned (.bool true) ∧ Below w.heap.size w w' := by
  by_cases hl : len ≤ 1048576
  · have HBig : Hid (∀ W : World, Calls Tryd.prog 6 #[.slice a len cap] W fun e w' => e = .returned (.bool false) ∧ W = w') := fun W => by
      have := big_any W a len cap
      rw [show decide ((1048576 : Int) < (len : Int)) = false by simp; omega] at this
      exact this.mono fun _ _ h => ⟨h.1, h.2.symm⟩
    obtain ⟨i0, hi, hz0, hz1, hz2⟩ := info_parts info3
    have HCode := hideIt hcode
    have HT := hideIt ht
    have HP := hideIt (drawPlaces_any w a len cap hl hcode)
    clear hcode ht
    go_enter Tryd.func3, Tryd.ntmps3
    go_wp2_with (go_at_call 6; refine (HBig.out _).mono ?_; rintro e w1 ⟨rfl, hw1⟩; subst hw1; refine Hid.out ?_)
    refine (show ∀ {p : Prop}, p → Hid p from fun h => h) ?_
    clear HBig
    go_wp2_with (go_at_call 7; refine HP.out.mono ?_; rintro e w1 ⟨gp, cp, l, hl12, hlz, rfl, hown, k1⟩; refine Hid.out ?_)
    refine (show ∀ {p : Prop}, p → Hid p from fun h => h) ?_
    have HX := hideIt (drawHex_any w1 a len cap hl (code_below HCode.out k1))
    have hgp := (hown.lt gp rfl)
    have hc0 : w1.cell? ⟨gp, 0, none⟩ = some (.int .i64 ((l.getD 0 0 : Nat) : Int)) := by
      rw [hown.cellAt 0 (by omega)]; exact nvs_at l 0 (by omega)
    obtain ⟨z, hz⟩ : ∃ z, l.getD 0 0 = z := ⟨_, rfl⟩
    rw [hz] at hc0
    clear HP hown hl12 hlz hz HCode
    go_wp2_with (go_at_call 8; refine HX.out.mono ?_; rintro e w2 ⟨S, hS, rfl, hb2⟩; refine Hid.out ?_)
    refine (show ∀ {p : Prop}, p → Hid p from fun h => h) ?_
    have k2 := k1.trans (hb2.mono k1.size)
    have hp2 : w2.cell? ⟨gp, 0, none⟩ = some (.int .i64 (z : Int)) := by rw [hb2.cell (show gp < _ from hgp.2)]; exact hc0
    have hgp2 : gp < w2.heap.size := Nat.lt_of_lt_of_le hgp.2 hb2.size
    clear HX hc0 hb2 k1 hgp
    by_cases hA : S.size ≤ 0
    · have e1 : ((S.size : Int) == 0) = true := by rw [beq_iff_eq]; omega
      have F0 := hideIt (FrL.start (⟨#[111, 110, 101]⟩ : ByteArray) k2 hgp2 hp2)
      have T0 := hideIt (trio (⟨#[111, 110, 101]⟩ : ByteArray) (by show 1 ≤ 3; omega) (by show 3 ≤ 900; omega))
      have hE0 : (fileAt (three (⟨#[111, 110, 101]⟩ : ByteArray)) 0) = ⟨#[]⟩ := rfl
      go_wp2
      obtain ⟨L, hL⟩ : ∃ L, L = three (⟨#[111, 110, 101]⟩ : ByteArray) := ⟨_, rfl⟩
      rw [← hL] at F0 T0 hE0
      obtain ⟨B, hB⟩ : ∃ B, B = w2.heap.size + 1 := ⟨_, rfl⟩
      have hBi := F0.out.row
      go_loopw [5, 6, 7] (fun file ends_ i wr => ∃ (k ge ce : Nat) (F : ByteArray), k ≤ 3 ∧ i = .int .i64 k ∧ file = .string F ∧ Hid (F = fileAt L k) ∧ ends_ = .slice (some ⟨ge, 0, none⟩) (k + 1) ce ∧ Hid (FrL L w w2.heap.size gp z (w2.heap.size + 1) k ge ce wr))
        (fun _ _ i _ => 3 - (intOf i).toNat)
      case atStart => exact ⟨0, w2.heap.size + 1, 1, ⟨#[]⟩, by omega, rfl, rfl, rfl, rfl, F0⟩
      case round =>
        obtain ⟨k, ge, ce, F, hk, rfl, rfl, hF, rfl, hst⟩ := hrel
        clear F0 hBi hL hE0
        by_cases hlt : k < 3
        · obtain ⟨X, hX⟩ : ∃ X, X = L.getD k ⟨#[]⟩ := ⟨_, rfl⟩
          have hx := hst.out.at_.txt k hlt
          rw [← hX] at hx
          have hF1 : fileAt L (k + 1) = F ++ frm X := by rw [hF.out, hX]; rfl
          have hz1' := fileAt_size L (k + 1) (by rw [T0.out.len]; omega)
          have hp1 := T0.out.place (k + 1)
          rw [hF1] at hz1'
          have hzs : (F ++ frm X).size = F.size + (frm X).size := ByteArray.size_append
          have hadd := fun wx => run_string_add_sum (P := Tryd.prog) wx F (frm X) (by omega)
          obtain ⟨G, hG⟩ : ∃ G, G = F ++ frm X := ⟨_, rfl⟩
          rw [← hG] at hadd hF1 hz1'
          have HF1 := hideIt hF1.symm
          have HZ := hideIt (show (G.size : Int) = ((endAt L (k + 1) : Nat) : Int) by rw [hz1'])
          have hG2 : G.size ≤ 2000 := by omega
          have HFr := hideIt (tFrame T0.out k hlt wr (HT.out.below hst.out.at_.low (Nat.le_refl _)))
          rw [← hX] at HFr
          have hsB := hst.out.at_.size
          have b1 : (0 : Int) ≤ (k : Int) := by omega
          have b2 : (k : Int) < 3 := by omega
          clear hX hF1 hz1' hp1 hzs hG hF
          go_wp2_with (first
            | (go_at_call 9; refine HFr.out.mono ?_; rintro e w3 ⟨rfl, hb3⟩; have hst3 := hst.out.below hb3; have hrow3 := hst3.row; have hs3 := hb3.size)
            | (at_builtin; refine wpList_append_lies _ rfl _ _ 24 rfl (w2.heap.size + 1) 3 i0 (.int .i64 0) 1 8 Tryd.underlying24 hi hz0 hz1 hz2 rfl (by decide) _ _ _ rfl (hrow3.alloc _) ⟨w3.heap.size, 0, none⟩ 1 1 [Value.int .i64 (G.size : Int)] rfl rfl (one_new _ _ _) (by intro u hu; simp at hu; subst hu; rfl) (by omega) (by unfold maxLen; omega) (by omega) (by simp; omega) (w3.heap.size + 1) (by simp) ?_; intro g1 cap1 w4 hown4 hg4 _ _))
          go_roundw
          case rel => exact ⟨k + 1, g1, cap1, G, by omega, by go_num, rfl, HF1, rfl, hideIt (hst3.next hg4 HZ.out hown4)⟩
          case measure => simp [intOf]; omega
        · obtain rfl : k = 3 := by omega
          have hLl := T0.out.len
          have hz3 := fileAt_size L 3 (by omega)
          have hp3 := T0.out.place 3
          rw [← hF.out] at hz3
          have hFs : F.size ≤ 2000 := by omega
          have hU1 : un F = (L.take 3, endAt L 3) := by rw [hF.out, T0.out.whole, List.take_of_length_le (by omega)]
          have HU1 := hideIt ((iUnframe_any F (by unfold maxLen; omega) wr (HT.out.below hst.out.at_.low (Nat.le_refl _))).mono fun _ _ h => cutOut (by omega) hU1 h)
          obtain ⟨T, hT⟩ : ∃ T : Nat, z % (F.size + 1) = T := ⟨_, rfl⟩
          have hTI : (z : Int) % ((F.size : Int) + 1) = (T : Int) := by rw [← hT]; simp
          have hTle : T ≤ F.size := by have := Nat.mod_lt z (show 0 < F.size + 1 by omega); omega
          obtain ⟨m, hm3, hU2, hEm, hor⟩ := T0.out.cut T (by omega)
          rw [← hF.out] at hU2
          have hSz : (F.extract 0 T).size ≤ maxLen := by rw [ByteArray.size_extract]; unfold maxLen; omega
          have HU2 := hideIt (fun W (ht : Tab W) => (iUnframe_any (F.extract 0 T) hSz W ht).mono fun _ _ h => cutOut (L := L) (m := m) (by omega) hU2 h)
          have HLl := hideIt hLl
          obtain ⟨E3, hE3⟩ : ∃ E3 : Int, E3 = ((endAt L 3 : Nat) : Int) := ⟨_, rfl⟩
          have hE3F : E3 = (F.size : Int) := by rw [hE3, hz3]
          subst hE3F
          have HE3 := hideIt hE3
          clear hE3
          obtain ⟨Em, hEmd⟩ : ∃ Em : Nat, Em = endAt L m := ⟨_, rfl⟩
          rw [← hEmd] at hEm
          have HEm := hideIt hEmd
          clear hU1 hU2 hz3 hp3 hT hSz hLl hF hEmd
          go_wp2_with (go_at_call 10; refine HU1.out.mono ?_; rintro e w3 ⟨a3, c3, rfl, hc3, hb3⟩; rw [← HE3.out]; refine Hid.out ?_)
          refine (show ∀ {p : Prop}, p → Hid p from fun h => h) ?_
          have hst3 := hideIt (hst.out.below hb3)
          have HS1 := hideIt (same_cut (d := 3) (c := c3) HLl.out (Nat.le_refl 3) hc3 hst3.out.at_.txt)
          clear HU1 hc3 hb3 hst
          go_wp2_with (go_at_call 11; refine HS1.out.mono ?_; rintro e w4 ⟨rfl, hb4⟩; refine Hid.out ?_)
          refine (show ∀ {p : Prop}, p → Hid p from fun h => h) ?_
          have hst4 := hideIt (hst3.out.below hb4)
          have hp4 := hst4.out.at_.plc
          have n0 : (T : Int).toNat = T := by omega
          have b1 : (0 : Int) ≤ (T : Int) := by omega
          have b2 : (T : Int) ≤ (F.size : Int) := by omega
          have HU3 := hideIt (HU2.out w4 (HT.out.below hst4.out.at_.low (Nat.le_refl _)))
          clear HS1 hb4 hst3 HU2
          go_wp2_with (go_at_call 10; refine HU3.out.mono ?_; rintro e w5 ⟨a5, c5, rfl, hc5, hb5⟩; rw [← HEm.out]; refine Hid.out ?_)
          refine (show ∀ {p : Prop}, p → Hid p from fun h => h) ?_
          have hst5 := hideIt (hst4.out.below hb5)
          have HS2 := hideIt (same_cut (d := 3) (c := c5) HLl.out hm3 hc5 hst5.out.at_.txt)
          have hcm : w5.cell? ⟨ge, m, none⟩ = some (.int .i64 (Em : Int)) := by rw [hst5.out.row.cellAt m (by omega), HEm.out]; exact ends_at L 3 m hm3
          have m1 : (0 : Int) ≤ (m : Int) := by omega
          have m2 : (m : Int) < 4 := by omega
          have m3 : (m : Int) ≤ 3 := by omega
          have m4 : (Em : Int) ≤ (T : Int) := by omega
          have nm : (m : Int).toNat = m := by omega
          have KF := hideIt (hst5.out.at_.low)
          by_cases h3 : m = 3
          · have q1 : ((m : Int) == 3) = true := by rw [beq_iff_eq]; omega
            clear hor h3 hst5 hst4 hc5 hb5 HU3 hp4
            go_wp2_with (go_at_call 11; refine HS2.out.mono ?_; rintro e w6 ⟨rfl, hb6⟩)
            go_ret
            exact ⟨by simp, KF.out.trans (hb6.mono KF.out.size)⟩
          · have q1 : ((m : Int) == 3) = false := by rw [beq_eq_false_iff_ne]; omega
            obtain ⟨En, hEn⟩ : ∃ En : Nat, En = endAt L (m + 1) := ⟨_, rfl⟩
            have hcn : w5.cell? ⟨ge, m + 1, none⟩ = some (.int .i64 (En : Int)) := by rw [hst5.out.row.cellAt (m + 1) (by omega), hEn]; exact ends_at L 3 (m + 1) (by omega)
            have m5 : (T : Int) < (En : Int) := by rw [hEn]; omega
            have m6 : (m : Int) + 1 < 4 := by omega
            have nm1 : ((m : Int) + 1).toNat = m + 1 := by omega
            have HN := hideIt (fun (w6 : World) (hb : Below w5.heap.size w5 w6) => show w6.cell? ⟨ge, m + 1, none⟩ = some (.int .i64 (En : Int)) from by rw [hb.cell (show ge < w5.heap.size from (hst5.out.row.lt ge rfl).2)]; exact hcn)
            clear hor h3 hst5 hst4 hc5 hb5 HU3 hp4 hEn hcn
            go_wp2_with (go_at_call 11; refine HS2.out.mono ?_; rintro e w6 ⟨rfl, hb6⟩; have hcn6 := HN.out w6 hb6)
            go_ret
            exact ⟨by simp, KF.out.trans (hb6.mono KF.out.size)⟩
    · have e1 : ((S.size : Int) == 0) = false := by rw [beq_eq_false_iff_ne]; omega
      by_cases hA2 : S.size ≤ 900
      · have e2 : decide ((900 : Int) < (S.size : Int)) = false := by simp; omega
        have F0 := hideIt (FrL.start S k2 hgp2 hp2)
        have T0 := hideIt (trio S (by omega) (by omega))
        have hE0 : (fileAt (three S) 0) = ⟨#[]⟩ := rfl
        go_wp2
        obtain ⟨L, hL⟩ : ∃ L, L = three S := ⟨_, rfl⟩
        rw [← hL] at F0 T0 hE0
        obtain ⟨B, hB⟩ : ∃ B, B = w2.heap.size + 1 := ⟨_, rfl⟩
        have hBi := F0.out.row
        go_loopw [5, 6, 7] (fun file ends_ i wr => ∃ (k ge ce : Nat) (F : ByteArray), k ≤ 3 ∧ i = .int .i64 k ∧ file = .string F ∧ Hid (F = fileAt L k) ∧ ends_ = .slice (some ⟨ge, 0, none⟩) (k + 1) ce ∧ Hid (FrL L w w2.heap.size gp z (w2.heap.size + 1) k ge ce wr))
          (fun _ _ i _ => 3 - (intOf i).toNat)
        case atStart => exact ⟨0, w2.heap.size + 1, 1, ⟨#[]⟩, by omega, rfl, rfl, rfl, rfl, F0⟩
        case round =>
          obtain ⟨k, ge, ce, F, hk, rfl, rfl, hF, rfl, hst⟩ := hrel
          clear F0 hBi hL hE0
          by_cases hlt : k < 3
          · obtain ⟨X, hX⟩ : ∃ X, X = L.getD k ⟨#[]⟩ := ⟨_, rfl⟩
            have hx := hst.out.at_.txt k hlt
            rw [← hX] at hx
            have hF1 : fileAt L (k + 1) = F ++ frm X := by rw [hF.out, hX]; rfl
            have hz1' := fileAt_size L (k + 1) (by rw [T0.out.len]; omega)
            have hp1 := T0.out.place (k + 1)
            rw [hF1] at hz1'
            have hzs : (F ++ frm X).size = F.size + (frm X).size := ByteArray.size_append
            have hadd := fun wx => run_string_add_sum (P := Tryd.prog) wx F (frm X) (by omega)
            obtain ⟨G, hG⟩ : ∃ G, G = F ++ frm X := ⟨_, rfl⟩
            rw [← hG] at hadd hF1 hz1'
            have HF1 := hideIt hF1.symm
            have HZ := hideIt (show (G.size : Int) = ((endAt L (k + 1) : Nat) : Int) by rw [hz1'])
            have hG2 : G.size ≤ 2000 := by omega
            have HFr := hideIt (tFrame T0.out k hlt wr (HT.out.below hst.out.at_.low (Nat.le_refl _)))
            rw [← hX] at HFr
            have hsB := hst.out.at_.size
            have b1 : (0 : Int) ≤ (k : Int) := by omega
            have b2 : (k : Int) < 3 := by omega
            clear hX hF1 hz1' hp1 hzs hG hF
            go_wp2_with (first
              | (go_at_call 9; refine HFr.out.mono ?_; rintro e w3 ⟨rfl, hb3⟩; have hst3 := hst.out.below hb3; have hrow3 := hst3.row; have hs3 := hb3.size)
              | (at_builtin; refine wpList_append_lies _ rfl _ _ 24 rfl (w2.heap.size + 1) 3 i0 (.int .i64 0) 1 8 Tryd.underlying24 hi hz0 hz1 hz2 rfl (by decide) _ _ _ rfl (hrow3.alloc _) ⟨w3.heap.size, 0, none⟩ 1 1 [Value.int .i64 (G.size : Int)] rfl rfl (one_new _ _ _) (by intro u hu; simp at hu; subst hu; rfl) (by omega) (by unfold maxLen; omega) (by omega) (by simp; omega) (w3.heap.size + 1) (by simp) ?_; intro g1 cap1 w4 hown4 hg4 _ _))
            go_roundw
            case rel => exact ⟨k + 1, g1, cap1, G, by omega, by go_num, rfl, HF1, rfl, hideIt (hst3.next hg4 HZ.out hown4)⟩
            case measure => simp [intOf]; omega
          · obtain rfl : k = 3 := by omega
            have hLl := T0.out.len
            have hz3 := fileAt_size L 3 (by omega)
            have hp3 := T0.out.place 3
            rw [← hF.out] at hz3
            have hFs : F.size ≤ 2000 := by omega
            have hU1 : un F = (L.take 3, endAt L 3) := by rw [hF.out, T0.out.whole, List.take_of_length_le (by omega)]
            have HU1 := hideIt ((iUnframe_any F (by unfold maxLen; omega) wr (HT.out.below hst.out.at_.low (Nat.le_refl _))).mono fun _ _ h => cutOut (by omega) hU1 h)
            obtain ⟨T, hT⟩ : ∃ T : Nat, z % (F.size + 1) = T := ⟨_, rfl⟩
            have hTI : (z : Int) % ((F.size : Int) + 1) = (T : Int) := by rw [← hT]; simp
            have hTle : T ≤ F.size := by have := Nat.mod_lt z (show 0 < F.size + 1 by omega); omega
            obtain ⟨m, hm3, hU2, hEm, hor⟩ := T0.out.cut T (by omega)
            rw [← hF.out] at hU2
            have hSz : (F.extract 0 T).size ≤ maxLen := by rw [ByteArray.size_extract]; unfold maxLen; omega
            have HU2 := hideIt (fun W (ht : Tab W) => (iUnframe_any (F.extract 0 T) hSz W ht).mono fun _ _ h => cutOut (L := L) (m := m) (by omega) hU2 h)
            have HLl := hideIt hLl
            obtain ⟨E3, hE3⟩ : ∃ E3 : Int, E3 = ((endAt L 3 : Nat) : Int) := ⟨_, rfl⟩
            have hE3F : E3 = (F.size : Int) := by rw [hE3, hz3]
            subst hE3F
            have HE3 := hideIt hE3
            clear hE3
            obtain ⟨Em, hEmd⟩ : ∃ Em : Nat, Em = endAt L m := ⟨_, rfl⟩
            rw [← hEmd] at hEm
            have HEm := hideIt hEmd
            clear hU1 hU2 hz3 hp3 hT hSz hLl hF hEmd
            go_wp2_with (go_at_call 10; refine HU1.out.mono ?_; rintro e w3 ⟨a3, c3, rfl, hc3, hb3⟩; rw [← HE3.out]; refine Hid.out ?_)
            refine (show ∀ {p : Prop}, p → Hid p from fun h => h) ?_
            have hst3 := hideIt (hst.out.below hb3)
            have HS1 := hideIt (same_cut (d := 3) (c := c3) HLl.out (Nat.le_refl 3) hc3 hst3.out.at_.txt)
            clear HU1 hc3 hb3 hst
            go_wp2_with (go_at_call 11; refine HS1.out.mono ?_; rintro e w4 ⟨rfl, hb4⟩; refine Hid.out ?_)
            refine (show ∀ {p : Prop}, p → Hid p from fun h => h) ?_
            have hst4 := hideIt (hst3.out.below hb4)
            have hp4 := hst4.out.at_.plc
            have n0 : (T : Int).toNat = T := by omega
            have b1 : (0 : Int) ≤ (T : Int) := by omega
            have b2 : (T : Int) ≤ (F.size : Int) := by omega
            have HU3 := hideIt (HU2.out w4 (HT.out.below hst4.out.at_.low (Nat.le_refl _)))
            clear HS1 hb4 hst3 HU2
            go_wp2_with (go_at_call 10; refine HU3.out.mono ?_; rintro e w5 ⟨a5, c5, rfl, hc5, hb5⟩; rw [← HEm.out]; refine Hid.out ?_)
            refine (show ∀ {p : Prop}, p → Hid p from fun h => h) ?_
            have hst5 := hideIt (hst4.out.below hb5)
            have HS2 := hideIt (same_cut (d := 3) (c := c5) HLl.out hm3 hc5 hst5.out.at_.txt)
            have hcm : w5.cell? ⟨ge, m, none⟩ = some (.int .i64 (Em : Int)) := by rw [hst5.out.row.cellAt m (by omega), HEm.out]; exact ends_at L 3 m hm3
            have m1 : (0 : Int) ≤ (m : Int) := by omega
            have m2 : (m : Int) < 4 := by omega
            have m3 : (m : Int) ≤ 3 := by omega
            have m4 : (Em : Int) ≤ (T : Int) := by omega
            have nm : (m : Int).toNat = m := by omega
            have KF := hideIt (hst5.out.at_.low)
            by_cases h3 : m = 3
            · have q1 : ((m : Int) == 3) = true := by rw [beq_iff_eq]; omega
              clear hor h3 hst5 hst4 hc5 hb5 HU3 hp4
              go_wp2_with (go_at_call 11; refine HS2.out.mono ?_; rintro e w6 ⟨rfl, hb6⟩)
              go_ret
              exact ⟨by simp, KF.out.trans (hb6.mono KF.out.size)⟩
            · have q1 : ((m : Int) == 3) = false := by rw [beq_eq_false_iff_ne]; omega
              obtain ⟨En, hEn⟩ : ∃ En : Nat, En = endAt L (m + 1) := ⟨_, rfl⟩
              have hcn : w5.cell? ⟨ge, m + 1, none⟩ = some (.int .i64 (En : Int)) := by rw [hst5.out.row.cellAt (m + 1) (by omega), hEn]; exact ends_at L 3 (m + 1) (by omega)
              have m5 : (T : Int) < (En : Int) := by rw [hEn]; omega
              have m6 : (m : Int) + 1 < 4 := by omega
              have nm1 : ((m : Int) + 1).toNat = m + 1 := by omega
              have HN := hideIt (fun (w6 : World) (hb : Below w5.heap.size w5 w6) => show w6.cell? ⟨ge, m + 1, none⟩ = some (.int .i64 (En : Int)) from by rw [hb.cell (show ge < w5.heap.size from (hst5.out.row.lt ge rfl).2)]; exact hcn)
              clear hor h3 hst5 hst4 hc5 hb5 HU3 hp4 hEn hcn
              go_wp2_with (go_at_call 11; refine HS2.out.mono ?_; rintro e w6 ⟨rfl, hb6⟩; have hcn6 := HN.out w6 hb6)
              go_ret
              exact ⟨by simp, KF.out.trans (hb6.mono KF.out.size)⟩
      · have e2 : decide ((900 : Int) < (S.size : Int)) = true := by simp; omega
        have F0 := hideIt (FrL.start (⟨#[111, 110, 101]⟩ : ByteArray) k2 hgp2 hp2)
        have T0 := hideIt (trio (⟨#[111, 110, 101]⟩ : ByteArray) (by show 1 ≤ 3; omega) (by show 3 ≤ 900; omega))
        have hE0 : (fileAt (three (⟨#[111, 110, 101]⟩ : ByteArray)) 0) = ⟨#[]⟩ := rfl
        go_wp2
        obtain ⟨L, hL⟩ : ∃ L, L = three (⟨#[111, 110, 101]⟩ : ByteArray) := ⟨_, rfl⟩
        rw [← hL] at F0 T0 hE0
        obtain ⟨B, hB⟩ : ∃ B, B = w2.heap.size + 1 := ⟨_, rfl⟩
        have hBi := F0.out.row
        go_loopw [5, 6, 7] (fun file ends_ i wr => ∃ (k ge ce : Nat) (F : ByteArray), k ≤ 3 ∧ i = .int .i64 k ∧ file = .string F ∧ Hid (F = fileAt L k) ∧ ends_ = .slice (some ⟨ge, 0, none⟩) (k + 1) ce ∧ Hid (FrL L w w2.heap.size gp z (w2.heap.size + 1) k ge ce wr))
          (fun _ _ i _ => 3 - (intOf i).toNat)
        case atStart => exact ⟨0, w2.heap.size + 1, 1, ⟨#[]⟩, by omega, rfl, rfl, rfl, rfl, F0⟩
        case round =>
          obtain ⟨k, ge, ce, F, hk, rfl, rfl, hF, rfl, hst⟩ := hrel
          clear F0 hBi hL hE0
          by_cases hlt : k < 3
          · obtain ⟨X, hX⟩ : ∃ X, X = L.getD k ⟨#[]⟩ := ⟨_, rfl⟩
            have hx := hst.out.at_.txt k hlt
            rw [← hX] at hx
            have hF1 : fileAt L (k + 1) = F ++ frm X := by rw [hF.out, hX]; rfl
            have hz1' := fileAt_size L (k + 1) (by rw [T0.out.len]; omega)
            have hp1 := T0.out.place (k + 1)
            rw [hF1] at hz1'
            have hzs : (F ++ frm X).size = F.size + (frm X).size := ByteArray.size_append
            have hadd := fun wx => run_string_add_sum (P := Tryd.prog) wx F (frm X) (by omega)
            obtain ⟨G, hG⟩ : ∃ G, G = F ++ frm X := ⟨_, rfl⟩
            rw [← hG] at hadd hF1 hz1'
            have HF1 := hideIt hF1.symm
            have HZ := hideIt (show (G.size : Int) = ((endAt L (k + 1) : Nat) : Int) by rw [hz1'])
            have hG2 : G.size ≤ 2000 := by omega
            have HFr := hideIt (tFrame T0.out k hlt wr (HT.out.below hst.out.at_.low (Nat.le_refl _)))
            rw [← hX] at HFr
            have hsB := hst.out.at_.size
            have b1 : (0 : Int) ≤ (k : Int) := by omega
            have b2 : (k : Int) < 3 := by omega
            clear hX hF1 hz1' hp1 hzs hG hF
            go_wp2_with (first
              | (go_at_call 9; refine HFr.out.mono ?_; rintro e w3 ⟨rfl, hb3⟩; have hst3 := hst.out.below hb3; have hrow3 := hst3.row; have hs3 := hb3.size)
              | (at_builtin; refine wpList_append_lies _ rfl _ _ 24 rfl (w2.heap.size + 1) 3 i0 (.int .i64 0) 1 8 Tryd.underlying24 hi hz0 hz1 hz2 rfl (by decide) _ _ _ rfl (hrow3.alloc _) ⟨w3.heap.size, 0, none⟩ 1 1 [Value.int .i64 (G.size : Int)] rfl rfl (one_new _ _ _) (by intro u hu; simp at hu; subst hu; rfl) (by omega) (by unfold maxLen; omega) (by omega) (by simp; omega) (w3.heap.size + 1) (by simp) ?_; intro g1 cap1 w4 hown4 hg4 _ _))
            go_roundw
            case rel => exact ⟨k + 1, g1, cap1, G, by omega, by go_num, rfl, HF1, rfl, hideIt (hst3.next hg4 HZ.out hown4)⟩
            case measure => simp [intOf]; omega
          · obtain rfl : k = 3 := by omega
            have hLl := T0.out.len
            have hz3 := fileAt_size L 3 (by omega)
            have hp3 := T0.out.place 3
            rw [← hF.out] at hz3
            have hFs : F.size ≤ 2000 := by omega
            have hU1 : un F = (L.take 3, endAt L 3) := by rw [hF.out, T0.out.whole, List.take_of_length_le (by omega)]
            have HU1 := hideIt ((iUnframe_any F (by unfold maxLen; omega) wr (HT.out.below hst.out.at_.low (Nat.le_refl _))).mono fun _ _ h => cutOut (by omega) hU1 h)
            obtain ⟨T, hT⟩ : ∃ T : Nat, z % (F.size + 1) = T := ⟨_, rfl⟩
            have hTI : (z : Int) % ((F.size : Int) + 1) = (T : Int) := by rw [← hT]; simp
            have hTle : T ≤ F.size := by have := Nat.mod_lt z (show 0 < F.size + 1 by omega); omega
            obtain ⟨m, hm3, hU2, hEm, hor⟩ := T0.out.cut T (by omega)
            rw [← hF.out] at hU2
            have hSz : (F.extract 0 T).size ≤ maxLen := by rw [ByteArray.size_extract]; unfold maxLen; omega
            have HU2 := hideIt (fun W (ht : Tab W) => (iUnframe_any (F.extract 0 T) hSz W ht).mono fun _ _ h => cutOut (L := L) (m := m) (by omega) hU2 h)
            have HLl := hideIt hLl
            obtain ⟨E3, hE3⟩ : ∃ E3 : Int, E3 = ((endAt L 3 : Nat) : Int) := ⟨_, rfl⟩
            have hE3F : E3 = (F.size : Int) := by rw [hE3, hz3]
            subst hE3F
            have HE3 := hideIt hE3
            clear hE3
            obtain ⟨Em, hEmd⟩ : ∃ Em : Nat, Em = endAt L m := ⟨_, rfl⟩
            rw [← hEmd] at hEm
            have HEm := hideIt hEmd
            clear hU1 hU2 hz3 hp3 hT hSz hLl hF hEmd
            go_wp2_with (go_at_call 10; refine HU1.out.mono ?_; rintro e w3 ⟨a3, c3, rfl, hc3, hb3⟩; rw [← HE3.out]; refine Hid.out ?_)
            refine (show ∀ {p : Prop}, p → Hid p from fun h => h) ?_
            have hst3 := hideIt (hst.out.below hb3)
            have HS1 := hideIt (same_cut (d := 3) (c := c3) HLl.out (Nat.le_refl 3) hc3 hst3.out.at_.txt)
            clear HU1 hc3 hb3 hst
            go_wp2_with (go_at_call 11; refine HS1.out.mono ?_; rintro e w4 ⟨rfl, hb4⟩; refine Hid.out ?_)
            refine (show ∀ {p : Prop}, p → Hid p from fun h => h) ?_
            have hst4 := hideIt (hst3.out.below hb4)
            have hp4 := hst4.out.at_.plc
            have n0 : (T : Int).toNat = T := by omega
            have b1 : (0 : Int) ≤ (T : Int) := by omega
            have b2 : (T : Int) ≤ (F.size : Int) := by omega
            have HU3 := hideIt (HU2.out w4 (HT.out.below hst4.out.at_.low (Nat.le_refl _)))
            clear HS1 hb4 hst3 HU2
            go_wp2_with (go_at_call 10; refine HU3.out.mono ?_; rintro e w5 ⟨a5, c5, rfl, hc5, hb5⟩; rw [← HEm.out]; refine Hid.out ?_)
            refine (show ∀ {p : Prop}, p → Hid p from fun h => h) ?_
            have hst5 := hideIt (hst4.out.below hb5)
            have HS2 := hideIt (same_cut (d := 3) (c := c5) HLl.out hm3 hc5 hst5.out.at_.txt)
            have hcm : w5.cell? ⟨ge, m, none⟩ = some (.int .i64 (Em : Int)) := by rw [hst5.out.row.cellAt m (by omega), HEm.out]; exact ends_at L 3 m hm3
            have m1 : (0 : Int) ≤ (m : Int) := by omega
            have m2 : (m : Int) < 4 := by omega
            have m3 : (m : Int) ≤ 3 := by omega
            have m4 : (Em : Int) ≤ (T : Int) := by omega
            have nm : (m : Int).toNat = m := by omega
            have KF := hideIt (hst5.out.at_.low)
            by_cases h3 : m = 3
            · have q1 : ((m : Int) == 3) = true := by rw [beq_iff_eq]; omega
              clear hor h3 hst5 hst4 hc5 hb5 HU3 hp4
              go_wp2_with (go_at_call 11; refine HS2.out.mono ?_; rintro e w6 ⟨rfl, hb6⟩)
              go_ret
              exact ⟨by simp, KF.out.trans (hb6.mono KF.out.size)⟩
            · have q1 : ((m : Int) == 3) = false := by rw [beq_eq_false_iff_ne]; omega
              obtain ⟨En, hEn⟩ : ∃ En : Nat, En = endAt L (m + 1) := ⟨_, rfl⟩
              have hcn : w5.cell? ⟨ge, m + 1, none⟩ = some (.int .i64 (En : Int)) := by rw [hst5.out.row.cellAt (m + 1) (by omega), hEn]; exact ends_at L 3 (m + 1) (by omega)
              have m5 : (T : Int) < (En : Int) := by rw [hEn]; omega
              have m6 : (m : Int) + 1 < 4 := by omega
              have nm1 : ((m : Int) + 1).toNat = m + 1 := by omega
              have HN := hideIt (fun (w6 : World) (hb : Below w5.heap.size w5 w6) => show w6.cell? ⟨ge, m + 1, none⟩ = some (.int .i64 (En : Int)) from by rw [hb.cell (show ge < w5.heap.size from (hst5.out.row.lt ge rfl).2)]; exact hcn)
              clear hor h3 hst5 hst4 hc5 hb5 HU3 hp4 hEn hcn
              go_wp2_with (go_at_call 11; refine HS2.out.mono ?_; rintro e w6 ⟨rfl, hb6⟩; have hcn6 := HN.out w6 hb6)
              go_ret
              exact ⟨by simp, KF.out.trans (hb6.mono KF.out.size)⟩
  · have HBig : Hid (∀ W : World, Calls Tryd.prog 6 #[.slice a len cap] W fun e w' => e = .returned (.bool true) ∧ W = w') := fun W => by
      have := big_any W a len cap
      rw [show decide ((1048576 : Int) < (len : Int)) = true by simp; omega] at this
      exact this.mono fun _ _ h => ⟨h.1, h.2.symm⟩
    go_enter Tryd.func3, Tryd.ntmps3
    go_wp2_with (go_at_call 6; refine (HBig.out _).mono ?_; rintro e w1 ⟨rfl, hw1⟩; subst hw1)
    go_ret
    exact ⟨rfl, Below.refl _ _⟩
end Go.Proofs.YtegknhnmfaafmaaDoor
