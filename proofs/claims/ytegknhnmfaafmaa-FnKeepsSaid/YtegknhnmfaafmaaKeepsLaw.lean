/- The walk of FnKeeps. -/
import Derived.Test.YtegknhnmfaafmaaKeeps
import Derived.Test.YtegknhnmfaafmaaDrawD
import Derived.Test.YtegknhnmfaafmaaILose
import Derived.Test.YtegknhnmfaafmaaIKept
namespace Go.Proofs.Ytegknhnmfaafmaa
open Go.RowKit

theorem right_disk {gs : List FileV} (h : Right gs) (hl : gs.length ≤ 6) : DiskR gs := (disk_iff gs).2 ⟨by omega, h.2, h.1⟩
theorem right_letters {gs : List FileV} (h : DiskR gs) : gs.length + letters gs ≤ 1048576 := by
  have h1 := ((disk_iff gs).1 h).2.1
  have h30 := h.1
  have : ∀ l : List FileV, (∀ f ∈ l, FileOk f) → letters l ≤ l.length * 20008 := by
    intro l
    induction l with
    | nil => intro _; simp [letters]
    | cons f fs ih =>
      intro hf
      have h2 := ih fun g hg => hf g (List.mem_cons_of_mem _ hg)
      obtain ⟨⟨_, h3⟩, h4, _⟩ := hf f (List.mem_cons_self ..)
      simp only [letters, List.map_cons, List.sum_cons, List.length_cons] at h2 ⊢
      omega
  have h2 := this gs h1
  have h3 : gs.length * 20008 ≤ 30 * 20008 := Nat.mul_le_mul_right _ h30
  omega

/-- s begins t, as the law looks -/
structure Beg (s t : ByteArray) : Prop where
  call : ∀ w, Calls Try.prog 13 #[.string s, .string t] w fun e w' => e = .returned (.bool true) ∧ w' = w

set_option maxRecDepth 100000 in
set_option maxHeartbeats 8000000 in
theorem fnKeeps.walk (a : Option Addr) (len cap : Nat) (w : World) (hcode : Code w w.heap.size a len) :
    Calls Try.prog 3 #[.slice a len cap] w fun e w' => e = .returned (.bool true) ∧ Below w.heap.size w w' := by
  by_cases hbig : 1048576 < len
  · have H := hideIt (big_any w a len cap)
    have d0 : decide ((1048576 : Int) < (len : Int)) = true := by simp; omega
    rw [d0] at H
    go_enter Try.func3, Try.ntmps3
    go_wp2_with (go_at_call 5; refine H.out.mono ?_; rintro e w1 ⟨rfl, rfl⟩)
    go_ret
    exact ⟨rfl, Below.refl _ _⟩
  have hl : len ≤ 1048576 := by omega
  have H := hideIt (big_any w a len cap)
  have d0 : decide ((1048576 : Int) < (len : Int)) = false := by simp; omega
  rw [d0] at H
  have HD := hideIt (drawRightDisk_any w a len cap hl hcode)
  have HC := hideIt hcode
  clear hcode
  go_enter Try.func3, Try.ntmps3
  go_wp2_with (first
    | (go_at_call 5; refine H.out.mono ?_; rintro e w1 ⟨rfl, rfl⟩)
    | (go_at_call 6; refine HD.out.mono ?_; rintro e w2 ⟨fs, ad, n, cd, ⟨hR, hl6⟩, rfl, hown2, hb2⟩; refine Hid.out ?_))
  refine (show ∀ {p : Prop}, p → Hid p from fun h => h) ?_
  have hdisk := right_disk hR hl6
  have hlet := right_letters hdisk
  have hlen : fs.length = n := by have := hown2.1; rw [fcells_length] at this; omega
  have HDR := hideIt hdisk
  have HF := hideIt (Fs_of_ownv hown2)
  have K3 := hideIt (hb2.alloc hb2.size (.cells #[.slice ad n cd] 26))
  have HP := hideIt (drawPlaces_any (w2.alloc (.cells #[.slice ad n cd] 26)) a len cap hl (code_up HC.out (hb2.alloc hb2.size (.cells #[.slice ad n cd] 26))))
  have z2 := hb2.size
  have BD := Box.new w2 26 (.slice ad n cd) w2.heap.size rfl
  have F3 := HF.out.up ((Below.refl w2.heap.size w2).alloc (Nat.le_refl _) (.cells #[.slice ad n cd] 26))
  clear H HD hown2 hb2 hR hdisk
  go_wp2_with (go_at_call 8; refine HP.out.mono ?_; rintro e w4 ⟨g4, c4, l, hl12, _, rfl, hown4, hb4⟩; refine Hid.out ?_)
  refine (show ∀ {p : Prop}, p → Hid p from fun h => h) ?_
  have BD4 := BD.below hb4 BD.lt
  have F4 := F3.up hb4
  have K4 := K3.out.trans (hb4.mono (by simp; omega))
  have HL := hideIt (lefts_any l hl12 g4 c4 w4 _ hown4)
  have z4 := hb4.size
  simp at z4
  clear HP hown4 hb4 BD F3 K3
  go_wp2_with (go_at_call 7; refine HL.out.mono ?_; rintro e w5 ⟨g5, c5, ls, hl6', rfl, hown5, hb5⟩; refine Hid.out ?_)
  refine (show ∀ {p : Prop}, p → Hid p from fun h => h) ?_
  have BD5 := BD4.below hb5 BD4.lt
  have F5 := F4.up hb5
  have z5 := hb5.size
  have K5 := K4.trans (hb5.mono (by omega))
  have HLo := iLoseDisk_any fs ls hlet n ad cd 6 (some ⟨g5, 0, none⟩) c5 (by omega) w5 F5 (Is_of_own hown5)
  rw [loseO_yes HDR.out] at HLo
  unfold ActAns at HLo
  dsimp only at HLo
  have HLo1 := hideIt HLo
  have q0 := BD5.cell
  clear HL hown5 hb5 BD4 F4 K4 HLo
  go_wp2_with (go_at_call 9; refine HLo1.out.mono ?_; rintro e w6 ⟨ae, me, ce, rfl, hown6, hb6⟩; refine Hid.out ?_)
  refine (show ∀ {p : Prop}, p → Hid p from fun h => h) ?_
  have HLd := hideIt (lose_disk HDR.out ls)
  have HLk := hideIt (lose_kept HDR.out ls)
  have hme : me = n := by have := hown6.1; rw [fcells_length, lose_len] at this; omega
  subst hme
  have z6 := hb6.size
  have BE := Box.new w6 26 (.slice ae me ce) w6.heap.size rfl
  have E6 := (Fs_of_ownv hown6).up ((Below.refl w6.heap.size w6).alloc (Nat.le_refl _) (.cells #[.slice ae me ce] 26))
  have BD6 := (BD5.below hb6 BD5.lt).alloc (.cells #[.slice ae me ce] 26)
  have F6 := (F5.up hb6).up ((Below.refl w6.heap.size w6).alloc (Nat.le_refl _) (.cells #[.slice ae me ce] 26))
  have K6 := (K5.trans (hb6.mono (by omega))).alloc (by omega) (.cells #[.slice ae me ce] 26)
  have A7 : Below (w6.alloc (.cells #[.slice ae me ce] 26)).heap.size (w6.alloc (.cells #[.slice ae me ce] 26)) ((w6.alloc (.cells #[.slice ae me ce] 26)).alloc (.cells #[] 3)) := (Below.refl _ _).alloc (Nat.le_refl _) _
  have HLo := iLoseDisk_any (lose fs ls) [] (right_letters HLd.out) me ae ce 0 (some ⟨w6.heap.size + 1, 0, none⟩) 0 (by omega) _ (E6.up A7) ⟨rfl, .inl rfl⟩
  rw [loseO_yes HLd.out, lose_again HLk.out] at HLo
  unfold ActAns at HLo
  dsimp only at HLo
  have HLo2 := hideIt HLo
  have BE7 := BE.below A7 BE.lt
  have E7 := E6.up A7
  have BD7 := BD6.below A7 BD6.lt
  have F7 := F6.up A7
  have K7 := K6.trans (A7.mono (by simp; omega))
  clear HLo HLo1 hown6 hb6 q0 BE E6 BD6 F6 K6 BD5 F5 K5 A7
  go_wp2_with (go_at_call 9; refine HLo2.out.mono ?_; rintro e w8 ⟨af, mf, cf, rfl, hown8, hb8⟩; refine Hid.out ?_)
  refine (show ∀ {p : Prop}, p → Hid p from fun h => h) ?_
  have hmf : mf = me := by have := hown8.1; rw [fcells_length, lose_len] at this; omega
  subst hmf
  have A9 : Below w8.heap.size w8 (w8.alloc (.cells #[.slice af mf cf] 26)) := (Below.refl _ _).alloc (Nat.le_refl _) _
  have BF9 := Box.new w8 26 (.slice af mf cf) w8.heap.size rfl
  have G9 := (Fs_of_ownv hown8).up A9
  have BE9 := (BE7.below hb8 BE7.lt).below A9 (BE7.below hb8 BE7.lt).lt
  have E9 := (E7.up hb8).up A9
  have BD9 := (BD7.below hb8 BD7.lt).below A9 (BD7.below hb8 BD7.lt).lt
  have F9 := (F7.up hb8).up A9
  have z8 := hb8.size
  simp at z8
  have K9 := (K7.trans (hb8.mono (by simp; omega))).trans (A9.mono (by omega))
  have hn6 : mf ≤ 1048576 := by omega
  have q0 := BE9.cell
  have q1 := BF9.cell
  have q2 := BD9.cell
  have dn : ((mf : Int) != (mf : Int)) = false := by simp
  have HSm := hideIt (sameDisk_same (lose fs ls) mf ae af ce cf hn6 _ E9 G9)
  clear HLo2 hown8 hb8 BE7 E7 BD7 F7 K7 A9
  go_wp2_with (go_at_call 10; refine HSm.out.mono ?_; rintro e w10 ⟨rfl, hb10⟩; refine Hid.out ?_)
  refine (show ∀ {p : Prop}, p → Hid p from fun h => h) ?_
  have BE10 := BE9.below hb10 BE9.lt
  have E10 := E9.up hb10
  have BD10 := BD9.below hb10 BD9.lt
  have F10 := F9.up hb10
  have z10 := hb10.size
  simp at z10
  have K10 := K9.trans (hb10.mono (by simp; omega))
  have HAk := iAllKept_any (lose fs ls) (fits_of (right_letters HLd.out)) mf ae ce (by unfold maxLen; omega) w10 E10
  rw [akB_true HLk.out] at HAk
  have HAk1 := hideIt HAk
  clear HSm hb10 q0 q1 q2 BE9 E9 BD9 F9 K9 G9 BF9 HAk
  have q0 := BE10.cell
  have q2 := BD10.cell
  go_wp2_with (go_at_call 11; refine HAk1.out.mono ?_; rintro e w11 ⟨rfl, hb11⟩; refine Hid.out ?_)
  refine (show ∀ {p : Prop}, p → Hid p from fun h => h) ?_
  have BE11 := BE10.below hb11 BE10.lt
  have E11 := E10.up hb11
  have BD11 := BD10.below hb11 BD10.lt
  have F11 := F10.up hb11
  have z11 := hb11.size
  have K11 := K10.trans (hb11.mono (by omega))
  have HDk := iDiskOk_any fs (fits_of hlet) mf ad cd (by unfold maxLen; omega) w11 F11
  rw [dB_true HDR.out] at HDk
  have HDk1 := hideIt HDk
  clear HAk1 hb11 q0 q2 BE10 E10 BD10 F10 K10 HDk
  have q2 := BD11.cell
  go_wp2_with (go_at_call 12; refine HDk1.out.mono ?_; rintro e w12 ⟨rfl, hb12⟩; refine Hid.out ?_)
  refine (show ∀ {p : Prop}, p → Hid p from fun h => h) ?_
  have BE := BE11.below hb12 BE11.lt
  have E := E11.up hb12
  have BD := BD11.below hb12 BD11.lt
  have F := F11.up hb12
  have z12 := hb12.size
  have K := K11.trans (hb12.mono (by omega))
  have HE := hideIt E.2
  have HFf := hideIt F.2
  have lE := BE.lt
  have lD := BD.lt
  clear HDk1 hb12 q2 BE11 E11 BD11 F11 K11 E F
  go_wp2
  go_loopw [9] (fun i wr => ∃ k : Nat, k ≤ mf ∧ i = .int .i64 (k : Int) ∧ Below w12.heap.size w12 wr) (fun i _ => mf - (intOf i).toNat)
  case atStart => exact ⟨0, by omega, rfl, Below.refl _ _⟩
  case round =>
    obtain ⟨k, hk, rfl, hb⟩ := hrel
    have p0 := (BE.below hb BE.lt).cell
    have p2 := (BD.below hb BD.lt).cell
    have hsz := hb.size
    have KB := K.trans (hb.mono (by omega))
    by_cases hlt : k < mf
    · rcases HFf.out with hz | ⟨b, off, rfl, hbl, hc⟩
      · omega
      · rcases HE.out with hz | ⟨b', off', rfl, hbl', hc'⟩
        · omega
        · obtain ⟨f, hf⟩ : ∃ f, fs[k]? = some f := ⟨fs[k]'(by omega), List.getElem?_eq_getElem (by omega)⟩
          have hg : (lose fs ls)[k]? = some (cutF f ls[k]?) := by rw [lose_at, hf]; rfl
          have hok := disk_at HDR.out hf
          obtain ⟨v0, v1, v2⟩ := cut_ok hok ls[k]?
          obtain ⟨c0, c1, c2⟩ := hc k f hf
          obtain ⟨d0, d1, d2⟩ := hc' k _ hg
          have hT : (cutF f ls[k]?).text = f.text.extract 0 (cutI f ls[k]?).toNat := rfl
          have hNm : (cutF f ls[k]?).name = f.name := rfl
          have hKp : (cutF f ls[k]?).kept = cutI f ls[k]? := rfl
          rw [hNm] at d0
          rw [hKp] at d2
          generalize cutI f ls[k]? = V at *
          have hb1 := begins_yes f.text V.toNat (by omega)
          have hb2 : ∀ w, Calls Try.prog 13 #[.string (f.text.extract 0 f.kept.toNat), .string (f.text.extract 0 V.toNat)] w fun e w' => e = .returned (.bool true) ∧ w' = w := fun w => by
            have h1 := begins_yes (f.text.extract 0 V.toNat) f.kept.toNat (by rw [ext_size _ _ (by omega)]; have := hok.2.2.1; omega) w
            have h2 : (f.text.extract 0 V.toNat).extract 0 f.kept.toNat = f.text.extract 0 f.kept.toNat := by
              rw [ByteArray.extract_extract]
              congr 1
              omega
            rw [h2] at h1
            exact h1
          rw [← hT] at hb1 hb2
          generalize (cutF f ls[k]?).text = T at *
          have HB1 : Beg T f.text := ⟨hb1⟩
          have HB2 : Beg (f.text.extract 0 f.kept.toNat) T := ⟨hb2⟩
          have e0 : wr.cell? ⟨b, off + k * 3, none⟩ = some (.string f.name) := by rw [hb.cell hbl]; exact c0
          have e1 : wr.cell? ⟨b, off + k * 3 + 1, none⟩ = some (.string f.text) := by rw [hb.cell hbl]; exact c1
          have e2 : wr.cell? ⟨b, off + k * 3 + 2, none⟩ = some (.int .i64 f.kept) := by rw [hb.cell hbl]; exact c2
          have e3 : wr.cell? ⟨b', off' + k * 3, none⟩ = some (.string f.name) := by rw [hb.cell hbl']; exact d0
          have e4 : wr.cell? ⟨b', off' + k * 3 + 1, none⟩ = some (.string T) := by rw [hb.cell hbl']; exact d1
          have e5 : wr.cell? ⟨b', off' + k * 3 + 2, none⟩ = some (.int .i64 V) := by rw [hb.cell hbl']; exact d2
          have b1 : (0 : Int) ≤ (k : Int) := by omega
          have b2 : (k : Int) < (mf : Int) := by omega
          have hbw : b < wr.heap.size := by omega
          have hbw' : b' < wr.heap.size := by omega
          have hdw : w2.heap.size < wr.heap.size := by omega
          have hew : w6.heap.size < wr.heap.size := by omega
          have kp0 : (0 : Int) ≤ f.kept := hok.2.2.1
          have kp1 : f.kept ≤ (f.text.size : Int) := hok.2.2.2
          have K2 := hideIt ((hb.alloc hsz (.cells #[.string f.name, .string f.text, .int .i64 f.kept] 36)).alloc (by simp; omega) (.cells #[.string f.name, .string T, .int .i64 V] 36))
          clear c0 c1 c2 d0 d1 d2 hc hc' hf hg hT hNm hKp hb1 hb2 hok
          go_wp2
          have hS0 : ((wr.alloc (.cells #[.string f.name, .string f.text, .int .i64 f.kept] 36)).alloc (.cells #[.string f.name, .string T, .int .i64 V] 36)).drew.cell? ⟨wr.heap.size, 0, none⟩ = some (.string f.name) ∧ ((wr.alloc (.cells #[.string f.name, .string f.text, .int .i64 f.kept] 36)).alloc (.cells #[.string f.name, .string T, .int .i64 V] 36)).drew.cell? ⟨wr.heap.size, 1, none⟩ = some (.string f.text) ∧ ((wr.alloc (.cells #[.string f.name, .string f.text, .int .i64 f.kept] 36)).alloc (.cells #[.string f.name, .string T, .int .i64 V] 36)).drew.cell? ⟨wr.heap.size, 2, none⟩ = some (.int .i64 f.kept) ∧ ((wr.alloc (.cells #[.string f.name, .string f.text, .int .i64 f.kept] 36)).alloc (.cells #[.string f.name, .string T, .int .i64 V] 36)).drew.cell? ⟨wr.heap.size + 1, 0, none⟩ = some (.string f.name) ∧ ((wr.alloc (.cells #[.string f.name, .string f.text, .int .i64 f.kept] 36)).alloc (.cells #[.string f.name, .string T, .int .i64 V] 36)).drew.cell? ⟨wr.heap.size + 1, 1, none⟩ = some (.string T) := by
            refine ⟨?_, ?_, ?_, ?_, ?_⟩ <;> simp
          go_region_held3 (fun u => u.cell? ⟨wr.heap.size, 0, none⟩ = some (.string f.name) ∧ u.cell? ⟨wr.heap.size, 1, none⟩ = some (.string f.text) ∧ u.cell? ⟨wr.heap.size, 2, none⟩ = some (.int .i64 f.kept) ∧ u.cell? ⟨wr.heap.size + 1, 0, none⟩ = some (.string f.name) ∧ u.cell? ⟨wr.heap.size + 1, 1, none⟩ = some (.string T))
            (first | assumption | exact hS0)
            ((go_at_call 13; refine (Beg.call (by first | exact HB1 | exact HB2) _).mono ?_; rintro e w1 ⟨rfl, rfl⟩))
          all_goals
            go_wp2
            exact ⟨⟨k + 1, by omega, by go_num, K2.out.drew⟩, by simp [intOf]; omega⟩
    · go_wp2
      go_ret
      exact ⟨rfl, KB⟩
end Go.Proofs.Ytegknhnmfaafmaa
