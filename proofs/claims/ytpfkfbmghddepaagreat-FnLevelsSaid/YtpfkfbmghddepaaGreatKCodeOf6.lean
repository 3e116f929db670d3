/- FnLevels. A slice of bytes that comes in, as the walks over drawn inputs want it. -/
import Derived.Test.YtpfkfbmghddepaaGreatKDt12
import Derived.Test.YtpfkfbmghddepaaGreatKILb9
import Derived.Test.YtpfkfbmghddepaaGreatKIns9
import Derived.Test.YtpfkfbmghddepaaGreatKFl12
import Derived.Test.YtpfkfbmghddepaaGreatKIFa9
import Derived.Test.YtpfkfbmghddepaaGreatKSVerts
import Derived.WalkKit
import Derived.ProofKit
import Derived.OpenShut
import Derived.ChangeOld
import Derived.Below
namespace Go.Proofs.YtpfkfbmghddepaaGreat
open Go.RowKit

/-- where the law stands: the web's box, its edges -/
structure LvS (w : World) (X : Nat) (nn : Nat) (ls : List Ld) (a' : Option Addr) (m c' : Nat) (u : World) : Prop where
  box : Box7 u X 26 (.int .i64 (nn : Int)) (.slice a' m c')
  lss : Ls u u.heap.size a' m ls
  below : Below w.heap.size w u
section
variable {w : World} {X : Nat} {nn : Nat} {ls : List Ld} {a' : Option Addr} {m c' : Nat} {u v : World}
theorem LvS.up (h : LvS w X nn ls a' m c' u) (hb : Below u.heap.size u v) : LvS w X nn ls a' m c' v := ⟨h.box.up hb, h.lss.up hb, h.below.trans (hb.mono h.below.size)⟩
theorem LvS.alloc (h : LvS w X nn ls a' m c' u) (o : Obj) : LvS w X nn ls a' m c' (u.alloc o) := h.up ((Below.refl _ _).alloc (Nat.le_refl _) _)
end
/-- .. inside a level: the forest's box, its tours, the labels of before and of now -/
structure LvT (w : World) (X : Nat) (nn : Nat) (ls : List Ld) (a' : Option Addr) (m c' : Nat) (Y : Nat) (a8 : Option Addr) (m8 c8 : Nat) (ts : List (List Int)) (b6 o6 : Nat) (L : List Int) (b9 : Nat) (M : List Int) (u : World) : Prop where
  st : LvS w X nn ls a' m c' u
  fbox : Box7 u Y 57 (.int .i64 (nn : Int)) (.slice a8 m8 c8)
  tts : Ts u u.heap.size a8 m8 ts
  was : Is u u.heap.size (some ⟨b6, o6, none⟩) nn L
  now : Is u u.heap.size (some ⟨b9, 0, none⟩) nn M
theorem LvT.up {w : World} {X : Nat} {nn : Nat} {ls : List Ld} {a' : Option Addr} {m c' : Nat} {Y : Nat} {a8 : Option Addr} {m8 c8 : Nat} {ts : List (List Int)} {b6 o6 : Nat} {L : List Int} {b9 : Nat} {M : List Int} {u v : World} (h : LvT w X nn ls a' m c' Y a8 m8 c8 ts b6 o6 L b9 M u) (hb : Below u.heap.size u v) : LvT w X nn ls a' m c' Y a8 m8 c8 ts b6 o6 L b9 M v :=
  ⟨h.st.up hb, h.fbox.up hb, h.tts.up hb, h.was.up hb, h.now.up hb⟩
theorem Is.form {u : World} {a : Option Addr} {n B : Nat} {L : List Int} (h : Is u B a n L) (hn : 0 < n) : ∃ b o, a = some ⟨b, o, none⟩ := by
  rcases h.2 with h | ⟨b, o, h, _⟩
  · omega
  · exact ⟨b, o, h⟩
theorem Is.cellAt {u : World} {b o : Nat} {n B : Nat} {L : List Int} (h : Is u B (some ⟨b, o, none⟩) n L) {j : Nat} {x : Int} (hx : L[j]? = some x) : u.cell? ⟨b, o + j, none⟩ = some (.int .i64 x) := by
  rcases h.2 with h0 | ⟨b', o', e, _, hc⟩
  · have := (List.getElem?_eq_some_iff.1 hx).1
    have := h.1
    omega
  · cases e
    exact hc j x hx

set_option maxRecDepth 100000 in
set_option maxHeartbeats 16000000 in
theorem fnLevels.walk (a : Option Addr) (len cap : Nat) (w : World) (hcode : Code w w.heap.size a len) :
    Calls Tryz.prog 5 #[.slice a len cap] w fun e w' => e = .returned (.bool true) ∧ Below w.heap.size w w' := by
  have HBig := hideIt (big7_any w a len cap)
  by_cases hl : len ≤ 1048576
  case neg =>
    have d0 : decide ((1048576 : Int) < (len : Int)) = true := decide_eq_true (by omega)
    clear hcode
    go_enter Tryz.func5, Tryz.ntmps5
    go_wp2_with (go_at_call 11; refine HBig.out.mono ?_; rintro e w1 ⟨rfl, rfl⟩)
    go_ret
    exact ⟨rfl, Below.refl _ _⟩
  case pos =>
    have d0 : decide ((1048576 : Int) < (len : Int)) = false := decide_eq_false (by omega)
    have H1 := hideIt (drawRightWeb_any w a len cap hl hcode)
    clear hcode
    go_enter Tryz.func5, Tryz.ntmps5
    go_wp2_with (go_at_call 11; refine HBig.out.mono ?_; rintro e w0 ⟨rfl, hw⟩; have hw' := hw.symm; subst hw'; clear hw; refine Hid.out ?_)
    refine (show ∀ {p : Prop}, p → Hid p from fun h => h) ?_
    clear HBig
    go_wp2_with (go_at_call 12; refine H1.out.mono ?_; rintro e w1 ⟨nn, ls, f, a', m, c', hR, _, rfl, b1⟩; refine Hid.out ?_)
    refine (show ∀ {p : Prop}, p → Hid p from fun h => h) ?_
    obtain ⟨hn, hw, o1⟩ := hR.out
    have hW := hideIt hw
    obtain ⟨X, hX⟩ : ∃ X, X = w1.heap.size := ⟨_, rfl⟩
    obtain ⟨W2, hW2⟩ : ∃ W2, W2 = (w1.alloc (.cells #[.int .i64 (nn : Int), .slice a' m c'] 26)).alloc (.cells #[.int .i64 f.1, .int .i64 f.2] 28) := ⟨_, rfl⟩
    have S2 : LvS w X nn ls a' m c' W2 := by
      have hu : Below w1.heap.size w1 W2 := by rw [hW2]; exact ((Below.refl _ _).alloc (Nat.le_refl _) _).alloc (by simp) _
      exact ⟨by rw [hW2, hX]; exact (Box7.new _ _ _ _ _ rfl).alloc _, (Ls_of_own o1).up hu, b1.trans (hu.mono b1.size)⟩
    have HS2 := hideIt S2
    have hm66 : m ≤ 66 := by have h1 := (gB_chk hw.1).2.2; rw [gE_len] at h1; have := S2.lss.1; omega
    have HL := hideIt (iWebLabels_any (nn : Int) ls m a' c' (by omega) W2 S2.lss)
    have q0 := S2.box.cell0
    have q1 := S2.box.cell1
    clear H1 hR hw o1 b1 S2
    go_upto_region 4 with fail
    rw [← hW2, ← hX]
    clear hW2 hX
    go_wp2_with (go_at_call 22; refine HL.out.mono ?_; rintro e w3 ⟨a6, m6, c6, rfl, o6, b3⟩; refine Hid.out ?_)
    refine (show ∀ {p : Prop}, p → Hid p from fun h => h) ?_
    have HLab := hideIt (labC_lb hW.out)
    have I6 := Is_of_own o6
    have hm6 : m6 = nn := by rw [← I6.1]; exact HLab.out.1
    have hm6s := hm6.symm
    clear hm6
    subst hm6s
    have S3 := HS2.out.up b3
    have HS3 := hideIt S3
    have HI6 := hideIt I6
    clear HL q0 q1 HS2 o6 b3
    have q0 := S3.box.cell0
    clear S3 I6
    go_wp2
    go_loopw [5, 6, 7] (fun mv la lv wr => ∃ (k mo : Nat) (L : List Int) (a6 : Option Addr) (c6 : Nat), k ≤ 5 ∧ lv = .int .i64 (k : Int) ∧ mv = .int .i64 (mo : Int) ∧ Hid (mo = nn / 2 ^ k) ∧ la = .slice a6 nn c6 ∧ Hid (LabC (fE ls (k : Int)) nn L) ∧ Hid (LvS w X nn ls a' m c' wr) ∧ Hid (Is wr wr.heap.size a6 nn L)) (fun _ _ i _ => 5 - (intOf i).toNat)
    case atStart => exact ⟨0, nn, _, a6, c6, by omega, rfl, rfl, (by simp : nn = nn / 2 ^ 0), rfl, HLab, HS3, HI6⟩
    case round =>
      obtain ⟨k, mo, L, a6, c6, hk, rfl, rfl, hMo, rfl, hLab, hS, hI⟩ := hrel
      clear HS3 HI6 HLab q0
      by_cases hk5 : k < 5
      · have d1 : decide ((k : Int) ≤ 4) = true := decide_eq_true (by omega)
        obtain ⟨ts, hts, hall⟩ := hW.out.trees k hk5
        obtain ⟨b6, o6, rfl⟩ := hI.out.form (by omega)
        have HAll := hideIt hall
        have Hts := hideIt hts
        have q0 := hS.out.box.cell0
        have q1 := hS.out.box.cell1
        have HFo : Hid (Calls Tryz.prog 32 #[.agg #[.int .i64 (nn : Int), .slice a' m c'], .int .i64 (k : Int)] wr fun e v => ∃ a8 m8 c8, e = .returned (.tuple #[.agg #[.int .i64 (nn : Int), .slice a8 m8 c8], .bool true]) ∧ Ts v v.heap.size a8 m8 ts ∧ Below wr.heap.size wr v) :=
          (iForestAt_yes nn ls (k : Int) m a' c' hW.out.1 (fun x hx => (hW.out.2.1 x hx).1) hW.out.bridge (by omega) ts hts wr hS.out.lss).mono fun e v h => by
            obtain ⟨a8, m8, c8, h1, h2, h3⟩ := h.weak
            exact ⟨a8, m8, c8, h1, h2, h3⟩
        clear hts hall
        go_wp2_with (go_at_call 32; refine HFo.out.mono ?_; rintro e w4 ⟨a8, m8, c8, rfl, t4, b4⟩; refine Hid.out ?_)
        refine (show ∀ {p : Prop}, p → Hid p from fun h => h) ?_
        obtain ⟨Y, hY⟩ : ∃ Y, Y = w4.heap.size := ⟨_, rfl⟩
        obtain ⟨W5, hW5⟩ : ∃ W5, W5 = w4.alloc (.cells #[.int .i64 (nn : Int), .slice a8 m8 c8] 57) := ⟨_, rfl⟩
        have hu : Below w4.heap.size w4 W5 := by rw [hW5]; exact (Below.refl _ _).alloc (Nat.le_refl _) _
        have S5 := (hS.out.up b4).up hu
        have T5 := t4.up hu
        have I5 := (hI.out.up b4).up hu
        have F5 : Box7 W5 Y 57 (.int .i64 (nn : Int)) (.slice a8 m8 c8) := by rw [hW5, hY]; exact Box7.new _ _ _ _ _ rfl
        have HS5 := hideIt S5
        have HT5 := hideIt T5
        have HI5 := hideIt I5
        have HF5 := hideIt F5
        have f0 := F5.cell0
        have f1 := F5.cell1
        have hm8 : m8 + lnS ts ≤ 1048576 := by rw [← T5.1]; exact ft_lnS HAll.out
        have HOk := hideIt (sForestOk_any (nn : Int) ts m8 a8 c8 hm8 W5 T5)
        clear HFo t4 b4 hu S5 T5 I5 F5 q0 q1 hS hI
        go_upto_region 12 with fail
        rw [← hW5, ← hY]
        clear hW5 hY
        go_wp2_with (go_at_call 33; refine HOk.out.mono ?_; rintro e w6 ⟨bo, rfl, hbo, b6'⟩; obtain rfl : bo = true := hbo.2 HAll.out.fp; refine Hid.out ?_)
        refine (show ∀ {p : Prop}, p → Hid p from fun h => h) ?_
        have HS6 := hideIt (HS5.out.up b6')
        have HT6 := hideIt (HT5.out.up b6')
        have HI6 := hideIt (HI5.out.up b6')
        have HF6 := hideIt (HF5.out.up b6')
        clear HOk hbo HS5 HT5 HI5 HF5 b6' f0 f1
        have f0 := HF6.out.cell0
        have f1 := HF6.out.cell1
        have HPa := hideIt (parts_any nn ts HAll.out.fp m8 a8 c8 w6 HT6.out)
        go_wp2_with (go_at_call 34; refine HPa.out.mono ?_; rintro e w7 ⟨g, M, rfl, hPL, i7, b7⟩; refine Hid.out ?_)
        refine (show ∀ {p : Prop}, p → Hid p from fun h => h) ?_
        have HV7 : Hid (LvT w X nn ls a' m c' Y a8 m8 c8 ts b6 o6 L g M w7) := ⟨HS6.out.up b7, HF6.out.up b7, HT6.out.up b7, HI6.out.up b7, i7⟩
        have HSz : Hid (∀ v : Int, 1 < sizeO (nn : Int) ts v → sizeO (nn : Int) ts v ≤ (mo : Int)) := fun v => by have := size_ok hW.out hk5 Hts.out v; rw [← hMo.out] at this; exact this
        have HAt := hideIt (fun (v : Nat) (hv : v < nn) => pl_at HAll.out hPL.out hLab.out hv)
        have HNew := hideIt ((labC_pl HAll.out hPL.out).more fE_up)
        clear HPa HS6 HT6 HI6 HF6 i7 b7 f0 f1 Hts hLab
        go_wp2
        go_loopw [11] (fun iv wq => ∃ q : Nat, q ≤ nn ∧ iv = .int .i64 (q : Int) ∧ Hid (LvT w X nn ls a' m c' Y a8 m8 c8 ts b6 o6 L g M wq)) (fun i _ => nn - (intOf i).toNat)
        case atStart => exact ⟨0, by omega, rfl, HV7⟩
        case round =>
          obtain ⟨q, hq, rfl, hV⟩ := hrel
          clear HV7
          have q0 := hV.out.st.box.cell0
          by_cases hqn : q < nn
          · have d2 : decide ((q : Int) < (nn : Int)) = true := decide_eq_true (by omega)
            have f0 := hV.out.fbox.cell0
            have f1 := hV.out.fbox.cell1
            have HZ := hideIt (iSizeOf_any (nn : Int) ts (q : Int) m8 a8 c8 hm8 wr hV.out.tts)
            go_wp2_with (go_at_call 35; refine HZ.out.mono ?_; rintro e w8 ⟨rfl, b8⟩; refine Hid.out ?_)
            refine (show ∀ {p : Prop}, p → Hid p from fun h => h) ?_
            have HV8 := hideIt (hV.out.up b8)
            obtain ⟨y, z, hy, hM, hLq, hLy⟩ := HAt.out q hqn
            have c1 := HV8.out.now.cellAt hM
            rw [Nat.zero_add] at c1
            have c2 := HV8.out.was.cellAt hLy
            have c3 := HV8.out.was.cellAt hLq
            have hsz := HSz.out (q : Int)
            clear HZ hV q0 f0 f1 b8 hM hLq hLy
            generalize sizeO (nn : Int) ts (q : Int) = sz at *
            have hyn : (y : Int) < (nn : Int) := by omega
            have hy0 : (0 : Int) ≤ (y : Int) := by omega
            have hqn2 : (q : Int) < (nn : Int) := by omega
            by_cases h1 : 1 < sz
            · have d3 : decide ((1 : Int) < sz) = true := decide_eq_true h1
              have d4 : decide ((mo : Int) < sz) = false := decide_eq_false (by have := hsz h1; omega)
              clear hsz h1
              go_upto_region 19 with fail
              go_quiet (fail)
              all_goals
                go_wp2
                exact ⟨⟨q + 1, by omega, by go_num, by first | exact HV8 | exact hideIt (HV8.out.up (below_drewN (Below.refl _ _) _))⟩, by simp [intOf]; omega⟩
            · have d3 : decide ((1 : Int) < sz) = false := decide_eq_false h1
              clear hsz h1
              go_upto_region 19 with fail
              go_quiet (fail)
              all_goals
                go_wp2
                exact ⟨⟨q + 1, by omega, by go_num, by first | exact HV8 | exact hideIt (HV8.out.up (below_drewN (Below.refl _ _) _))⟩, by simp [intOf]; omega⟩
          · obtain rfl : q = nn := by omega
            have d2 : decide ((q : Int) < (q : Int)) = false := decide_eq_false (by omega)
            have HMo2 : Hid (mo / 2 = q / 2 ^ (k + 1)) := by show _ = _; rw [hMo.out, Nat.div_div_eq_div_mul, Nat.pow_succ]
            have HSx := hideIt hV.out.st
            have HNo := hideIt hV.out.now
            have e5 : ((mo / 2 : Nat) : Int) = (mo : Int) / 2 := by omega
            have hm12 : (mo : Int) ≤ 12 := by have := Nat.div_le_self q (2 ^ k); have := hMo.out; omega
            clear hV HSz HAt hMo
            go_wp2
            exact ⟨⟨k + 1, mo / 2, M, _, _, by omega, by go_num, by first | rw [e5] | go_num, HMo2, rfl, HNew, HSx, HNo⟩, by simp [intOf]; omega⟩
      · obtain rfl : k = 5 := by omega
        have q0 := hS.out.box.cell0
        have e1 : wnM (nn : Int) = (nn : Int) := by unfold wnM; rw [if_pos (by omega)]
        have e3 : wnB (nn : Int) = true := by unfold wnB; exact decide_eq_true (by omega)
        have HNe := hideIt (iWebNew_any (nn : Int) wr)
        rw [e1, e3] at HNe
        have d5 : decide (((5 : Nat) : Int) ≤ 4) = false := decide_eq_false (by omega)
        have hB := hS.out.below
        have HB := hideIt hB
        clear hB hI hLab hMo hS
        go_wp2_with (go_at_call 36; refine HNe.out.mono ?_; rintro e w4 ⟨rfl, b4⟩; refine Hid.out ?_)
        refine (show ∀ {p : Prop}, p → Hid p from fun h => h) ?_
        obtain ⟨Z, hZ⟩ : ∃ Z, Z = w4.heap.size := ⟨_, rfl⟩
        obtain ⟨W5, hW5⟩ : ∃ W5, W5 = w4.alloc (.cells #[.int .i64 (nn : Int), .slice none 0 0] 26) := ⟨_, rfl⟩
        have hu : Below w4.heap.size w4 W5 := by rw [hW5]; exact (Below.refl _ _).alloc (Nat.le_refl _) _
        have F5 : Box7 W5 Z 26 (.int .i64 (nn : Int)) (.slice none 0 0) := by rw [hW5, hZ]; exact Box7.new _ _ _ _ _ rfl
        have f0 := F5.cell0
        have f1 := F5.cell1
        have HB5 := hideIt ((HB.out.trans (b4.mono HB.out.size)).trans (hu.mono (by have := HB.out.size; have := b4.size; omega)))
        have HH := hideIt (iHeightOf_any (nn : Int) [] 0 none 0 (by omega) W5 ⟨rfl, .inl rfl⟩)
        have eh : htO (nn : Int) [] = -1 := by rw [htO_yes (WOk_nil (n := nn) (by omega) (by omega))]; rfl
        rw [eh] at HH
        clear HNe b4 hu F5 HB
        go_upto_region 24 with fail
        rw [← hW5, ← hZ]
        clear hW5 hZ
        go_wp2_with (go_at_call 30; refine HH.out.mono ?_; rintro e w6 ⟨rfl, b6⟩; refine Hid.out ?_)
        refine (show ∀ {p : Prop}, p → Hid p from fun h => h) ?_
        have BF := HB5.out.trans (b6.mono HB5.out.size)
        clear HB5 HH b6
        go_wp2
        go_ret
        exact ⟨rfl, BF⟩
end Go.Proofs.YtpfkfbmghddepaaGreat
namespace Go.Proofs.YtpfkfbmghddepaaGreat
open Go.ChangeShapes Go.WideShapes Go.ChangeAt Go.RowKit

/-- a slice of bytes that came in, as the walk wants it -/
theorem code_of {H : Type} {enc : TypeId × Value → H} {W : World} {a : Option Addr} {len cap fuel : Nat} {x : DataW H × List MemPlace}
    (hf : DataW.trod enc Tryz.prog W 0 (fun _ => true) true fuel 22 [.slice a len cap] = some x) : Code W W.heap.size a len := by
  rcases open_ints Tryz.underlying22 Tryz.underlying5 (by kernel_rfl) hf with ⟨hcs, _⟩ | ⟨x, l, c, zs, hcs, _, hl, hm, hz, _, hcell, hwz⟩
  · simp at hcs
    obtain ⟨rfl, rfl, rfl⟩ := hcs
    exact .inl rfl
  · simp at hcs
    obtain ⟨rfl, rfl, rfl⟩ := hcs
    by_cases h0 : len = 0
    · exact .inl h0
    · have hzl : zs.length = cap := by simpa using hz
      obtain ⟨b, off, rfl, hc⟩ := ints_at hcell (by omega)
      have hb : b < W.heap.size := World.block_lt_of_cell? W _ (hc 0 (by omega))
      refine .inr ⟨b, off, rfl, hb, by omega, fun j hj => ?_⟩
      have hw := hwz (zs.getD j 0) (by
        rw [List.getD_eq_getElem?_getD, List.getElem?_eq_getElem (by omega)]
        exact List.getElem_mem _)
      have hr : 0 ≤ zs.getD j 0 ∧ zs.getD j 0 ≤ 255 := by simpa [Lit.wf, IntKind.min, IntKind.max, IntKind.signed, IntKind.bits] using hw
      refine ⟨(zs.getD j 0).toNat, by omega, ?_⟩
      rw [hc j (by omega), Int.toNat_of_nonneg hr.1]

end Go.Proofs.YtpfkfbmghddepaaGreat
