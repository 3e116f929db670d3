/- The program's HeightOf. FnTakes. A slice of bytes that comes in, as the walks over drawn inputs want it. -/
import Derived.Test.YtkkplppcgnikoaaGreatKSWa9
import Derived.Test.YtkkplppcgnikoaaGreatKLb9
import Derived.Test.YtkkplppcgnikoaaGreatKDt12
import Derived.Test.YtkkplppcgnikoaaGreatKHas6
import Derived.Test.YtkkplppcgnikoaaGreatKTourP
import Derived.WalkKit
import Derived.ProofKit
import Derived.OpenShut
import Derived.ChangeOld
import Derived.Below
namespace Go.Proofs.YtkkplppcgnikoaaGreat
open Go.RowKit

set_option maxRecDepth 100000 in
set_option maxHeartbeats 4000000 in
theorem iHeightOf_any (N : Int) (ls : List Ld) (n : Nat) (a : Option Addr) (c : Nat) (hn : n ≤ 1048576) (w : World) (h : Ls w w.heap.size a n ls) :
    Calls Tryz.prog 29 #[.agg #[.int .i64 N, .slice a n c]] w fun e w' => e = .returned (.int .i64 (htO N ls)) ∧ Below w.heap.size w w' := by
  have hfa : Good w (wW w N a n c) := wW_good w N a n c
  have HO := iWebOk_any N ls n a c hn _ (h.up hfa)
  have hlen := h.1
  have HR := hideIt (h.up hfa)
  by_cases hW : WOk N ls
  · rw [wB_yes hW] at HO
    have HO := hideIt HO
    have HV := hideIt (htO_yes hW)
    clear h hW
    go_enter Tryz.func29, Tryz.ntmps29
    go_wp2_with (go_at_call 18; refine HO.out.mono ?_; rintro e w1 ⟨rfl, hb1⟩; refine Hid.out ?_)
    refine (show ∀ {p : Prop}, p → Hid p from fun h => h) ?_
    have G1 : Good (wW w N a n c) w1 := hb1
    rw [wW_size] at hb1
    obtain ⟨cw0, cw1⟩ := wW_cells hb1
    clear HO hb1
    go_wp2
    go_loopw [3, 11] (fun m i wr => ∃ (k : Nat) (y : Int), k ≤ n ∧ i = .int .i64 (k : Int) ∧ m = .int .i64 y ∧ Hid (htK (ls.drop k) y = htO N ls) ∧ Good (wW w N a n c) wr) (fun _ i _ => n - (intOf i).toNat)
    case atStart => exact ⟨0, -1, by omega, rfl, rfl, by show _ = _; rw [HV.out]; rfl, G1⟩
    case round =>
      obtain ⟨k, y, hk, rfl, rfl, HK, hg⟩ := hrel
      clear G1 cw0 cw1
      by_cases hlt : k < n
      · obtain ⟨b, off, x, rfl, hbl, hxk, hat⟩ := (HR.out.up hg).at hlt
        have e0 := hat.ca
        have e1 := hat.cb
        have e2 := hat.cl
        have e3 := hat.ct
        have b1 : (0 : Int) ≤ (k : Int) := by omega
        have b2 : (k : Int) < (n : Int) := by omega
        have HGa := hideIt (hg.alloc (.cells #[.int .i64 x.a, .int .i64 x.b, .int .i64 x.l, .bool x.t] 52))
        have hd := HK.out
        rw [htK_drop hxk] at hd
        by_cases hyl : y < x.l
        · rw [if_pos hyl] at hd
          have HK2 : Hid (htK (ls.drop (k + 1)) x.l = htO N ls) := hd
          have hm : max y x.l = x.l := by omega
          clear HK hd hxk hat hg
          go_wp2
          exact ⟨⟨k + 1, _, by omega, by go_num, by first | rfl | (congr 1; omega), HK2, HGa.out⟩, by simp [intOf]; omega⟩
        · rw [if_neg hyl] at hd
          have HK2 : Hid (htK (ls.drop (k + 1)) y = htO N ls) := hd
          have hm : max y x.l = y := by omega
          clear HK hd hxk hat hg
          go_wp2
          exact ⟨⟨k + 1, _, by omega, by go_num, by first | rfl | (congr 1; omega), HK2, HGa.out⟩, by simp [intOf]; omega⟩
      · obtain rfl : k = n := by omega
        have HY : Hid (y = htO N ls) := by
          show _ = _
          have := HK.out
          rw [List.drop_eq_nil_of_le (by omega), htK] at this
          exact this
        clear HK
        go_wp2
        go_ret
        exact ⟨by rw [← HY.out]; rfl, hfa.up hg⟩
  · rw [wB_no hW] at HO
    have HO := hideIt HO
    have HV := hideIt (htO_no hW)
    clear h hW
    go_enter Tryz.func29, Tryz.ntmps29
    go_wp2_with (go_at_call 18; refine HO.out.mono ?_; rintro e w1 ⟨rfl, hb1⟩)
    go_ret
    exact ⟨by rw [HV.out]; rfl, hfa.up hb1⟩
end Go.Proofs.YtkkplppcgnikoaaGreat
namespace Go.Proofs.YtkkplppcgnikoaaGreat
open Go.RowKit

/-- where the law stands: the web's box, the edge's box -/
structure TaS (w : World) (X : Nat) (nn : Nat) (ls : List Ld) (a' : Option Addr) (m c' : Nat) (f : EdgeV) (u : World) : Prop where
  box : Box7 u X 26 (.int .i64 (nn : Int)) (.slice a' m c')
  ebx : Box7 u (X + 1) 28 (.int .i64 f.1) (.int .i64 f.2)
  lss : Ls u u.heap.size a' m ls
  below : Below w.heap.size w u
section
variable {w : World} {X : Nat} {nn : Nat} {ls : List Ld} {a' : Option Addr} {m c' : Nat} {f : EdgeV} {u v : World}
theorem TaS.up (h : TaS w X nn ls a' m c' f u) (hb : Below u.heap.size u v) : TaS w X nn ls a' m c' f v := ⟨h.box.up hb, h.ebx.up hb, h.lss.up hb, h.below.trans (hb.mono h.below.size)⟩
theorem TaS.four (h : TaS w X nn ls a' m c' f u) : (u.cell? ⟨X, 0, none⟩ = some (.int .i64 (nn : Int)) ∧ u.cell? ⟨X, 1, none⟩ = some (.slice a' m c')) ∧ u.cell? ⟨X + 1, 0, none⟩ = some (.int .i64 f.1) ∧ u.cell? ⟨X + 1, 1, none⟩ = some (.int .i64 f.2) := ⟨⟨h.box.cell0, h.box.cell1⟩, h.ebx.cell0, h.ebx.cell1⟩
theorem TaS.drew (h : TaS w X nn ls a' m c' f u) : TaS w X nn ls a' m c' f u.drew := h.up (Below.refl _ _).drew
end

theorem sl_own2 {u : World} {B e s n c : Nat} {a : Option Addr} {xs : List Value} (h : u.ownsRow B e s (.slice a n c) n xs) : Sl a n c := by
  rcases h.2 with ⟨hv, h0⟩ | ⟨g, cap, cur, hv, _, _, h1, h2, _⟩
  · simp at hv
    obtain ⟨rfl, rfl, rfl⟩ := hv
    exact ⟨Nat.le_refl _, by unfold maxLen; omega, .inl ⟨rfl, rfl, rfl⟩⟩
  · simp at hv
    obtain ⟨rfl, rfl⟩ := hv
    exact ⟨h1, h2, .inr ⟨g, 0, rfl⟩⟩
set_option maxRecDepth 100000 in
set_option maxHeartbeats 16000000 in
theorem fnTakes.walk (a : Option Addr) (len cap : Nat) (w : World) (hcode : Code w w.heap.size a len) :
    Calls Tryz.prog 4 #[.slice a len cap] w fun e w' => e = .returned (.bool true) ∧ Below w.heap.size w w' := by
  have HBig := hideIt (big7_any w a len cap)
  by_cases hl : len ≤ 1048576
  case neg =>
    have d0 : decide ((1048576 : Int) < (len : Int)) = true := decide_eq_true (by omega)
    clear hcode
    go_enter Tryz.func4, Tryz.ntmps4
    go_wp2_with (go_at_call 10; refine HBig.out.mono ?_; rintro e w1 ⟨rfl, rfl⟩)
    go_ret
    exact ⟨rfl, Below.refl _ _⟩
  case pos =>
    have d0 : decide ((1048576 : Int) < (len : Int)) = false := decide_eq_false (by omega)
    have H1 := hideIt (drawRightWeb_any w a len cap hl hcode)
    clear hcode
    go_enter Tryz.func4, Tryz.ntmps4
    go_wp2_with (go_at_call 10; refine HBig.out.mono ?_; rintro e w0 ⟨rfl, hw⟩; have hw' := hw.symm; subst hw'; clear hw; refine Hid.out ?_)
    refine (show ∀ {p : Prop}, p → Hid p from fun h => h) ?_
    clear HBig
    go_wp2_with (go_at_call 11; refine H1.out.mono ?_; rintro e w1 ⟨nn, ls, f, a', m, c', hR, hE, rfl, b1⟩; refine Hid.out ?_)
    refine (show ∀ {p : Prop}, p → Hid p from fun h => h) ?_
    obtain ⟨hn, hw, o1⟩ := hR.out
    have hW := hideIt hw
    obtain ⟨X, hX⟩ : ∃ X, X = w1.heap.size := ⟨_, rfl⟩
    obtain ⟨W2, hW2⟩ : ∃ W2, W2 = (w1.alloc (.cells #[.int .i64 (nn : Int), .slice a' m c'] 26)).alloc (.cells #[.int .i64 f.1, .int .i64 f.2] 28) := ⟨_, rfl⟩
    have S2 : TaS w X nn ls a' m c' f W2 := by
      have hu : Below w1.heap.size w1 W2 := by rw [hW2]; exact ((Below.refl _ _).alloc (Nat.le_refl _) _).alloc (by simp) _
      exact ⟨by rw [hW2, hX]; exact (Box7.new _ _ _ _ _ rfl).alloc _, by rw [hW2, hX]; exact Box7.new _ _ _ _ _ (by simp), (Ls_of_own o1).up hu, b1.trans (hu.mono b1.size)⟩
    have HSl := hideIt (sl_own2 o1)
    have HS2 := hideIt S2
    have hm66 : m ≤ 66 := by have h1 := (gB_chk hw.1).2.2; rw [gE_len] at h1; have := S2.lss.1; omega
    have HGo : Hid (∀ u, TaS w X nn ls a' m c' f u → Calls Tryz.prog 26 #[.agg #[.int .i64 (nn : Int), .slice a' m c']] u fun e v => ∃ a2 c2, e = .returned (.agg #[.int .i64 (nn : Int), .slice a2 m c2]) ∧ Es v v.heap.size a2 m (gE ls) ∧ TaS w X nn ls a' m c' f v) := fun u hu =>
      (sGraphOf_any (nn : Int) ls m a' c' (by omega) u hu.lss).mono fun e v ⟨a2, c2, he, ho, hb⟩ => ⟨a2, c2, he, Es_of_own ho, hu.up hb⟩
    have HHa : Hid (∀ u a2 c2, TaS w X nn ls a' m c' f u → Es u u.heap.size a2 m (gE ls) → Calls Tryz.prog 13 #[.agg #[.int .i64 (nn : Int), .slice a2 m c2], .agg #[.int .i64 f.1, .int .i64 f.2]] u fun x v => x = .returned (.bool (hasB (gE ls) f)) ∧ TaS w X nn ls a' m c' f v) := fun u a2 c2 hu he =>
      (sHasEdge_any (nn : Int) (gE ls) f m a2 c2 (by omega) u he).mono fun x v ⟨h1, h2⟩ => ⟨h1, hu.up h2⟩
    have q0 := S2.box.cell0
    have q1 := S2.box.cell1
    have q2 := S2.ebx.cell0
    have q3 := S2.ebx.cell1
    clear H1 hR hw o1 b1
    go_upto_region 4 with fail
    rw [← hW2, ← hX]
    clear hW2 hX
    generalize hhb : hasB (gE ls) f = hb at *
    have HHb := hideIt hhb
    clear hhb
    go_cut [32] (fun p wx => p = .bool (!hb) ∧ TaS w X nn ls a' m c' f wx)
    case first =>
      clear HS2
      have hS2 := S2.four
      go_region_held3 (fun u => (u.cell? ⟨X, 0, none⟩ = some (.int .i64 (nn : Int)) ∧ u.cell? ⟨X, 1, none⟩ = some (.slice a' m c')) ∧ u.cell? ⟨X + 1, 0, none⟩ = some (.int .i64 f.1) ∧ u.cell? ⟨X + 1, 1, none⟩ = some (.int .i64 f.2))
        (first | with_reducible assumption | with_reducible exact S2.four | with_reducible exact S2.drew.four | with_reducible exact TaS.four (by assumption) | with_reducible exact TaS.four (TaS.drew (by assumption)))
        (first
        | (go_at_call 26; refine (HGo.out _ (by first | exact S2 | exact S2.drew)).mono ?_; rintro e w3 ⟨a2, c2, rfl, e3, S3⟩; have hS3 := S3.four)
        | (go_at_call 13; refine (HHa.out _ a2 c2 (by first | exact S3 | exact S3.drew) (by first | exact e3 | exact e3.up (Below.refl _ _).drew)).mono ?_; rintro e w4 ⟨rfl, S4⟩; have hS4 := S4.four))
      all_goals
        go_wp2_with fail
        go_meet
        first
        | exact ⟨rfl, S4⟩
        | exact ⟨rfl, S4.drew⟩
    case rest =>
      obtain ⟨rfl, S5⟩ := hcut
      have HS5 := hideIt S5
      clear S5 S2 q0 q1 q2 q3 HGo HHa
      have q0 := HS5.out.box.cell0
      have q1 := HS5.out.box.cell1
      have q2 := HS5.out.ebx.cell0
      have q3 := HS5.out.ebx.cell1
      have HT := hideIt (iWebTake_any (nn : Int) ls f m a' c' HSl.out (by omega) wc HS5.out.lss)
      cases hb with
      | false =>
        have e1 : wtO (nn : Int) ls f = none := wtO_no fun h => by have := HHb.out; rw [h.2] at this; cases this
        rw [e1] at HT
        have HT2 : Hid (Calls Tryz.prog 14 #[.agg #[.int .i64 (nn : Int), .slice a' m c'], .agg #[.int .i64 f.1, .int .i64 f.2]] wc fun e v => ∃ a5 m5 c5, e = .returned (.tuple #[.agg #[.int .i64 0, .slice a5 m5 c5], .agg #[.int .i64 0, .int .i64 0], .bool false, .bool false]) ∧ Below wc.heap.size wc v) :=
          HT.out.mono fun e v ⟨a5, m5, c5, h1, _, h3⟩ => ⟨a5, m5, c5, h1, h3⟩
        clear HT e1
        go_wp2_with (go_at_call 14; refine HT2.out.mono ?_; rintro e w6 ⟨a5, m5, c5, rfl, b6⟩; refine Hid.out ?_)
        refine (show ∀ {p : Prop}, p → Hid p from fun h => h) ?_
        obtain ⟨W7, hW7⟩ : ∃ W7, W7 = (w6.alloc (.cells #[.int .i64 0, .slice a5 m5 c5] 26)).alloc (.cells #[.int .i64 0, .int .i64 0] 28) := ⟨_, rfl⟩
        have hu : Below w6.heap.size w6 W7 := by rw [hW7]; exact ((Below.refl _ _).alloc (Nat.le_refl _) _).alloc (by simp) _
        have S7 := (HS5.out.up b6).up hu
        have HOk := hideIt (iWebOk_any (nn : Int) ls m a' c' (by omega) W7 S7.lss)
        rw [wB_yes hW.out] at HOk
        have HS7 := hideIt S7
        clear q0 q1 q2 q3 b6 hu HT2 HS5 S7
        have q0 := HS7.out.box.cell0
        have q1 := HS7.out.box.cell1
        go_upto_region 6 with fail
        rw [← hW7]
        clear hW7
        go_wp2_with (go_at_call 18; refine HOk.out.mono ?_; rintro e w8 ⟨rfl, b8⟩; refine Hid.out ?_)
        refine (show ∀ {p : Prop}, p → Hid p from fun h => h) ?_
        have BF := hideIt (HS7.out.up b8).below
        clear HOk HS7 q0 q1 b8
        go_wp2
        go_ret
        exact ⟨rfl, BF.out⟩
      | true =>
        obtain ⟨L, r, ho⟩ : ∃ L r, wtO (nn : Int) ls f = some (L, r) := by unfold wtO; rw [if_pos ⟨hW.out, HHb.out⟩]; exact ⟨_, _, rfl⟩
        have Ho := hideIt ho
        obtain ⟨g, hg⟩ : ∃ g : EdgeV, g = r.getD (0, 0) := ⟨_, rfl⟩
        obtain ⟨fd, hf⟩ : ∃ fd : Bool, fd = r.isSome := ⟨_, rfl⟩
        have Hg := hideIt hg
        have Hf := hideIt hf
        have HTi : Hid (Calls Tryz.prog 14 #[.agg #[.int .i64 (nn : Int), .slice a' m c'], .agg #[.int .i64 f.1, .int .i64 f.2]] wc fun e v => ∃ a5 m5 c5, e = .returned (.tuple #[.agg #[.int .i64 (nn : Int), .slice a5 m5 c5], .agg #[.int .i64 g.1, .int .i64 g.2], .bool fd, .bool true]) ∧ Ls v v.heap.size a5 m5 L ∧ Below wc.heap.size wc v) := by
          rw [hg, hf]
          rw [ho] at HT
          exact HT.out.mono fun e v ⟨a5, m5, c5, h1, h2, h3⟩ => ⟨a5, m5, c5, h1, Ls_of_own h2, h3⟩
        have HTs : Hid (∀ u, TaS w X nn ls a' m c' f u → Calls Tryz.prog 27 #[.agg #[.int .i64 (nn : Int), .slice a' m c'], .agg #[.int .i64 f.1, .int .i64 f.2]] u fun e v => ∃ a5 m5 c5, e = .returned (.tuple #[.agg #[.int .i64 (nn : Int), .slice a5 m5 c5], .agg #[.int .i64 g.1, .int .i64 g.2], .bool fd, .bool true]) ∧ Ls v v.heap.size a5 m5 L ∧ Below u.heap.size u v) := fun u hu => by
          have h := sWebTake_any (nn : Int) ls f m a' c' (by omega) u hu.lss
          rw [hg, hf]
          rw [ho] at h
          exact h.mono fun e v ⟨a5, m5, c5, h1, h2, h3⟩ => ⟨a5, m5, c5, h1, Ls_of_own h2, h3⟩
        clear HT hg hf ho
        go_wp2_with (go_at_call 14; refine HTi.out.mono ?_; rintro e w6 ⟨a5, m5, c5, rfl, l6, b6⟩; refine Hid.out ?_)
        refine (show ∀ {p : Prop}, p → Hid p from fun h => h) ?_
        obtain ⟨Y, hY⟩ : ∃ Y, Y = w6.heap.size := ⟨_, rfl⟩
        obtain ⟨W7, hW7⟩ : ∃ W7, W7 = (w6.alloc (.cells #[.int .i64 (nn : Int), .slice a5 m5 c5] 26)).alloc (.cells #[.int .i64 g.1, .int .i64 g.2] 28) := ⟨_, rfl⟩
        have hu : Below w6.heap.size w6 W7 := by rw [hW7]; exact ((Below.refl _ _).alloc (Nat.le_refl _) _).alloc (by simp) _
        have S7 := (HS5.out.up b6).up hu
        have HN7 : Hid (TaS w Y nn L a5 m5 c5 g W7) := ⟨by rw [hW7, hY]; exact (Box7.new _ _ _ _ _ rfl).alloc _, by rw [hW7, hY]; exact Box7.new _ _ _ _ _ (by simp), l6.up hu, S7.below⟩
        have HS7 := hideIt S7
        have HT7 := hideIt (HTs.out W7 S7)
        clear q0 q1 q2 q3 b6 hu HTi HTs HS5 S7 l6
        have q0 := HS7.out.box.cell0
        have q1 := HS7.out.box.cell1
        have q2 := HS7.out.ebx.cell0
        have q3 := HS7.out.ebx.cell1
        go_upto_region 8 with fail
        rw [← hW7, ← hY]
        clear hW7 hY
        go_wp2_with (go_at_call 27; refine HT7.out.mono ?_; rintro e w8 ⟨a8, m8, c8, rfl, l8, b8⟩; refine Hid.out ?_)
        refine (show ∀ {p : Prop}, p → Hid p from fun h => h) ?_
        obtain ⟨Z, hZ⟩ : ∃ Z, Z = w8.heap.size := ⟨_, rfl⟩
        obtain ⟨W9, hW9⟩ : ∃ W9, W9 = (w8.alloc (.cells #[.int .i64 (nn : Int), .slice a8 m8 c8] 26)).alloc (.cells #[.int .i64 g.1, .int .i64 g.2] 28) := ⟨_, rfl⟩
        have hu : Below w8.heap.size w8 W9 := by rw [hW9]; exact ((Below.refl _ _).alloc (Nat.le_refl _) _).alloc (by simp) _
        have HS9 := hideIt ((HS7.out.up b8).up hu)
        have HN9 := hideIt ((HN7.out.up b8).up hu)
        have HM9 : Hid (TaS w Z nn L a8 m8 c8 g W9) := ⟨by rw [hW9, hZ]; exact (Box7.new _ _ _ _ _ rfl).alloc _, by rw [hW9, hZ]; exact Box7.new _ _ _ _ _ (by simp), l8.up hu, HS9.out.below⟩
        have hm8 : m8 = m5 := by have h1 := HM9.out.lss.1; have h2 := HN9.out.lss.1; omega
        subst hm8
        have hL66 : m8 ≤ 66 := by have h1 := (gB_chk (wtO_ok Ho.out).1).2.2; rw [gE_len] at h1; have := HN9.out.lss.1; omega
        have HSm := hideIt (sameWeb_same (nn : Int) L m8 a5 c5 a8 c8 (by omega) W9 HN9.out.lss HM9.out.lss)
        clear q0 q1 q2 q3 b8 hu HT7 HS7 HN7 l8
        have q0 := HN9.out.box.cell0
        have q1 := HN9.out.box.cell1
        have q2 := HN9.out.ebx.cell0
        have q3 := HN9.out.ebx.cell1
        have p0 := HM9.out.box.cell0
        have p1 := HM9.out.box.cell1
        have p2 := HM9.out.ebx.cell0
        have p3 := HM9.out.ebx.cell1
        go_upto_region 9 with fail
        rw [← hW9, ← hZ]
        clear hW9 hZ
        go_wp2_with (go_at_call 28; refine HSm.out.mono ?_; rintro e wa ⟨rfl, ba⟩; refine Hid.out ?_)
        refine (show ∀ {p : Prop}, p → Hid p from fun h => h) ?_
        have HSa := hideIt (HS9.out.up ba)
        have HNa := hideIt (HN9.out.up ba)
        clear q0 q1 q2 q3 p0 p1 p2 p3 HS9 HN9 HM9 HSm ba
        go_wp2
        go_loopw [17] (fun iv wr => ∃ i : Nat, i ≤ m8 ∧ iv = .int .i64 (i : Int) ∧ Hid (TaS w X nn ls a' m c' f wr) ∧ Hid (TaS w Y nn L a5 m8 c5 g wr)) (fun i _ => m8 - (intOf i).toNat)
        case atStart => exact ⟨0, by omega, rfl, HSa, HNa⟩
        case round =>
          obtain ⟨i, hi, rfl, hS, hN⟩ := hrel
          clear HSa HNa
          have q1 := hN.out.box.cell1
          by_cases him : i < m8
          · have d1 : decide ((i : Int) < (m8 : Int)) = true := decide_eq_true (by omega)
            go_wp2
            go_loopw [18] (fun iv wr => ∃ j : Nat, j ≤ m ∧ iv = .int .i64 (j : Int) ∧ Hid (TaS w X nn ls a' m c' f wr) ∧ Hid (TaS w Y nn L a5 m8 c5 g wr)) (fun i _ => m - (intOf i).toNat)
            case atStart => exact ⟨0, by omega, rfl, hS, hN⟩
            case round =>
              clear hS hN q1
              obtain ⟨j, hj, rfl, hS, hN⟩ := hrel
              have q1 := hN.out.box.cell1
              have p1 := hS.out.box.cell1
              by_cases hjm : j < m
              · have d2 : decide ((j : Int) < (m : Int)) = true := decide_eq_true (by omega)
                obtain ⟨b1, o1, y, rfl, _, hy, h1⟩ := hN.out.lss.at him
                obtain ⟨b2, o2, z, rfl, _, hz, h2⟩ := hS.out.lss.at hjm
                obtain ⟨ya, yb, yl, yt⟩ := h1
                obtain ⟨za, zb, zl, zt⟩ := h2
                have him2 : (i : Int) < (m8 : Int) := by omega
                have hjm2 : (j : Int) < (m : Int) := by omega
                have Hy := hideIt hy
                have Hz := hideIt hz
                clear hy hz
                by_cases ea : y.a = z.a
                · by_cases eb : y.b = z.b
                  · have d5 : decide (y.l < z.l) = false := decide_eq_false (by have := wtO_lev Ho.out (List.mem_of_getElem? Hy.out) (List.mem_of_getElem? Hz.out) (by show (y.a, y.b) = (z.a, z.b); rw [ea, eb]); omega)
                    have d3 : (y.a == z.a) = true := by simpa using ea
                    have d4 : (y.b == z.b) = true := by simpa using eb
                    clear ea eb
                    go_upto_region 17 with fail
                    go_quiet (fail)
                    all_goals
                      go_wp2
                      exact ⟨⟨j + 1, by omega, by go_num, by first | exact hS | exact hideIt (hS.out.up (below_drewN (Below.refl _ _) _)), by first | exact hN | exact hideIt (hN.out.up (below_drewN (Below.refl _ _) _))⟩, by simp [intOf]; omega⟩
                  · have d3 : (y.a == z.a) = true := by simpa using ea
                    have d4 : (y.b == z.b) = false := by simpa using eb
                    clear ea eb
                    go_upto_region 17 with fail
                    go_quiet (fail)
                    all_goals
                      go_wp2
                      exact ⟨⟨j + 1, by omega, by go_num, by first | exact hS | exact hideIt (hS.out.up (below_drewN (Below.refl _ _) _)), by first | exact hN | exact hideIt (hN.out.up (below_drewN (Below.refl _ _) _))⟩, by simp [intOf]; omega⟩
                · have d3 : (y.a == z.a) = false := by simpa using ea
                  clear ea
                  go_upto_region 17 with fail
                  go_quiet (fail)
                  all_goals
                    go_wp2
                    exact ⟨⟨j + 1, by omega, by go_num, by first | exact hS | exact hideIt (hS.out.up (below_drewN (Below.refl _ _) _)), by first | exact hN | exact hideIt (hN.out.up (below_drewN (Below.refl _ _) _))⟩, by simp [intOf]; omega⟩
              · obtain rfl : j = m := by omega
                have d2 : decide ((j : Int) < (j : Int)) = false := decide_eq_false (by omega)
                go_wp2
                exact ⟨⟨i + 1, by omega, by go_num, hS, hN⟩, by simp [intOf]; omega⟩
          · obtain rfl : i = m8 := by omega
            have d1 : decide ((i : Int) < (i : Int)) = false := decide_eq_false (by omega)
            go_wp2
            go_loopw [19, 20] (fun bv iv wr => ∃ (j : Nat) (bb : Bool), j ≤ m ∧ iv = .int .i64 (j : Int) ∧ bv = .bool bb ∧ Hid (bb = true ↔ ∃ z ∈ ls.take j, z.e = f ∧ z.t = true) ∧ Hid (TaS w X nn ls a' m c' f wr) ∧ Hid (TaS w Y nn L a5 i c5 g wr)) (fun _ i _ => m - (intOf i).toNat)
            case atStart => exact ⟨0, false, by omega, rfl, rfl, (by simp : false = true ↔ ∃ z ∈ ls.take 0, z.e = f ∧ z.t = true), hS, hN⟩
            case round =>
              clear hS hN q1
              obtain ⟨j, bb, hj, rfl, rfl, hbb, hS, hN⟩ := hrel
              have p1 := hS.out.box.cell1
              by_cases hjm : j < m
              · have d2 : decide ((j : Int) < (m : Int)) = true := decide_eq_true (by omega)
                obtain ⟨b2, o2, z, rfl, _, hz, h2⟩ := hS.out.lss.at hjm
                obtain ⟨za, zb, zl, zt⟩ := h2
                have hjm2 : (j : Int) < (m : Int) := by omega
                have HTk : Hid (ls.take (j + 1) = ls.take j ++ [z]) := by show _ = _; rw [List.take_add_one, hz]; rfl
                clear hz
                have p2 := hS.out.ebx.cell0
                have p3 := hS.out.ebx.cell1
                cases bb with
                | true =>
                  have HN3 : Hid (true = true ↔ ∃ z ∈ ls.take (j + 1), z.e = f ∧ z.t = true) := ⟨fun h => by obtain ⟨u, hu, h1⟩ := hbb.out.1 h; exact ⟨u, by rw [HTk.out]; exact List.mem_append_left _ hu, h1⟩, fun _ => rfl⟩
                  go_upto_region 23 with fail
                  go_quiet (fail)
                  all_goals
                    go_wp2
                    exact ⟨⟨j + 1, true, by omega, by go_num, rfl, HN3, by first | exact hS | exact hideIt (hS.out.up (below_drewN (Below.refl _ _) _)), by first | exact hN | exact hideIt (hN.out.up (below_drewN (Below.refl _ _) _))⟩, by simp [intOf]; omega⟩
                | false =>
                  by_cases ea : z.a = f.1
                  · by_cases eb : z.b = f.2
                    · have HN3 : Hid (z.t = true ↔ ∃ u ∈ ls.take (j + 1), u.e = f ∧ u.t = true) := ⟨fun h => ⟨z, by rw [HTk.out]; simp, by show (z.a, z.b) = f; rw [ea, eb], h⟩, fun ⟨u, hu, h1, h2⟩ => by
                        rw [HTk.out] at hu
                        rcases List.mem_append.1 hu with h3 | h3
                        · exact absurd (hbb.out.2 ⟨u, h3, h1, h2⟩) (by simp)
                        · simp at h3; rw [← h3]; exact h2⟩
                      have d3 : (z.a == f.1) = true := by simpa using ea
                      have d4 : (z.b == f.2) = true := by simpa using eb
                      clear ea eb hbb
                      go_upto_region 23 with fail
                      go_quiet (fail)
                      all_goals
                        go_wp2
                        exact ⟨⟨j + 1, z.t, by omega, by go_num, rfl, HN3, by first | exact hS | exact hideIt (hS.out.up (below_drewN (Below.refl _ _) _)), by first | exact hN | exact hideIt (hN.out.up (below_drewN (Below.refl _ _) _))⟩, by simp [intOf]; omega⟩
                    · have HN3 : Hid (false = true ↔ ∃ u ∈ ls.take (j + 1), u.e = f ∧ u.t = true) := ⟨fun h => (by cases h), fun ⟨u, hu, h1, h2⟩ => by
                        rw [HTk.out] at hu
                        rcases List.mem_append.1 hu with h3 | h3
                        · exact absurd (hbb.out.2 ⟨u, h3, h1, h2⟩) (by simp)
                        · simp at h3; subst h3; exact absurd (congrArg Prod.snd h1) eb⟩
                      have d3 : (z.a == f.1) = true := by simpa using ea
                      have d4 : (z.b == f.2) = false := by simpa using eb
                      clear ea eb hbb
                      go_upto_region 23 with fail
                      go_quiet (fail)
                      all_goals
                        go_wp2
                        exact ⟨⟨j + 1, false, by omega, by go_num, rfl, HN3, by first | exact hS | exact hideIt (hS.out.up (below_drewN (Below.refl _ _) _)), by first | exact hN | exact hideIt (hN.out.up (below_drewN (Below.refl _ _) _))⟩, by simp [intOf]; omega⟩
                  · have HN3 : Hid (false = true ↔ ∃ u ∈ ls.take (j + 1), u.e = f ∧ u.t = true) := ⟨fun h => (by cases h), fun ⟨u, hu, h1, h2⟩ => by
                      rw [HTk.out] at hu
                      rcases List.mem_append.1 hu with h3 | h3
                      · exact absurd (hbb.out.2 ⟨u, h3, h1, h2⟩) (by simp)
                      · simp at h3; subst h3; exact absurd (congrArg Prod.fst h1) ea⟩
                    have d3 : (z.a == f.1) = false := by simpa using ea
                    clear ea hbb
                    go_upto_region 23 with fail
                    go_quiet (fail)
                    all_goals
                      go_wp2
                      exact ⟨⟨j + 1, false, by omega, by go_num, rfl, HN3, by first | exact hS | exact hideIt (hS.out.up (below_drewN (Below.refl _ _) _)), by first | exact hN | exact hideIt (hN.out.up (below_drewN (Below.refl _ _) _))⟩, by simp [intOf]; omega⟩
              · obtain rfl : j = m := by omega
                have d2 : decide ((j : Int) < (j : Int)) = false := decide_eq_false (by omega)
                have hbb2 : bb = true ↔ ∃ z ∈ ls, z.e = f ∧ z.t = true := by have := hbb.out; rw [List.take_of_length_le (by have := hS.out.lss.1; omega)] at this; exact this
                have Hbb := hideIt hbb2
                clear hbb hbb2
                have hWL := hideIt (wtO_ok Ho.out)
                have HHt := hideIt (iHeightOf_any (nn : Int) L i a5 c5 (by omega) wr hN.out.lss)
                have d6 : decide ((2 : Int) < htO (nn : Int) L) = false := decide_eq_false (by have := ht_two hWL.out; omega)
                have q0 := hN.out.box.cell0
                have q1 := hN.out.box.cell1
                have hin : (0 ≤ f.1 ∧ f.1 < (nn : Int)) ∧ 0 ≤ f.2 ∧ f.2 < (nn : Int) := by have := (eB_iff (nn : Int) f).1 hE.out; omega
                have Hin := hideIt hin
                clear hin
                go_wp2_with (go_at_call 29; refine HHt.out.mono ?_; rintro e wb ⟨rfl, bb9⟩; refine Hid.out ?_)
                refine (show ∀ {p : Prop}, p → Hid p from fun h => h) ?_
                have SB : TaS w X nn ls a' j c' f wb := hS.out.up bb9
                have NB : TaS w Y nn L a5 i c5 g wb := hN.out.up bb9
                clear HHt bb9 q0 q1 p1 hS hN
                have HTg : Hid (∀ u, TaS w X nn ls a' j c' f u → TaS w Y nn L a5 i c5 g u → Calls Tryz.prog 24 #[.agg #[.int .i64 (nn : Int), .slice a5 i c5], .int .i64 f.1, .int .i64 f.2] u fun e v => e = .returned (.bool (tgB (nn : Int) L f.1 f.2)) ∧ TaS w X nn ls a' j c' f v ∧ TaS w Y nn L a5 i c5 g v) := fun u h1 h2 =>
                  (iWebTogether_any (nn : Int) L f.1 f.2 i a5 c5 (by omega) u h2.lss).mono fun e v ⟨he, hb⟩ => ⟨he, h1.up hb, h2.up hb⟩
                cases fd with
                | true =>
                  obtain ⟨d, rfl⟩ : ∃ d, r = some d := Option.isSome_iff_exists.1 Hf.out.symm
                  obtain rfl : g = d := Hg.out
                  obtain ⟨t1, t2, t3⟩ := wtO_holds Ho.out
                  obtain rfl : bb = true := Hbb.out.2 t1
                  rw [(tg_conn hWL.out Hin.out.1 Hin.out.2).2 t3] at HTg
                  have HGo : Hid (∀ u, TaS w X nn ls a' j c' f u → TaS w Y nn L a5 i c5 g u → Calls Tryz.prog 26 #[.agg #[.int .i64 (nn : Int), .slice a5 i c5]] u fun e v => ∃ a2 c2, e = .returned (.agg #[.int .i64 (nn : Int), .slice a2 i c2]) ∧ Es v v.heap.size a2 i (gE L) ∧ TaS w X nn ls a' j c' f v ∧ TaS w Y nn L a5 i c5 g v) := fun u h1 h2 =>
                    (sGraphOf_any (nn : Int) L i a5 c5 (by omega) u h2.lss).mono fun e v ⟨a2, c2, he, ho, hb⟩ => ⟨a2, c2, he, Es_of_own ho, h1.up hb, h2.up hb⟩
                  have HHs : Hid (∀ u a2 c2, TaS w X nn ls a' j c' f u → TaS w Y nn L a5 i c5 g u → Es u u.heap.size a2 i (gE L) → Calls Tryz.prog 30 #[.slice a2 i c2, .agg #[.int .i64 g.1, .int .i64 g.2]] u fun e v => e = .returned (.bool true) ∧ TaS w X nn ls a' j c' f v ∧ TaS w Y nn L a5 i c5 g v) := fun u a2 c2 h1 h2 he => by
                    have := has_any (gE L) g i a2 c2 (by omega) u he
                    rw [show hasB (gE L) g = true from decide_eq_true t2] at this
                    exact this.mono fun e v ⟨he, hb⟩ => ⟨he, h1.up hb, h2.up hb⟩
                  have hfd : ∀ (u : World) (a2 : Option Addr) (c2 : Nat), (Instr.field 33 (.agg #[.int .i64 (nn : Int), .slice a2 i c2]) 1).run Tryz.prog u = .ok (.slice a2 i c2) u := fun u a2 c2 => by kernel_rfl
                  have HC : Hid (∀ u, TaS w X nn ls a' j c' f u → TaS w Y nn L a5 i c5 g u → ((u.cell? ⟨Y, 0, none⟩ = some (.int .i64 (nn : Int)) ∧ u.cell? ⟨Y, 1, none⟩ = some (.slice a5 i c5)) ∧ u.cell? ⟨Y + 1, 0, none⟩ = some (.int .i64 g.1) ∧ u.cell? ⟨Y + 1, 1, none⟩ = some (.int .i64 g.2)) ∧ u.cell? ⟨X + 1, 0, none⟩ = some (.int .i64 f.1) ∧ u.cell? ⟨X + 1, 1, none⟩ = some (.int .i64 f.2)) := fun u h1 h2 => ⟨h2.four, h1.four.2⟩
                  have hC0 := HC.out _ SB NB
                  clear t1 t2 t3 Hbb Hf Hg Ho
                  go_upto_region 27 with fail
                  go_region_held3 (fun u => ((u.cell? ⟨Y, 0, none⟩ = some (.int .i64 (nn : Int)) ∧ u.cell? ⟨Y, 1, none⟩ = some (.slice a5 i c5)) ∧ u.cell? ⟨Y + 1, 0, none⟩ = some (.int .i64 g.1) ∧ u.cell? ⟨Y + 1, 1, none⟩ = some (.int .i64 g.2)) ∧ u.cell? ⟨X + 1, 0, none⟩ = some (.int .i64 f.1) ∧ u.cell? ⟨X + 1, 1, none⟩ = some (.int .i64 f.2))
                    (first | with_reducible assumption | with_reducible exact HC.out _ (by assumption) (by assumption) | with_reducible exact HC.out _ (TaS.drew (by assumption)) (TaS.drew (by assumption)))
                    (first
                    | (go_at_call 24; refine (HTg.out _ (by first | exact SB | exact SB.drew) (by first | exact NB | exact NB.drew)).mono ?_; rintro e wd ⟨rfl, SD, ND⟩; have hC1 := HC.out _ SD ND)
                    | (go_at_call 26; refine (HGo.out _ (by first | exact SD | exact SD.drew) (by first | exact ND | exact ND.drew)).mono ?_; rintro e we ⟨a2, c2, rfl, e2, SE, NE⟩; have hC2 := HC.out _ SE NE)
                    | (go_at_call 30; refine (HHs.out _ a2 c2 (by first | exact SE | exact SE.drew) (by first | exact NE | exact NE.drew) (by first | exact e2 | exact e2.up (Below.refl _ _).drew)).mono ?_; rintro e wf ⟨rfl, SF, NF⟩; have hC3 := HC.out _ SF NF))
                  all_goals
                    have BF := hideIt SF.below
                    have BF2 := hideIt SF.drew.below
                    clear SF NF
                    go_wp2_with fail
                    go_ret
                    first
                    | exact ⟨rfl, BF.out⟩
                    | exact ⟨rfl, BF2.out⟩
                | false =>
                  have hr : r = none := by have := Hf.out; cases r with | none => rfl | some d => cases this
                  subst hr
                  have ht : tgB (nn : Int) L f.1 f.2 = !bb := by
                    rw [Bool.eq_iff_iff, tg_conn hWL.out Hin.out.1 Hin.out.2]
                    obtain ⟨_, x, hx, hxe, _⟩ := wtO_is Ho.out
                    cases hxt : x.t with
                    | true =>
                      have h1 := Hbb.out.2 ⟨x, hx, hxe, hxt⟩
                      rw [h1]
                      exact ⟨fun h => absurd h (wtO_apart Ho.out hx hxe hxt), fun h => by cases h⟩
                    | false =>
                      have h1 : bb = false := by
                        cases hb : bb with
                        | false => rfl
                        | true =>
                          obtain ⟨z, hz, hze, hzt⟩ := Hbb.out.1 hb
                          rw [ld_uniq (wtO_is Ho.out).1.1 hx hz (hze.trans hxe.symm), hxt] at hzt
                          cases hzt
                      rw [h1]
                      exact ⟨fun _ => rfl, fun _ => (wtO_beside Ho.out hx hxe hxt).2⟩
                  rw [ht] at HTg
                  have HT9 := hideIt (HTg.out _ SB NB)
                  have q0 := NB.box.cell0
                  have q1 := NB.box.cell1
                  have q2 := SB.ebx.cell0
                  have q3 := SB.ebx.cell1
                  clear ht Hbb Hf Hg Ho HTg SB NB
                  go_wp2_with (go_at_call 24; refine HT9.out.mono ?_; rintro e wd ⟨rfl, SD, ND⟩; refine Hid.out ?_)
                  refine (show ∀ {p : Prop}, p → Hid p from fun h => h) ?_
                  have BF := hideIt SD.below
                  clear SD ND q0 q1 q2 q3
                  go_wp2
                  go_ret
                  exact ⟨by simp, BF.out⟩
end Go.Proofs.YtkkplppcgnikoaaGreat
namespace Go.Proofs.YtkkplppcgnikoaaGreat
open Go.ChangeShapes Go.WideShapes Go.ChangeAt Go.RowKit

/-- a slice of bytes that came in, as the walk wants it -/
theorem code_of {H : Type} {enc : TypeId × Value → H} {W : World} {a : Option Addr} {len cap fuel : Nat} {x : DataW H × List MemPlace}
    (hf : DataW.trod enc Tryz.prog W 0 (fun _ => true) true fuel 22 [.slice a len cap] = some x) : Code W W.heap.size a len := by
  rcases open_ints Tryz.underlying22 Tryz.underlying5 (by kernel_rfl) hf with ⟨hcs, _⟩ | ⟨x, l, c, zs, hcs, _, hl, hm, hz, _, hcell, hwz⟩
  · simp at hcs
    obtain ⟨rfl, rfl, rfl⟩ := hcs
    exact .inl rfl
  · simp at hcs
    obtain ⟨rfl, rfl, rfl⟩ := hcs
    by_cases h0 : len = 0
    · exact .inl h0
    · have hzl : zs.length = cap := by simpa using hz
      obtain ⟨b, off, rfl, hc⟩ := ints_at hcell (by omega)
      have hb : b < W.heap.size := World.block_lt_of_cell? W _ (hc 0 (by omega))
      refine .inr ⟨b, off, rfl, hb, by omega, fun j hj => ?_⟩
      have hw := hwz (zs.getD j 0) (by
        rw [List.getD_eq_getElem?_getD, List.getElem?_eq_getElem (by omega)]
        exact List.getElem_mem _)
      have hr : 0 ≤ zs.getD j 0 ∧ zs.getD j 0 ≤ 255 := by simpa [Lit.wf, IntKind.min, IntKind.max, IntKind.signed, IntKind.bits] using hw
      refine ⟨(zs.getD j 0).toNat, by omega, ?_⟩
      rw [hc j (by omega), Int.toNat_of_nonneg hr.1]

end Go.Proofs.YtkkplppcgnikoaaGreat
