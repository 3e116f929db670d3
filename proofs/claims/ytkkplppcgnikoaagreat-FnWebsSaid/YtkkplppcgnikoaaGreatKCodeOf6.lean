/- Two lists that are the same are told so. FnWebs. A slice of bytes that comes in, as the walks over drawn inputs want it. -/
import Derived.Test.YtkkplppcgnikoaaGreatKTourP
import Derived.Test.YtkkplppcgnikoaaGreatKParts8
import Derived.Test.YtkkplppcgnikoaaGreatKSm11
import Derived.Test.YtkkplppcgnikoaaGreatKSAdd9
import Derived.WalkKit
import Derived.ProofKit
import Derived.OpenShut
import Derived.ChangeOld
import Derived.Below
namespace Go.Proofs.YtkkplppcgnikoaaGreat
open Go.RowKit

set_option maxHeartbeats 1000000 in
theorem sameInts_same (ls : List Int) (n : Nat) (a a' : Option Addr) (c c' : Nat) (hn : n ≤ 1048576) (w : World) (h : Is w w.heap.size a n ls) (h' : Is w w.heap.size a' n ls) :
    Calls Tryz.prog 22 #[.slice a n c, .slice a' n c'] w fun e w' => e = .returned (.bool true) ∧ Below w.heap.size w w' := by
  obtain ⟨hlen, hrow⟩ := h
  obtain ⟨_, hrow'⟩ := h'
  have HR := hideIt hrow
  have HR' := hideIt hrow'
  clear hrow hrow'
  have dn : ((n : Int) != (n : Int)) = false := by simp
  go_enter Tryz.func22, Tryz.ntmps22
  go_wp2
  go_loopw [5] (fun i wr => ∃ (k : Nat), k ≤ n ∧ i = .int .i64 (k : Int) ∧ Below w.heap.size w wr) (fun i _ => n - (intOf i).toNat)
  case atStart => exact ⟨0, by omega, rfl, Below.refl _ _⟩
  case round =>
    obtain ⟨k, hk, rfl, hb⟩ := hrel
    by_cases hlt : k < n
    · rcases HR.out with hz | ⟨b, off, rfl, hbl, hc⟩
      · omega
      · rcases HR'.out with hz | ⟨b', off', rfl, hbl', hc'⟩
        · omega
        · obtain ⟨f, hf⟩ : ∃ f, ls[k]? = some f := ⟨ls[k]'(by omega), List.getElem?_eq_getElem (by omega)⟩
          have e0 : wr.cell? ⟨b, off + k, none⟩ = some (.int .i64 f) := by rw [hb.cell hbl]; exact hc k f hf
          have e1 : wr.cell? ⟨b', off' + k, none⟩ = some (.int .i64 f) := by rw [hb.cell hbl']; exact hc' k f hf
          have b1 : (0 : Int) ≤ (k : Int) := by omega
          have b2 : (k : Int) < (n : Int) := by omega
          have d1 : (f != f) = false := by simp
          clear hc hc' hf
          go_wp2
          go_quiet (fail)
          go_wp2
          exact ⟨⟨k + 1, by omega, by go_num, below_drewN hb _⟩, by simp [intOf]; omega⟩
    · go_wp2
      go_ret
      exact ⟨rfl, hb⟩

end Go.Proofs.YtkkplppcgnikoaaGreat
namespace Go.Proofs.YtkkplppcgnikoaaGreat
open Go.RowKit

/-- where the law stands: the web and the edge; what comes of it; the graph that is asked for -/
structure WbS (w : World) (X Z : Nat) (nn : Nat) (ls : List Ld) (a' : Option Addr) (m c' : Nat) (f : EdgeV) (L : List Ld) (a5 : Option Addr) (m5 c5 : Nat) (a6 : Option Addr) (m6 c6 : Nat) (u : World) : Prop where
  ta : TaS w X nn ls a' m c' f u
  nb : Box7 u Z 26 (.int .i64 (nn : Int)) (.slice a5 m5 c5)
  nl : Ls u u.heap.size a5 m5 L
  wb : Box7 u (Z + 1) 33 (.int .i64 (nn : Int)) (.slice a6 m6 c6)
  we : Es u u.heap.size a6 m6 (gE L)
section
variable {w : World} {X Z : Nat} {nn : Nat} {ls : List Ld} {a' : Option Addr} {m c' : Nat} {f : EdgeV} {L : List Ld} {a5 : Option Addr} {m5 c5 : Nat} {a6 : Option Addr} {m6 c6 : Nat} {u v : World}
theorem WbS.up (h : WbS w X Z nn ls a' m c' f L a5 m5 c5 a6 m6 c6 u) (hb : Below u.heap.size u v) : WbS w X Z nn ls a' m c' f L a5 m5 c5 a6 m6 c6 v := ⟨h.ta.up hb, h.nb.up hb, h.nl.up hb, h.wb.up hb, h.we.up hb⟩
theorem WbS.drew (h : WbS w X Z nn ls a' m c' f L a5 m5 c5 a6 m6 c6 u) : WbS w X Z nn ls a' m c' f L a5 m5 c5 a6 m6 c6 u.drew := h.up (Below.refl _ _).drew
theorem WbS.six (h : WbS w X Z nn ls a' m c' f L a5 m5 c5 a6 m6 c6 u) : (u.cell? ⟨X, 0, none⟩ = some (.int .i64 (nn : Int)) ∧ u.cell? ⟨X, 1, none⟩ = some (.slice a' m c')) ∧ (u.cell? ⟨Z, 0, none⟩ = some (.int .i64 (nn : Int)) ∧ u.cell? ⟨Z, 1, none⟩ = some (.slice a5 m5 c5)) ∧ u.cell? ⟨Z + 1, 0, none⟩ = some (.int .i64 (nn : Int)) ∧ u.cell? ⟨Z + 1, 1, none⟩ = some (.slice a6 m6 c6) := ⟨⟨h.ta.box.cell0, h.ta.box.cell1⟩, ⟨h.nb.cell0, h.nb.cell1⟩, h.wb.cell0, h.wb.cell1⟩
theorem WbS.six2 (h : WbS w X Z nn ls a' m c' f L a5 m5 c5 a6 m6 c6 u) : (u.cell? ⟨X + 1, 0, none⟩ = some (.int .i64 f.1) ∧ u.cell? ⟨X + 1, 1, none⟩ = some (.int .i64 f.2)) ∧ (u.cell? ⟨Z, 0, none⟩ = some (.int .i64 (nn : Int)) ∧ u.cell? ⟨Z, 1, none⟩ = some (.slice a5 m5 c5)) ∧ u.cell? ⟨Z + 1, 0, none⟩ = some (.int .i64 (nn : Int)) ∧ u.cell? ⟨Z + 1, 1, none⟩ = some (.slice a6 m6 c6) := ⟨⟨h.ta.ebx.cell0, h.ta.ebx.cell1⟩, ⟨h.nb.cell0, h.nb.cell1⟩, h.wb.cell0, h.wb.cell1⟩
end
theorem gE_len2 {nn : Nat} {L : List Ld} (h : WOk (nn : Int) L) {u : World} {a : Option Addr} {m : Nat} (hl : Ls u u.heap.size a m L) : m ≤ 66 := by have h1 := (gB_chk h.1).2.2; rw [gE_len] at h1; have := hl.1; omega
theorem Es.setE {u : World} {B n X j : Nat} {a : Option Addr} {es : List EdgeV} (h : Es u B a n es) (v : Value) (hx : ∀ b o, a = some ⟨b, o, none⟩ → b ≠ X) : Es (u.setCell ⟨X, j, none⟩ v) B a n es := by
  refine ⟨h.1, ?_⟩
  rcases h.2 with h0 | ⟨b, off, rfl, hb, hc⟩
  · exact .inl h0
  · have hne := hx b off rfl
    refine .inr ⟨b, off, rfl, hb, fun k x hk => ?_⟩
    rw [set_other hne, set_other hne]
    exact hc k x hk
theorem Ls.setL {u : World} {B n X j : Nat} {a : Option Addr} {ls : List Ld} (h : Ls u B a n ls) (v : Value) (hx : ∀ b o, a = some ⟨b, o, none⟩ → b ≠ X) : Ls (u.setCell ⟨X, j, none⟩ v) B a n ls := by
  refine ⟨h.1, ?_⟩
  rcases h.2 with h0 | ⟨b, off, rfl, hb, hc⟩
  · exact .inl h0
  · have hne := hx b off rfl
    refine .inr ⟨b, off, rfl, hb, fun k x hk => ?_⟩
    rw [set_other hne, set_other hne, set_other hne, set_other hne]
    exact hc k x hk

set_option maxRecDepth 100000 in
set_option maxHeartbeats 16000000 in
theorem fnWebs.walk (a : Option Addr) (len cap : Nat) (w : World) (hcode : Code w w.heap.size a len) :
    Calls Tryz.prog 3 #[.slice a len cap] w fun e w' => e = .returned (.bool true) ∧ Below w.heap.size w w' := by
  have HBig := hideIt (big7_any w a len cap)
  by_cases hl : len ≤ 1048576
  case neg =>
    have d0 : decide ((1048576 : Int) < (len : Int)) = true := decide_eq_true (by omega)
    clear hcode
    go_enter Tryz.func3, Tryz.ntmps3
    go_wp2_with (go_at_call 10; refine HBig.out.mono ?_; rintro e w1 ⟨rfl, rfl⟩)
    go_ret
    exact ⟨rfl, Below.refl _ _⟩
  case pos =>
    have d0 : decide ((1048576 : Int) < (len : Int)) = false := decide_eq_false (by omega)
    have H1 := hideIt (drawRightWeb_any w a len cap hl hcode)
    clear hcode
    go_enter Tryz.func3, Tryz.ntmps3
    go_wp2_with (go_at_call 10; refine HBig.out.mono ?_; rintro e w0 ⟨rfl, hw⟩; have hw' := hw.symm; subst hw'; clear hw; refine Hid.out ?_)
    refine (show ∀ {p : Prop}, p → Hid p from fun h => h) ?_
    clear HBig
    go_wp2_with (go_at_call 11; refine H1.out.mono ?_; rintro e w1 ⟨nn, ls, f, a', m, c', hR, hE, rfl, b1⟩; refine Hid.out ?_)
    refine (show ∀ {p : Prop}, p → Hid p from fun h => h) ?_
    obtain ⟨hn, hw, o1⟩ := hR.out
    have hW := hideIt hw
    obtain ⟨X, hX⟩ : ∃ X, X = w1.heap.size := ⟨_, rfl⟩
    obtain ⟨W2, hW2⟩ : ∃ W2, W2 = (w1.alloc (.cells #[.int .i64 (nn : Int), .slice a' m c'] 26)).alloc (.cells #[.int .i64 f.1, .int .i64 f.2] 28) := ⟨_, rfl⟩
    have S2 : TaS w X nn ls a' m c' f W2 := by
      have hu : Below w1.heap.size w1 W2 := by rw [hW2]; exact ((Below.refl _ _).alloc (Nat.le_refl _) _).alloc (by simp) _
      exact ⟨by rw [hW2, hX]; exact (Box7.new _ _ _ _ _ rfl).alloc _, by rw [hW2, hX]; exact Box7.new _ _ _ _ _ (by simp), (Ls_of_own o1).up hu, b1.trans (hu.mono b1.size)⟩
    have HSl := hideIt (sl_own2 o1)
    have HS2 := hideIt S2
    have hm66 : m ≤ 66 := gE_len2 hw S2.lss
    have HGo := hideIt (iGraphOf_any (nn : Int) ls m a' c' (by omega) W2 S2.lss)
    have q0 := S2.box.cell0
    have q1 := S2.box.cell1
    have hin : (0 ≤ f.1 ∧ f.1 < (nn : Int)) ∧ 0 ≤ f.2 ∧ f.2 < (nn : Int) := by have := (eB_iff (nn : Int) f).1 hE.out; omega
    have Hin := hideIt hin
    clear H1 hR hw o1 b1 S2 hin
    go_upto_region 4 with fail
    rw [← hW2, ← hX]
    clear hW2 hX
    go_wp2_with (go_at_call 12; refine HGo.out.mono ?_; rintro e w3 ⟨g3, rfl, o3, b3⟩; refine Hid.out ?_)
    refine (show ∀ {p : Prop}, p → Hid p from fun h => h) ?_
    obtain ⟨Y, hY⟩ : ∃ Y, Y = w3.heap.size := ⟨_, rfl⟩
    obtain ⟨W4, hW4⟩ : ∃ W4, W4 = w3.alloc (.cells #[.int .i64 (nn : Int), .slice (some ⟨g3, 0, none⟩) m m] 33) := ⟨_, rfl⟩
    have bA : Below w3.heap.size w3 W4 := by rw [hW4]; exact (Below.refl _ _).alloc (Nat.le_refl _) _
    have S4 := (HS2.out.up b3).up bA
    have G4 : Box7 W4 Y 33 (.int .i64 (nn : Int)) (.slice (some ⟨g3, 0, none⟩) m m) := by rw [hW4, hY]; exact Box7.new _ _ _ _ _ rfl
    have E4 := (Es_of_own o3).up bA
    have HH := hideIt (sHasEdge_any (nn : Int) (gE ls) f m (some ⟨g3, 0, none⟩) m (by omega) W4 E4)
    have HS4 := hideIt S4
    have HG4 := hideIt G4
    have HE4 := hideIt E4
    clear q0 q1 HGo o3 b3 bA HS2 E4
    have q0 := G4.cell0
    have q1 := G4.cell1
    have q2 := S4.ebx.cell0
    have q3 := S4.ebx.cell1
    clear S4 G4
    generalize hhb : hasB (gE ls) f = hb at *
    have HHb := hideIt hhb
    clear hhb
    go_upto_region 5 with fail
    rw [← hW4, ← hY]
    clear hW4 hY
    go_wp2_with (go_at_call 13; refine HH.out.mono ?_; rintro e w5 ⟨rfl, b5⟩; refine Hid.out ?_)
    refine (show ∀ {p : Prop}, p → Hid p from fun h => h) ?_
    obtain ⟨Z, hZ⟩ : ∃ Z, Z = w5.heap.size := ⟨_, rfl⟩
    obtain ⟨W6, hW6⟩ : ∃ W6, W6 = (w5.alloc (.cells #[.int .i64 0, .slice none 0 0] 26)).alloc (.cells #[.int .i64 0, .slice none 0 0] 33) := ⟨_, rfl⟩
    have bB : Below w5.heap.size w5 W6 := by rw [hW6]; exact ((Below.refl _ _).alloc (Nat.le_refl _) _).alloc (by simp) _
    have HK : Hid (∀ u, Below Z w5 u → TaS w X nn ls a' m c' f u ∧ Box7 u Y 33 (.int .i64 (nn : Int)) (.slice (some ⟨g3, 0, none⟩) m m) ∧ Es u u.heap.size (some ⟨g3, 0, none⟩) m (gE ls)) := fun u hu => by
      rw [hZ] at hu
      exact ⟨(HS4.out.up b5).up hu, (HG4.out.up b5).up hu, (HE4.out.up b5).up hu⟩
    have HB6 : Hid (Below Z w5 W6) := by show Below _ _ _; rw [hZ]; exact bB
    have HN6 : Hid (Box7 W6 Z 26 (.int .i64 0) (.slice none 0 0)) := by show Box7 _ _ _ _ _; rw [hW6, hZ]; exact (Box7.new _ _ _ _ _ rfl).alloc _
    have HW6 : Hid (Box7 W6 (Z + 1) 33 (.int .i64 0) (.slice none 0 0)) := by show Box7 _ _ _ _ _; rw [hW6, hZ]; exact Box7.new _ _ _ _ _ (by simp)
    clear q0 q1 q2 q3 HH b5 bB HS4 HG4 HE4
    go_upto_region 9 with fail
    rw [← hW6, ← hZ]
    clear hW6 hZ
    obtain ⟨S6, G6, E6⟩ := HK.out _ HB6.out
    have q0 := S6.box.cell0
    have q1 := S6.box.cell1
    have q2 := S6.ebx.cell0
    have q3 := S6.ebx.cell1
    have HS6 := hideIt S6
    clear S6 G6 E6
    cases hb with
    | false =>
      obtain ⟨L, ho⟩ : ∃ L, waO (nn : Int) ls f = some L := ⟨_, waO_yes hW.out hE.out HHb.out⟩
      have hWL := hideIt (waO_ok ho)
      have HL : Hid (addE (nn : Int) (gE ls) f = some (gE L)) := by
        show _ = _
        rw [gE_waO ho]
        exact addE_yes hW.out hE.out HHb.out
      have HTi : Hid (Calls Tryz.prog 16 #[.agg #[.int .i64 (nn : Int), .slice a' m c'], .agg #[.int .i64 f.1, .int .i64 f.2]] W6 fun e v => ∃ a5 m5 c5, e = .returned (.tuple #[.agg #[.int .i64 (nn : Int), .slice a5 m5 c5], .bool true]) ∧ Hid (Ls v v.heap.size a5 m5 L ∧ ∀ b o, a5 = some ⟨b, o, none⟩ → W6.heap.size ≤ b) ∧ Below W6.heap.size W6 v) := by
        have HT := iWebAdd_any (nn : Int) ls f m a' c' HSl.out (by omega) W6 HS6.out.lss
        rw [ho] at HT
        exact HT.mono fun e v ⟨a5, m5, c5, h1, h2, h3⟩ => ⟨a5, m5, c5, h1, ⟨Ls_of_own h2, fun b o e => (h2.lt b (by rw [e]; rfl)).1⟩, h3⟩
      clear ho
      go_wp2_with (go_at_call 16; refine HTi.out.mono ?_; rintro e w7 ⟨a5, m5, c5, rfl, l7, b7⟩; refine Hid.out ?_)
      refine (show ∀ {p : Prop}, p → Hid p from fun h => h) ?_
      obtain ⟨W8, hW8⟩ : ∃ W8, W8 = (w7.setCell ⟨Z, 0, none⟩ (.int .i64 (nn : Int))).setCell ⟨Z, 1, none⟩ (.slice a5 m5 c5) := ⟨_, rfl⟩
      have zz := HW6.out.lt
      have N7 := HN6.out.up b7
      have V7 := HW6.out.up b7
      have B7 := HB6.out.trans (b7.mono (by omega))
      have N8 : Box7 W8 Z 26 (.int .i64 (nn : Int)) (.slice a5 m5 c5) := by rw [hW8]; exact N7.set2 _ _
      have V8 : Box7 W8 (Z + 1) 33 (.int .i64 0) (.slice none 0 0) := by rw [hW8]; exact (V7.setOther (x := Z) (j := 0) _ (by omega)).setOther (x := Z) (j := 1) _ (by omega)
      have sz8 : W8.heap.size = w7.heap.size := by rw [hW8]; simp [World.setCell]
      have hlow : ∀ b o, a5 = some ⟨b, o, none⟩ → b ≠ Z := fun b o e => by have := l7.out.2 b o e; omega
      have L8 : Ls W8 W8.heap.size a5 m5 L := by rw [sz8, hW8]; exact (l7.out.1.setL _ hlow).setL _ hlow
      have B8 : Below Z w5 W8 := by rw [hW8]; exact (B7.setCell (p := ⟨Z, 0, none⟩) (Nat.le_refl _) _).setCell (p := ⟨Z, 1, none⟩) (Nat.le_refl _) _
      have s78 := b7.size
      have HLo : Hid (∀ b o, a5 = some ⟨b, o, none⟩ → b ≠ Z + 1) := fun b o e => by have := l7.out.2 b o e; omega
      have y0 := N7.cell0
      have y1 := N7.cell1
      have z0 := N7.frozen 0
      have z1 := N7.frozen 1
      obtain ⟨T8, G8, E8⟩ := HK.out _ B8
      have HGr : Hid (Calls Tryz.prog 17 #[.agg #[.int .i64 (nn : Int), .slice (some ⟨g3, 0, none⟩) m m], .agg #[.int .i64 f.1, .int .i64 f.2]] W8 fun e v => ∃ a6 m6 c6, e = .returned (.tuple #[.agg #[.int .i64 (nn : Int), .slice a6 m6 c6], .bool true]) ∧ Hid (Es v v.heap.size a6 m6 (gE L) ∧ ∀ b o, a6 = some ⟨b, o, none⟩ → W8.heap.size ≤ b) ∧ Below W8.heap.size W8 v) := by
        have h := sAddEdge_any (nn : Int) (gE ls) f m (some ⟨g3, 0, none⟩) m (by omega) W8 E8
        rw [HL.out] at h
        exact h.mono fun e v ⟨a6, m6, c6, h1, h2, h3⟩ => ⟨a6, m6, c6, h1, ⟨Es_of_own h2, fun b o e => (h2.lt b (by rw [e]; rfl)).1⟩, h3⟩
      have p0 := G8.cell0
      have p1 := G8.cell1
      have p2 := T8.ebx.cell0
      have p3 := T8.ebx.cell1
      have HN8 := hideIt N8
      have HV8 := hideIt V8
      have HL8 := hideIt L8
      have HB8 := hideIt B8
      clear HTi l7 b7 N7 V7 B7 N8 V8 sz8 hlow L8 B8 T8 G8 E8 HL HN6 HW6 q0 q1 q2 q3 HS6
      go_upto_region 13 with fail
      rw [← hW8]
      clear hW8 y0 y1 z0 z1
      go_wp2_with (go_at_call 17; refine HGr.out.mono ?_; rintro e w9 ⟨a6, m6, c6, rfl, l9, b9⟩; refine Hid.out ?_)
      refine (show ∀ {p : Prop}, p → Hid p from fun h => h) ?_
      obtain ⟨W10, hW10⟩ : ∃ W10, W10 = (w9.setCell ⟨Z + 1, 0, none⟩ (.int .i64 (nn : Int))).setCell ⟨Z + 1, 1, none⟩ (.slice a6 m6 c6) := ⟨_, rfl⟩
      have zv := HV8.out.lt
      have V9 := HV8.out.up b9
      have sz10 : W10.heap.size = w9.heap.size := by rw [hW10]; simp [World.setCell]
      have hlow6 : ∀ b o, a6 = some ⟨b, o, none⟩ → b ≠ Z + 1 := fun b o e => by have := l9.out.2 b o e; omega
      have HSt : Hid (WbS w X Z nn ls a' m c' f L a5 m5 c5 a6 m6 c6 W10) := by
        refine ⟨(HK.out W10 ?_).1, ?_, ?_, ?_, ?_⟩
        · rw [hW10]
          exact ((HB8.out.trans (b9.mono (by omega))).setCell (p := ⟨Z + 1, 0, none⟩) (by show Z ≤ Z + 1; omega) _).setCell (p := ⟨Z + 1, 1, none⟩) (by show Z ≤ Z + 1; omega) _
        · rw [hW10]
          exact ((HN8.out.up b9).setOther (x := Z + 1) (j := 0) _ (by omega)).setOther (x := Z + 1) (j := 1) _ (by omega)
        · rw [sz10, hW10]
          exact ((HL8.out.up b9).setL _ HLo.out).setL _ HLo.out
        · rw [hW10]
          exact V9.set2 _ _
        · rw [sz10, hW10]
          exact (l9.out.1.setE _ hlow6).setE _ hlow6
      have y0 := V9.cell0
      have y1 := V9.cell1
      have z0 := V9.frozen 0
      have z1 := V9.frozen 1
      clear HGr l9 b9 V9 sz10 hlow6 HN8 HV8 HL8 HB8 HLo p0 p1 p2 p3 zz s78 zv HK HB6
      go_upto_region 14 with fail
      rw [← hW10]
      clear hW10 y0 y1 z0 z1
      have hm5 : m5 ≤ 66 := gE_len2 hWL.out HSt.out.nl
      have hm6 : m6 = m5 := by have h1 := HSt.out.we.1; rw [gE_len] at h1; have h2 := HSt.out.nl.1; omega
      subst hm6
      have HO1 : Hid (∀ u, WbS w X Z nn ls a' m c' f L a5 m6 c5 a6 m6 c6 u → Calls Tryz.prog 18 #[.agg #[.int .i64 (nn : Int), .slice a' m c']] u fun e v => e = .returned (.bool true) ∧ WbS w X Z nn ls a' m c' f L a5 m6 c5 a6 m6 c6 v) := fun u hu => by
        have h := iWebOk_any (nn : Int) ls m a' c' (by omega) u hu.ta.lss
        rw [wB_yes hW.out] at h
        exact h.mono fun e v ⟨h1, h2⟩ => ⟨h1, hu.up h2⟩
      have HO2 : Hid (∀ u, WbS w X Z nn ls a' m c' f L a5 m6 c5 a6 m6 c6 u → Calls Tryz.prog 18 #[.agg #[.int .i64 (nn : Int), .slice a5 m6 c5]] u fun e v => e = .returned (.bool true) ∧ WbS w X Z nn ls a' m c' f L a5 m6 c5 a6 m6 c6 v) := fun u hu => by
        have h := iWebOk_any (nn : Int) L m6 a5 c5 (by omega) u hu.nl
        rw [wB_yes hWL.out] at h
        exact h.mono fun e v ⟨h1, h2⟩ => ⟨h1, hu.up h2⟩
      have HO3 : Hid (∀ u, WbS w X Z nn ls a' m c' f L a5 m6 c5 a6 m6 c6 u → Calls Tryz.prog 19 #[.agg #[.int .i64 (nn : Int), .slice a5 m6 c5]] u fun e v => e = .returned (.bool true) ∧ WbS w X Z nn ls a' m c' f L a5 m6 c5 a6 m6 c6 v) := fun u hu => by
        have h := sWebOk_any (nn : Int) L m6 a5 c5 (by omega) u hu.nl
        rw [wB_yes hWL.out] at h
        exact h.mono fun e v ⟨h1, h2⟩ => ⟨h1, hu.up h2⟩
      have HO4 : Hid (∀ u, WbS w X Z nn ls a' m c' f L a5 m6 c5 a6 m6 c6 u → Calls Tryz.prog 12 #[.agg #[.int .i64 (nn : Int), .slice a5 m6 c5]] u fun e v => ∃ g, e = .returned (.agg #[.int .i64 (nn : Int), .slice (some ⟨g, 0, none⟩) m6 m6]) ∧ Es v v.heap.size (some ⟨g, 0, none⟩) m6 (gE L) ∧ WbS w X Z nn ls a' m c' f L a5 m6 c5 a6 m6 c6 v) := fun u hu =>
        (iGraphOf_any (nn : Int) L m6 a5 c5 (by omega) u hu.nl).mono fun e v ⟨g, h1, h2, h3⟩ => ⟨g, h1, Es_of_own h2, hu.up h3⟩
      have HO5 : Hid (∀ u g, WbS w X Z nn ls a' m c' f L a5 m6 c5 a6 m6 c6 u → Es u u.heap.size (some ⟨g, 0, none⟩) m6 (gE L) → Calls Tryz.prog 20 #[.slice (some ⟨g, 0, none⟩) m6 m6, .slice a6 m6 c6] u fun e v => e = .returned (.bool true) ∧ WbS w X Z nn ls a' m c' f L a5 m6 c5 a6 m6 c6 v) := fun u g hu he =>
        (O.sameEdges_same (gE L) m6 (some ⟨g, 0, none⟩) a6 m6 c6 (by omega) u he hu.we).mono fun e v ⟨h1, h2⟩ => ⟨h1, hu.up h2⟩
      have hfd : ∀ (u : World) (g : Nat), (Instr.field 33 (.agg #[.int .i64 (nn : Int), .slice (some ⟨g, 0, none⟩) m6 m6]) 1).run Tryz.prog u = .ok (.slice (some ⟨g, 0, none⟩) m6 m6) u := fun u g => by kernel_rfl
      have SA := HSt.out
      have hC0 := SA.six
      have hC1 := SA.drew.six
      go_cut [77] (fun p wx => p = .bool false ∧ WbS w X Z nn ls a' m c' f L a5 m6 c5 a6 m6 c6 wx)
      case first =>
        go_region_held3 (fun u => (u.cell? ⟨X, 0, none⟩ = some (.int .i64 (nn : Int)) ∧ u.cell? ⟨X, 1, none⟩ = some (.slice a' m c')) ∧ (u.cell? ⟨Z, 0, none⟩ = some (.int .i64 (nn : Int)) ∧ u.cell? ⟨Z, 1, none⟩ = some (.slice a5 m6 c5)) ∧ u.cell? ⟨Z + 1, 0, none⟩ = some (.int .i64 (nn : Int)) ∧ u.cell? ⟨Z + 1, 1, none⟩ = some (.slice a6 m6 c6))
          (first | with_reducible assumption | with_reducible exact WbS.six (by assumption) | with_reducible exact WbS.six (WbS.drew (by assumption)))
          (first
          | (go_at_call_of 18 (Value.agg #[Value.int .i64 (nn : Int), Value.slice a' m c']); refine (HO1.out _ (by first | exact SA | exact SA.drew)).mono ?_; rintro e wb ⟨rfl, SB⟩; have hCb := SB.six)
          | (go_at_call_of 18 (Value.agg #[Value.int .i64 (nn : Int), Value.slice a5 m6 c5]); refine (HO2.out _ (by first | exact SB | exact SB.drew)).mono ?_; rintro e wc ⟨rfl, SC⟩; have hCc := SC.six)
          | (go_at_call 19; refine (HO3.out _ (by first | exact SC | exact SC.drew)).mono ?_; rintro e wd ⟨rfl, SD⟩; have hCd := SD.six)
          | (go_at_call 12; refine (HO4.out _ (by first | exact SD | exact SD.drew)).mono ?_; rintro e we ⟨ge, rfl, ee, SE⟩; have hCe := SE.six)
          | (go_at_call 20; refine (HO5.out _ ge (by first | exact SE | exact SE.drew) (by first | exact ee | exact ee.up (Below.refl _ _).drew)).mono ?_; rintro e wf ⟨rfl, SF⟩; have hCf := SF.six))
        all_goals
          go_wp2_with fail
          go_meet
          first
          | exact ⟨rfl, SF⟩
          | exact ⟨rfl, SF.drew⟩
      case rest =>
        obtain ⟨rfl, SG⟩ := hcut
        clear HSt SA hC0 hC1 HO1 HO2 HO3 HO4 HO5 hfd
        have q0 := SG.nb.cell0
        have q1 := SG.nb.cell1
        have HLb := hideIt (iWebLabels_any (nn : Int) L m6 a5 c5 (by omega) wc SG.nl)
        have HSG := hideIt SG
        clear SG
        go_wp2_with (go_at_call 21; refine HLb.out.mono ?_; rintro e wh ⟨a9, m9, c9, rfl, o9, b9⟩; refine Hid.out ?_)
        refine (show ∀ {p : Prop}, p → Hid p from fun h => h) ?_
        have SH := HSG.out.up b9
        have I9 := Is_of_own o9
        have hm9 : m9 ≤ 1048576 := by have h1 := I9.1; have h2 := lbO_len (nn : Int) L; omega
        have HP1 : Hid (∀ u, WbS w X Z nn ls a' m c' f L a5 m6 c5 a6 m6 c6 u → Is u u.heap.size a9 m9 (lbO (nn : Int) L) → Calls Tryz.prog 23 #[.agg #[.int .i64 (nn : Int), .slice a6 m6 c6]] u fun e v => ∃ c2 a2, e = .returned (.slice a2 m9 c2) ∧ Is v v.heap.size a2 m9 (lbO (nn : Int) L) ∧ Is v v.heap.size a9 m9 (lbO (nn : Int) L) ∧ WbS w X Z nn ls a' m c' f L a5 m6 c5 a6 m6 c6 v) := fun u hu hi => by
          have h := O.sLabels_any (nn : Int) (gE L) m6 a6 c6 (by omega) u hu.we
          rw [lb_labE hWL.out] at h
          exact h.mono fun e v ⟨a2, m2, c2, h1, h2, h3⟩ => by
            have i2 : Is v v.heap.size a2 m2 (lbO (nn : Int) L) := Is_of_own h2
            have e2 : m2 = m9 := by have h4 := i2.1; have h5 := hi.1; omega
            subst e2
            exact ⟨c2, a2, h1, i2, hi.up h3, hu.up h3⟩
        have HP2 : Hid (∀ u c2 a2, WbS w X Z nn ls a' m c' f L a5 m6 c5 a6 m6 c6 u → Is u u.heap.size a9 m9 (lbO (nn : Int) L) → Is u u.heap.size a2 m9 (lbO (nn : Int) L) → Calls Tryz.prog 22 #[.slice a9 m9 c9, .slice a2 m9 c2] u fun e v => e = .returned (.bool true) ∧ WbS w X Z nn ls a' m c' f L a5 m6 c5 a6 m6 c6 v) := fun u c2 a2 hu h1 h2 =>
          (sameInts_same (lbO (nn : Int) L) m9 a9 a2 c9 c2 hm9 u h1 h2).mono fun e v ⟨h1, h2⟩ => ⟨h1, hu.up h2⟩
        have HP3 : Hid (∀ u, WbS w X Z nn ls a' m c' f L a5 m6 c5 a6 m6 c6 u → Calls Tryz.prog 24 #[.agg #[.int .i64 (nn : Int), .slice a5 m6 c5], .int .i64 f.1, .int .i64 f.2] u fun e v => e = .returned (.bool (tgB (nn : Int) L f.1 f.2)) ∧ WbS w X Z nn ls a' m c' f L a5 m6 c5 a6 m6 c6 v) := fun u hu =>
          (iWebTogether_any (nn : Int) L f.1 f.2 m6 a5 c5 (by omega) u hu.nl).mono fun e v ⟨h1, h2⟩ => ⟨h1, hu.up h2⟩
        have HP4 : Hid (∀ u, WbS w X Z nn ls a' m c' f L a5 m6 c5 a6 m6 c6 u → Calls Tryz.prog 25 #[.agg #[.int .i64 (nn : Int), .slice a6 m6 c6], .int .i64 f.1, .int .i64 f.2] u fun e v => e = .returned (.bool (tgB (nn : Int) L f.1 f.2)) ∧ WbS w X Z nn ls a' m c' f L a5 m6 c5 a6 m6 c6 v) := fun u hu => by
          have h := O.sTogether_any (nn : Int) (gE L) f.1 f.2 m6 a6 c6 (by omega) u hu.we
          rw [tg_tog hWL.out Hin.out.1 Hin.out.2] at h
          exact h.mono fun e v ⟨h1, h2⟩ => ⟨h1, hu.up h2⟩
        generalize tgB (nn : Int) L f.1 f.2 = tb at *
        have htt : (tb == tb) = true := by simp
        have hC0 := SH.six2
        have hC1 := SH.drew.six2
        clear HSG HLb q0 q1 o9 b9
        go_upto_region 17 with fail
        go_region_held3 (fun u => (u.cell? ⟨X + 1, 0, none⟩ = some (.int .i64 f.1) ∧ u.cell? ⟨X + 1, 1, none⟩ = some (.int .i64 f.2)) ∧ (u.cell? ⟨Z, 0, none⟩ = some (.int .i64 (nn : Int)) ∧ u.cell? ⟨Z, 1, none⟩ = some (.slice a5 m6 c5)) ∧ u.cell? ⟨Z + 1, 0, none⟩ = some (.int .i64 (nn : Int)) ∧ u.cell? ⟨Z + 1, 1, none⟩ = some (.slice a6 m6 c6))
          (first | with_reducible assumption | with_reducible exact WbS.six2 (by assumption) | with_reducible exact WbS.six2 (WbS.drew (by assumption)))
          (first
          | (go_at_call 23; refine (HP1.out _ (by first | exact SH | exact SH.drew) (by first | exact I9 | exact I9.up (Below.refl _ _).drew)).mono ?_; rintro e wi ⟨ci, ai, rfl, ii, ij, SI⟩; have hCi := SI.six2)
          | (go_at_call 22; refine (HP2.out _ ci ai (by first | exact SI | exact SI.drew) (by first | exact ij | exact ij.up (Below.refl _ _).drew) (by first | exact ii | exact ii.up (Below.refl _ _).drew)).mono ?_; rintro e wj ⟨rfl, SJ⟩; have hCj := SJ.six2)
          | (go_at_call 24; refine (HP3.out _ (by first | exact SJ | exact SJ.drew)).mono ?_; rintro e wk ⟨rfl, SK⟩; have hCk := SK.six2)
          | (go_at_call 25; refine (HP4.out _ (by first | exact SK | exact SK.drew)).mono ?_; rintro e wl ⟨rfl, SL⟩; have hCl := SL.six2))
        all_goals
          have BF := hideIt SL.ta.below
          have BF2 := hideIt SL.ta.drew.below
          go_wp2_with fail
          go_ret
          first
          | exact ⟨rfl, BF.out⟩
          | exact ⟨rfl, BF2.out⟩
    | true =>
      obtain ⟨L, r, ho⟩ : ∃ L r, wtO (nn : Int) ls f = some (L, r) := by unfold wtO; rw [if_pos ⟨hW.out, HHb.out⟩]; exact ⟨_, _, rfl⟩
      have hWL := hideIt (wtO_ok ho)
      have HL : Hid (O.takE (nn : Int) (gE ls) f = some (gE L)) := by
        show _ = _
        rw [gE_wtO ho]
        unfold O.takE
        rw [if_pos ⟨hW.out.1, HHb.out⟩]
        rfl
      obtain ⟨g, hg⟩ : ∃ g : EdgeV, g = r.getD (0, 0) := ⟨_, rfl⟩
      obtain ⟨fd, hf⟩ : ∃ fd : Bool, fd = r.isSome := ⟨_, rfl⟩
      have HTi : Hid (Calls Tryz.prog 14 #[.agg #[.int .i64 (nn : Int), .slice a' m c'], .agg #[.int .i64 f.1, .int .i64 f.2]] W6 fun e v => ∃ a5 m5 c5, e = .returned (.tuple #[.agg #[.int .i64 (nn : Int), .slice a5 m5 c5], .agg #[.int .i64 g.1, .int .i64 g.2], .bool fd, .bool true]) ∧ Hid (Ls v v.heap.size a5 m5 L ∧ ∀ b o, a5 = some ⟨b, o, none⟩ → W6.heap.size ≤ b) ∧ Below W6.heap.size W6 v) := by
        have HT := iWebTake_any (nn : Int) ls f m a' c' HSl.out (by omega) W6 HS6.out.lss
        rw [hg, hf]
        rw [ho] at HT
        exact HT.mono fun e v ⟨a5, m5, c5, h1, h2, h3⟩ => ⟨a5, m5, c5, h1, ⟨Ls_of_own h2, fun b o e => (h2.lt b (by rw [e]; rfl)).1⟩, h3⟩
      clear hg hf ho
      go_wp2_with (go_at_call 14; refine HTi.out.mono ?_; rintro e w7 ⟨a5, m5, c5, rfl, l7, b7⟩; refine Hid.out ?_)
      refine (show ∀ {p : Prop}, p → Hid p from fun h => h) ?_
      obtain ⟨W8, hW8⟩ : ∃ W8, W8 = (w7.setCell ⟨Z, 0, none⟩ (.int .i64 (nn : Int))).setCell ⟨Z, 1, none⟩ (.slice a5 m5 c5) := ⟨_, rfl⟩
      have zz := HW6.out.lt
      have N7 := HN6.out.up b7
      have V7 := HW6.out.up b7
      have B7 := HB6.out.trans (b7.mono (by omega))
      have N8 : Box7 W8 Z 26 (.int .i64 (nn : Int)) (.slice a5 m5 c5) := by rw [hW8]; exact N7.set2 _ _
      have V8 : Box7 W8 (Z + 1) 33 (.int .i64 0) (.slice none 0 0) := by rw [hW8]; exact (V7.setOther (x := Z) (j := 0) _ (by omega)).setOther (x := Z) (j := 1) _ (by omega)
      have sz8 : W8.heap.size = w7.heap.size := by rw [hW8]; simp [World.setCell]
      have hlow : ∀ b o, a5 = some ⟨b, o, none⟩ → b ≠ Z := fun b o e => by have := l7.out.2 b o e; omega
      have L8 : Ls W8 W8.heap.size a5 m5 L := by rw [sz8, hW8]; exact (l7.out.1.setL _ hlow).setL _ hlow
      have B8 : Below Z w5 W8 := by rw [hW8]; exact (B7.setCell (p := ⟨Z, 0, none⟩) (Nat.le_refl _) _).setCell (p := ⟨Z, 1, none⟩) (Nat.le_refl _) _
      have s78 := b7.size
      have HLo : Hid (∀ b o, a5 = some ⟨b, o, none⟩ → b ≠ Z + 1) := fun b o e => by have := l7.out.2 b o e; omega
      have y0 := N7.cell0
      have y1 := N7.cell1
      have z0 := N7.frozen 0
      have z1 := N7.frozen 1
      obtain ⟨T8, G8, E8⟩ := HK.out _ B8
      have HGr : Hid (Calls Tryz.prog 15 #[.agg #[.int .i64 (nn : Int), .slice (some ⟨g3, 0, none⟩) m m], .agg #[.int .i64 f.1, .int .i64 f.2]] W8 fun e v => ∃ a6 m6 c6, e = .returned (.tuple #[.agg #[.int .i64 (nn : Int), .slice a6 m6 c6], .bool true]) ∧ Hid (Es v v.heap.size a6 m6 (gE L) ∧ ∀ b o, a6 = some ⟨b, o, none⟩ → W8.heap.size ≤ b) ∧ Below W8.heap.size W8 v) := by
        have h := O.sTakeEdge_any (nn : Int) (gE ls) f m (some ⟨g3, 0, none⟩) m (by omega) W8 E8
        rw [HL.out] at h
        exact h.mono fun e v ⟨a6, m6, c6, h1, h2, h3⟩ => ⟨a6, m6, c6, h1, ⟨Es_of_own h2, fun b o e => (h2.lt b (by rw [e]; rfl)).1⟩, h3⟩
      have p0 := G8.cell0
      have p1 := G8.cell1
      have p2 := T8.ebx.cell0
      have p3 := T8.ebx.cell1
      have HN8 := hideIt N8
      have HV8 := hideIt V8
      have HL8 := hideIt L8
      have HB8 := hideIt B8
      clear HTi l7 b7 N7 V7 B7 N8 V8 sz8 hlow L8 B8 T8 G8 E8 HL HN6 HW6 q0 q1 q2 q3 HS6
      go_upto_region 11 with fail
      rw [← hW8]
      clear hW8 y0 y1 z0 z1
      go_wp2_with (go_at_call 15; refine HGr.out.mono ?_; rintro e w9 ⟨a6, m6, c6, rfl, l9, b9⟩; refine Hid.out ?_)
      refine (show ∀ {p : Prop}, p → Hid p from fun h => h) ?_
      obtain ⟨W10, hW10⟩ : ∃ W10, W10 = (w9.setCell ⟨Z + 1, 0, none⟩ (.int .i64 (nn : Int))).setCell ⟨Z + 1, 1, none⟩ (.slice a6 m6 c6) := ⟨_, rfl⟩
      have zv := HV8.out.lt
      have V9 := HV8.out.up b9
      have sz10 : W10.heap.size = w9.heap.size := by rw [hW10]; simp [World.setCell]
      have hlow6 : ∀ b o, a6 = some ⟨b, o, none⟩ → b ≠ Z + 1 := fun b o e => by have := l9.out.2 b o e; omega
      have HSt : Hid (WbS w X Z nn ls a' m c' f L a5 m5 c5 a6 m6 c6 W10) := by
        refine ⟨(HK.out W10 ?_).1, ?_, ?_, ?_, ?_⟩
        · rw [hW10]
          exact ((HB8.out.trans (b9.mono (by omega))).setCell (p := ⟨Z + 1, 0, none⟩) (by show Z ≤ Z + 1; omega) _).setCell (p := ⟨Z + 1, 1, none⟩) (by show Z ≤ Z + 1; omega) _
        · rw [hW10]
          exact ((HN8.out.up b9).setOther (x := Z + 1) (j := 0) _ (by omega)).setOther (x := Z + 1) (j := 1) _ (by omega)
        · rw [sz10, hW10]
          exact ((HL8.out.up b9).setL _ HLo.out).setL _ HLo.out
        · rw [hW10]
          exact V9.set2 _ _
        · rw [sz10, hW10]
          exact (l9.out.1.setE _ hlow6).setE _ hlow6
      have y0 := V9.cell0
      have y1 := V9.cell1
      have z0 := V9.frozen 0
      have z1 := V9.frozen 1
      clear HGr l9 b9 V9 sz10 hlow6 HN8 HV8 HL8 HB8 HLo p0 p1 p2 p3 zz s78 zv HK HB6
      go_upto_region 14 with fail
      rw [← hW10]
      clear hW10 y0 y1 z0 z1
      have hm5 : m5 ≤ 66 := gE_len2 hWL.out HSt.out.nl
      have hm6 : m6 = m5 := by have h1 := HSt.out.we.1; rw [gE_len] at h1; have h2 := HSt.out.nl.1; omega
      subst hm6
      have HO1 : Hid (∀ u, WbS w X Z nn ls a' m c' f L a5 m6 c5 a6 m6 c6 u → Calls Tryz.prog 18 #[.agg #[.int .i64 (nn : Int), .slice a' m c']] u fun e v => e = .returned (.bool true) ∧ WbS w X Z nn ls a' m c' f L a5 m6 c5 a6 m6 c6 v) := fun u hu => by
        have h := iWebOk_any (nn : Int) ls m a' c' (by omega) u hu.ta.lss
        rw [wB_yes hW.out] at h
        exact h.mono fun e v ⟨h1, h2⟩ => ⟨h1, hu.up h2⟩
      have HO2 : Hid (∀ u, WbS w X Z nn ls a' m c' f L a5 m6 c5 a6 m6 c6 u → Calls Tryz.prog 18 #[.agg #[.int .i64 (nn : Int), .slice a5 m6 c5]] u fun e v => e = .returned (.bool true) ∧ WbS w X Z nn ls a' m c' f L a5 m6 c5 a6 m6 c6 v) := fun u hu => by
        have h := iWebOk_any (nn : Int) L m6 a5 c5 (by omega) u hu.nl
        rw [wB_yes hWL.out] at h
        exact h.mono fun e v ⟨h1, h2⟩ => ⟨h1, hu.up h2⟩
      have HO3 : Hid (∀ u, WbS w X Z nn ls a' m c' f L a5 m6 c5 a6 m6 c6 u → Calls Tryz.prog 19 #[.agg #[.int .i64 (nn : Int), .slice a5 m6 c5]] u fun e v => e = .returned (.bool true) ∧ WbS w X Z nn ls a' m c' f L a5 m6 c5 a6 m6 c6 v) := fun u hu => by
        have h := sWebOk_any (nn : Int) L m6 a5 c5 (by omega) u hu.nl
        rw [wB_yes hWL.out] at h
        exact h.mono fun e v ⟨h1, h2⟩ => ⟨h1, hu.up h2⟩
      have HO4 : Hid (∀ u, WbS w X Z nn ls a' m c' f L a5 m6 c5 a6 m6 c6 u → Calls Tryz.prog 12 #[.agg #[.int .i64 (nn : Int), .slice a5 m6 c5]] u fun e v => ∃ g, e = .returned (.agg #[.int .i64 (nn : Int), .slice (some ⟨g, 0, none⟩) m6 m6]) ∧ Es v v.heap.size (some ⟨g, 0, none⟩) m6 (gE L) ∧ WbS w X Z nn ls a' m c' f L a5 m6 c5 a6 m6 c6 v) := fun u hu =>
        (iGraphOf_any (nn : Int) L m6 a5 c5 (by omega) u hu.nl).mono fun e v ⟨g, h1, h2, h3⟩ => ⟨g, h1, Es_of_own h2, hu.up h3⟩
      have HO5 : Hid (∀ u g, WbS w X Z nn ls a' m c' f L a5 m6 c5 a6 m6 c6 u → Es u u.heap.size (some ⟨g, 0, none⟩) m6 (gE L) → Calls Tryz.prog 20 #[.slice (some ⟨g, 0, none⟩) m6 m6, .slice a6 m6 c6] u fun e v => e = .returned (.bool true) ∧ WbS w X Z nn ls a' m c' f L a5 m6 c5 a6 m6 c6 v) := fun u g hu he =>
        (O.sameEdges_same (gE L) m6 (some ⟨g, 0, none⟩) a6 m6 c6 (by omega) u he hu.we).mono fun e v ⟨h1, h2⟩ => ⟨h1, hu.up h2⟩
      have hfd : ∀ (u : World) (g : Nat), (Instr.field 33 (.agg #[.int .i64 (nn : Int), .slice (some ⟨g, 0, none⟩) m6 m6]) 1).run Tryz.prog u = .ok (.slice (some ⟨g, 0, none⟩) m6 m6) u := fun u g => by kernel_rfl
      have SA := HSt.out
      have hC0 := SA.six
      have hC1 := SA.drew.six
      go_cut [77] (fun p wx => p = .bool false ∧ WbS w X Z nn ls a' m c' f L a5 m6 c5 a6 m6 c6 wx)
      case first =>
        go_region_held3 (fun u => (u.cell? ⟨X, 0, none⟩ = some (.int .i64 (nn : Int)) ∧ u.cell? ⟨X, 1, none⟩ = some (.slice a' m c')) ∧ (u.cell? ⟨Z, 0, none⟩ = some (.int .i64 (nn : Int)) ∧ u.cell? ⟨Z, 1, none⟩ = some (.slice a5 m6 c5)) ∧ u.cell? ⟨Z + 1, 0, none⟩ = some (.int .i64 (nn : Int)) ∧ u.cell? ⟨Z + 1, 1, none⟩ = some (.slice a6 m6 c6))
          (first | with_reducible assumption | with_reducible exact WbS.six (by assumption) | with_reducible exact WbS.six (WbS.drew (by assumption)))
          (first
          | (go_at_call_of 18 (Value.agg #[Value.int .i64 (nn : Int), Value.slice a' m c']); refine (HO1.out _ (by first | exact SA | exact SA.drew)).mono ?_; rintro e wb ⟨rfl, SB⟩; have hCb := SB.six)
          | (go_at_call_of 18 (Value.agg #[Value.int .i64 (nn : Int), Value.slice a5 m6 c5]); refine (HO2.out _ (by first | exact SB | exact SB.drew)).mono ?_; rintro e wc ⟨rfl, SC⟩; have hCc := SC.six)
          | (go_at_call 19; refine (HO3.out _ (by first | exact SC | exact SC.drew)).mono ?_; rintro e wd ⟨rfl, SD⟩; have hCd := SD.six)
          | (go_at_call 12; refine (HO4.out _ (by first | exact SD | exact SD.drew)).mono ?_; rintro e we ⟨ge, rfl, ee, SE⟩; have hCe := SE.six)
          | (go_at_call 20; refine (HO5.out _ ge (by first | exact SE | exact SE.drew) (by first | exact ee | exact ee.up (Below.refl _ _).drew)).mono ?_; rintro e wf ⟨rfl, SF⟩; have hCf := SF.six))
        all_goals
          go_wp2_with fail
          go_meet
          first
          | exact ⟨rfl, SF⟩
          | exact ⟨rfl, SF.drew⟩
      case rest =>
        obtain ⟨rfl, SG⟩ := hcut
        clear HSt SA hC0 hC1 HO1 HO2 HO3 HO4 HO5 hfd
        have q0 := SG.nb.cell0
        have q1 := SG.nb.cell1
        have HLb := hideIt (iWebLabels_any (nn : Int) L m6 a5 c5 (by omega) wc SG.nl)
        have HSG := hideIt SG
        clear SG
        go_wp2_with (go_at_call 21; refine HLb.out.mono ?_; rintro e wh ⟨a9, m9, c9, rfl, o9, b9⟩; refine Hid.out ?_)
        refine (show ∀ {p : Prop}, p → Hid p from fun h => h) ?_
        have SH := HSG.out.up b9
        have I9 := Is_of_own o9
        have hm9 : m9 ≤ 1048576 := by have h1 := I9.1; have h2 := lbO_len (nn : Int) L; omega
        have HP1 : Hid (∀ u, WbS w X Z nn ls a' m c' f L a5 m6 c5 a6 m6 c6 u → Is u u.heap.size a9 m9 (lbO (nn : Int) L) → Calls Tryz.prog 23 #[.agg #[.int .i64 (nn : Int), .slice a6 m6 c6]] u fun e v => ∃ c2 a2, e = .returned (.slice a2 m9 c2) ∧ Is v v.heap.size a2 m9 (lbO (nn : Int) L) ∧ Is v v.heap.size a9 m9 (lbO (nn : Int) L) ∧ WbS w X Z nn ls a' m c' f L a5 m6 c5 a6 m6 c6 v) := fun u hu hi => by
          have h := O.sLabels_any (nn : Int) (gE L) m6 a6 c6 (by omega) u hu.we
          rw [lb_labE hWL.out] at h
          exact h.mono fun e v ⟨a2, m2, c2, h1, h2, h3⟩ => by
            have i2 : Is v v.heap.size a2 m2 (lbO (nn : Int) L) := Is_of_own h2
            have e2 : m2 = m9 := by have h4 := i2.1; have h5 := hi.1; omega
            subst e2
            exact ⟨c2, a2, h1, i2, hi.up h3, hu.up h3⟩
        have HP2 : Hid (∀ u c2 a2, WbS w X Z nn ls a' m c' f L a5 m6 c5 a6 m6 c6 u → Is u u.heap.size a9 m9 (lbO (nn : Int) L) → Is u u.heap.size a2 m9 (lbO (nn : Int) L) → Calls Tryz.prog 22 #[.slice a9 m9 c9, .slice a2 m9 c2] u fun e v => e = .returned (.bool true) ∧ WbS w X Z nn ls a' m c' f L a5 m6 c5 a6 m6 c6 v) := fun u c2 a2 hu h1 h2 =>
          (sameInts_same (lbO (nn : Int) L) m9 a9 a2 c9 c2 hm9 u h1 h2).mono fun e v ⟨h1, h2⟩ => ⟨h1, hu.up h2⟩
        have HP3 : Hid (∀ u, WbS w X Z nn ls a' m c' f L a5 m6 c5 a6 m6 c6 u → Calls Tryz.prog 24 #[.agg #[.int .i64 (nn : Int), .slice a5 m6 c5], .int .i64 f.1, .int .i64 f.2] u fun e v => e = .returned (.bool (tgB (nn : Int) L f.1 f.2)) ∧ WbS w X Z nn ls a' m c' f L a5 m6 c5 a6 m6 c6 v) := fun u hu =>
          (iWebTogether_any (nn : Int) L f.1 f.2 m6 a5 c5 (by omega) u hu.nl).mono fun e v ⟨h1, h2⟩ => ⟨h1, hu.up h2⟩
        have HP4 : Hid (∀ u, WbS w X Z nn ls a' m c' f L a5 m6 c5 a6 m6 c6 u → Calls Tryz.prog 25 #[.agg #[.int .i64 (nn : Int), .slice a6 m6 c6], .int .i64 f.1, .int .i64 f.2] u fun e v => e = .returned (.bool (tgB (nn : Int) L f.1 f.2)) ∧ WbS w X Z nn ls a' m c' f L a5 m6 c5 a6 m6 c6 v) := fun u hu => by
          have h := O.sTogether_any (nn : Int) (gE L) f.1 f.2 m6 a6 c6 (by omega) u hu.we
          rw [tg_tog hWL.out Hin.out.1 Hin.out.2] at h
          exact h.mono fun e v ⟨h1, h2⟩ => ⟨h1, hu.up h2⟩
        generalize tgB (nn : Int) L f.1 f.2 = tb at *
        have htt : (tb == tb) = true := by simp
        have hC0 := SH.six2
        have hC1 := SH.drew.six2
        clear HSG HLb q0 q1 o9 b9
        go_upto_region 17 with fail
        go_region_held3 (fun u => (u.cell? ⟨X + 1, 0, none⟩ = some (.int .i64 f.1) ∧ u.cell? ⟨X + 1, 1, none⟩ = some (.int .i64 f.2)) ∧ (u.cell? ⟨Z, 0, none⟩ = some (.int .i64 (nn : Int)) ∧ u.cell? ⟨Z, 1, none⟩ = some (.slice a5 m6 c5)) ∧ u.cell? ⟨Z + 1, 0, none⟩ = some (.int .i64 (nn : Int)) ∧ u.cell? ⟨Z + 1, 1, none⟩ = some (.slice a6 m6 c6))
          (first | with_reducible assumption | with_reducible exact WbS.six2 (by assumption) | with_reducible exact WbS.six2 (WbS.drew (by assumption)))
          (first
          | (go_at_call 23; refine (HP1.out _ (by first | exact SH | exact SH.drew) (by first | exact I9 | exact I9.up (Below.refl _ _).drew)).mono ?_; rintro e wi ⟨ci, ai, rfl, ii, ij, SI⟩; have hCi := SI.six2)
          | (go_at_call 22; refine (HP2.out _ ci ai (by first | exact SI | exact SI.drew) (by first | exact ij | exact ij.up (Below.refl _ _).drew) (by first | exact ii | exact ii.up (Below.refl _ _).drew)).mono ?_; rintro e wj ⟨rfl, SJ⟩; have hCj := SJ.six2)
          | (go_at_call 24; refine (HP3.out _ (by first | exact SJ | exact SJ.drew)).mono ?_; rintro e wk ⟨rfl, SK⟩; have hCk := SK.six2)
          | (go_at_call 25; refine (HP4.out _ (by first | exact SK | exact SK.drew)).mono ?_; rintro e wl ⟨rfl, SL⟩; have hCl := SL.six2))
        all_goals
          have BF := hideIt SL.ta.below
          have BF2 := hideIt SL.ta.drew.below
          go_wp2_with fail
          go_ret
          first
          | exact ⟨rfl, BF.out⟩
          | exact ⟨rfl, BF2.out⟩
end Go.Proofs.YtkkplppcgnikoaaGreat
namespace Go.Proofs.YtkkplppcgnikoaaGreat
open Go.ChangeShapes Go.WideShapes Go.ChangeAt Go.RowKit

/-- a slice of bytes that came in, as the walk wants it -/
theorem code_of {H : Type} {enc : TypeId × Value → H} {W : World} {a : Option Addr} {len cap fuel : Nat} {x : DataW H × List MemPlace}
    (hf : DataW.trod enc Tryz.prog W 0 (fun _ => true) true fuel 22 [.slice a len cap] = some x) : Code W W.heap.size a len := by
  rcases open_ints Tryz.underlying22 Tryz.underlying5 (by kernel_rfl) hf with ⟨hcs, _⟩ | ⟨x, l, c, zs, hcs, _, hl, hm, hz, _, hcell, hwz⟩
  · simp at hcs
    obtain ⟨rfl, rfl, rfl⟩ := hcs
    exact .inl rfl
  · simp at hcs
    obtain ⟨rfl, rfl, rfl⟩ := hcs
    by_cases h0 : len = 0
    · exact .inl h0
    · have hzl : zs.length = cap := by simpa using hz
      obtain ⟨b, off, rfl, hc⟩ := ints_at hcell (by omega)
      have hb : b < W.heap.size := World.block_lt_of_cell? W _ (hc 0 (by omega))
      refine .inr ⟨b, off, rfl, hb, by omega, fun j hj => ?_⟩
      have hw := hwz (zs.getD j 0) (by
        rw [List.getD_eq_getElem?_getD, List.getElem?_eq_getElem (by omega)]
        exact List.getElem_mem _)
      have hr : 0 ≤ zs.getD j 0 ∧ zs.getD j 0 ≤ 255 := by simpa [Lit.wf, IntKind.min, IntKind.max, IntKind.signed, IntKind.bits] using hw
      refine ⟨(zs.getD j 0).toNat, by omega, ?_⟩
      rw [hc j (by omega), Int.toNat_of_nonneg hr.1]

end Go.Proofs.YtkkplppcgnikoaaGreat
