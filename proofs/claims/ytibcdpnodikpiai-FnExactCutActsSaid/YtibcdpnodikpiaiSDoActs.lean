/- What the specification's DoActs answers. -/
import Derived.Test.YtibcdpnodikpiaiRun
import Derived.Test.YtibcdpnodikpiaiLawSt
import Derived.Test.YtibcdpnodikpiaiSAct7
import Derived.Deep.DeepCutAuto
import Derived.Maps.AppendAt
namespace Go.Proofs.Ytibcdpnodikpiai
open Go.RowKit

theorem disk_letters {gs : List FileV} (h : DiskR gs) : gs.length + letters gs ≤ 1048576 := by
  have h1 := ((disk_iff gs).1 h).2.1
  have h30 := h.1
  have : ∀ l : List FileV, (∀ f ∈ l, FileOk f) → letters l ≤ l.length * 20008 := by
    intro l
    induction l with
    | nil => intro _; simp [letters]
    | cons f fs ih =>
      intro hf
      have h2 := ih fun g hg => hf g (List.mem_cons_of_mem _ hg)
      obtain ⟨⟨_, h3⟩, h4, _⟩ := hf f (List.mem_cons_self ..)
      simp only [letters, List.map_cons, List.sum_cons, List.length_cons] at h2 ⊢
      omega
  have h2 := this gs h1
  have h3 : gs.length * 20008 ≤ 30 * 20008 := Nat.mul_le_mul_right _ h30
  omega

theorem add_at (b off j : Nat) : ((⟨b, off, none⟩ : Addr).add j) = ⟨b, off + j, none⟩ := by
  by_cases h0 : j = 0
  · subst h0; rfl
  · simp [Addr.add, h0]
theorem fs_news {w : World} {b off : Nat} {fs : List FileV} (hc : ∀ (j : Nat) (f : FileV), fs[j]? = some f → w.cell? ⟨b, off + j * 3, none⟩ = some (.string f.name) ∧ w.cell? ⟨b, off + j * 3 + 1, none⟩ = some (.string f.text) ∧ w.cell? ⟨b, off + j * 3 + 2, none⟩ = some (.int .i64 f.kept)) :
    ∀ j u, (fcells fs)[j]? = some u → w.cell? ((⟨b, off, none⟩ : Addr).add j) = some u := by
  intro j u hu
  rw [add_at]
  have hj := (List.getElem?_eq_some_iff.1 hu).1
  rw [fcells_length] at hj
  obtain ⟨q, hq⟩ : ∃ q, q = j / 3 := ⟨_, rfl⟩
  have hq1 : q < fs.length := by omega
  have hf : fs[q]? = some fs[q] := List.getElem?_eq_getElem hq1
  obtain ⟨f0, f1, f2⟩ := fcells_at fs q _ hf
  obtain ⟨c0, c1, c2⟩ := hc q _ hf
  rcases (show j = q * 3 ∨ j = q * 3 + 1 ∨ j = q * 3 + 2 by omega) with e | e | e
  · subst e; rw [hu] at f0; rw [c0, f0]
  · rw [e] at hu ⊢; rw [hu] at f1; rw [← Nat.add_assoc, c1, f1]
  · rw [e] at hu ⊢; rw [hu] at f2; rw [← Nat.add_assoc, c2, f2]
theorem fcells_one (fs : List FileV) : ∀ u ∈ fcells fs, u.oneCell' = true := by
  intro u hu
  simp only [fcells, List.mem_flatMap, fcell] at hu
  obtain ⟨f, _, hf⟩ := hu
  simp at hf
  rcases hf with rfl | rfl | rfl <;> rfl

/-- what DoActs answers -/
def ActsAnsS (w : World) (P : List FileV × Nat) (e : Ending) (w' : World) : Prop :=
  ∃ a m c, e = .returned (.tuple #[.agg #[.slice a m c], .int .i64 (P.2 : Int)]) ∧ w'.ownsRow w.heap.size 63 3 (.slice a m c) m (fcells P.1) ∧ Below w.heap.size w w'

set_option maxRecDepth 100000 in
set_option maxHeartbeats 8000000 in
theorem sDoActs_any (fs : List FileV) (hlet : fs.length + letters fs ≤ 1048576) (n : Nat) (b0 o0 : Nat) (c : Nat) (xs : List ActV) (hx : FitsA xs) (na : Nat) (aa : Option Addr) (ca : Nat) (hna : na ≤ 1048576) (w : World) (h : Fs w w.heap.size (some ⟨b0, o0, none⟩) n fs) (ha : As w w.heap.size aa na xs) :
    Calls Try.prog 18 #[.agg #[.slice (some ⟨b0, o0, none⟩) n c], .slice aa na ca] w (ActsAnsS w (runActs fs xs)) := by
  obtain ⟨i0, hi, hz0, hz1, hz2⟩ := info_parts infoIF
  have hn1 : n ≤ 1048576 := by have := h.1; omega
  obtain ⟨hlen, hrow⟩ := h
  obtain ⟨hlena, hrowa⟩ := ha
  have HA := hideIt hrowa
  have HX := hideIt hx
  have HLt := hideIt hlet
  have hnews : ∀ (w' : World), Below w.heap.size w w' → ∀ j u, (fcells fs)[j]? = some u → w'.cell? ((⟨b0, o0, none⟩ : Addr).add j) = some u := fun w' hb j u hu => by
    rcases hrow with hz | ⟨b, off, he, hbl, hc⟩
    · have : fs = [] := List.length_eq_zero_iff.1 (by omega)
      subst this
      simp [fcells] at hu
    · cases he
      have := fs_news hc j u hu
      rw [add_at] at this ⊢
      rw [hb.cell (p := ⟨b0, _, none⟩) hbl]
      exact this
  have HN := hideIt hnews
  clear hrow hrowa hx hlet hnews
  unfold ActsAnsS
  generalize hP : runActs fs xs = P
  have HP := hideIt hP
  clear hP
  have KK : Below w.heap.size w (((w.alloc (.cells #[.slice (some ⟨b0, o0, none⟩) n c] 31)).alloc (.cells #[.slice none 0 0] 31)).alloc (.cells #[] 63)) := (((Below.refl _ _).alloc (Nat.le_refl _) _).alloc (by simp) _).alloc (by simp; omega) _
  have own0 := World.ownsRow_made (base := w.heap.size + 2) (e := 63) (size := 3) ((w.alloc (.cells #[.slice (some ⟨b0, o0, none⟩) n c] 31)).alloc (.cells #[.slice none 0 0] 31)) #[] 0 (by simp) (by unfold maxLen; omega) rfl
  rw [show ((w.alloc (.cells #[.slice (some ⟨b0, o0, none⟩) n c] 31)).alloc (.cells #[.slice none 0 0] 31)).heap.size = w.heap.size + 1 + 1 by simp] at own0
  have HO0 := hideIt own0
  clear own0
  have hfl : (fcells fs).length = n * 3 := by rw [fcells_length, hlen]
  go_enter Try.func18, Try.ntmps18
  go_wp2_with (at_builtin; refine wpList_append_own_at _ rfl _ _ 29 rfl (w.heap.size + 2) 63 i0 _ 3 40 Try.underlying29 hi hz0 hz1 hz2 rfl (by decide) _ _ _ rfl HO0.out ⟨b0, o0, none⟩ n c (fcells fs) rfl hfl (HN.out _ KK) (fcells_one fs) (by unfold maxLen; omega) (by omega) (by simp <;> omega) ?_; intro v1 w1 hown1 hg1 hnil1 hloc1; refine Hid.out ?_)
  refine (show ∀ {p : Prop}, p → Hid p from fun h => h) ?_
  have hg2 : (((w.alloc (.cells #[.slice (some ⟨b0, o0, none⟩) n c] 31)).alloc (.cells #[.slice none 0 0] 31)).alloc (.cells #[] 63)).grownBy w1 (some (w.heap.size + 1 + 1)) := hg1
  have hown2 : w1.ownsRow (w.heap.size + 2) 63 3 v1 n (fcells fs) := by simpa using hown1
  obtain ⟨g1, cap1, rfl, lg1⟩ : ∃ g1 cap1, v1 = .slice (some ⟨g1, 0, none⟩) n cap1 ∧ w.heap.size + 2 ≤ g1 := by
    rcases hown2.2 with ⟨hv, _⟩ | ⟨g, cap, cur, hv, hg, _⟩
    · have h5 : v1 = .slice none 0 0 ↔ (Value.slice (some ⟨w.heap.size + 1 + 1, 0, none⟩) 0 0 = .slice none 0 0 ∧ n = 0) := hnil1
      have := (h5.1 hv).1
      simp at this
    · exact ⟨g, cap, hv, hg⟩
  have hz1' := hg2.size
  simp at hz1'
  have y1 : Box w1 (w.heap.size + 1) 31 (.slice none 0 0) := by
    refine Box.grown ?_ hg2 (by simp)
    exact (Box.new (w.alloc (.cells #[.slice (some ⟨b0, o0, none⟩) n c] 31)) 31 (.slice none 0 0) (w.heap.size + 1) (by simp)).alloc _
  have K1 : Below w.heap.size w w1 := KK.grown hg2 (by simp; omega) (fun j hj => by simp at hj; omega)
  have l1 := (hown2.lt g1 rfl).2
  have HO1 := hideIt hown2
  clear hg1 hnil1 hloc1 hown1 hg2 KK HO0 HN hown2
  go_wp2
  go_loopw [7] (fun i wr => ∃ (k : Nat) (gs : List FileV) (a' : Option Addr) (m c' : Nat), k ≤ na ∧ i = .int .i64 (k : Int) ∧ Hid (Ran fs xs k gs ∧ gs.length + letters gs ≤ 1048576) ∧ Box wr (w.heap.size + 1) 31 (.slice none 0 0) ∧ Box wr w1.heap.size 31 (.slice a' m c') ∧
      Hid (wr.ownsRow (w.heap.size + 2) 63 3 (.slice a' m c') m (fcells gs)) ∧ Below w.heap.size w wr) (fun i _ => na - (intOf i).toNat)
  case atStart => exact ⟨0, fs, _, n, cap1, by omega, rfl, ⟨Ran.start _ _, HLt.out⟩, y1.alloc _, Box.new _ _ _ _ rfl, HO1.out.alloc _, K1.alloc (by omega) _⟩
  case round =>
    obtain ⟨k, gs, a', m, c', hk, rfl, hI, x1, x2, hown, hb⟩ := hrel
    have e1 := x2.cell
    have f1 := x2.frozen
    have l2 := x2.lt
    have zb := hb.size
    by_cases hlt : k < na
    · rcases HA.out with hz | ⟨b, off, rfl, hbl, hc⟩
      · omega
      · obtain ⟨x, hf⟩ : ∃ f, xs[k]? = some f := ⟨xs[k]'(by omega), List.getElem?_eq_getElem (by omega)⟩
        obtain ⟨c0, c1, c2, c3⟩ := hc k x hf
        have HC : Hid (∀ u, Good wr u → (u.cell? ⟨w1.heap.size, 0, none⟩ = some (.slice a' m c') ∧ u.cell? ⟨b, off + k * 4, none⟩ = some (.int .i64 x.kind) ∧ u.cell? ⟨b, off + k * 4 + 1, none⟩ = some (.string x.name) ∧ u.cell? ⟨b, off + k * 4 + 2, none⟩ = some (.string x.text) ∧ u.cell? ⟨b, off + k * 4 + 3, none⟩ = some (.string x.to)) ∧ Good wr u) := fun u hu => by
          have hbu : Below w.heap.size w u := hb.trans (Below.mono hu (by omega))
          exact ⟨⟨(x2.below hu l2).cell, by rw [hbu.cell hbl]; exact c0, by rw [hbu.cell hbl]; exact c1, by rw [hbu.cell hbl]; exact c2, by rw [hbu.cell hbl]; exact c3⟩, hu⟩
        have hS0 := HC.out _ (Good.refl wr).drew
        have b1 : (0 : Int) ≤ (k : Int) := by omega
        have b2 : (k : Int) < (na : Int) := by omega
        obtain ⟨hran, hlg⟩ := hI.out
        have HD := hideIt (fun u (hu : Good wr u) => (sDoAct_any gs hlg m a' c' x (HX.out x (List.mem_of_getElem? hf)) u (Fs_of_ownv (own_up hown.out hu))).mono fun _ v hA => (show ∃ a2 m2 c2, _ ∧ v.ownsRow wr.heap.size 63 3 (.slice a2 m2 c2) m2 (fcells ((doAct gs x).getD [])) ∧ Good wr v ∧ Keep u v by
          obtain ⟨a2, m2, c2, he, hw, hbb⟩ := act_ans hA
          exact ⟨a2, m2, c2, he, own_mono hw hu.size, hu.up hbb, Keep.of hbb⟩))
        have HHf := hideIt hf
        have HRn := hideIt hran
        clear hc c0 c1 c2 c3 hI hran hlg hf
        have zz : w1.heap.size < wr.heap.size := l2
        go_upto_region 5 with fail
        go_cut [8, 9] (fun p ok wx => ∃ bN a2 m2 c2, p = .pointer (some ⟨bN, 0, none⟩) ∧ ok = .bool (doAct gs x).isSome ∧ Good wr wx ∧ DBox wx wr.heap.size wx.heap.size bN a2 m2 c2 ((doAct gs x).getD []))
        case first =>
          generalize (doAct gs x).isSome = fl at *
          generalize (doAct gs x).getD [] = hs at *
          go_region_held3 (fun u => (u.cell? ⟨w1.heap.size, 0, none⟩ = some (.slice a' m c') ∧ u.cell? ⟨b, off + k * 4, none⟩ = some (.int .i64 x.kind) ∧ u.cell? ⟨b, off + k * 4 + 1, none⟩ = some (.string x.name) ∧ u.cell? ⟨b, off + k * 4 + 2, none⟩ = some (.string x.text) ∧ u.cell? ⟨b, off + k * 4 + 3, none⟩ = some (.string x.to)) ∧ Good wr u)
            (first | assumption | exact HC.out _ (Good.alloc (And.right (by assumption)) _) | exact HC.out _ (Good.set (And.right (by assumption)) _ _ _ (by omega)))
            ((go_at_call 10; refine (HD.out _ (And.right (by assumption))).mono ?_; rintro e w5 ⟨a2, m2, c2, rfl, ho5, hg5, hk5⟩; have hS5 := HC.out _ hg5; have z5 := hg5.size; (first | have bx := hk5.nil (Box.new wr _ _ _ rfl) | skip); try (have bc := bx.cell; have bz := bx.frozen)))
          all_goals
            go_wp2_with fail
            go_meet
            first
              | exact ⟨_, a2, m2, c2, rfl, rfl, Good.set hg5 _ _ _ (by omega), DBox.stored bx (by omega) ho5⟩
              | exact ⟨_, a2, m2, c2, rfl, rfl, Good.alloc hg5 _, DBox.laid (by omega) ho5⟩
        case rest =>
          obtain ⟨bN, a2, m2, c2, rfl, rfl, G, DN⟩ := hcut
          have y1c := x1.below G x1.lt
          have y2c := x2.below G l2
          have Kc : Below w.heap.size w wc := hb.trans (Below.mono G (by omega))
          have ownc := own_up hown.out G
          have zc := G.size
          clear HC hS0 HD
          cases ho : doAct gs x with
          | none =>
            have HE : Hid (P = (gs, k)) := by show P = (gs, k); rw [← HP.out]; exact HRn.out.stop HHf.out ho
            have r0 := y1c.cell
            have r1 := y1c.frozen
            have r2 := y2c.cell
            have s1 := (y1c.set (.slice a' m c')).cell
            have HO2 := hideIt (own_setLow ownc (w.heap.size + 1) 0 (.slice a' m c') (by omega))
            have q3 := Kc.setCell (p := ⟨w.heap.size + 1, 0, none⟩) (by show _ ≤ w.heap.size + 1; omega) (.slice a' m c')
            clear hown DN ownc
            go_wp2
            exact bodyPost_ret (v := .tuple #[.agg #[.slice a' m c'], .int .i64 (k : Int)]) (by simp [results, Try.results18, go_sem, s1]) rfl (by rw [HE.out]; exact ⟨a', m, c', rfl, own_mono HO2.out (by omega), q3⟩)
          | some hs =>
            rw [ho] at DN
            have HE : Hid (Ran fs xs (k + 1) hs ∧ hs.length + letters hs ≤ 1048576) := ⟨HRn.out.step HHf.out ho, disk_letters (doAct_disk ho)⟩
            have r2 := y2c.cell
            have r3 := y2c.frozen
            have r4 := DN.cell
            have DN2 : DBox wc wr.heap.size wc.heap.size bN a2 m2 c2 hs := DN
            have z1 := y1c.setOther (j := 0) (.slice a2 m2 c2) (show w.heap.size + 1 ≠ w1.heap.size by omega)
            have z2 := y2c.set (.slice a2 m2 c2)
            have HO2 := hideIt (own_mono (own_setLow DN2.own w1.heap.size 0 (.slice a2 m2 c2) (by omega)) (show w.heap.size + 2 ≤ _ by omega))
            have q3 := Kc.setCell (p := ⟨w1.heap.size, 0, none⟩) (by show _ ≤ w1.heap.size; omega) (.slice a2 m2 c2)
            clear hown DN ownc DN2
            go_wp2
            go_roundw
            case rel => exact ⟨k + 1, hs, a2, m2, c2, by omega, by go_num, HE.out, z1, z2, HO2.out, q3⟩
            case measure => simp [intOf]; omega
    · obtain rfl : k = na := by omega
      have HE : Hid (P = (gs, k)) := by
        show P = (gs, k)
        have := hI.out.1
        subst hlena
        rw [← HP.out]
        exact this.done
      have r0 := x1.cell
      have r1 := x1.frozen
      have s1 := (x1.set (.slice a' m c')).cell
      have HO2 := hideIt (own_setLow hown.out (w.heap.size + 1) 0 (.slice a' m c') (by omega))
      have q3 := hb.setCell (p := ⟨w.heap.size + 1, 0, none⟩) (by show _ ≤ w.heap.size + 1; omega) (.slice a' m c')
      clear hown hI
      go_wp2
      exact bodyPost_ret (v := .tuple #[.agg #[.slice a' m c'], .int .i64 (k : Int)]) (by simp [results, Try.results18, go_sem, s1]) rfl (by rw [HE.out]; exact ⟨a', m, c', rfl, own_mono HO2.out (by omega), q3⟩)
end Go.Proofs.Ytibcdpnodikpiai
