/- The edges inside of a shard: the program's Inside and the specification's. The walk of FnExactInside. A list of ints, a list of edges that come in. -/
import Derived.Test.YtcmjfnaenkdidaaKIn11
import Derived.WalkKit
import Derived.ProofKit
import Derived.OpenShut
import Derived.ChangeOld
import Derived.ChangeArms
import Derived.Below
import Derived.ChangeSlices
namespace Go.Proofs.Ytcmjfnaenkdidaa
open Go.RowKit

set_option maxRecDepth 100000 in
set_option maxHeartbeats 4000000 in
theorem iInside_any (ls : List Int) (q : Nat) (ao : Option Addr) (co : Nat) (es : List EdgeV) (n : Nat) (a : Option Addr) (c : Nat) (s : Int) (hn : n ≤ 1048576) (w : World) (ho : Is w w.heap.size ao q ls) (h : Es w w.heap.size a n es) :
    Calls Try.prog 17 #[.slice ao q co, .slice a n c, .int .i64 s] w fun e w' => EAns w (insE ls es s) e w' := by
  obtain ⟨i0, hi, hz0, hz1, hz2⟩ := info_parts infoIE
  obtain ⟨hlen, hrow⟩ := h
  have HR := hideIt hrow
  have HS : Hid (∀ u, Below w.heap.size w u → ∀ v, Calls Try.prog 56 #[.slice ao q co, .int .i64 v, .int .i64 s] u fun e u' => e = .returned (.bool (hasV ls s v)) ∧ u' = u) := fun u hu v =>
    shardHas_any ls q ao co v s u (ho.up hu)
  clear hrow ho
  go_enter Try.func17, Try.ntmps17
  go_wp2
  go_loopw [7, 13] (fun v i wr => ∃ (k m' : Nat) (a' : Option Addr) (c' : Nat) (gs : List EdgeV), k ≤ n ∧ i = .int .i64 (k : Int) ∧ v = .slice a' m' c' ∧ m' ≤ k ∧ Hid (gs = insE ls (es.take k) s) ∧ ESt w a' m' c' gs wr) (fun _ i _ => n - (intOf i).toNat)
  case atStart => exact ⟨0, 0, _, _, [], by omega, rfl, rfl, by omega, by show _ = _; simp [insE], ESt.start w⟩
  case round =>
    obtain ⟨k, m', a', c', gs, hk, rfl, rfl, hm, hgs, hst⟩ := hrel
    by_cases hlt : k < n
    · rcases HR.out with hz | ⟨b, off, rfl, hbl, hc⟩
      · omega
      · obtain ⟨f, hf⟩ : ∃ f, es[k]? = some f := ⟨es[k]'(by omega), List.getElem?_eq_getElem (by omega)⟩
        obtain ⟨c0, c1⟩ := hc k f hf
        have b1 : (0 : Int) ≤ (k : Int) := by omega
        have b2 : (k : Int) < (n : Int) := by omega
        have e0 : wr.cell? ⟨b, off + k * 2, none⟩ = some (.int .i64 f.1) := by rw [hst.bel.cell hbl]; exact c0
        have e1 : wr.cell? ⟨b, off + k * 2 + 1, none⟩ = some (.int .i64 f.2) := by rw [hst.bel.cell hbl]; exact c1
        have S1 : ESt w a' m' c' gs (wr.alloc (.cells #[.int .i64 f.1, .int .i64 f.2] 28)) := hst.up ((Below.refl _ _).alloc (Nat.le_refl _) _)
        have HS1 := hideIt (HS.out _ S1.bel)
        have z1 := hst.size
        have HX := hideIt (insE_snoc ls es s k f hf)
        clear hc hf c0 c1
        cases g1 : hasV ls s f.1 with
        | false =>
          have HG : Hid (gs = insE ls (es.take (k + 1)) s) := by show _ = _; rw [HX.out, hgs.out]; simp [inB, g1]
          clear HX hgs
          go_wp2_with (go_at_call 56; refine (HS1.out _).mono ?_; rintro e w1 ⟨rfl, rfl⟩)
          exact ⟨⟨k + 1, m', a', c', gs, by omega, by go_num, rfl, by omega, HG, S1⟩, by simp [intOf]; omega⟩
        | true =>
          cases g2 : hasV ls s f.2 with
          | false =>
            have HG : Hid (gs = insE ls (es.take (k + 1)) s) := by show _ = _; rw [HX.out, hgs.out]; simp [inB, g1, g2]
            clear HX hgs
            go_wp2_with (go_at_call 56; refine (HS1.out _).mono ?_; rintro e w1 ⟨rfl, rfl⟩)
            exact ⟨⟨k + 1, m', a', c', gs, by omega, by go_num, rfl, by omega, HG, S1⟩, by simp [intOf]; omega⟩
          | true =>
            have HG : Hid (gs ++ [f] = insE ls (es.take (k + 1)) s) := by show _ = _; rw [HX.out, hgs.out]; simp [inB, g1, g2]
            clear HX hgs
            go_wp2_with (first | (go_at_call 56; refine (HS1.out _).mono ?_; rintro e w1 ⟨rfl, rfl⟩) | (at_builtin; refine wpList_append_own _ rfl _ _ 24 rfl w.heap.size 28 i0 _ 2 16 Try.underlying24 hi hz0 hz1 hz2 rfl (by decide) _ _ _ rfl (S1.own.alloc _) ⟨wr.heap.size + 1, 0, none⟩ 1 1 [.int .i64 f.1, .int .i64 f.2] rfl (by simp) (by have := news2 (wr.alloc (.cells #[.int .i64 f.1, .int .i64 f.2] 28)) f; simpa using this) (by intro u hu; simp at hu; rcases hu with rfl | rfl <;> rfl) (by unfold maxLen; omega) (by omega) (by simp; omega) ?_))
            intro v2 w2 hown2 hg2 hn2
            obtain ⟨a2, c2, rfl, hst2⟩ := S1.app (x := f) hown2 hg2
            clear hown2 hg2 hn2 S1 e0 e1 hst
            go_wp2
            exact ⟨⟨k + 1, m' + 1, a2, c2, gs ++ [f], by omega, by go_num, rfl, by omega, HG, hst2⟩, by simp [intOf]; omega⟩
    · have HF : Hid (gs = insE ls es s) := by show _ = _; rw [hgs.out, List.take_of_length_le (by omega)]
      have HO := hideIt hst.own
      have hb := hst.bel
      clear hgs hst
      go_wp2
      go_ret
      exact ⟨a', m', c', rfl, by rw [← HF.out]; exact HO.out, hb⟩

theorem hasV_out {ls : List Int} {s v : Int} (h : ¬ (0 ≤ v ∧ v ≤ (ls.length : Int) - 1)) : hasV ls s v = false := by
  unfold hasV
  by_cases h1 : 0 ≤ v
  · rw [List.getElem?_eq_none (by omega)]; simp
  · simp [h1]
theorem hasV_at {ls : List Int} {s v x : Int} (h : 0 ≤ v) (hx : ls[v.toNat]? = some x) : hasV ls s v = (x == s) := by
  unfold hasV
  rw [hx]
  by_cases hxs : x = s <;> simp [h, hxs]

set_option maxRecDepth 100000 in
set_option maxHeartbeats 4000000 in
theorem sInside_any (ls : List Int) (q : Nat) (ao : Option Addr) (co : Nat) (es : List EdgeV) (n : Nat) (a : Option Addr) (c : Nat) (s : Int) (hq : q ≤ 1048576) (hn : n ≤ 1048576) (w : World) (ho : Is w w.heap.size ao q ls) (h : Es w w.heap.size a n es) :
    Calls Try.prog 18 #[.slice ao q co, .slice a n c, .int .i64 s] w fun e w' => EAns w (insE ls es s) e w' := by
  obtain ⟨i0, hi, hz0, hz1, hz2⟩ := info_parts infoIE
  obtain ⟨hlen, hrow⟩ := h
  obtain ⟨hol, horow⟩ := ho
  have HR := hideIt hrow
  have HOr := hideIt horow
  have HI := hideIt l01In_any
  clear hrow horow
  go_enter Try.func18, Try.ntmps18
  go_wp2
  go_loopw [7, 8] (fun v i wr => ∃ (k m' : Nat) (a' : Option Addr) (c' : Nat) (gs : List EdgeV), k ≤ n ∧ i = .int .i64 (k : Int) ∧ v = .slice a' m' c' ∧ m' ≤ k ∧ Hid (gs = insE ls (es.take k) s) ∧ ESt w a' m' c' gs wr) (fun _ i _ => n - (intOf i).toNat)
  case atStart => exact ⟨0, 0, _, _, [], by omega, rfl, rfl, by omega, by show _ = _; simp [insE], ESt.start w⟩
  case round =>
    obtain ⟨k, m', a', c', gs, hk, rfl, rfl, hm, hgs, hst⟩ := hrel
    by_cases hlt : k < n
    · rcases HR.out with hz | ⟨b, off, rfl, hbl, hc⟩
      · omega
      · obtain ⟨f, hf⟩ : ∃ f, es[k]? = some f := ⟨es[k]'(by omega), List.getElem?_eq_getElem (by omega)⟩
        obtain ⟨c0, c1⟩ := hc k f hf
        have b1 : (0 : Int) ≤ (k : Int) := by omega
        have b2 : (k : Int) < (n : Int) := by omega
        have e0 : wr.cell? ⟨b, off + k * 2, none⟩ = some (.int .i64 f.1) := by rw [hst.bel.cell hbl]; exact c0
        have e1 : wr.cell? ⟨b, off + k * 2 + 1, none⟩ = some (.int .i64 f.2) := by rw [hst.bel.cell hbl]; exact c1
        have S1 : ESt w a' m' c' gs (wr.alloc (.cells #[.int .i64 f.1, .int .i64 f.2] 28)) := hst.up ((Below.refl _ _).alloc (Nat.le_refl _) _)
        have z1 := hst.size
        have HX := hideIt (insE_snoc ls es s k f hf)
        clear hc hf c0 c1
        by_cases g1 : 0 ≤ f.1 ∧ f.1 ≤ (q : Int) - 1
        case neg =>
          have r1 : decide (0 ≤ f.1 ∧ f.1 ≤ (q : Int) - 1) = false := decide_eq_false g1
          have HG : Hid (gs = insE ls (es.take (k + 1)) s) := by show _ = _; rw [HX.out, hgs.out]; simp [inB, hasV_out (s := s) (v := f.1) (ls := ls) (by omega)]
          clear HX hgs g1
          go_wp2_with (go_at_call 57; refine (HI.out _ _ _ _).mono ?_; rintro e w1 ⟨rfl, rfl⟩)
          exact ⟨⟨k + 1, m', a', c', gs, by omega, by go_num, rfl, by omega, HG, S1⟩, by simp [intOf]; omega⟩
        case pos =>
          have r1 : decide (0 ≤ f.1 ∧ f.1 ≤ (q : Int) - 1) = true := decide_eq_true g1
          by_cases g2 : 0 ≤ f.2 ∧ f.2 ≤ (q : Int) - 1
          case neg =>
            have r2 : decide (0 ≤ f.2 ∧ f.2 ≤ (q : Int) - 1) = false := decide_eq_false g2
            have HG : Hid (gs = insE ls (es.take (k + 1)) s) := by show _ = _; rw [HX.out, hgs.out]; simp [inB, hasV_out (s := s) (v := f.2) (ls := ls) (by omega)]
            clear HX hgs g1 g2
            go_wp2_with (go_at_call 57; refine (HI.out _ _ _ _).mono ?_; rintro e w1 ⟨rfl, rfl⟩)
            exact ⟨⟨k + 1, m', a', c', gs, by omega, by go_num, rfl, by omega, HG, S1⟩, by simp [intOf]; omega⟩
          case pos =>
            have r2 : decide (0 ≤ f.2 ∧ f.2 ≤ (q : Int) - 1) = true := decide_eq_true g2
            rcases HOr.out with hz | ⟨bo, offo, rfl, hbo, hco⟩
            · omega
            · obtain ⟨x, hx⟩ : ∃ x, ls[f.1.toNat]? = some x := ⟨ls[f.1.toNat]'(by omega), List.getElem?_eq_getElem (by omega)⟩
              obtain ⟨y, hy⟩ : ∃ y, ls[f.2.toNat]? = some y := ⟨ls[f.2.toNat]'(by omega), List.getElem?_eq_getElem (by omega)⟩
              have e2 : wr.cell? ⟨bo, offo + f.1.toNat, none⟩ = some (.int .i64 x) := by rw [hst.bel.cell hbo]; exact hco _ x hx
              have e3 : wr.cell? ⟨bo, offo + f.2.toNat, none⟩ = some (.int .i64 y) := by rw [hst.bel.cell hbo]; exact hco _ y hy
              have v1 := hasV_at (s := s) g1.1 hx
              have v2 := hasV_at (s := s) g2.1 hy
              have p1 : (0 : Int) ≤ f.1 := g1.1
              have p2 : f.1 < (q : Int) := by omega
              have p3 : (0 : Int) ≤ f.2 := g2.1
              have p4 : f.2 < (q : Int) := by omega
              have p5 : bo < wr.heap.size := by omega
              clear hco hx hy g1 g2
              cases w1 : (x == s) with
              | false =>
                have HG : Hid (gs = insE ls (es.take (k + 1)) s) := by show _ = _; rw [HX.out, hgs.out]; simp [inB, v1, w1]
                clear HX hgs v1 v2
                go_wp2_with (go_at_call 57; refine (HI.out _ _ _ _).mono ?_; rintro e w1 ⟨rfl, rfl⟩)
                exact ⟨⟨k + 1, m', a', c', gs, by omega, by go_num, rfl, by omega, HG, S1⟩, by simp [intOf]; omega⟩
              | true =>
                cases w2 : (y == s) with
                | false =>
                  have HG : Hid (gs = insE ls (es.take (k + 1)) s) := by show _ = _; rw [HX.out, hgs.out]; simp [inB, v2, w2]
                  clear HX hgs v1 v2
                  go_wp2_with (go_at_call 57; refine (HI.out _ _ _ _).mono ?_; rintro e w1 ⟨rfl, rfl⟩)
                  exact ⟨⟨k + 1, m', a', c', gs, by omega, by go_num, rfl, by omega, HG, S1⟩, by simp [intOf]; omega⟩
                | true =>
                  have HG : Hid (gs ++ [f] = insE ls (es.take (k + 1)) s) := by show _ = _; rw [HX.out, hgs.out]; simp [inB, v1, w1, v2, w2]
                  clear HX hgs v1 v2
                  go_wp2_with (first | (go_at_call 57; refine (HI.out _ _ _ _).mono ?_; rintro e w1 ⟨rfl, rfl⟩) | (at_builtin; refine wpList_append_own _ rfl _ _ 24 rfl w.heap.size 28 i0 _ 2 16 Try.underlying24 hi hz0 hz1 hz2 rfl (by decide) _ _ _ rfl (S1.own.alloc _) ⟨wr.heap.size + 1, 0, none⟩ 1 1 [.int .i64 f.1, .int .i64 f.2] rfl (by simp) (by have := news2 (wr.alloc (.cells #[.int .i64 f.1, .int .i64 f.2] 28)) f; simpa using this) (by intro u hu; simp at hu; rcases hu with rfl | rfl <;> rfl) (by unfold maxLen; omega) (by omega) (by simp; omega) ?_))
                  intro v2 w2 hown2 hg2 hn2
                  obtain ⟨a2, c2, rfl, hst2⟩ := S1.app (x := f) hown2 hg2
                  clear hown2 hg2 hn2 S1 e0 e1 hst
                  go_wp2
                  exact ⟨⟨k + 1, m' + 1, a2, c2, gs ++ [f], by omega, by go_num, rfl, by omega, HG, hst2⟩, by simp [intOf]; omega⟩
    · have HF : Hid (gs = insE ls es s) := by show _ = _; rw [hgs.out, List.take_of_length_le (by omega)]
      have HO := hideIt hst.own
      have hb := hst.bel
      clear hgs hst
      go_wp2
      go_ret
      exact ⟨a', m', c', rfl, by rw [← HF.out]; exact HO.out, hb⟩
end Go.Proofs.Ytcmjfnaenkdidaa
namespace Go.Proofs.Ytcmjfnaenkdidaa
open Go.RowKit

theorem toIntS_R {ls : List Int} {q : Nat} {ao : Option Addr} (co : Nat) {w u : World} (hq : q ≤ 1048576) (h : Is w w.heap.size ao q ls) (hu : Below w.heap.size w u) :
    Calls Try.prog 37 #[.slice ao q co] u fun e v => ∃ g, e = .returned (.slice (some ⟨g, 0, none⟩) q q) ∧ RBox v u.heap.size v.heap.size (some ⟨g, 0, none⟩) q q ls ∧ Below u.heap.size u v :=
  (toIntS_any ls q ao co hq u (h.up hu)).mono fun _ _ ⟨g, he, ho, hb⟩ => ⟨g, he, RBox.laid ho, hb⟩
theorem toEdgeS_R {fs : List EdgeV} {n : Nat} {a : Option Addr} (c : Nat) {w u : World} (hn : n ≤ 1048576) (h : Es w w.heap.size a n fs) (hu : Below w.heap.size w u) :
    Calls Try.prog 23 #[.slice a n c] u fun e v => ∃ g, e = .returned (.slice (some ⟨g, 0, none⟩) n n) ∧ EBox v u.heap.size v.heap.size (some ⟨g, 0, none⟩) n n fs ∧ Below u.heap.size u v :=
  (toEdgeS_any fs n a c hn u (h.up hu)).mono fun _ _ ⟨g, he, ho, hb⟩ => ⟨g, he, EBox.laid ho, hb⟩
theorem eans_R {F : Nat} {args : Array Value} {ls : List EdgeV} {u : World} (H : Calls Try.prog F args u (EAns u ls)) :
    Calls Try.prog F args u fun e v => ∃ aw mw cw, e = .returned (.slice aw mw cw) ∧ EBox v u.heap.size v.heap.size aw mw cw ls ∧ Below u.heap.size u v :=
  H.mono fun _ _ ⟨aw, mw, cw, he, ho, hb⟩ => ⟨aw, mw, cw, he, EBox.laid ho, hb⟩
theorem bup {w u v : World} (h : Below w.heap.size w u) (hb : Below u.heap.size u v) : Below w.heap.size w v := h.trans (hb.mono h.size)

set_option maxRecDepth 100000 in
set_option maxHeartbeats 8000000 in
theorem fnExactInside.walk (ls : List Int) (_hft : ∀ x ∈ ls, (Lit.int .i64 x).wf = true) (q : Nat) (ao : Option Addr) (co : Nat) (hq : q ≤ maxLen) (fs : List EdgeV) (_hfe : ∀ f ∈ fs, FitE f) (n : Nat) (a : Option Addr) (c : Nat) (hn : n ≤ maxLen)
    (s : Int) (_hs : (Lit.int .i64 s).wf = true) (w : World) (ho : Is w w.heap.size ao q ls) (h : Es w w.heap.size a n fs) :
    Calls Try.prog 7 #[.slice ao q co, .slice a n c, .int .i64 s] w fun e w' => e = .returned (.bool true) ∧ Below w.heap.size w w' := by
  by_cases hq1 : q ≤ 1048576
  case neg =>
    unfold maxLen at hq
    have d0 : decide (1048576 < (q : Int)) = true := decide_eq_true (by omega)
    clear ho h
    go_enter Try.func7, Try.ntmps7
    go_wp2
    go_ret
    exact ⟨rfl, Below.refl _ _⟩
  case pos =>
    have d0 : decide (1048576 < (q : Int)) = false := decide_eq_false (by omega)
    by_cases hn1 : n ≤ 1048576
    case neg =>
      have HZ := hideIt (szEdgeS_no n a c 1048576 (by omega) (by omega) hn w)
      clear ho h
      go_enter Try.func7, Try.ntmps7
      go_wp2_with (go_at_call 20; refine HZ.out.mono ?_; rintro e w1 ⟨rfl, rfl⟩)
      go_ret
      exact ⟨rfl, Below.refl _ _⟩
    case pos =>
      have HZ := hideIt (szEdgeS_yes n a c 1048576 (by omega) (by omega) w)
      have d1 : decide ((1048576 : Int) - (n : Int) < 0) = false := decide_eq_false (by omega)
      have HTI := hideIt (fun u (hu : Below w.heap.size w u) => toIntS_R co hq1 ho hu)
      have HTE := hideIt (fun u (hu : Below w.heap.size w u) => toEdgeS_R c hn1 h hu)
      have HIs := hideIt (fun (u : World) g g' lo hi lo' hi' (h1 : RBox u lo hi (some ⟨g, 0, none⟩) q q ls) (h2 : EBox u lo' hi' (some ⟨g', 0, none⟩) n n fs) => eans_R (sInside_any ls q _ q fs n _ n s hq1 hn1 u h1.is h2.es))
      have HIi := hideIt (fun (u : World) g g' lo hi lo' hi' (h1 : RBox u lo hi (some ⟨g, 0, none⟩) q q ls) (h2 : EBox u lo' hi' (some ⟨g', 0, none⟩) n n fs) => eans_R (iInside_any ls q _ q fs n _ n s hn1 u h1.is h2.es))
      have hgl : (insE ls fs s).length ≤ n := by rw [← h.1]; exact insE_len _ _ _
      generalize insE ls fs s = es at *
      clear ho h
      go_enter Try.func7, Try.ntmps7
      go_wp2_with (go_at_call 20; refine HZ.out.mono ?_; rintro e w0 ⟨rfl, hw⟩; have hw' := hw.symm; subst hw'; clear hw; refine Hid.out ?_)
      refine (show ∀ {p : Prop}, p → Hid p from fun h => h) ?_
      have H1 := hideIt (HTI.out w (Below.refl _ _))
      clear HZ
      go_wp2_with (go_at_call 37; refine H1.out.mono ?_; rintro e w1 ⟨g1, rfl, R1, b1⟩; refine Hid.out ?_)
      refine (show ∀ {p : Prop}, p → Hid p from fun h => h) ?_
      have G1 := b1
      have H2 := hideIt (HTE.out w1 G1)
      clear H1 b1
      go_wp2_with (go_at_call 23; refine H2.out.mono ?_; rintro e w2 ⟨g2, rfl, E2, b2⟩; refine Hid.out ?_)
      refine (show ∀ {p : Prop}, p → Hid p from fun h => h) ?_
      have G2 := bup G1 b2
      have H3 := hideIt (HIs.out w2 g1 g2 _ _ _ _ (R1.up b2) E2)
      clear H2 b2 R1 E2 G1 HIs
      go_wp2_with (go_at_call 18; refine H3.out.mono ?_; rintro e w3 ⟨aw, mw, cw, rfl, W3, b3⟩; refine Hid.out ?_)
      refine (show ∀ {p : Prop}, p → Hid p from fun h => h) ?_
      have G3 := bup G2 b3
      have hmw : mw ≤ n := by rw [← W3.len]; exact hgl
      have H4 := hideIt (HTI.out w3 G3)
      have z3 := G2.size
      clear H3 b3 G2
      go_wp2_with (go_at_call 37; refine H4.out.mono ?_; rintro e w4 ⟨g4, rfl, R4, b4⟩; refine Hid.out ?_)
      refine (show ∀ {p : Prop}, p → Hid p from fun h => h) ?_
      have G4 := bup G3 b4
      have W4 := W3.up b4
      have z4 := b4.size
      have H5 := hideIt (HTE.out w4 G4)
      clear H4 b4 W3
      go_wp2_with (go_at_call 23; refine H5.out.mono ?_; rintro e w5 ⟨g5, rfl, E5, b5⟩; refine Hid.out ?_)
      refine (show ∀ {p : Prop}, p → Hid p from fun h => h) ?_
      have G5 := bup G4 b5
      have W5 := W4.up b5
      have R5 := R4.up b5
      have z5 := b5.size
      have H6 := hideIt (HIi.out w5 g4 g5 _ _ _ _ R5 E5)
      clear H5 b5 W4 R4
      go_wp2_with (go_at_call 17; refine H6.out.mono ?_; rintro e w6 ⟨ag, mg, cg, rfl, A6, b6⟩; refine Hid.out ?_)
      refine (show ∀ {p : Prop}, p → Hid p from fun h => h) ?_
      have G6 := bup G5 b6
      have W6 := W5.up b6
      have R6 := R5.up b6
      have E6 := E5.up b6
      have z6 := b6.size
      have hmg : mg ≤ n := by rw [← A6.len]; exact hgl
      have z23 := G3.size
      have H7 := hideIt (eqEB A6 W6 (by omega))
      clear H6 b6 W5 R5 E5
      go_wp2_with (go_at_call 26; refine H7.out.mono ?_; rintro e w7 ⟨rfl, b7⟩; refine Hid.out ?_)
      refine (show ∀ {p : Prop}, p → Hid p from fun h => h) ?_
      have G7 := bup G6 b7
      have W7 := W6.up b7
      have R7 := R6.up b7
      have E7 := E6.up b7
      have A7 := A6.up b7
      have H8 := hideIt (HTI.out w7 G7)
      clear H7 b7 W6 R6 E6 A6 G6
      go_wp2_with (go_at_call 37; refine H8.out.mono ?_; rintro e w8 ⟨g8, rfl, R8, b8⟩; refine Hid.out ?_)
      refine (show ∀ {p : Prop}, p → Hid p from fun h => h) ?_
      have G8 := bup G7 b8
      have W8 := W7.up b8
      have Q8 := R7.up b8
      have E8 := E7.up b8
      have A8 := A7.up b8
      have H9 := hideIt (eqRB Q8 R8 hq1)
      clear H8 b8 W7 R7 E7 A7 G7
      go_wp2_with (go_at_call 24; refine H9.out.mono ?_; rintro e w9 ⟨rfl, b9⟩; refine Hid.out ?_)
      refine (show ∀ {p : Prop}, p → Hid p from fun h => h) ?_
      have G9 := bup G8 b9
      have W9 := W8.up b9
      have R9 := Q8.up b9
      have E9 := E8.up b9
      have A9 := A8.up b9
      have H10 := hideIt (HTE.out w9 G9)
      clear H9 b9 W8 R8 Q8 E8 A8 G8
      go_wp2_with (go_at_call 23; refine H10.out.mono ?_; rintro e w10 ⟨g10, rfl, X10, b10⟩; refine Hid.out ?_)
      refine (show ∀ {p : Prop}, p → Hid p from fun h => h) ?_
      have G10 := bup G9 b10
      have W10 := W9.up b10
      have R10 := R9.up b10
      have E10 := E9.up b10
      have A10 := A9.up b10
      have H11 := hideIt (eqEB E10 X10 hn1)
      clear H10 b10 W9 R9 E9 A9 G9
      go_wp2_with (go_at_call 26; refine H11.out.mono ?_; rintro e w11 ⟨rfl, b11⟩; refine Hid.out ?_)
      refine (show ∀ {p : Prop}, p → Hid p from fun h => h) ?_
      have G11 := bup G10 b11
      have W11 := W10.up b11
      have R11 := R10.up b11
      have E11 := E10.up b11
      have A11 := A10.up b11
      have H12 := hideIt (markRB R11 1 hq1 (by omega))
      clear H11 b11 W10 R10 E10 A10 G10 X10
      go_wp2_with (go_at_call 29; refine H12.out.mono ?_; rintro e w12 ⟨rfl, _, r12⟩; refine Hid.out ?_)
      refine (show ∀ {p : Prop}, p → Hid p from fun h => h) ?_
      have G12 := G11.trans (r12.below (by omega) G11.size)
      have W12 := W11.rng r12 (.inl (by omega))
      have E12 := E11.rng r12 (.inr (by omega))
      have A12 := A11.rng r12 (.inr (by omega))
      have H13 := hideIt (markEB E12 (1 + q) hn1 (by omega))
      rw [show ((1 + q : Nat) : Int) = (1 : Int) + (q : Int) by omega] at H13
      clear H12 r12 W11 R11 E11 A11 G11
      go_wp2_with (go_at_call 28; refine H13.out.mono ?_; rintro e w13 ⟨rfl, _, r13⟩; refine Hid.out ?_)
      refine (show ∀ {p : Prop}, p → Hid p from fun h => h) ?_
      have G13 := G12.trans (r13.below (by omega) G12.size)
      have W13 := W12.rng r13 (.inl (by omega))
      have A13 := A12.rng r13 (.inr (by omega))
      have d3 : decide ((1 : Int) + (q : Int) + (n : Int) * 2 < 0) = false := decide_eq_false (by omega)
      have H14 := hideIt (eqEB A13 W13 (by omega))
      clear H13 r13 W12 E12 A12 G12
      go_wp2_with (go_at_call 26; refine H14.out.mono ?_; rintro e w14 ⟨rfl, b14⟩; refine Hid.out ?_)
      refine (show ∀ {p : Prop}, p → Hid p from fun h => h) ?_
      have G14 := bup G13 b14
      have W14 := W13.up b14
      have A14 := A13.up b14
      have H15 := hideIt (markEB A14 1 (by omega) (by omega))
      clear H14 b14 W13 A13 G13
      go_wp2_with (go_at_call 28; refine H15.out.mono ?_; rintro e w15 ⟨rfl, A15, r15⟩; refine Hid.out ?_)
      refine (show ∀ {p : Prop}, p → Hid p from fun h => h) ?_
      have G15 := G14.trans (r15.below (by omega) G14.size)
      have W15 := W14.rng r15 (.inl (by omega))
      have d4 : decide ((1 : Int) + (mg : Int) * 2 < 0) = false := decide_eq_false (by omega)
      have d5 : ((1 : Int) + (mg : Int) * 2 != (1 : Int) + (mg : Int) * 2) = false := by simp
      have H16 := hideIt (heldEB 1 A15 (by omega) (by omega))
      clear H15 r15 W14 A14 G14
      go_wp2_with (go_at_call 36; refine H16.out.mono ?_; rintro e w16 ⟨rfl, hw⟩; have hw' := hw.symm; subst hw'; clear hw; refine Hid.out ?_)
      refine (show ∀ {p : Prop}, p → Hid p from fun h => h) ?_
      have H17 := hideIt (HTI.out w15 G15)
      clear H16
      go_wp2_with (go_at_call 37; refine H17.out.mono ?_; rintro e w17 ⟨g17, rfl, R17, b17⟩; refine Hid.out ?_)
      refine (show ∀ {p : Prop}, p → Hid p from fun h => h) ?_
      have G17 := bup G15 b17
      have W17 := W15.up b17
      have A17 := A15.up b17
      have H18 := hideIt (HTE.out w17 G17)
      clear H17 b17 W15 A15 G15
      go_wp2_with (go_at_call 23; refine H18.out.mono ?_; rintro e w18 ⟨g18, rfl, E18, b18⟩; refine Hid.out ?_)
      refine (show ∀ {p : Prop}, p → Hid p from fun h => h) ?_
      have G18 := bup G17 b18
      have W18 := W17.up b18
      have A18 := A17.up b18
      have H19 := hideIt (HIi.out w18 g17 g18 _ _ _ _ (R17.up b18) E18)
      clear H18 b18 W17 A17 G17 R17 E18
      go_wp2_with (go_at_call 17; refine H19.out.mono ?_; rintro e w19 ⟨ah, mh, ch, rfl, B19, b19⟩; refine Hid.out ?_)
      refine (show ∀ {p : Prop}, p → Hid p from fun h => h) ?_
      have G19 := bup G18 b19
      have W19 := W18.up b19
      have A19 := A18.up b19
      have hmh : mh ≤ n := by rw [← B19.len]; exact hgl
      have H20 := hideIt (eqEB B19 W19 (by omega))
      clear H19 b19 W18 A18 G18
      go_wp2_with (go_at_call 26; refine H20.out.mono ?_; rintro e w20 ⟨rfl, b20⟩; refine Hid.out ?_)
      refine (show ∀ {p : Prop}, p → Hid p from fun h => h) ?_
      have G20 := bup G19 b20
      have A20 := A19.up b20
      have H21 := hideIt (heldEB 1 A20 (by omega) (by omega))
      clear H20 b20 W19 A19 G19 B19
      go_wp2_with (go_at_call 36; refine H21.out.mono ?_; rintro e w21 ⟨rfl, rfl⟩)
      go_ret
      exact ⟨rfl, G20⟩
end Go.Proofs.Ytcmjfnaenkdidaa
namespace Go.Proofs.Ytcmjfnaenkdidaa
open Go.RowKit Go.ChangeShapes Go.WideShapes

set_option maxRecDepth 100000 in
theorem open_intS {H : Type} {enc : TypeId × Value → H} {W : World} {r : Reach} {base : Nat} {v : Value} {d : DataW H} {p : List MemPlace}
    (hv : Value.okWide Try.prog W r base 31 v) (h : DataW.Trod enc Try.prog W 0 (fun _ => true) true 31 v d p) :
    ∃ (a : Option Addr) (n c : Nat) (ls : List Int), v = .slice a n c ∧ n ≤ maxLen ∧ Is W W.heap.size a n ls ∧ ∀ x ∈ ls, (Lit.int .i64 x).wf = true := by
  obtain ⟨a, len, cap, rfl⟩ := okWide_slice Try.underlying31 hv
  obtain ⟨fuel, hf⟩ := h
  have hf' : DataW.trod enc Try.prog W 0 (fun _ => true) true fuel 31 [.slice a len cap] = some (d, p) := by simpa [Value.cells] using hf
  rcases open_ints Try.underlying31 Try.underlying3 (by kernel_rfl) hf' with ⟨hcs, _⟩ | ⟨x, l, c, zs, hcs, _, hl, hm, hz, _, hcell, hwz⟩
  · simp at hcs
    obtain ⟨rfl, rfl, rfl⟩ := hcs
    exact ⟨none, 0, 0, [], rfl, by unfold maxLen; omega, ⟨rfl, .inl rfl⟩, by simp⟩
  · simp at hcs
    obtain ⟨rfl, rfl, rfl⟩ := hcs
    have hzl : zs.length = cap := by simpa using hz
    by_cases h0 : len = 0
    · subst h0
      exact ⟨_, 0, cap, [], rfl, by unfold maxLen; omega, ⟨rfl, .inl rfl⟩, by simp⟩
    · obtain ⟨b, off, rfl, hc⟩ := ints_at hcell (by omega)
      have hb : b < W.heap.size := World.block_lt_of_cell? W _ (hc 0 (by omega))
      refine ⟨_, len, cap, zs.take len, rfl, by omega, ⟨by rw [List.length_take]; omega, .inr ⟨b, off, rfl, hb, fun j x hx => ?_⟩⟩, fun x hx => hwz x (List.mem_of_mem_take hx)⟩
      have hj : j < len := by have := (List.getElem?_eq_some_iff.1 hx).1; rw [List.length_take] at this; omega
      rw [List.getElem?_take_of_lt hj] at hx
      rw [hc j (by omega), List.getD_eq_getElem?_getD, hx]
      rfl
set_option maxRecDepth 100000 in
theorem open_edgeL {H : Type} {enc : TypeId × Value → H} {W : World} {r : Reach} {base : Nat} {v : Value} {d : DataW H} {p : List MemPlace}
    (hv : Value.okWide Try.prog W r base 45 v) (h : DataW.Trod enc Try.prog W 0 (fun _ => true) true 45 v d p) :
    ∃ (a : Option Addr) (n c : Nat) (fs : List EdgeV), v = .slice a n c ∧ n ≤ maxLen ∧ Es W W.heap.size a n fs ∧ ∀ f ∈ fs, FitE f := by
  obtain ⟨a, len, cap, rfl⟩ := okWide_slice Try.underlying45 hv
  obtain ⟨fuel, hf⟩ := h
  have hf' : DataW.trod enc Try.prog W 0 (fun _ => true) true fuel 45 [.slice a len cap] = some (d, p) := by simpa [Value.cells] using hf
  obtain ⟨hl, fs, h1, h2⟩ := open_edgeS hf'
  exact ⟨a, len, cap, fs, rfl, hl, h1, h2⟩
end Go.Proofs.Ytcmjfnaenkdidaa
