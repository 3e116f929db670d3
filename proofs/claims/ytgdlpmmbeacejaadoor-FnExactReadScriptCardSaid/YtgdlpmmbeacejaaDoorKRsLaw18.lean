/- The walk of FnExactReadScript. -/
import Derived.Test.YtgdlpmmbeacejaaDoorKPt18
import Derived.Test.YtgdlpmmbeacejaaDoorKSr18
import Derived.Test.YtgdlpmmbeacejaaDoorKRt18
namespace Go.Proofs.YtgdlpmmbeacejaaDoor
open Go.RowKit C

theorem step_le {st st' : Sst} {l : List UInt8} (h : stepL st l = some st') (hl : st.evs.length ≤ 70) : st'.evs.length ≤ 70 := by
  unfold stepL at h
  cases hp : Words.poR l with
  | none => rw [hp] at h; simp at h
  | some ps =>
    rw [hp] at h
    simp only [Option.bind_some] at h
    cases ps with
    | nil => simp only [stepP, Option.some.injEq] at h; subst h; exact hl
    | cons x r =>
      simp only [stepP] at h
      split at h
      · simp only [Option.some.injEq] at h; subst h; exact hl
      · split at h
        · cases hw : webR (x :: r) with
          | none => rw [hw] at h; simp at h
          | some p => rw [hw] at h; simp only [Option.map_some, Option.some.injEq] at h; subst h; exact hl
        · split at h
          · simp at h
          · split at h
            · simp at h
            · simp only [Option.some.injEq] at h
              subst h
              simp only [List.length_append, List.length_cons, List.length_nil]
              omega
theorem run_le : ∀ (ls : List (List UInt8)) (i : Nat) (st : Sst), st.evs.length ≤ 70 → (runL i ls st).1.evs.length ≤ 70
  | [], _, _, h => h
  | l :: ls, i, st, h => by
      rw [runL]
      cases hs : stepL st l with
      | none => exact Nat.zero_le _
      | some st' => exact run_le ls (i + 1) st' (step_le hs h)
theorem rs_le (l : List UInt8) : (rsR l).1.evs.length ≤ 70 := by
  unfold rsR
  have hr := run_le (Lines.lns l) 0 ⟨0, 0, []⟩ (Nat.zero_le _)
  split
  · exact Nat.zero_le _
  · dsimp only
    split
    · exact Nat.zero_le _
    · split
      · exact Nat.zero_le _
      · exact hr
/-- ReadScript's answer, its parts named -/
def RsA (N S F : Int) (E : List (EvR × Bool)) (n : Nat) (w : World) (e : Ending) (w' : World) : Prop := ∃ a c, e = .returned (.tuple #[.int .i64 N, .int .i64 S, .slice a n c, .int .i64 F]) ∧
  w'.ownsRow w.heap.size 57 9 (.slice a n c) n (evc E) ∧ Below w.heap.size w w'
theorem rs_a {l : List UInt8} {w w' : World} {e : Ending} (h : RsOut l w e w') : RsA (rsR l).1.n (rsR l).1.sh (rsR l).2 (rsR l).1.evs (rsR l).1.evs.length w e w' := by
  obtain ⟨a, n, c, he, hn, ho, hb⟩ := h
  subst hn
  exact ⟨a, c, he, ho, hb⟩
/-- the t-th event -/
def evF (E : List (EvR × Bool)) (t : Nat) : EvR × Bool := (E[t]?).getD (⟨0, 0, 0, 0, 0, 0, 0⟩, false)
theorem evF_at (E : List (EvR × Bool)) {t : Nat} (h : t < E.length) : Ev9 (evc E) t (evF E t) := Ev9.of E t _ (by unfold evF; rw [List.getElem?_eq_getElem h]; rfl)
theorem Eq9.keep {u v : World} {B : Nat} {a : Option Addr} {n : Nat} {f : Nat → EvR × Bool} (h : Eq9 u B a n f) (hb : Below B u v) : Eq9 v B a n f := by
  refine h.imp id ?_
  rintro ⟨b, off, h1, h2, h3⟩
  exact ⟨b, off, h1, h2, fun t ht => (h3 t ht).below hb h2⟩
theorem Eq9.wide {u : World} {B C : Nat} {a : Option Addr} {n : Nat} {f : Nat → EvR × Bool} (h : Eq9 u B a n f) (hb : B ≤ C) : Eq9 u C a n f := by
  refine h.imp id ?_
  rintro ⟨b, off, h1, h2, h3⟩
  exact ⟨b, off, h1, Nat.lt_of_lt_of_le h2 hb, h3⟩
theorem markEventS_zero (a : Option Addr) (c : Nat) (k : Int) (w : World) : Calls Tryd.prog 7 #[.slice a 0 c, .int .i64 k] w fun e w' => e = .returned (.int .i64 k) ∧ w' = w := by
  go_enter Tryd.func7, Tryd.ntmps7
  go_wp2
  go_loopw [1, 5] (fun kk i wr => i = .int .i64 0 ∧ kk = .int .i64 k ∧ wr = w) (fun _ _ _ => 0)
  case atStart => exact ⟨rfl, rfl, rfl⟩
  case round =>
    obtain ⟨rfl, rfl, hw⟩ := hrel
    have hw' := hw.symm
    subst hw'
    go_wp2
    go_ret
    exact ⟨rfl, rfl⟩
theorem markEventS_own (base n c k0 : Nat) (a : Option Addr) (cs0 : List Value) (hn : n ≤ 1048576) (hk1 : k0 ≤ 10000000) (w : World)
    (h : w.ownsRow base 57 9 (.slice a n c) n cs0) (he : ∀ t < n, ∃ x, Ev9 cs0 t x) :
    Calls Tryd.prog 7 #[.slice a n c, .int .i64 (k0 : Int)] w fun e w' => e = .returned (.int .i64 ((k0 : Int) + (n : Int) * 8)) ∧
      (∃ cs, w'.ownsRow base 57 9 (.slice a n c) n cs ∧ ∀ t < n, Ev9 cs t (emk k0 t)) ∧ Rng base w.heap.size w w' := by
  rcases h.2 with ⟨hv, h0⟩ | ⟨g, cap, cur, hv, hrest⟩
  · subst h0
    refine (markEventS_zero a c k0 w).mono ?_
    rintro e w' ⟨rfl, rfl⟩
    exact ⟨by simp, ⟨cs0, h, fun t ht => by omega⟩, ⟨rfl, rfl, rfl, Nat.le_refl _, fun _ _ _ => rfl⟩⟩
  · simp at hv
    obtain ⟨rfl, rfl⟩ := hv
    have hg := h.lt g rfl
    exact (markEventS_any base g c n k0 cs0 hn hk1 w h he).mono fun e w' ⟨h1, h2, h3⟩ => ⟨h1, h2, Rng.of_grown h3 hg.1 hg.2⟩

set_option maxRecDepth 100000 in
set_option maxHeartbeats 16000000 in
theorem rs_law (s : ByteArray) (hb : s.size ≤ 1048576) (N S F : Int) (E : List (EvR × Bool)) (n : Nat) (hn : E.length = n) (hm : n ≤ 70) (w : World)
    (HS : Hid (Calls Tryd.prog 4 #[.string s] w (RsA N S F E n w))) (HI : Hid (∀ u, Below w.heap.size w u → Calls Tryd.prog 5 #[.string s] u (RsA N S F E n u))) :
    Calls Tryd.prog 3 #[.string s] w fun e w' => e = .returned (.bool true) ∧ Below w.heap.size w w' := by
  have hf : ∀ t < n, Ev9 (evc E) t (evF E t) := fun t ht => evF_at E (by omega)
  have HF := hideIt hf
  have dN : (N != N) = false := by simp
  have dS : (S != S) = false := by simp
  have dF : (F != F) = false := by simp
  have db : decide ((1048576 : Int) < (s.size : Int)) = false := decide_eq_false (by omega)
  clear hf
  go_enter Tryd.func3, Tryd.ntmps3
  go_wp2_with (go_at_call 4; refine HS.out.mono ?_; rintro e w1 ⟨a0, c0, rfl, o1, b1⟩; refine Hid.out ?_)
  refine hidw ?_
  have HV : Hid (∀ x, Below w1.heap.size w1 x → Eq9 x w1.heap.size a0 n (evF E)) := fun x hx => (Eq9.of_own o1 HF.out).keep hx
  have HB1 := hideIt b1
  have HI1 := hideIt (HI.out w1 b1)
  clear o1 b1 HS
  go_wp2_with (go_at_call 5; refine HI1.out.mono ?_; rintro e w2 ⟨a2, c2, rfl, o2, b2⟩; refine Hid.out ?_)
  refine hidw ?_
  have HE2 := hideIt (eqEventS_same n (evF E) a2 a0 c2 c0 (by omega) w2 (Eq9.of_own o2 HF.out) ((HV.out w2 b2).wide b2.size))
  have HO2 := hideIt o2
  have HB2 := hideIt b2
  clear o2 b2 HI1
  go_wp2_with (go_at_call 6; refine HE2.out.mono ?_; rintro e w3 ⟨rfl, b3⟩; refine Hid.out ?_)
  refine hidw ?_
  obtain ⟨q, hq⟩ : ∃ q, q = ((1 : Nat) : Int) + (n : Int) * 8 := ⟨_, rfl⟩
  have dq : decide (q < 0) = false := decide_eq_false (by omega)
  have dqq : (q != q) = false := by simp
  have hM3 := markEventS_own w1.heap.size n c2 1 a2 (evc E) (by omega) (by omega) w3 (own_up HO2.out b3) (fun t ht => ⟨_, HF.out t ht⟩)
  rw [← hq] at hM3
  have HM3 := hideIt hM3
  have HQq := hideIt hq
  clear hM3 hq
  have HB3 : Hid (Below w1.heap.size w1 w3) := HB2.out.trans (b3.mono HB2.out.size)
  clear b3 HE2 HO2 HB2
  go_wp2_with (go_at_call 7; refine HM3.out.mono ?_; rintro e w4 ⟨rfl, ⟨cs, o4, e4⟩, r4⟩; refine Hid.out ?_)
  refine hidw ?_
  have HB4 : Hid (Below w1.heap.size w1 w4) := HB3.out.trans (r4.below (Nat.le_refl _) HB3.out.size)
  have HO4 := hideIt o4
  have HE4 := hideIt e4
  have HQ : Hid (∀ x, Below w4.heap.size w4 x → Calls Tryd.prog 8 #[.slice a2 n c2, .int .i64 ((1 : Nat) : Int)] x fun e w' => e = .returned (.int .i64 q) ∧ w' = x) := fun x hx => by
    rw [HQq.out]
    exact heldEventS_any n 1 a2 c2 (by omega) (by omega) x (Eq9.of_own (own_up HO4.out hx) HE4.out)
  clear o4 e4 r4 HM3 HB3 HQq
  have HH4 := hideIt (HQ.out w4 (Below.refl _ _))
  go_wp2_with (go_at_call 8; refine HH4.out.mono ?_; rintro e w5 ⟨rfl, hw5⟩; have hw5' := hw5.symm; subst hw5'; clear hw5; refine Hid.out ?_)
  refine hidw ?_
  have HI4 := hideIt (HI.out w4 (bupN HB1.out HB4.out))
  clear HH4
  go_wp2_with (go_at_call 5; refine HI4.out.mono ?_; rintro e w6 ⟨a6, c6, rfl, o6, b6⟩; refine Hid.out ?_)
  refine hidw ?_
  have HB6 : Hid (Below w1.heap.size w1 w6) := HB4.out.trans (b6.mono HB4.out.size)
  have HE6 := hideIt (eqEventS_same n (evF E) a6 a0 c6 c0 (by omega) w6 (Eq9.of_own o6 HF.out) ((HV.out w6 HB6.out).wide HB6.out.size))
  have HB46 := hideIt b6
  clear o6 b6 HI4
  go_wp2_with (go_at_call 6; refine HE6.out.mono ?_; rintro e w7 ⟨rfl, b7⟩; refine Hid.out ?_)
  refine hidw ?_
  have HH7 := hideIt (HQ.out w7 (bupN HB46.out b7))
  have HB7 : Hid (Below w.heap.size w w7) := bupN HB1.out (HB6.out.trans (b7.mono HB6.out.size))
  clear b7 HE6
  go_wp2_with (go_at_call 8; refine HH7.out.mono ?_; rintro e w8 ⟨rfl, hw8⟩; have hw8' := hw8.symm; subst hw8'; clear hw8)
  go_ret
  exact ⟨rfl, HB7.out⟩
theorem fnExactReadScript.walk (s : ByteArray) (_hs : s.size ≤ maxLen) (w : World) (htab : Lib.TabIs Tryd.prog w "strings.asciiSpace" .u8 Lib.asciiSpaceTab) :
    Calls Tryd.prog 3 #[.string s] w fun e w' => e = .returned (.bool true) ∧ Below w.heap.size w w' := by
  by_cases hb : s.size ≤ 1048576
  · have HT := Lib.tabBelow_of_tabIs htab
    exact rs_law s hb _ _ _ _ _ rfl (rs_le _) w ((sRs_any s w).mono fun _ _ h => rs_a h) (fun u hu => (iRs_any s u (HT u hu)).mono fun _ _ h => rs_a h)
  · have db : decide ((1048576 : Int) < (s.size : Int)) = true := decide_eq_true (by omega)
    go_enter Tryd.func3, Tryd.ntmps3
    go_wp2
    go_ret
    exact ⟨rfl, Below.refl _ _⟩
end Go.Proofs.YtgdlpmmbeacejaaDoor
