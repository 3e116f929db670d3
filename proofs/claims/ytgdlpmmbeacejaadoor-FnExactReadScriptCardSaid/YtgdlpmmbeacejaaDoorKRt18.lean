/- strings.HasPrefix with '#'. The program's readLine. The program's ReadScript where the text or its lines are too many. The program's ReadScript. -/
import Derived.Test.YtgdlpmmbeacejaaDoorKRe18
namespace Go.Proofs.YtgdlpmmbeacejaaDoor
open Go.RowKit C

theorem pre35 (x : ByteArray) (hx : 0 < x.size) : ((x.extract 0 1).toList == [35]) = decide (x.data.toList.head? = some 35) := by
  have e : (x.extract 0 1).toList = x.data.toList.take 1 := by
    rw [Lib.toList_data]
    simp [ByteArray.data_extract]
  rw [e]
  cases h : x.data.toList with
  | nil =>
    have : x.data.toList.length = 0 := by rw [h]; rfl
    have h2 : x.size = x.data.toList.length := by simp
    omega
  | cons a l =>
    show (List.take 1 (a :: l) == [35]) = decide (some a = some 35)
    rw [List.take_succ_cons, List.take_zero]
    by_cases h1 : a = 35 <;> simp [h1]
set_option maxRecDepth 100000 in
set_option maxHeartbeats 4000000 in
theorem hasp_any (x : ByteArray) (hx : 0 < x.size) (b : Bool) (hb : decide (x.data.toList.head? = some 35) = b) (u : World) : Calls Tryd.prog 29 #[.string x, .string (⟨#[35]⟩ : ByteArray)] u fun e u' => e = .returned (.bool b) ∧ Below u.heap.size u u' := by
  have d0 : decide ((1 : Int) ≤ (x.size : Int)) = true := by simp; omega
  have d1 : decide ((x.size : Int) < 1) = false := by simp; omega
  have hp : ((x.extract 0 1).toList == [35]) = b := by rw [pre35 x hx]; exact hb
  go_enter Tryd.func29, Tryd.ntmps29
  go_wp2
  go_ret
  exact ⟨rfl, Below.refl _ _⟩
end Go.Proofs.YtgdlpmmbeacejaaDoor
namespace Go.Proofs.YtgdlpmmbeacejaaDoor
open Go.RowKit C

/-- WHERE THE PROGRAM's SCRIPT STANDS -/
def SL (lo bS M : Nat) (st : Sst) (u : World) : Prop := ∃ aE nE cE, BxA u bS 63 #[.map (some M), .int .i64 (st.n : Int), .int .i64 (st.sh : Int), .slice aE nE cE] ∧
  u.ownsRow lo 57 9 (.slice aE nE cE) nE (evc st.evs) ∧ st.evs.length = nE ∧ nE ≤ 70
theorem SL.up {lo bS M : Nat} {st : Sst} {u u' : World} (h : SL lo bS M st u) (hb : Below u.heap.size u u') : SL lo bS M st u' := by
  obtain ⟨aE, nE, cE, h1, h2, h3⟩ := h
  exact ⟨aE, nE, cE, h1.up hb, own_up h2 hb, h3⟩
/-- what readLine answers -/
def RlOut (lo bS M : Nat) (st : Sst) (l : List UInt8) (u : World) (e : Ending) (u' : World) : Prop :=
  (stepL st l = none ∧ e = .returned (.bool false) ∧ Below lo u u') ∨
  ∃ st', stepL st l = some st' ∧ e = .returned (.bool true) ∧ SL lo bS M st' u' ∧ Below lo u u'
set_option maxRecDepth 100000 in
set_option maxHeartbeats 16000000 in
theorem iLine_any (lo bS M : Nat) (D : DataW Unit) (st : Sst) (l : List UInt8) (u : World) (hlo : lo ≤ u.heap.size) (hbS : lo ≤ bS) (hS : SL lo bS M st u) (hT : TW u M D 10)
    (ht : Lib.TabIs Tryd.prog u "strings.asciiSpace" .u8 Lib.asciiSpaceTab) :
    Calls Tryd.prog 16 #[.pointer (some ⟨bS, 0, none⟩), .string (Words.mkB l)] u (RlOut lo bS M st l u) := by
  have HS := hideIt hS
  have HT := hideIt hT
  have Hlo := hideIt hlo
  have HbS := hideIt hbS
  have HI := hideIt (C.iPartsOf_any (Words.mkB l) u ht)
  clear hS hT hlo hbS ht
  cases hp : Words.poR l with
  | none =>
    have HF : Hid (stepL st l = none) := by show _ = _; simp only [stepL, hp, Option.bind_none]
    have HPo := hideIt (HI.out.mono fun e u' h => pt_none hp h)
    clear hp HI
    go_enter Tryd.func16, Tryd.ntmps16
    go_wp2_with (go_at_call 28; refine HPo.out.mono ?_; rintro e w5 ⟨a5, c5, rfl, b5⟩; refine Hid.out ?_)
    refine hidw ?_
    have HB := hideIt b5
    clear b5
    go_wp2
    go_ret
    exact .inl ⟨HF.out, rfl, HB.out.mono Hlo.out⟩
  | some ps =>
    cases ps with
    | nil =>
      have HF : Hid (stepL st l = some st) := by show _ = _; simp only [stepL, hp, Option.bind_some, stepP]
      have HPo := hideIt (HI.out.mono fun e u' h => pt_nil hp h)
      clear hp HI
      go_enter Tryd.func16, Tryd.ntmps16
      go_wp2_with (go_at_call 28; refine HPo.out.mono ?_; rintro e w5 ⟨a5, c5, rfl, b5⟩; refine Hid.out ?_)
      refine hidw ?_
      have HB := hideIt b5
      clear b5
      go_wp2
      go_ret
      exact .inr ⟨st, HF.out, rfl, HS.out.up HB.out, HB.out.mono Hlo.out⟩
    | cons x r =>
      obtain ⟨m, hm⟩ : ∃ m, r.length = m := ⟨_, rfl⟩
      obtain ⟨hq1, hq2⟩ := poR_mem hp
      have hm9 : m ≤ 9 := by simp at hq1; omega
      have hz : ∀ z ∈ x :: r, z.size ≤ 1000 := fun z hz' => by have := (hq2 z hz').2; omega
      have hx0 : 0 < x.size := (hq2 x (by simp)).1
      have HPo := hideIt (HI.out.mono fun e u' h => pt_some hp (n := m + 1) (by simp [hm]) (by omega) h)
      have HSt : Hid (stepL st l = stepP st (x :: r)) := by show _ = _; simp only [stepL, hp, Option.bind_some]
      obtain ⟨b, hb⟩ : ∃ b, decide (x.data.toList.head? = some 35) = b := ⟨_, rfl⟩
      have HHp := hideIt (fun u => hasp_any x hx0 b hb u)
      have Hb := hideIt hb
      have Hm := hideIt hm
      have Hm9 := hideIt hm9
      have Hz := hideIt hz
      have d0 : ((m : Int) + 1 == 0) = false := by simp; omega
      have j0 : (0 : Int) < (m : Int) + 1 := by omega
      clear hp HI hb hm hz hx0 hq1 hq2 hm9
      go_enter Tryd.func16, Tryd.ntmps16
      go_wp2_with (go_at_call 28; refine HPo.out.mono ?_; rintro e w5 ⟨g5, c5, rfl, hcap, hv5, b5⟩; refine Hid.out ?_)
      refine hidw ?_
      have HB5 := hideIt b5
      have x0 := hv5.at0
      have Hv5 := hideIt hv5
      have Hcap := hideIt hcap
      clear HPo b5 hv5 hcap
      go_wp2_with (go_at_call 29; refine (HHp.out _).mono ?_; rintro e w6 ⟨rfl, b6⟩; refine Hid.out ?_)
      refine hidw ?_
      have HB6 : Hid (Below u.heap.size u w6) := HB5.out.trans (b6.mono HB5.out.size)
      have HS6 := hideIt (HS.out.up HB6.out)
      have HT6 := hideIt (HT.out.up HB6.out)
      have Hv6 := hideIt (Hv5.out.up b6)
      clear b6 HB5 HT Hv5 x0
      cases b with
      | true =>
        have HF : Hid (stepL st l = some st) := by
          show _ = _
          rw [HSt.out]
          simp only [stepP, of_decide_eq_true Hb.out, if_true]
        go_wp2
        go_ret
        exact .inr ⟨st, HF.out, rfl, HS6.out, HB6.out.mono Hlo.out⟩
      | false =>
        have Hh := hideIt (of_decide_eq_false Hb.out)
        obtain ⟨aE, nE, cE, hX, hO, hE⟩ := HS6.out
        have HX := hideIt hX
        have HO := hideIt hO
        have HE := hideIt hE
        have c1 := hX.cell 1 rfl
        have Hlo6 : Hid (lo ≤ w6.heap.size) := Nat.le_trans Hlo.out HB6.out.size
        clear hX hO hE
        by_cases hn0 : st.n = 0
        · have e0 : ((st.n : Int) == 0) = true := by simp; exact hn0
          have HC := hideIt (iWeb_any x r m Hm.out (by have := Hm9.out; omega) Hz.out g5 c5 Hcap.out w6 Hv6.out bS M _ _ aE nE cE HX.out)
          have HSt2 : Hid (stepL st l = (webR (x :: r)).map fun p => ⟨p.1, p.2, st.evs⟩) := by
            show _ = _
            rw [HSt.out]
            simp only [stepP, if_neg Hh.out, if_pos hn0]
          clear hn0
          go_wp2_with (go_at_call 30; refine HC.out.mono ?_; rintro e w7 h7; rcases h7 with ⟨hw, rfl, b7⟩ | ⟨xa, xb, hw, rfl, hX7, hg7⟩ <;> refine Hid.out ?_)
          · refine hidw ?_
            have HF : Hid (stepL st l = none) := by show _ = _; rw [HSt2.out, hw]; rfl
            have HB7 : Hid (Below lo u w7) := (HB6.out.trans (b7.mono HB6.out.size)).mono Hlo.out
            clear hw b7
            go_wp2
            go_ret
            exact .inl ⟨HF.out, rfl, HB7.out⟩
          · refine hidw ?_
            have HF : Hid (stepL st l = some ⟨xa, xb, st.evs⟩) := by show _ = _; rw [HSt2.out, hw]; rfl
            have HB7 : Hid (Below lo u w7) := (HB6.out.mono Hlo.out).grown hg7 Hlo6.out (fun j hj => by cases hj; exact HbS.out)
            have HS7 : Hid (SL lo bS M ⟨xa, xb, st.evs⟩ w7) := ⟨aE, nE, cE, hX7, World.ownsRow.kept HO.out hg7 (.inr (fun e => rowBx HO.out HX.out (by decide) e)), HE.out⟩
            clear hw hX7 hg7
            go_wp2
            go_ret
            exact .inr ⟨_, HF.out, rfl, HS7.out, HB7.out⟩
        · have e0 : ((st.n : Int) == 0) = false := by simp; exact hn0
          have HC := hideIt (iEvent_any x r m Hm.out (by have := Hm9.out; omega) Hz.out g5 c5 Hcap.out w6 Hv6.out lo bS M D _ st.sh aE nE cE st.evs HX.out HT6.out Hlo6.out HbS.out HE.out HO.out)
          have HSt2 : Hid (stepL st l = match evC (st.sh : Int) (x :: r) with
              | none => none
              | some e => if st.evs.length = 70 then none else some ⟨st.n, st.sh, st.evs ++ [e]⟩) := by
            show _ = _
            rw [HSt.out]
            simp only [stepP, if_neg Hh.out, if_neg hn0]
            cases evC (st.sh : Int) (x :: r) <;> rfl
          clear hn0
          go_wp2_with (go_at_call 31; refine HC.out.mono ?_; rintro e w7 h7; rcases h7 with ⟨hw, rfl, b7⟩ | ⟨v, g8, c8, hw, hn, rfl, hX7, hO7, b7⟩ <;> refine Hid.out ?_)
          · refine hidw ?_
            have HF : Hid (stepL st l = none) := by
              show _ = _
              rw [HSt2.out]
              rcases hw with hw | hw
              · rw [hw]
              · cases evC (st.sh : Int) (x :: r) with
                | none => rfl
                | some e => exact if_pos (by rw [HE.out.1]; exact hw)
            have HB7 : Hid (Below lo u w7) := (HB6.out.trans (b7.mono HB6.out.size)).mono Hlo.out
            clear hw b7
            go_wp2
            go_ret
            exact .inl ⟨HF.out, rfl, HB7.out⟩
          · refine hidw ?_
            have HF : Hid (stepL st l = some ⟨st.n, st.sh, st.evs ++ [v]⟩) := by
              show _ = _
              rw [HSt2.out, hw]
              exact if_neg (by rw [HE.out.1]; exact hn)
            have HB7 : Hid (Below lo u w7) := (HB6.out.mono Hlo.out).trans b7
            have HS7 : Hid (SL lo bS M ⟨st.n, st.sh, st.evs ++ [v]⟩ w7) := ⟨_, nE + 1, c8, hX7, hO7, by rw [List.length_append, HE.out.1]; rfl, by have := HE.out.2; omega⟩
            clear hw hn hX7 hO7 b7
            go_wp2
            go_ret
            exact .inr ⟨_, HF.out, rfl, HS7.out, HB7.out⟩
end Go.Proofs.YtgdlpmmbeacejaaDoor
namespace Go.Proofs.YtgdlpmmbeacejaaDoor
open Go.RowKit C

/-- a fault: no event -/
theorem rs_nil {l : List UInt8} {f : Int} (h : rsR l = (⟨0, 0, []⟩, f)) {w w' : World} (hb : Below w.heap.size w w') :
    RsOut l w (.returned (.tuple #[.int .i64 0, .int .i64 0, .slice none 0 0, .int .i64 f])) w' := rs_out (st := ⟨0, 0, []⟩) h rfl (World.ownsRow_nil _ _ _ _) hb
set_option maxRecDepth 100000 in
set_option maxHeartbeats 4000000 in
theorem iRs_long (s : ByteArray) (hs : 4000 < s.size) (w : World) : Calls Tryd.prog 5 #[.string s] w (RsOut s.data.toList w) := by
  have d0 : decide ((4000 : Int) < (s.size : Int)) = true := by simp; omega
  have HR := hideIt (rs_long (l := s.data.toList) (.inl (by simpa using hs)))
  have HO := hideIt (rs_nil HR.out (Below.refl w.heap.size w))
  go_enter Tryd.func5, Tryd.ntmps5
  go_wp2
  exact bodyPost_ret (v := .tuple #[.int .i64 0, .int .i64 0, .slice none 0 0, .int .i64 (-1)]) (by simp [results, Tryd.results5, go_sem]) rfl (HO.out)
set_option maxRecDepth 100000 in
set_option maxHeartbeats 4000000 in
theorem iRs_many (s : ByteArray) (hs : s.size ≤ 4000) (h100 : 100 < (Lines.lns s.data.toList).length) (w : World) : Calls Tryd.prog 5 #[.string s] w (RsOut s.data.toList w) := by
  obtain ⟨nL, hnL⟩ : ∃ nL, (Lines.lns s.data.toList).length = nL := ⟨_, rfl⟩
  have d0 : decide ((4000 : Int) < (s.size : Int)) = false := by simp; omega
  have d1 : decide ((100 : Int) < (nL : Int)) = true := by simp; omega
  have HR := hideIt (rs_long (l := s.data.toList) (.inr h100))
  have HL := hideIt (fun u => (C.iLines_any s hs u).mono fun e u' h => ln_at hnL h)
  clear hnL h100
  go_enter Tryd.func5, Tryd.ntmps5
  go_wp2_with (go_at_call 14; refine (HL.out _).mono ?_; rintro e w2 ⟨g2, c2, rfl, _, _, b2⟩; refine Hid.out ?_)
  refine hidw ?_
  have HO := hideIt (rs_nil HR.out b2)
  clear b2
  go_wp2
  exact bodyPost_ret (v := .tuple #[.int .i64 0, .int .i64 0, .slice none 0 0, .int .i64 (-1)]) (by simp [results, Tryd.results5, go_sem]) rfl (HO.out)
end Go.Proofs.YtgdlpmmbeacejaaDoor
namespace Go.Proofs.YtgdlpmmbeacejaaDoor
open Go.RowKit C

set_option maxRecDepth 100000 in
set_option maxHeartbeats 16000000 in
theorem iRs_short (s : ByteArray) (hs : s.size ≤ 4000) (h100 : (Lines.lns s.data.toList).length ≤ 100) (w : World) (ht : Lib.TabIs Tryd.prog w "strings.asciiSpace" .u8 Lib.asciiSpaceTab) : Calls Tryd.prog 5 #[.string s] w (RsOut s.data.toList w) := by
  obtain ⟨nL, hnL⟩ : ∃ nL, (Lines.lns s.data.toList).length = nL := ⟨_, rfl⟩
  have d0 : decide ((4000 : Int) < (s.size : Int)) = false := by simp; omega
  have d1 : decide ((100 : Int) < (nL : Int)) = false := by simp; omega
  have HNl : Hid (¬ (4000 < s.data.toList.length ∨ 100 < (Lines.lns s.data.toList).length)) := by show ¬ _; simp; omega
  have HL := hideIt (fun u => (C.iLines_any s hs u).mono fun e u' h => ln_at hnL h)
  have HnL := hideIt hnL
  have Htb := hideIt (Lib.tabBelow_of_tabIs ht)
  have hn100 : nL ≤ 100 := by omega
  clear hnL h100 ht
  go_enter Tryd.func5, Tryd.ntmps5
  go_wp2_with (go_at_call 14; refine (HL.out _).mono ?_; rintro e w2 ⟨gL, cLs, rfl, lgL, hlin, b2⟩; refine Hid.out ?_)
  refine hidw ?_
  have HB2 := hideIt b2
  have HLin := hideIt hlin
  have HlgL := hideIt lgL
  clear b2 hlin lgL HL
  go_wp2_with (go_at_call 15; refine (eventWords_any _).mono ?_; rintro e w3 ⟨D, rfl, hT, b3⟩; refine Hid.out ?_)
  refine hidw ?_
  have HT := hideIt hT
  have HB3 := hideIt b3
  clear hT b3
  go_upto_region 7 with fail
  obtain ⟨W, hW⟩ : ∃ W, W = w3.alloc (.cells #[.map (some w2.heap.size), .int .i64 0, .int .i64 0, .slice none 0 0] 63) := ⟨_, rfl⟩
  have hX0 : BxA W w3.heap.size 63 #[.map (some w2.heap.size), .int .i64 0, .int .i64 0, .slice none 0 0] := by rw [hW]; exact BxA.new _ _ _
  have HB0 : Hid (Below w3.heap.size w3 W) := by show Below _ _ _; rw [hW]; exact belA _ _
  rw [← hW]
  clear hW
  obtain ⟨bS, hbS⟩ : ∃ bS, bS = w3.heap.size := ⟨_, rfl⟩
  obtain ⟨M, hM⟩ : ∃ M, M = w2.heap.size := ⟨_, rfl⟩
  have HS0 : Hid (SL bS bS M ⟨0, 0, []⟩ W) := ⟨none, 0, 0, by rw [hbS, hM]; exact hX0, World.ownsRow_nil _ _ _ _, rfl, by omega⟩
  have HBs : Hid (bS = w3.heap.size) := hbS
  rw [← hbS] at HB0 ⊢
  rw [← hM] at HT ⊢
  clear hX0 hbS hM
  go_wp2
  go_loopw [8, 9, 22] (fun _ _ i_ wr => ∃ (k : Nat) (st : Sst), k ≤ nL ∧ i_ = .int .i64 (k : Int) ∧ Hid (Rn (Lines.lns s.data.toList) k st) ∧ Hid (SL bS bS M st wr) ∧ Hid (Below bS w3 wr)) (fun _ _ i_ _ => nL - (intOf i_).toNat)
  case atStart => exact ⟨0, ⟨0, 0, []⟩, by omega, rfl, Rn.start _, HS0, HB0⟩
  case round =>
    obtain ⟨k, st, hk, rfl, hRn, HSL, hbl⟩ := hrel
    clear HB0 HS0
    have HBl3 : Hid (Below w3.heap.size w3 wr) := by show Below _ _ _; rw [← HBs.out]; exact hbl.out
    have HBw : Hid (Below w.heap.size w wr) := HB2.out.trans ((HB3.out.trans (HBl3.out.mono HB3.out.size)).mono HB2.out.size)
    by_cases hlt : k < nL
    · have hkL : k < (Lines.lns s.data.toList).length := by rw [HnL.out]; exact hlt
      have b1 : (0 : Int) ≤ (k : Int) := by omega
      have b2 : (k : Int) < (nL : Int) := by omega
      have b3 : decide ((k : Int) < (nL : Int)) = true := decide_eq_true b2
      obtain ⟨l, hl⟩ : ∃ l, l = (Lines.lns s.data.toList)[k] := ⟨_, rfl⟩
      have cL : wr.cell? ⟨gL, k, none⟩ = some (.string (Words.mkB l)) := by
        rw [HBl3.out.cell (Nat.lt_of_lt_of_le HlgL.out HB3.out.size), HB3.out.cell HlgL.out]
        exact HLin.out k l (by rw [hl]; exact List.getElem?_eq_getElem hkL)
      have HLi := hideIt (iLine_any bS bS M D st l wr (by rw [HBs.out]; exact HBl3.out.size) (Nat.le_refl _) HSL.out (HT.out.up HBl3.out) (Htb.out wr HBw.out))
      have Hl : Hid (∃ h : k < (Lines.lns s.data.toList).length, l = (Lines.lns s.data.toList)[k]) := ⟨hkL, hl⟩
      clear hl
      clear hkL
      go_wp2_with (go_at_call 16; refine HLi.out.mono ?_; rintro e w5 h5; rcases h5 with ⟨hst, rfl, b5⟩ | ⟨st', hst, rfl, hS5, b5⟩ <;> refine Hid.out ?_)
      · refine hidw ?_
        have HF : Hid (rsR s.data.toList = (⟨0, 0, []⟩, ((k : Int) + 1))) := by
          obtain ⟨hkL, hl⟩ := Hl.out
          exact rs_fault HNl.out hRn.out hkL (by rw [← hl]; exact hst)
        have HBe : Hid (Below w.heap.size w w5) := HBw.out.trans (b5.mono (by rw [HBs.out]; exact Nat.le_trans HB2.out.size HB3.out.size))
        have hw1 : IntKind.i64.wrap ((k : Int) + 1) = (k : Int) + 1 := by rw [IntKind.wrap_i64]; omega
        clear hst b5 hRn
        go_wp2
        exact bodyPost_ret (v := .tuple #[.int .i64 0, .int .i64 0, .slice none 0 0, .int .i64 ((k : Int) + 1)]) (by simp [results, Tryd.results5, go_sem]) rfl (rs_nil HF.out HBe.out)
      · refine hidw ?_
        have HR2 : Hid (Rn (Lines.lns s.data.toList) (k + 1) st') := by
          obtain ⟨hkL, hl⟩ := Hl.out
          exact hRn.out.more hkL (by rw [← hl]; exact hst)
        have HS5 := hideIt hS5
        have HB5 : Hid (Below bS w3 w5) := hbl.out.trans b5
        clear hst b5 hRn hS5
        go_wp2
        exact ⟨⟨k + 1, st', by omega, by go_num, HR2, HS5, HB5⟩, by simp [intOf]; omega⟩
    · have b3 : decide ((k : Int) < (nL : Int)) = false := decide_eq_false (by omega)
      have b4 : ¬ (k : Int) < (nL : Int) := by omega
      have hkL : ¬ k < (Lines.lns s.data.toList).length := by rw [HnL.out]; omega
      obtain ⟨aE, nE, cE, hX, hO, hE⟩ := HSL.out
      have HO : Hid (wr.ownsRow w.heap.size 57 9 (.slice aE nE cE) nE (evc st.evs)) := own_mono hO (by rw [HBs.out]; exact Nat.le_trans HB2.out.size HB3.out.size)
      have HE := hideIt hE
      have c1 := hX.cell 1 rfl
      have c2 := hX.cell 2 rfl
      have c3 := hX.cell 3 rfl
      have HX := hideIt hX
      clear hX hO hE HSL
      by_cases hn0 : st.n = 0
      · have e0 : ((st.n : Int) == 0) = true := by simp; exact hn0
        have HF := hideIt (rs_noweb HNl.out hRn.out hkL hn0)
        clear hRn hbl hn0
        go_wp2
        exact bodyPost_ret (v := .tuple #[.int .i64 0, .int .i64 0, .slice none 0 0, .int .i64 1]) (by simp [results, Tryd.results5, go_sem]) rfl (rs_nil HF.out HBw.out)
      · have e0 : ((st.n : Int) == 0) = false := by simp; exact hn0
        have HF := hideIt (rs_done HNl.out hRn.out hkL hn0)
        clear hRn hbl hn0
        go_upto_region 15 with fail
        refine wp_region_held_drew (S := fun u => BxA u bS 63 #[.map (some M), .int .i64 (st.n : Int), .int .i64 (st.sh : Int), .slice aE nE cE]) (by kernel_rfl) (HX.out.up (Below.refl wr.heap.size wr).drew) (fun hHeld => ?_)
        refine wpAnyH_take (i := 0) (v := ?_) rfl (by kernel_rfl) (by kernel_rfl) (by kernel_rfl) (fun _ _ _ h => h) (Or.inl ⟨by rfl, ?_⟩) (by assumption) ?_
        rotate_left
        · intro w hSw; (try dsimp only at hSw); go_simp; try with_reducible rfl
        try simp only [Act.put, List.getElem_toArray, List.getElem_cons_zero, List.setIfInBounds_toArray, List.set_cons_zero, List.set_cons_succ]
        refine wpAnyH_take (i := 1) (v := ?_) rfl (by kernel_rfl) (by kernel_rfl) (by kernel_rfl) (fun _ _ _ h => h) (Or.inl ⟨by rfl, ?_⟩) (by assumption) ?_
        rotate_left
        · intro w hSw; have hq := BxA.cell hSw 1 rfl; clear hSw; go_simp; try with_reducible rfl
        try simp only [Act.put, List.getElem_toArray, List.getElem_cons_succ, List.getElem_cons_zero, List.setIfInBounds_toArray, List.set_cons_zero, List.set_cons_succ]
        refine wpAnyH_take (i := 2) (v := ?_) rfl (by kernel_rfl) (by kernel_rfl) (by kernel_rfl) (fun _ _ _ h => h) (Or.inl ⟨by rfl, ?_⟩) (by assumption) ?_
        rotate_left
        · intro w hSw; (try dsimp only at hSw); go_simp; try with_reducible rfl
        try simp only [Act.put, List.getElem_toArray, List.getElem_cons_succ, List.getElem_cons_zero, List.setIfInBounds_toArray, List.set_cons_zero, List.set_cons_succ]
        refine wpAnyH_take (i := 3) (v := ?_) rfl (by kernel_rfl) (by kernel_rfl) (by kernel_rfl) (fun _ _ _ h => h) (Or.inl ⟨by rfl, ?_⟩) (by assumption) ?_
        rotate_left
        · intro w hSw; have hq := BxA.cell hSw 2 rfl; clear hSw; go_simp; try with_reducible rfl
        try simp only [Act.put, List.getElem_toArray, List.getElem_cons_succ, List.getElem_cons_zero, List.setIfInBounds_toArray, List.set_cons_zero, List.set_cons_succ]
        refine wpAnyH_take (i := 4) (v := ?_) rfl (by kernel_rfl) (by kernel_rfl) (by kernel_rfl) (fun _ _ _ h => h) (Or.inl ⟨by rfl, ?_⟩) (by assumption) ?_
        rotate_left
        · intro w hSw; (try dsimp only at hSw); go_simp; try with_reducible rfl
        try simp only [Act.put, List.getElem_toArray, List.getElem_cons_succ, List.getElem_cons_zero, List.setIfInBounds_toArray, List.set_cons_zero, List.set_cons_succ]
        refine wpAnyH_take (i := 5) (v := ?_) rfl (by kernel_rfl) (by kernel_rfl) (by kernel_rfl) (fun _ _ _ h => h) (Or.inl ⟨by rfl, ?_⟩) (by assumption) ?_
        rotate_left
        · intro w hSw; have hq := BxA.cell hSw 3 rfl; clear hSw; go_simp; try with_reducible rfl
        try simp only [Act.put, List.getElem_toArray, List.getElem_cons_succ, List.getElem_cons_zero, List.setIfInBounds_toArray, List.set_cons_zero, List.set_cons_succ]
        refine wpAnyH_take (i := 6) (v := ?_) rfl (by kernel_rfl) (by kernel_rfl) (by kernel_rfl) (fun _ _ _ h => h) (Or.inl ⟨by rfl, ?_⟩) (by assumption) ?_
        rotate_left
        · intro w hSw; (try dsimp only at hSw); go_simp; try with_reducible rfl
        try simp only [Act.put, List.getElem_toArray, List.getElem_cons_succ, List.getElem_cons_zero, List.setIfInBounds_toArray, List.set_cons_zero, List.set_cons_succ]
        refine wpAnyH_take (i := 7) (v := ?_) rfl (by kernel_rfl) (by kernel_rfl) (by kernel_rfl) (fun _ _ _ h => h) (Or.inl ⟨by rfl, ?_⟩) (by assumption) ?_
        rotate_left
        · intro w hSw; (try dsimp only at hSw); go_simp; try with_reducible rfl
        try simp only [Act.put, List.getElem_toArray, List.getElem_cons_succ, List.getElem_cons_zero, List.setIfInBounds_toArray, List.set_cons_zero, List.set_cons_succ]
        refine wpAnyH_take (i := 8) (v := ?_) rfl (by kernel_rfl) (by kernel_rfl) (by kernel_rfl) (fun _ _ _ h => h) (Or.inl ⟨by rfl, ?_⟩) (by assumption) ?_
        rotate_left
        · intro w hSw; (try dsimp only at hSw); go_simp; try with_reducible rfl
        try simp only [Act.put, List.getElem_toArray, List.getElem_cons_succ, List.getElem_cons_zero, List.setIfInBounds_toArray, List.set_cons_zero, List.set_cons_succ]
        refine wpAnyH_take (i := 9) (v := ?_) rfl (by kernel_rfl) (by kernel_rfl) (by kernel_rfl) (fun _ _ _ h => h) (Or.inl ⟨by rfl, ?_⟩) (by assumption) ?_
        rotate_left
        · intro w hSw; (try dsimp only at hSw); go_simp; try with_reducible rfl
        try simp only [Act.put, List.getElem_toArray, List.getElem_cons_succ, List.getElem_cons_zero, List.setIfInBounds_toArray, List.set_cons_zero, List.set_cons_succ]
        refine wpAnyH_done (by kernel_rfl) ?_ _
        clear hHeld
        have HBd : Hid (Below w.heap.size w wr.drew) := HBw.out.drew
        have HOd : Hid (wr.drew.ownsRow w.heap.size 57 9 (.slice aE nE cE) nE (evc st.evs)) := own_up HO.out (Below.refl wr.heap.size wr).drew
        go_wp2
        exact bodyPost_ret (v := .tuple #[.int .i64 (st.n : Int), .int .i64 (st.sh : Int), .slice aE nE cE, .int .i64 0]) (by simp [results, Tryd.results5, go_sem]) rfl (rs_out HF.out HE.out.1 HOd.out HBd.out)
theorem iRs_any (s : ByteArray) (w : World) (ht : Lib.TabIs Tryd.prog w "strings.asciiSpace" .u8 Lib.asciiSpaceTab) : Calls Tryd.prog 5 #[.string s] w (RsOut s.data.toList w) := by
  by_cases h : s.size ≤ 4000
  · by_cases h1 : (Lines.lns s.data.toList).length ≤ 100
    · exact iRs_short s h h1 w ht
    · exact iRs_many s h (by omega) w
  · exact iRs_long s (by omega) w
end Go.Proofs.YtgdlpmmbeacejaaDoor
