/- The specification's ReadScript. -/
import Derived.Test.YtgdlpmmbeacejaaDoorKPt18
namespace Go.Proofs.YtgdlpmmbeacejaaDoor
open Go.RowKit C

theorem head35 (x : ByteArray) (h : 0 < x.size) : x.data.toList.head? = some 35 ↔ (x[0]).toNat = 35 := by
  have e : x.data.toList.head? = some x[0] := by
    rw [List.head?_eq_getElem?, List.getElem?_eq_getElem (by simpa using h)]
    rfl
  rw [e]
  constructor
  · intro h1
    rw [Option.some.inj h1]
    rfl
  · intro h1
    congr 1
    exact UInt8.toNat_inj.1 h1
theorem own_noEv (w : World) (B : Nat) (h : B ≤ w.heap.size) : (w.alloc (.cells #[] 57)).ownsRow B 57 9 (.slice (some ⟨w.heap.size, 0, none⟩) 0 0) 0 (evc []) := World.ownsRow_made _ _ 0 h (by unfold maxLen; omega) rfl

theorem webR_no {x : ByteArray} {r : List ByteArray} (h : x ≠ webW) : webR (x :: r) = none := by
  unfold webR
  split
  · rfl
  · rename_i y r' hy
    obtain ⟨rfl, rfl⟩ : x = y ∧ r = r' := by simpa using hy
    split
    · rw [if_neg (fun hc => h hc.1)]
    · rfl
theorem webR_cnt {x : ByteArray} {r : List ByteArray} {ns : List Nat} (hn : nmO r = some ns) (h : ns.length ≠ 2) : webR (x :: r) = none := by
  simp only [webR, hn]
  split
  · rename_i a b hy
    have := Option.some.inj hy
    subst this
    simp at h
  · rfl
set_option maxRecDepth 100000 in
set_option maxHeartbeats 4000000 in
theorem sRs_long (s : ByteArray) (hs : 4000 < s.size) (w : World) : Calls Tryd.prog 4 #[.string s] w (RsOut s.data.toList w) := by
  have d0 : decide ((4000 : Int) < (s.size : Int)) = true := by simp; omega
  have HR := hideIt (rs_long (l := s.data.toList) (.inl (by simpa using hs)))
  have HO := hideIt (rs_out HR.out (w := w) rfl (own_noEv w w.heap.size (Nat.le_refl _)) (belA _ _))
  go_enter Tryd.func4, Tryd.ntmps4
  go_wp2
  exact bodyPost_ret (v := .tuple #[.int .i64 0, .int .i64 0, .slice (some ⟨w.heap.size, 0, none⟩) 0 0, .int .i64 (-1)]) (by simp [results, Tryd.results4, go_sem]) rfl (HO.out)

theorem ln_at {s : ByteArray} {nL : Nat} (hL : (Lines.lns s.data.toList).length = nL) {u u' : World} {e : Ending} (h : LnOut s u e u') : ∃ g c, e = .returned (.slice (some ⟨g, 0, none⟩) nL c) ∧ g < u'.heap.size ∧ (∀ (j : Nat) (x : List UInt8), (Lines.lns s.data.toList)[j]? = some x → u'.cell? ⟨g, j, none⟩ = some (.string (Words.mkB x))) ∧ Below u.heap.size u u' := by
  obtain ⟨g, n, c, he, hn, ho, hb⟩ := h
  obtain rfl : n = nL := by omega
  refine ⟨g, c, he, (ho.lt g rfl).2, fun j x hx => ?_, hb⟩
  have hj : j < (Lines.lns s.data.toList).length := (List.getElem?_eq_some_iff.1 hx).1
  rw [ho.cellAt j (by omega), wv, List.getElem?_map, List.getElem?_map, hx]
  rfl
set_option maxRecDepth 100000 in
set_option maxHeartbeats 4000000 in
theorem sRs_many (s : ByteArray) (hs : s.size ≤ 4000) (h100 : 100 < (Lines.lns s.data.toList).length) (w : World) : Calls Tryd.prog 4 #[.string s] w (RsOut s.data.toList w) := by
  obtain ⟨nL, hnL⟩ : ∃ nL, (Lines.lns s.data.toList).length = nL := ⟨_, rfl⟩
  have d0 : decide ((4000 : Int) < (s.size : Int)) = false := by simp; omega
  have d1 : decide ((100 : Int) < (nL : Int)) = true := by simp; omega
  have HR := hideIt (rs_long (l := s.data.toList) (.inr h100))
  have HEm := hideIt (own_noEv w w.heap.size (Nat.le_refl _))
  have HB1 := hideIt (belA w (.cells #[] 57))
  have HL := hideIt (fun u => (C.sLines_any s hs u).mono fun e u' h => ln_at hnL h)
  clear hnL h100
  go_enter Tryd.func4, Tryd.ntmps4
  go_wp2_with (go_at_call 9; refine (HL.out _).mono ?_; rintro e w2 ⟨g2, c2, rfl, _, _, b2⟩; refine Hid.out ?_)
  refine hidw ?_
  have HO := hideIt (rs_out HR.out (w := w) rfl (own_up HEm.out b2) (bupN HB1.out b2))
  clear b2
  go_wp2
  exact bodyPost_ret (v := .tuple #[.int .i64 0, .int .i64 0, .slice (some ⟨w.heap.size, 0, none⟩) 0 0, .int .i64 (-1)]) (by simp [results, Tryd.results4, go_sem]) rfl (HO.out)

set_option maxRecDepth 100000 in
set_option maxHeartbeats 16000000 in
theorem sRs_short (s : ByteArray) (hs : s.size ≤ 4000) (h100 : (Lines.lns s.data.toList).length ≤ 100) (w : World) : Calls Tryd.prog 4 #[.string s] w (RsOut s.data.toList w) := by
  obtain ⟨nL, hnL⟩ : ∃ nL, (Lines.lns s.data.toList).length = nL := ⟨_, rfl⟩
  obtain ⟨i0, hi, hz0, hz1, hz2⟩ := info_parts infoEv
  have d0 : decide ((4000 : Int) < (s.size : Int)) = false := by simp; omega
  have d1 : decide ((100 : Int) < (nL : Int)) = false := by simp; omega
  have HNl : Hid (¬ (4000 < s.data.toList.length ∨ 100 < (Lines.lns s.data.toList).length)) := by show ¬ _; simp; omega
  have HEm := hideIt (own_noEv w w.heap.size (Nat.le_refl _))
  have HB1 := hideIt (belA w (.cells #[] 57))
  have HL := hideIt (fun u => (C.sLines_any s hs u).mono fun e u' h => ln_at hnL h)
  have HnL := hideIt hnL
  have hn100 : nL ≤ 100 := by omega
  clear hnL h100
  go_enter Tryd.func4, Tryd.ntmps4
  go_wp2_with (go_at_call 9; refine (HL.out _).mono ?_; rintro e w2 ⟨g2, c2, rfl, _, _, b2⟩; refine Hid.out ?_)
  refine hidw ?_
  have HB2 := hideIt b2
  clear b2
  go_upto_region 4 with fail
  go_wp2_with (go_at_call 9; refine (HL.out _).mono ?_; rintro e W ⟨gL, cLs, rfl, lgL, hlin, b3⟩; refine Hid.out ?_)
  refine hidw ?_
  have HW1 : Hid (Below (w.alloc (.cells #[] 57)).heap.size (w.alloc (.cells #[] 57)) W) := HB2.out.trans (b3.mono HB2.out.size)
  have HLin := hideIt hlin
  have HlgL := hideIt lgL
  have HE0 : Hid ((W.alloc (.cells #[] 57)).ownsRow W.heap.size 57 9 (.slice (some ⟨W.heap.size, 0, none⟩) 0 0) 0 (evc [])) := own_noEv W W.heap.size (Nat.le_refl _)
  have HB0 : Hid (Below W.heap.size W (W.alloc (.cells #[] 57))) := belA _ _
  clear HB2 b3 hlin lgL HL
  go_wp2
  go_loopw [8, 9, 10, 11] (fun n_ sh_ out_ i_ wr => ∃ (k : Nat) (st : Sst) (aE : Option Addr) (nE cE : Nat), k ≤ nL ∧ i_ = .int .i64 (k : Int) ∧ n_ = .int .i64 (st.n : Int) ∧ sh_ = .int .i64 (st.sh : Int) ∧ out_ = .slice aE nE cE ∧ Hid (Rn (Lines.lns s.data.toList) k st) ∧ Hid (st.evs.length = nE ∧ nE ≤ 70) ∧ Hid (wr.ownsRow W.heap.size 57 9 (.slice aE nE cE) nE (evc st.evs)) ∧ Hid (Below W.heap.size W wr)) (fun _ _ _ i_ _ => nL - (intOf i_).toNat)
  case atStart => exact ⟨0, ⟨0, 0, []⟩, some ⟨W.heap.size, 0, none⟩, 0, 0, by omega, rfl, rfl, rfl, rfl, Rn.start _, ⟨rfl, by omega⟩, HE0, HB0⟩
  case round =>
    obtain ⟨k, st, aE, nE, cE, hk, rfl, rfl, rfl, rfl, hRn, HLn, HOw, hbl⟩ := hrel
    clear HE0 HB0
    by_cases hlt : k < nL
    · have hkL : k < (Lines.lns s.data.toList).length := by rw [HnL.out]; exact hlt
      have b1 : (0 : Int) ≤ (k : Int) := by omega
      have b2 : (k : Int) < (nL : Int) := by omega
      have b3 : decide ((k : Int) < (nL : Int)) = true := decide_eq_true b2
      obtain ⟨l, hl⟩ : ∃ l, l = (Lines.lns s.data.toList)[k] := ⟨_, rfl⟩
      have cL : wr.cell? ⟨gL, k, none⟩ = some (.string (Words.mkB l)) := by rw [hbl.out.cell HlgL.out]; exact HLin.out k l (by rw [hl]; exact List.getElem?_eq_getElem hkL)
      cases hp : Words.poR l with
      | none =>
        have HF : Hid (rsR s.data.toList = (⟨0, 0, []⟩, ((k : Int) + 1))) := rs_fault HNl.out hRn.out hkL (by rw [← hl]; simp only [stepL, hp, Option.bind_none])
        have HPo := hideIt ((C.sPartsOf_any (Words.mkB l) wr).mono fun e u' h => pt_none hp h)
        have HBl := hbl
        clear hRn hl hp hbl
        go_wp2_with (go_at_call 10; refine HPo.out.mono ?_; rintro e w5 ⟨a5, c5, rfl, b5⟩; refine Hid.out ?_)
        refine hidw ?_
        have b6 := hideIt (HBl.out.trans (b5.mono HBl.out.size))
        clear b5
        go_wp2
        exact bodyPost_ret (v := .tuple #[.int .i64 0, .int .i64 0, .slice (some ⟨w.heap.size, 0, none⟩) 0 0, .int .i64 ((k : Int) + 1)]) (by simp [results, Tryd.results4, go_sem]) rfl (rs_out (st := ⟨0, 0, []⟩) HF.out rfl (own_up HEm.out (HW1.out.trans (b6.out.mono HW1.out.size))) (bupN HB1.out (HW1.out.trans (b6.out.mono HW1.out.size))))
      | some ps => match ps, hp with
        | [], hp =>
          have HR2 : Hid (Rn (Lines.lns s.data.toList) (k + 1) st) := hRn.out.more hkL (by rw [← hl]; simp only [stepL, hp, Option.bind_some, stepP])
          have HPo := hideIt ((C.sPartsOf_any (Words.mkB l) wr).mono fun e u' h => pt_nil hp h)
          have HBl := hbl
          clear hRn hl hp hbl
          go_wp2_with (go_at_call 10; refine HPo.out.mono ?_; rintro e w5 ⟨a5, c5, rfl, b5⟩; refine Hid.out ?_)
          refine hidw ?_
          have b6 : Hid (Below W.heap.size W w5) := HBl.out.trans (b5.mono HBl.out.size)
          have o6 : Hid (w5.ownsRow W.heap.size 57 9 (.slice aE nE cE) nE (evc st.evs)) := own_up HOw.out b5
          clear b5 HBl HOw
          go_wp2
          exact ⟨⟨k + 1, st, aE, nE, cE, by omega, by go_num, rfl, rfl, rfl, HR2, HLn, o6, b6⟩, by simp [intOf]; omega⟩
        | x :: r, hp =>
          obtain ⟨m, hm⟩ : ∃ m, r.length = m := ⟨_, rfl⟩
          obtain ⟨hq1, hq2⟩ := poR_mem hp
          have hm9 : m ≤ 9 := by simp at hq1; omega
          have hz : ∀ z ∈ x :: r, z.size ≤ 1000 := fun z hz' => by have := (hq2 z hz').2; omega
          have hx0 : 0 < x.size := (hq2 x (by simp)).1
          have HPo := hideIt ((C.sPartsOf_any (Words.mkB l) wr).mono fun e u' h => pt_some hp (n := m + 1) (by simp [hm]) (by omega) h)
          have HSt : Hid (stepL st ((Lines.lns s.data.toList)[k]) = stepP st (x :: r)) := by show _ = _; rw [← hl]; simp only [stepL, hp, Option.bind_some]
          have Hm := hideIt hm
          have Hz := hideIt hz
          have Hx0 := hideIt hx0
          have HkL := hideIt hkL
          clear hm hz hx0 hp hl hq1 hq2
          go_wp2_with (go_at_call 10; refine HPo.out.mono ?_; rintro e w5 ⟨g5, c5, rfl, hcap, hv5, b5⟩; refine Hid.out ?_)
          refine hidw ?_
          have b6 : Hid (Below W.heap.size W w5) := hbl.out.trans (b5.mono hbl.out.size)
          have o6 : Hid (w5.ownsRow W.heap.size 57 9 (.slice aE nE cE) nE (evc st.evs)) := own_up HOw.out b5
          have x0 := hv5.at0
          have hx0 := Hx0.out
          have Hv5 := hideIt hv5
          have d0 : ((m : Int) + 1 == 0) = false := by simp; omega
          have j0 : (0 : Int) < (m : Int) + 1 := by omega
          clear HPo hbl HOw b5 cL hv5
          by_cases h35 : (x[0]).toNat = 35
          · have e35 : (((x[0]).toNat : Int) == 35) = true := by simp; omega
            have hh : x.data.toList.head? = some 35 := (head35 x hx0).2 h35
            have HR2 : Hid (Rn (Lines.lns s.data.toList) (k + 1) st) := hRn.out.more HkL.out (by rw [HSt.out]; simp only [stepP, hh, if_true])
            clear hRn hh
            go_wp2
            exact ⟨⟨k + 1, st, aE, nE, cE, by omega, by go_num, rfl, rfl, rfl, HR2, HLn, o6, b6⟩, by simp [intOf]; omega⟩
          · have e35 : (((x[0]).toNat : Int) == 35) = false := by simp; omega
            have hh : ¬ x.data.toList.head? = some 35 := fun e => h35 ((head35 x hx0).1 e)
            by_cases hn0 : st.n = 0
            · have e0 : ((st.n : Int) == 0) = true := by simp; exact hn0
              obtain ⟨a2, c2, hs2, ha2, hl2, hu2⟩ := slice1 g5 0 (m + 1) c5 m rfl hcap
              have HNm : Hid (Calls Tryd.prog 11 #[.slice a2 m c2] w5 (NmOut r w5)) := sNums_any r m Hm.out (by omega) (fun z hz' => Hz.out z (by simp [hz'])) a2 c2 w5 (by
                by_cases h0 : 0 < m
                · rw [ha2 h0]
                  exact .inr ⟨g5, _, rfl, Hv5.out.1, Hv5.out.tail.2⟩
                · exact .inl (List.eq_nil_of_length_eq_zero (by have := Hm.out; omega)))
              have Hn0 := hideIt hn0
              have Hhh := hideIt hh
              have lg5 : g5 < w5.heap.size := Hv5.out.1
              clear hn0 hh h35 ha2
              by_cases hxw_ : x = webW
              · have hxw : Hid (x = webW) := hxw_
                have hxe : (x.toList == [119, 101, 98]) = true := by rw [hxw_, Lib.toList_data]; rfl
                clear hxw_
                go_wp2_with (go_at_call 11; refine HNm.out.mono ?_; rintro e w6 hN; rcases hN with ⟨hn, a3, c3, rfl, b7⟩ | ⟨ns, hn, a3, n3, c3, rfl, hl3, o3, b7⟩ <;> refine Hid.out ?_)
                · refine hidw ?_
                  have b8 : Hid (Below W.heap.size W w6) := b6.out.trans (b7.mono b6.out.size)
                  have o7 : Hid (w6.ownsRow W.heap.size 57 9 (.slice aE nE cE) nE (evc st.evs)) := own_up o6.out b7
                  have x6 : w6.cell? ⟨g5, 0, none⟩ = some (.string x) := by rw [b7.cell lg5]; exact x0
                  have HF : Hid (rsR s.data.toList = (⟨0, 0, []⟩, ((k : Int) + 1))) := rs_fault HNl.out hRn.out HkL.out (by rw [HSt.out]; simp only [stepP, if_neg Hhh.out, if_pos Hn0.out, show webR (x :: r) = none from by simp only [webR, hn], Option.map_none])
                  clear hRn b7 x0 o6 b6
                  go_wp2
                  exact bodyPost_ret (v := .tuple #[.int .i64 0, .int .i64 0, .slice (some ⟨w.heap.size, 0, none⟩) 0 0, .int .i64 ((k : Int) + 1)]) (by simp [results, Tryd.results4, go_sem]) rfl (rs_out (st := ⟨0, 0, []⟩) HF.out rfl (own_up HEm.out (HW1.out.trans (b8.out.mono HW1.out.size))) (bupN HB1.out (HW1.out.trans (b8.out.mono HW1.out.size))))
                · refine hidw ?_
                  have b8 : Hid (Below W.heap.size W w6) := b6.out.trans (b7.mono b6.out.size)
                  have o7 : Hid (w6.ownsRow W.heap.size 57 9 (.slice aE nE cE) nE (evc st.evs)) := own_up o6.out b7
                  have x6 : w6.cell? ⟨g5, 0, none⟩ = some (.string x) := by rw [b7.cell lg5]; exact x0
                  by_cases h3 : n3 = 2
                  · subst h3
                    match ns, hl3 with
                    | [xa, xb], _ =>
                      rcases Vi.of_own o3 with hnil | ⟨bn, offn, rfl, hbn, hcn⟩
                      · cases hnil
                      have m5 : w6.cell? ⟨bn, offn, none⟩ = some (.int .i64 (xa : Int)) := by have := hcn 0 xa rfl; rwa [Nat.add_zero] at this
                      have m6 : w6.cell? ⟨bn, offn + 1, none⟩ = some (.int .i64 (xb : Int)) := hcn 1 xb rfl
                      have lbn : bn < w6.heap.size := hbn
                      obtain ⟨fb, hfb⟩ : ∃ fb, fb = hnB (xa : Int) (xb : Int) := ⟨_, rfl⟩
                      have HWl : Hid (∀ u, Calls Tryd.prog 12 #[.int .i64 (xa : Int), .int .i64 (xb : Int)] u fun e u' => ∃ l : List Value, e = .returned (.tuple #[.agg l.toArray, .bool fb]) ∧ l.length = 22 ∧ l.toArray.all (·.oneCell') = true ∧ Below u.heap.size u u') := fun u => by
                        rw [hfb]
                        exact sWl_any _ _ u
                      have Hfb := hideIt hfb
                      have hS6 : w6.drew.cell? ⟨bn, offn, none⟩ = some (.int .i64 (xa : Int)) ∧ w6.drew.cell? ⟨bn, offn + 1, none⟩ = some (.int .i64 (xb : Int)) := ⟨by simpa using m5, by simpa using m6⟩
                      have HC : Hid (∀ u, Good w6 u → u.cell? ⟨bn, offn, none⟩ = some (.int .i64 (xa : Int)) ∧ u.cell? ⟨bn, offn + 1, none⟩ = some (.int .i64 (xb : Int))) := fun u hu => ⟨by rw [Below.cell hu lbn]; exact m5, by rw [Below.cell hu lbn]; exact m6⟩
                      clear hfb hcn hbn o3 b7 x0 o6 b6
                      go_upto_region 19 with fail
                      apply viaT
                      intro t6_10_
                      apply viaT
                      intro t6_
                      apply viaT
                      intro t10_
                      focus (
                      refine wp_region_held_drew (S := (fun u => u.cell? ⟨bn, offn, none⟩ = some (.int .i64 (xa : Int)) ∧ u.cell? ⟨bn, offn + 1, none⟩ = some (.int .i64 (xb : Int)))) (by kernel_rfl) hS6 (fun hHeld => ?_)
                      refine wpAnyH_take (i := 0) (v := ?_) rfl (by kernel_rfl) (by kernel_rfl) (by kernel_rfl) (fun _ _ _ h => h) (Or.inl ⟨by rfl, ?_⟩) (by assumption) ?_
                      rotate_left
                      · intro w hSw; (try dsimp only at hSw); go_simp; try with_reducible rfl
                      try simp only [Act.put, List.getElem_toArray, List.getElem_cons_zero, List.setIfInBounds_toArray, List.set_cons_zero, List.set_cons_succ]
                      refine wpAnyH_take (i := 1) (v := ?_) rfl (by kernel_rfl) (by kernel_rfl) (by kernel_rfl) (fun _ _ _ h => h) (Or.inl ⟨by rfl, ?_⟩) (by assumption) ?_
                      rotate_left
                      · intro w hSw; (try dsimp only at hSw); go_simp; try with_reducible rfl
                      try simp only [Act.put, List.getElem_toArray, List.getElem_cons_succ, List.getElem_cons_zero, List.setIfInBounds_toArray, List.set_cons_zero, List.set_cons_succ]
                      refine wpAnyH_take (i := 2) (v := ?_) rfl (by kernel_rfl) (by kernel_rfl) (by kernel_rfl) (fun _ _ _ h => h) (Or.inl ⟨by rfl, ?_⟩) (by assumption) ?_
                      rotate_left
                      · intro w hSw; (try dsimp only at hSw); go_simp; try with_reducible rfl
                      try simp only [Act.put, List.getElem_toArray, List.getElem_cons_succ, List.getElem_cons_zero, List.setIfInBounds_toArray, List.set_cons_zero, List.set_cons_succ]
                      refine wpAnyH_take (i := 3) (v := ?_) rfl (by kernel_rfl) (by kernel_rfl) (by kernel_rfl) (fun _ _ _ h => h) (Or.inl ⟨by rfl, ?_⟩) (by assumption) ?_
                      rotate_left
                      · intro w hSw; (try dsimp only at hSw); go_simp; try with_reducible rfl
                      try simp only [Act.put, List.getElem_toArray, List.getElem_cons_succ, List.getElem_cons_zero, List.setIfInBounds_toArray, List.set_cons_zero, List.set_cons_succ]
                      refine wpAnyH_take (i := 4) (v := ?_) rfl (by kernel_rfl) (by kernel_rfl) (by kernel_rfl) (fun _ _ _ h => h) (Or.inl ⟨by rfl, ?_⟩) (by assumption) ?_
                      rotate_left
                      · intro w hSw; (try dsimp only at hSw); go_simp; try with_reducible rfl
                      try simp only [Act.put, List.getElem_toArray, List.getElem_cons_succ, List.getElem_cons_zero, List.setIfInBounds_toArray, List.set_cons_zero, List.set_cons_succ]
                      refine wpAnyH_take (i := 5) (v := ?_) rfl (by kernel_rfl) (by kernel_rfl) (by kernel_rfl) (fun _ _ _ h => h) (Or.inl ⟨by rfl, ?_⟩) (by assumption) ?_
                      rotate_left
                      · intro w hSw; (try dsimp only at hSw); go_simp; try with_reducible rfl
                      try simp only [Act.put, List.getElem_toArray, List.getElem_cons_succ, List.getElem_cons_zero, List.setIfInBounds_toArray, List.set_cons_zero, List.set_cons_succ]
                      obtain ⟨y, hy⟩ : ∃ y, y = w6.drew := ⟨_, rfl⟩
                      have GU : Good w6 y := by rw [hy]; exact (Good.refl _).drew
                      rw [← hy]
                      clear hy hHeld
                      refine wpAnyH_ready (rs := [6, 10]) (by kernel_rfl) (by simp) ?_
                      refine AllReadyH.cons rfl (fun K hK => ?_) (AllReadyH.cons rfl (fun K hK => ?_) AllReadyH.nil)
                      focus (
                      rw [if_pos]
                      rotate_left
                      · kernel_rfl
                      have HCall := hideIt (HWl.out y)
                      go_wp2_with (go_at_call 12; refine HCall.out.mono ?_; rintro e z ⟨l22, rfl, hl1, hl2, gg⟩; refine Hid.out ?_)
                      refine hidp ?_
                      refine hK.out _ _ (HC.out _ (Good.up GU gg)) (fun hHeld => ?_)
                      clear hK K HCall
                      try simp only [Act.put, List.getElem_toArray, List.getElem_cons_succ, List.getElem_cons_zero, List.setIfInBounds_toArray, List.set_cons_zero, List.set_cons_succ]
                      have FL := And.intro hl1 hl2
                      clear hl1 hl2
                      replace GU := Good.up GU gg
                      clear gg
                      replace hHeld := HC.out _ GU
                      refine wpAnyH_take (i := 7) (v := ?_) rfl (by kernel_rfl) (by kernel_rfl) (by kernel_rfl) (fun _ _ _ h => h) (Or.inl ⟨by rfl, ?_⟩) (by assumption) ?_
                      rotate_left
                      · intro w hSw; (try dsimp only at hSw); go_simp; try with_reducible rfl
                      try simp only [Act.put, List.getElem_toArray, List.getElem_cons_succ, List.getElem_cons_zero, List.setIfInBounds_toArray, List.set_cons_zero, List.set_cons_succ]
                      refine wpAnyH_take (i := 8) (v := ?_) rfl (by kernel_rfl) (by kernel_rfl) (by kernel_rfl) (fun _ _ _ h => h) (Or.inl ⟨by rfl, ?_⟩) (by assumption) ?_
                      rotate_left
                      · intro w hSw; (try dsimp only at hSw); go_simp; try with_reducible rfl
                      try simp only [Act.put, List.getElem_toArray, List.getElem_cons_succ, List.getElem_cons_zero, List.setIfInBounds_toArray, List.set_cons_zero, List.set_cons_succ]
                      refine wpAnyH_take (i := 9) (v := ?_) rfl (by kernel_rfl) (by kernel_rfl) (by kernel_rfl) (fun _ _ _ h => h) (Or.inl ⟨by rfl, ?_⟩) (by assumption) ?_
                      rotate_left
                      · intro w hSw; (try dsimp only at hSw); go_simp; try with_reducible rfl
                      try simp only [Act.put, List.getElem_toArray, List.getElem_cons_succ, List.getElem_cons_zero, List.setIfInBounds_toArray, List.set_cons_zero, List.set_cons_succ]
                      clear hHeld
                      refine lstH (l' := #[true, true, true, true, true, true, true, true, true, true, false, false, false]) (by kernel_rfl) ?_
                      have F := And.intro GU FL
                      clear GU FL
                      revert F
                      revert l22
                      revert z
                      exact t6_.out
                      )
                      focus (
                      go_simp
                      refine hK.out _ _ (HC.out _ (GU.alloc _)) (fun hHeld => ?_)
                      clear hK K
                      try simp only [Act.put, List.getElem_toArray, List.getElem_cons_succ, List.getElem_cons_zero, List.setIfInBounds_toArray, List.set_cons_zero, List.set_cons_succ]
                      obtain ⟨z, hz⟩ : ∃ z, z = y.alloc (.cells #[.int .i64 0, .int .i64 0, .slice none 0 0, .slice none 0 0, .slice none 0 0, .slice none 0 0, .int .i64 0, .int .i64 0, .int .i64 0, .int .i64 0, .int .i64 0, .int .i64 0, .int .i64 0, .slice none 0 0, .int .i64 0, .slice none 0 0, .slice none 0 0, .slice none 0 0, .slice none 0 0, .slice none 0 0, .slice none 0 0, .slice none 0 0] 53) := ⟨_, rfl⟩
                      have gg : Below y.heap.size y z := by rw [hz]; exact (Below.refl _ _).alloc (Nat.le_refl _) _
                      have FW : BxA z y.heap.size 53 #[.int .i64 0, .int .i64 0, .slice none 0 0, .slice none 0 0, .slice none 0 0, .slice none 0 0, .int .i64 0, .int .i64 0, .int .i64 0, .int .i64 0, .int .i64 0, .int .i64 0, .int .i64 0, .slice none 0 0, .int .i64 0, .slice none 0 0, .slice none 0 0, .slice none 0 0, .slice none 0 0, .slice none 0 0, .slice none 0 0, .slice none 0 0] ∧ w6.heap.size ≤ y.heap.size := ⟨by rw [hz]; exact BxA.new _ _ _, GU.size⟩
                      replace GU := Good.up GU gg
                      rw [← hz]
                      clear hz gg hHeld
                      generalize y.heap.size = bW at *
                      refine lstH (l' := #[true, true, true, true, true, true, false, false, false, false, true, false, false]) (by kernel_rfl) ?_
                      have F := And.intro GU FW
                      clear GU FW
                      revert F
                      revert bW
                      revert z
                      exact t10_.out
                      )
                      )
                      focus (
                      intro y bW F
                      obtain ⟨GU, FW⟩ := F
                      have hHeld := HC.out _ GU
                      clear hHeld
                      refine wpAnyH_ready (rs := [6]) (by kernel_rfl) (by simp) ?_
                      refine AllReadyH.cons rfl (fun K hK => ?_) AllReadyH.nil
                      focus (
                      rw [if_pos]
                      rotate_left
                      · kernel_rfl
                      have HCall := hideIt (HWl.out y)
                      go_wp2_with (go_at_call 12; refine HCall.out.mono ?_; rintro e z ⟨l22, rfl, hl1, hl2, gg⟩; refine Hid.out ?_)
                      refine hidp ?_
                      refine hK.out _ _ (HC.out _ (Good.up GU gg)) (fun hHeld => ?_)
                      clear hK K HCall
                      try simp only [List.setIfInBounds_toArray, List.set_cons_zero, List.set_cons_succ]
                      have FL := And.intro hl1 hl2
                      clear hl1 hl2
                      replace GU := Good.up GU gg
                      replace FW := And.intro (FW.1.up gg) FW.2
                      clear gg
                      replace hHeld := HC.out _ GU
                      refine wpAnyH_take (i := 7) (v := ?_) rfl (by kernel_rfl) (by kernel_rfl) (by kernel_rfl) (fun _ _ _ h => h) (Or.inl ⟨by rfl, ?_⟩) (by assumption) ?_
                      rotate_left
                      · intro w hSw; (try dsimp only at hSw); go_simp; try with_reducible rfl
                      try simp only [Act.put, List.getElem_toArray, List.getElem_cons_succ, List.getElem_cons_zero, List.setIfInBounds_toArray, List.set_cons_zero, List.set_cons_succ]
                      refine wpAnyH_take (i := 8) (v := ?_) rfl (by kernel_rfl) (by kernel_rfl) (by kernel_rfl) (fun _ _ _ h => h) (Or.inl ⟨by rfl, ?_⟩) (by assumption) ?_
                      rotate_left
                      · intro w hSw; (try dsimp only at hSw); go_simp; try with_reducible rfl
                      try simp only [Act.put, List.getElem_toArray, List.getElem_cons_succ, List.getElem_cons_zero, List.setIfInBounds_toArray, List.set_cons_zero, List.set_cons_succ]
                      refine wpAnyH_take (i := 9) (v := ?_) rfl (by kernel_rfl) (by kernel_rfl) (by kernel_rfl) (fun _ _ _ h => h) (Or.inl ⟨by rfl, ?_⟩) (by assumption) ?_
                      rotate_left
                      · intro w hSw; (try dsimp only at hSw); go_simp; try with_reducible rfl
                      try simp only [Act.put, List.getElem_toArray, List.getElem_cons_succ, List.getElem_cons_zero, List.setIfInBounds_toArray, List.set_cons_zero, List.set_cons_succ]
                      clear hHeld
                      refine lstH (l' := #[true, true, true, true, true, true, true, true, true, true, true, false, false]) (by kernel_rfl) ?_
                      have F := And.intro GU (And.intro FL FW)
                      clear GU FL FW
                      revert F
                      revert bW
                      revert l22
                      revert z
                      exact t6_10_.out
                      )
                      )
                      focus (
                      intro y l22 F
                      obtain ⟨GU, FL⟩ := F
                      have hHeld := HC.out _ GU
                      clear hHeld
                      refine wpAnyH_ready (rs := [10]) (by kernel_rfl) (by simp) ?_
                      refine AllReadyH.cons rfl (fun K hK => ?_) AllReadyH.nil
                      focus (
                      go_simp
                      refine hK.out _ _ (HC.out _ (GU.alloc _)) (fun hHeld => ?_)
                      clear hK K
                      try simp only [List.setIfInBounds_toArray, List.set_cons_zero, List.set_cons_succ]
                      obtain ⟨z, hz⟩ : ∃ z, z = y.alloc (.cells #[.int .i64 0, .int .i64 0, .slice none 0 0, .slice none 0 0, .slice none 0 0, .slice none 0 0, .int .i64 0, .int .i64 0, .int .i64 0, .int .i64 0, .int .i64 0, .int .i64 0, .int .i64 0, .slice none 0 0, .int .i64 0, .slice none 0 0, .slice none 0 0, .slice none 0 0, .slice none 0 0, .slice none 0 0, .slice none 0 0, .slice none 0 0] 53) := ⟨_, rfl⟩
                      have gg : Below y.heap.size y z := by rw [hz]; exact (Below.refl _ _).alloc (Nat.le_refl _) _
                      have FW : BxA z y.heap.size 53 #[.int .i64 0, .int .i64 0, .slice none 0 0, .slice none 0 0, .slice none 0 0, .slice none 0 0, .int .i64 0, .int .i64 0, .int .i64 0, .int .i64 0, .int .i64 0, .int .i64 0, .int .i64 0, .slice none 0 0, .int .i64 0, .slice none 0 0, .slice none 0 0, .slice none 0 0, .slice none 0 0, .slice none 0 0, .slice none 0 0, .slice none 0 0] ∧ w6.heap.size ≤ y.heap.size := ⟨by rw [hz]; exact BxA.new _ _ _, GU.size⟩
                      replace GU := Good.up GU gg
                      replace FL := FL
                      rw [← hz]
                      clear hz gg hHeld
                      generalize y.heap.size = bW at *
                      refine lstH (l' := #[true, true, true, true, true, true, true, true, true, true, true, false, false]) (by kernel_rfl) ?_
                      have F := And.intro GU (And.intro FL FW)
                      clear GU FL FW
                      revert F
                      revert bW
                      revert l22
                      revert z
                      exact t6_10_.out
                      )
                      )
                      focus (
                      intro y l22 bW F
                      obtain ⟨GU, FL, FW⟩ := F
                      have hHeld := HC.out _ GU
                      refine wpAnyH_ready (rs := [11]) (by kernel_rfl) (by simp) ?_
                      refine AllReadyH.cons rfl (fun K hK => ?_) AllReadyH.nil
                      rw [if_pos]
                      rotate_left
                      · kernel_rfl
                      have HT := BxA.there (l := [.int .i64 0, .int .i64 0, .slice none 0 0, .slice none 0 0, .slice none 0 0, .slice none 0 0, .int .i64 0, .int .i64 0, .int .i64 0, .int .i64 0, .int .i64 0, .int .i64 0, .int .i64 0, .slice none 0 0, .int .i64 0, .slice none 0 0, .slice none 0 0, .slice none 0 0, .slice none 0 0, .slice none 0 0, .slice none 0 0, .slice none 0 0]) FW.1 (Nat.le_refl _)
                      obtain ⟨x9, hx9⟩ : ∃ x9, x9 = setA y bW 0 l22 := ⟨_, rfl⟩
                      have G9 : Good w6 x9 := by rw [hx9]; exact below_setA GU FW.2 0 _
                      refine wp_store_mid 53 (.tmp 16) (.tmp 98) ?_ bW 0 l22.toArray ?_ ?_ ?_ ?_ ?_ ?_
                      · rfl
                      · rfl
                      · rfl
                      · rw [List.size_toArray, FL.1]; exact HT
                      · rw [List.size_toArray, FL.1]; kernel_rfl
                      · exact FL.2
                      rw [setCells_setA]
                      rw [show setA y bW 0 l22.toArray.toList = x9 from hx9.symm]
                      refine hK.out _ _ (HC.out _ G9) (fun hHeld => ?_)
                      clear hK K hx9 HT FL FW GU
                      try simp only [List.setIfInBounds_toArray, List.set_cons_zero, List.set_cons_succ]
                      refine wpAnyH_ready (rs := [12]) (by kernel_rfl) (by simp) ?_
                      refine AllReadyH.cons rfl (fun K hK => ?_) AllReadyH.nil
                      go_simp
                      refine hK.out _ _ hHeld (fun hHeld => ?_)
                      clear hK K
                      try simp only [List.setIfInBounds_toArray, List.set_cons_zero, List.set_cons_succ]
                      refine wpAnyH_done (by kernel_rfl) ?_ _
                      clear hHeld
                      have HG9 := hideIt G9
                      clear G9 m5 m6 lbn
                      have b9 : Hid (Below W.heap.size W x9) := b8.out.trans (HG9.out.mono b8.out.size)
                      have o9 : Hid (x9.ownsRow W.heap.size 57 9 (.slice aE nE cE) nE (evc st.evs)) := own_up o7.out HG9.out
                      have n5 : x9.cell? ⟨bn, offn, none⟩ = some (.int .i64 (xa : Int)) := (HC.out _ HG9.out).1
                      have n6 : x9.cell? ⟨bn, offn + 1, none⟩ = some (.int .i64 (xb : Int)) := (HC.out _ HG9.out).2
                      have hwr : webR (x :: r) = if fb = true then some (xa, xb) else none := by
                        simp only [webR, hn, hxw.out, true_and, ← Hfb.out]
                      cases fb with
                      | false =>
                        have hwr2 : webR (x :: r) = none := by rw [hwr]; rfl
                        have HF : Hid (rsR s.data.toList = (⟨0, 0, []⟩, ((k : Int) + 1))) := rs_fault HNl.out hRn.out HkL.out (by rw [HSt.out]; simp only [stepP, if_neg Hhh.out, if_pos Hn0.out, hwr2, Option.map_none])
                        clear hRn hwr hwr2 n5 n6
                        go_wp2
                        exact bodyPost_ret (v := .tuple #[.int .i64 0, .int .i64 0, .slice (some ⟨w.heap.size, 0, none⟩) 0 0, .int .i64 ((k : Int) + 1)]) (by simp [results, Tryd.results4, go_sem]) rfl (rs_out (st := ⟨0, 0, []⟩) HF.out rfl (own_up HEm.out (HW1.out.trans (b9.out.mono HW1.out.size))) (bupN HB1.out (HW1.out.trans (b9.out.mono HW1.out.size))))
                      | true =>
                        have hwr2 : webR (x :: r) = some (xa, xb) := by rw [hwr]; rfl
                        have HR2 : Hid (Rn (Lines.lns s.data.toList) (k + 1) ⟨xa, xb, st.evs⟩) := hRn.out.more HkL.out (by rw [HSt.out]; simp only [stepP, if_neg Hhh.out, if_pos Hn0.out, hwr2, Option.map_some])
                        clear hRn hwr hwr2
                        go_wp2
                        exact ⟨⟨k + 1, ⟨xa, xb, st.evs⟩, aE, nE, cE, by omega, by go_num, rfl, rfl, rfl, HR2, HLn, o9, b9⟩, by simp [intOf]; omega⟩
                      )
                  · have d3 : ((n3 : Int) != 2) = true := by simp; omega
                    have hw2 : webR (x :: r) = none := webR_cnt hn (by rw [hl3]; exact h3)
                    have HF : Hid (rsR s.data.toList = (⟨0, 0, []⟩, ((k : Int) + 1))) := rs_fault HNl.out hRn.out HkL.out (by rw [HSt.out]; simp only [stepP, if_neg Hhh.out, if_pos Hn0.out, hw2, Option.map_none])
                    clear hRn b7 x0 o6 b6 hw2 o3
                    go_wp2
                    exact bodyPost_ret (v := .tuple #[.int .i64 0, .int .i64 0, .slice (some ⟨w.heap.size, 0, none⟩) 0 0, .int .i64 ((k : Int) + 1)]) (by simp [results, Tryd.results4, go_sem]) rfl (rs_out (st := ⟨0, 0, []⟩) HF.out rfl (own_up HEm.out (HW1.out.trans (b8.out.mono HW1.out.size))) (bupN HB1.out (HW1.out.trans (b8.out.mono HW1.out.size))))
              · have hxe : (x.toList == [119, 101, 98]) = false := by
                  have : x.toList ≠ [119, 101, 98] := fun e => hxw_ (kB_ext (by rw [Lib.toList_data] at e; exact e))
                  simpa using this
                have hwn : webR (x :: r) = none := webR_no hxw_
                have Hwn := hideIt hwn
                clear hwn hxw_
                go_wp2_with (go_at_call 11; refine HNm.out.mono ?_; rintro e w6 hN; rcases hN with ⟨hn, a3, c3, rfl, b7⟩ | ⟨ns, hn, a3, n3, c3, rfl, hl3, o3, b7⟩ <;> refine Hid.out ?_)
                · refine hidw ?_
                  have b8 : Hid (Below W.heap.size W w6) := b6.out.trans (b7.mono b6.out.size)
                  have o7 : Hid (w6.ownsRow W.heap.size 57 9 (.slice aE nE cE) nE (evc st.evs)) := own_up o6.out b7
                  have x6 : w6.cell? ⟨g5, 0, none⟩ = some (.string x) := by rw [b7.cell lg5]; exact x0
                  have HF : Hid (rsR s.data.toList = (⟨0, 0, []⟩, ((k : Int) + 1))) := rs_fault HNl.out hRn.out HkL.out (by rw [HSt.out]; simp only [stepP, if_neg Hhh.out, if_pos Hn0.out, Hwn.out, Option.map_none])
                  clear hRn b7 x0 o6 b6
                  go_wp2
                  exact bodyPost_ret (v := .tuple #[.int .i64 0, .int .i64 0, .slice (some ⟨w.heap.size, 0, none⟩) 0 0, .int .i64 ((k : Int) + 1)]) (by simp [results, Tryd.results4, go_sem]) rfl (rs_out (st := ⟨0, 0, []⟩) HF.out rfl (own_up HEm.out (HW1.out.trans (b8.out.mono HW1.out.size))) (bupN HB1.out (HW1.out.trans (b8.out.mono HW1.out.size))))
                · refine hidw ?_
                  have b8 : Hid (Below W.heap.size W w6) := b6.out.trans (b7.mono b6.out.size)
                  have o7 : Hid (w6.ownsRow W.heap.size 57 9 (.slice aE nE cE) nE (evc st.evs)) := own_up o6.out b7
                  have x6 : w6.cell? ⟨g5, 0, none⟩ = some (.string x) := by rw [b7.cell lg5]; exact x0
                  have HF : Hid (rsR s.data.toList = (⟨0, 0, []⟩, ((k : Int) + 1))) := rs_fault HNl.out hRn.out HkL.out (by rw [HSt.out]; simp only [stepP, if_neg Hhh.out, if_pos Hn0.out, Hwn.out, Option.map_none])
                  clear hRn o3 b7 x0 o6 b6
                  go_wp2
                  exact bodyPost_ret (v := .tuple #[.int .i64 0, .int .i64 0, .slice (some ⟨w.heap.size, 0, none⟩) 0 0, .int .i64 ((k : Int) + 1)]) (by simp [results, Tryd.results4, go_sem]) rfl (rs_out (st := ⟨0, 0, []⟩) HF.out rfl (own_up HEm.out (HW1.out.trans (b8.out.mono HW1.out.size))) (bupN HB1.out (HW1.out.trans (b8.out.mono HW1.out.size))))
            · have e0 : ((st.n : Int) == 0) = false := by simp; exact hn0
              have HEv := hideIt (sEvent_any (st.sh : Int) (x :: r) (m + 1) (by simp [Hm.out]) (by omega) (by omega) Hz.out g5 0 c5 hcap w5 Hv5.out)
              have Hn0 := hideIt hn0
              have Hhh := hideIt hh
              clear hn0 hh h35
              go_wp2_with (go_at_call 13; refine HEv.out.mono ?_; rintro e w6 ⟨b7, k0_, k1_, k2_, k3_, k4_, k5_, k6_, cb, fl, rfl, hfl⟩; refine Hid.out ?_)
              refine hidw ?_
              obtain ⟨W7, hW7⟩ : ∃ W7, W7 = w6.alloc (.cells #[.int .i64 k0_, .int .i64 k1_, .int .i64 k2_, .int .i64 k3_, .int .i64 k4_, .int .i64 k5_, .int .i64 k6_, .bool cb, .slice none 0 0] 57) := ⟨_, rfl⟩
              obtain ⟨bE, hbE⟩ : ∃ bE, bE = w6.heap.size := ⟨_, rfl⟩
              have b8 : Below w5.heap.size w5 W7 := by rw [hW7]; exact b7.alloc b7.size _
              have X7 : BxA W7 bE 57 #[.int .i64 k0_, .int .i64 k1_, .int .i64 k2_, .int .i64 k3_, .int .i64 k4_, .int .i64 k5_, .int .i64 k6_, .bool cb, .slice none 0 0] := by rw [hW7, hbE]; exact BxA.new _ _ _
              have HX7 := hideIt X7
              have o7 : Hid (W7.ownsRow W.heap.size 57 9 (.slice aE nE cE) nE (evc st.evs)) := own_up o6.out b8
              have b9 : Hid (Below W.heap.size W W7) := b6.out.trans (b8.mono b6.out.size)
              have Hfl := hideIt hfl
              clear b7 X7 b8 hfl HEv x0 e35 o6 b6
              go_upto_region 25 with fail
              rw [← hW7, ← hbE]
              clear hW7 hbE
              cases fl with
              | false =>
                have hev : evC (st.sh : Int) (x :: r) = none := by
                  rcases Hfl.out with ⟨_, h⟩ | ⟨h, _⟩
                  · exact h
                  · cases h
                have HF : Hid (rsR s.data.toList = (⟨0, 0, []⟩, ((k : Int) + 1))) := rs_fault HNl.out hRn.out HkL.out (by rw [HSt.out]; simp only [stepP, if_neg Hhh.out, if_neg Hn0.out, hev])
                clear hRn hev
                go_wp2
                exact bodyPost_ret (v := .tuple #[.int .i64 0, .int .i64 0, .slice (some ⟨w.heap.size, 0, none⟩) 0 0, .int .i64 ((k : Int) + 1)]) (by simp [results, Tryd.results4, go_sem]) rfl (rs_out (st := ⟨0, 0, []⟩) HF.out rfl (own_up HEm.out (HW1.out.trans (b9.out.mono HW1.out.size))) (bupN HB1.out (HW1.out.trans (b9.out.mono HW1.out.size))))
              | true =>
                have hev : evC (st.sh : Int) (x :: r) = some (⟨k0_, k1_, k2_, k3_, k4_, k5_, k6_⟩, cb) := by
                  rcases Hfl.out with ⟨h, _⟩ | ⟨_, h⟩
                  · cases h
                  · exact h
                by_cases h70 : nE = 70
                · have e70 : ((nE : Int) == 70) = true := by simp; omega
                  have HF : Hid (rsR s.data.toList = (⟨0, 0, []⟩, ((k : Int) + 1))) := rs_fault HNl.out hRn.out HkL.out (by rw [HSt.out]; simp only [stepP, if_neg Hhh.out, if_neg Hn0.out, hev]; rw [if_pos (by rw [HLn.out.1]; exact h70)])
                  clear hRn hev
                  go_wp2
                  exact bodyPost_ret (v := .tuple #[.int .i64 0, .int .i64 0, .slice (some ⟨w.heap.size, 0, none⟩) 0 0, .int .i64 ((k : Int) + 1)]) (by simp [results, Tryd.results4, go_sem]) rfl (rs_out (st := ⟨0, 0, []⟩) HF.out rfl (own_up HEm.out (HW1.out.trans (b9.out.mono HW1.out.size))) (bupN HB1.out (HW1.out.trans (b9.out.mono HW1.out.size))))
                · have e70 : ((nE : Int) == 70) = false := by simp; omega
                  have HR2 : Hid (Rn (Lines.lns s.data.toList) (k + 1) ⟨st.n, st.sh, st.evs ++ [(⟨k0_, k1_, k2_, k3_, k4_, k5_, k6_⟩, cb)]⟩) := hRn.out.more HkL.out (by rw [HSt.out]; simp only [stepP, if_neg Hhh.out, if_neg Hn0.out, hev]; rw [if_neg (by rw [HLn.out.1]; exact h70)])
                  have HL2 : Hid ((st.evs ++ [((⟨k0_, k1_, k2_, k3_, k4_, k5_, k6_⟩ : EvR), cb)]).length = nE + 1 ∧ nE + 1 ≤ 70) := by
                    have := HLn.out
                    exact ⟨by rw [List.length_append, this.1]; rfl, by omega⟩
                  have hn70 : nE ≤ 70 := HLn.out.2
                  have p0 := HX7.out.cell 0 rfl
                  have p1 := HX7.out.cell 1 rfl
                  have p2 := HX7.out.cell 2 rfl
                  have p3 := HX7.out.cell 3 rfl
                  have p4 := HX7.out.cell 4 rfl
                  have p5 := HX7.out.cell 5 rfl
                  have p6 := HX7.out.cell 6 rfl
                  have p7 := HX7.out.cell 7 rfl
                  have p8 := HX7.out.cell 8 rfl
                  clear hRn hev h70
                  go_wp2_with (at_builtin; refine wpList_append_lies _ rfl _ _ 22 rfl W.heap.size 57 i0 _ 9 88 Tryd.underlying22 hi hz0 hz1 hz2 rfl (by decide) _ nE _ rfl (o7.out.alloc _) ⟨W7.heap.size, 0, none⟩ 1 1 [.int .i64 k0_, .int .i64 k1_, .int .i64 k2_, .int .i64 k3_, .int .i64 k4_, .int .i64 k5_, .int .i64 k6_, .bool cb, .slice none 0 0] rfl rfl (World.news_of_block (cs := #[.int .i64 k0_, .int .i64 k1_, .int .i64 k2_, .int .i64 k3_, .int .i64 k4_, .int .i64 k5_, .int .i64 k6_, .bool cb, .slice none 0 0]) (t := 57) (fr := (0, 0)) (heap_alloc_new W7 _)) (by intro u hu; simp only [List.mem_cons, List.not_mem_nil, or_false] at hu; rcases hu with rfl | rfl | rfl | rfl | rfl | rfl | rfl | rfl | rfl <;> rfl) (by omega) (by unfold maxLen; omega) (by omega) (by have := b9.out.size; simp; omega) (W7.heap.size + 1) (by simp) ?_; intro g8 c8 w8 ho8 hg8 hx8 hy8; refine Hid.out ?_)
                  refine hidw ?_
                  have o8 : Hid (w8.ownsRow W.heap.size 57 9 (.slice (some ⟨g8, 0, none⟩) (nE + 1) c8) (nE + 1) (evc (st.evs ++ [((⟨k0_, k1_, k2_, k3_, k4_, k5_, k6_⟩ : EvR), cb)]))) := by
                    show World.ownsRow _ _ _ _ _ _ _
                    rw [evc_snoc]
                    exact ho8
                  have ba : Hid (Below W.heap.size W w8) := by
                    have h := b9.out.alloc b9.out.size (.cells #[.int .i64 k0_, .int .i64 k1_, .int .i64 k2_, .int .i64 k3_, .int .i64 k4_, .int .i64 k5_, .int .i64 k6_, .bool cb, .slice none 0 0] 57)
                    exact h.grown hg8 (Nat.le_trans b9.out.size (by simp)) (fun j hj => (o7.out.lt j hj).1)
                  clear ho8 hg8 hx8 hy8 p0 p1 p2 p3 p4 p5 p6 p7 p8
                  go_wp2
                  exact ⟨⟨k + 1, ⟨st.n, st.sh, st.evs ++ [(⟨k0_, k1_, k2_, k3_, k4_, k5_, k6_⟩, cb)]⟩, some ⟨g8, 0, none⟩, nE + 1, c8, by omega, by go_num, rfl, rfl, rfl, HR2, HL2, o8, ba⟩, by simp [intOf]; omega⟩
    · have b3 : decide ((k : Int) < (nL : Int)) = false := decide_eq_false (by omega)
      have b4 : ¬ (k : Int) < (nL : Int) := by omega
      have hkL : ¬ k < (Lines.lns s.data.toList).length := by rw [HnL.out]; omega
      by_cases hn0 : st.n = 0
      · have e0 : ((st.n : Int) == 0) = true := by simp; exact hn0
        have HF := hideIt (rs_noweb HNl.out hRn.out hkL hn0)
        have HBl := hbl
        clear hRn hbl hn0
        go_wp2
        exact bodyPost_ret (v := .tuple #[.int .i64 0, .int .i64 0, .slice (some ⟨w.heap.size, 0, none⟩) 0 0, .int .i64 1]) (by simp [results, Tryd.results4, go_sem]) rfl (rs_out (st := ⟨0, 0, []⟩) HF.out rfl (own_up HEm.out (HW1.out.trans (HBl.out.mono HW1.out.size))) (bupN HB1.out (HW1.out.trans (HBl.out.mono HW1.out.size))))
      · have e0 : ((st.n : Int) == 0) = false := by simp; exact hn0
        have HF := hideIt (rs_done HNl.out hRn.out hkL hn0)
        have HBl := hbl
        clear hRn hbl hn0
        go_wp2
        exact bodyPost_ret (v := .tuple #[.int .i64 (st.n : Int), .int .i64 (st.sh : Int), .slice aE nE cE, .int .i64 0]) (by simp [results, Tryd.results4, go_sem]) rfl (rs_out HF.out HLn.out.1 (own_mono HOw.out (Nat.le_trans HB1.out.size HW1.out.size)) (bupN HB1.out (HW1.out.trans (HBl.out.mono HW1.out.size))))
theorem sRs_any (s : ByteArray) (w : World) : Calls Tryd.prog 4 #[.string s] w (RsOut s.data.toList w) := by
  by_cases h : s.size ≤ 4000
  · by_cases h1 : (Lines.lns s.data.toList).length ≤ 100
    · exact sRs_short s h h1 w
    · exact sRs_many s h (by omega) w
  · exact sRs_long s (by omega) w
end Go.Proofs.YtgdlpmmbeacejaaDoor
