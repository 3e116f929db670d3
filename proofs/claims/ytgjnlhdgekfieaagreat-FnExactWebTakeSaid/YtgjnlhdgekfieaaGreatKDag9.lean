/- The specification's WebOk. The specification's WebTake. A drawn region walked state by state: what is shown of a state once serves wherever the walk comes to it. -/
import Derived.Test.YtgjnlhdgekfieaaGreatKSGo9
import Derived.Test.YtgjnlhdgekfieaaGreatKWk9
import Derived.Test.YtgjnlhdgekfieaaGreatKSVerts
import Derived.Test.YtgjnlhdgekfieaaGreatKBx7
namespace Go.Proofs.YtgjnlhdgekfieaaGreat
open Go.RowKit

theorem lnS_small {ts : List (List Int)} (h : ∀ t ∈ ts, t.length ≤ 23) : lnS ts ≤ 23 * ts.length := by
  induction ts with
  | nil => simp [lnS]
  | cons t ts ih =>
    have h1 := h t (by simp)
    have h2 := ih fun s hs => h s (by simp [hs])
    simp only [lnS, List.map_cons, List.sum_cons, List.length_cons] at h2 ⊢
    omega
set_option maxRecDepth 100000 in
set_option maxHeartbeats 8000000 in
theorem sWebOk_any (N : Int) (ls : List Ld) (n : Nat) (a : Option Addr) (c : Nat) (hn : n ≤ 1048576) (w : World) (h : Ls w w.heap.size a n ls) :
    Calls Tryz.prog 21 #[.agg #[.int .i64 N, .slice a n c]] w fun e w' => e = .returned (.bool (wB N ls)) ∧ Below w.heap.size w w' := by
  have hlen := h.1
  have hfa : Good w (wW w N a n c) := wW_good w N a n c
  have HR := hideIt h
  have HGo := hideIt (sGraphOf_any N ls n a c hn _ (h.up hfa))
  have HGk : Hid (∀ (a' : Option Addr) (c' : Nat) (u : World), u.ownsRow (wW w N a n c).heap.size 28 2 (.slice a' n c') n (ecells (gE ls)) → Calls Tryz.prog 79 #[.agg #[.int .i64 N, .slice a' n c']] u fun e w' => e = .returned (.bool (gB N (gE ls))) ∧ Below u.heap.size u w') := fun a' c' u hu => sGraphOk_any N (gE ls) n a' c' hn u (Es_of_own hu)
  have HC : Hid (∀ u, Good (wW w N a n c) u → u.cell? ⟨w.heap.size, 0, none⟩ = some (.int .i64 N) ∧ u.cell? ⟨w.heap.size, 1, none⟩ = some (.slice a n c)) := fun u hu => by
    unfold Good at hu
    rw [wW_size] at hu
    exact wW_cells hu
  have HIn := hideIt l01In_any
  clear h
  cases hG : gB N (gE ls) with
  | false =>
    rw [hG] at HGk
    have HN := hideIt (wB_no (N := N) (ls := ls) fun hw => by have := hw.1; rw [hG] at this; cases this)
    clear hG
    go_enter Tryz.func21, Tryz.ntmps21
    go_wp2_with (first | (go_at_call 28; refine HGo.out.mono ?_; rintro e w1 ⟨ag, cg, rfl, ho1, hb1⟩; have HG2 := HGk.out ag cg w1 ho1; clear ho1) | (go_at_call 79; refine HG2.mono ?_; rintro e w2 ⟨rfl, hb2⟩))
    go_ret
    exact ⟨by rw [HN.out]; rfl, (hfa.up hb1).up hb2⟩
  | true =>
    rw [hG] at HGk
    obtain ⟨nn, rfl, hn1, hn12⟩ := gB_n hG
    have h66 : n ≤ 66 := by have := (gB_chk hG).2.2; rw [gE_len] at this; omega
    go_enter Tryz.func21, Tryz.ntmps21
    go_wp2_with (first | (go_at_call 28; refine HGo.out.mono ?_; rintro e w1 ⟨ag, cg, rfl, ho1, hb1⟩; have HG2 := HGk.out ag cg w1 ho1; clear ho1) | (go_at_call 79; refine HG2.mono ?_; rintro e w2 ⟨rfl, hb2⟩; refine Hid.out ?_))
    refine (show ∀ {p : Prop}, p → Hid p from fun h => h) ?_
    have G2 : Good (wW w (nn : Int) a n c) w2 := (show Good (wW w (nn : Int) a n c) w1 from hb1).up hb2
    have HG0 := hideIt hG
    clear HGo HGk HG2 hb1 hb2 hG
    go_wp2
    go_loopw [3] (fun i wr => ∃ k : Nat, k ≤ n ∧ i = .int .i64 (k : Int) ∧ Hid (∀ j x, j < k → ls[j]? = some x → 0 ≤ x.l ∧ x.l ≤ 4) ∧ Good (wW w (nn : Int) a n c) wr) (fun i _ => n - (intOf i).toNat)
    case atStart => exact ⟨0, by omega, rfl, fun j x hj => by omega, G2⟩
    case round =>
      obtain ⟨k, hk, rfl, HK, hg⟩ := hrel
      clear G2
      obtain ⟨cw0, cw1⟩ := HC.out wr hg
      by_cases hlt : k < n
      · obtain ⟨b, off, x, rfl, hbl, hxk, hat⟩ := ((HR.out.up (wW_good w _ a n c)).up hg).at hlt
        have e2 := hat.cl
        have b1 : (0 : Int) ≤ (k : Int) := by omega
        have b2 : (k : Int) < (n : Int) := by omega
        have HX := hideIt hxk
        have HGs := hideIt hg
        clear hxk hat hg
        by_cases hlv : 0 ≤ x.l ∧ x.l ≤ 4
        · have HI2 := HIn.out x.l 0 4 wr
          rw [decide_eq_true hlv] at HI2
          have HI2 := hideIt HI2
          have HK2 : Hid (∀ j x, j < k + 1 → ls[j]? = some x → 0 ≤ x.l ∧ x.l ≤ 4) := fun j y hj hy => by
            by_cases e : j = k
            · subst e
              rw [HX.out] at hy
              obtain rfl := Option.some.inj hy
              exact hlv
            · exact HK.out j y (by omega) hy
          clear HK hlv
          go_wp2_with (go_at_call 88; refine HI2.out.mono ?_; rintro e w1 ⟨rfl, hw⟩; have hw' := hw.symm; subst hw'; clear hw)
          exact ⟨⟨k + 1, by omega, by go_num, HK2, HGs.out⟩, by simp [intOf]; omega⟩
        · have HI2 := HIn.out x.l 0 4 wr
          rw [decide_eq_false hlv] at HI2
          have HI2 := hideIt HI2
          have HN := hideIt (wB_no (N := (nn : Int)) (ls := ls) fun hw => hlv (hw.2.1 x (List.mem_of_getElem? HX.out)))
          clear HK hlv
          go_wp2_with (go_at_call 88; refine HI2.out.mono ?_; rintro e w1 ⟨rfl, hw⟩; have hw' := hw.symm; subst hw'; clear hw)
          go_ret
          exact ⟨by rw [HN.out]; rfl, hfa.up HGs.out⟩
      · obtain rfl : k = n := by omega
        have HLv : Hid (∀ x ∈ ls, 0 ≤ x.l ∧ x.l ≤ 4) := fun x hx => by
          obtain ⟨j, hj⟩ := List.mem_iff_getElem?.1 hx
          exact HK.out j x (by have := (List.getElem?_eq_some_iff.1 hj).1; omega) hj
        have HLs : Hid (∀ u, Good (wW w (nn : Int) a k c) u → Ls u u.heap.size a k ls) := fun u hu => (HR.out.up (wW_good w _ a k c)).up hu
        have HFa : Hid (∀ (i : Nat) (u : World), Good (wW w (nn : Int) a k c) u → Calls Tryz.prog 89 #[.agg #[.int .i64 (nn : Int), .slice a k c], .int .i64 (i : Int)] u (FAt9 u (nn : Int) (ftK (fE ls (i : Int)) nn nn))) := fun i u hu => (sForestAt_any nn ls (i : Int) k a c hn1 hn12 HG0.out u (HLs.out u hu)).mono fun _ _ h => h.weak
        have HGs := hideIt hg
        clear HK hg
        go_wp2
        go_loopw [4, 5] (fun mo i wr => ∃ q ms : Nat, q ≤ 5 ∧ ms ≤ 12 ∧ i = .int .i64 (q : Int) ∧ mo = .int .i64 (ms : Int) ∧ Hid (ms = nn / 2 ^ q) ∧ Hid (∀ j, j < q → LvOk nn ls j) ∧ Good (wW w (nn : Int) a k c) wr) (fun _ i _ => 5 - (intOf i).toNat)
        case atStart => exact ⟨0, nn, by omega, by omega, rfl, rfl, by show _ = _; simp, fun j hj => by omega, HGs.out⟩
        case round =>
          obtain ⟨q, ms, hq, hms, rfl, rfl, HMs, HQ, hg⟩ := hrel
          clear HGs cw0 cw1
          obtain ⟨cw0, cw1⟩ := HC.out wr hg
          have HGs := hideIt hg
          by_cases hq5 : q < 5
          · have d0 : decide ((q : Int) ≤ 4) = true := decide_eq_true (by omega)
            have HCf := HFa.out q wr hg
            cases hts : ftK (fE ls (q : Int)) nn nn with
            | none =>
              rw [hts] at HCf
              have HCf := hideIt HCf
              have HN := hideIt (wB_no (N := (nn : Int)) (ls := ls) fun hw => by
                obtain ⟨ts, h1, _⟩ := hw.2.2 q hq5
                rw [Int.toNat_natCast, hts] at h1
                cases h1)
              clear HQ hts hg
              go_wp2_with (go_at_call 89; refine HCf.out.mono ?_; rintro e w3 ⟨a3, m3, c3, rfl, hT3, hb3⟩)
              go_ret
              exact ⟨by rw [HN.out]; rfl, hfa.up ((HGs.out.up hb3).alloc _)⟩
            | some ts =>
              rw [hts] at HCf
              have HCf := hideIt HCf
              have hall := ft_all (fE_ends HG0.out (q : Int)) hn1 hn12 hts
              have HAll := hideIt hall
              have HTS := hideIt hts
              have HTB : Hid (∀ t ∈ ts, tB t = true) := fun t ht => (HAll.out.fp.q.1 t ht).1
              have hl12 : ts.length ≤ 12 := hall.fp.2.2.1
              clear hts hall hg
              go_wp2_with (go_at_call 89; refine HCf.out.mono ?_; rintro e W1 ⟨a1, m1, c1, rfl, hT1, hb3⟩; refine Hid.out ?_)
              refine (show ∀ {p : Prop}, p → Hid p from fun h => h) ?_
              simp only [Option.getD_some] at hT1
              have G1 : Good (wW w (nn : Int) a k c) W1 := HGs.out.up hb3
              obtain ⟨W, hW⟩ : ∃ W, W = W1.alloc (.cells #[.int .i64 (nn : Int), .slice a1 m1 c1] 57) := ⟨_, rfl⟩
              have hbW : Below W1.heap.size W1 W := by rw [hW]; exact (Below.refl _ _).alloc (Nat.le_refl _) _
              have hzW : W.heap.size = W1.heap.size + 1 := by rw [hW]; simp
              have hm1 : m1 ≤ 12 := by have := hT1.1; omega
              have HCW : Hid (∀ u, Good W u → ((u.cell? ⟨W1.heap.size, 0, none⟩ = some (.int .i64 (nn : Int)) ∧ u.cell? ⟨W1.heap.size, 1, none⟩ = some (.slice a1 m1 c1)) ∧ (u.cell? ⟨w.heap.size, 0, none⟩ = some (.int .i64 (nn : Int)) ∧ u.cell? ⟨w.heap.size, 1, none⟩ = some (.slice a k c))) ∧ Good (wW w (nn : Int) a k c) u) := fun u hu => by
                have hu1 : Below W1.heap.size W1 u := hbW.trans (Below.mono hu (by omega))
                have hgu := G1.up hu1
                refine ⟨⟨⟨?_, ?_⟩, HC.out u hgu⟩, hgu⟩
                · rw [hu.cell (by omega), hW]; simp
                · rw [hu.cell (by omega), hW]; simp
              have HTs := hideIt (hT1.up hbW)
              have hln : m1 + lnS ts ≤ 1048576 := by have := lnS_small (ts := ts) (fun t ht => (tB_len (HTB.out t ht)).2); omega
              clear HCf hT1 hb3 hbW G1 cw0 cw1
              go_wp2
              rw [← hW]
              go_loopw [8] (fun i wr => ∃ j : Nat, j ≤ m1 ∧ i = .int .i64 (j : Int) ∧ Hid (∀ y t, y < j → ts[y]? = some t → 1 < (vsL t).length → (vsL t).length ≤ ms) ∧ Good W wr) (fun i _ => m1 - (intOf i).toNat)
              case atStart => exact ⟨0, by omega, rfl, fun y t hy => by omega, Good.refl _⟩
              case round =>
                obtain ⟨j, hj, rfl, HJ, hg⟩ := hrel
                obtain ⟨⟨⟨cf0, cf1⟩, cw0, cw1⟩, hgw⟩ := HCW.out wr hg
                have HG := hideIt hg
                by_cases hjm : j < m1
                · rcases (HTs.out.up hg).2 with hz | ⟨b, off, rfl, hbl, hc⟩
                  · omega
                  · obtain ⟨t, ht⟩ : ∃ t, ts[j]? = some t := ⟨ts[j]'(by have := HTs.out.1; omega), List.getElem?_eq_getElem (by have := HTs.out.1; omega)⟩
                    obtain ⟨x, cx, e0, iI, _⟩ := hc j t ht
                    have hl23 := tB_len (HTB.out t (List.mem_of_getElem? ht))
                    have b1 : (0 : Int) ≤ (j : Int) := by omega
                    have b2 : (j : Int) < (m1 : Int) := by omega
                    have HTk := hideIt ht
                    obtain ⟨V, hV⟩ : ∃ V, (vsL t).length = V := ⟨_, rfl⟩
                    have hV12 := vsL_len t
                    rw [hV] at hV12
                    have HV : Hid (Calls Tryz.prog 90 #[.slice x t.length cx] wr fun e v => ∃ a3 c3, e = .returned (.slice a3 V c3) ∧ Good wr v) := (sVertsOf_any t t.length x cx (by omega) wr iI).mono fun e v ⟨a3, m3, c3, he, ho, hb⟩ => by
                      have hm : V = m3 := by have := ho.1; rw [ic_len] at this; omega
                      subst hm
                      exact ⟨a3, c3, he, hb⟩
                    have HVV := hideIt hV
                    have HJ2 : Hid ((1 < V → V ≤ ms) → ∀ y t, y < j + 1 → ts[y]? = some t → 1 < (vsL t).length → (vsL t).length ≤ ms) := fun hv y s hy hs h2 => by
                      by_cases e : y = j
                      · subst e
                        rw [HTk.out] at hs
                        obtain rfl := Option.some.inj hs
                        rw [HVV.out] at h2 ⊢
                        exact hv h2
                      · exact HJ.out y s (by omega) hs h2
                    clear hc ht iI hV HJ hg
                    by_cases h1 : 1 < V
                    · have d1 : decide ((1 : Int) < (V : Int)) = true := decide_eq_true (by omega)
                      by_cases hle : V ≤ ms
                      · have d2 : decide ((ms : Int) < (V : Int)) = false := decide_eq_false (by omega)
                        have HJ3 := hideIt (HJ2.out fun _ => hle)
                        clear HJ2
                        go_wp2_with (go_at_call 90; refine HV.out.mono ?_; rintro e w3 ⟨a3, c3, rfl, g3⟩)
                        exact ⟨⟨j + 1, by omega, by go_num, HJ3, HG.out.up g3⟩, by simp [intOf]; omega⟩
                      · have d2 : decide ((ms : Int) < (V : Int)) = true := decide_eq_true (by omega)
                        have HN := hideIt (wB_no (N := (nn : Int)) (ls := ls) fun hw => by
                          have h7 := hw.2.2 q hq5
                          rw [Int.toNat_natCast, LvOk_iff HTS.out] at h7
                          have := h7.1 t (List.mem_of_getElem? HTk.out) (by rw [HVV.out]; exact h1)
                          rw [HVV.out, ← HMs.out] at this
                          exact hle this)
                        clear HJ2
                        go_wp2_with (go_at_call 90; refine HV.out.mono ?_; rintro e w3 ⟨a3, c3, rfl, g3⟩)
                        go_ret
                        exact ⟨by rw [HN.out]; rfl, hfa.up (HCW.out _ (HG.out.up g3)).2⟩
                    · have d1 : decide ((1 : Int) < (V : Int)) = false := decide_eq_false (by omega)
                      have HJ3 := hideIt (HJ2.out fun h => absurd h h1)
                      clear HJ2
                      go_wp2_with (go_at_call 90; refine HV.out.mono ?_; rintro e w3 ⟨a3, c3, rfl, g3⟩)
                      exact ⟨⟨j + 1, by omega, by go_num, HJ3, HG.out.up g3⟩, by simp [intOf]; omega⟩
                · obtain rfl : j = m1 := by omega
                  have HA : Hid (∀ t ∈ ts, 1 < (vsL t).length → (vsL t).length ≤ nn / 2 ^ q) := fun t ht h2 => by
                    obtain ⟨y, hy⟩ := List.mem_iff_getElem?.1 ht
                    rw [← HMs.out]
                    exact HJ.out y t (by have := (List.getElem?_eq_some_iff.1 hy).1; have := HTs.out.1; omega) hy h2
                  have HTr : Hid (∀ (v : Int) (u : World), Good W u → Calls Tryz.prog 91 #[.agg #[.int .i64 (nn : Int), .slice a1 j c1], .int .i64 v] u fun e w' => e = .returned (.int .i64 (trI ts v)) ∧ Good W w') := fun v u hu => by
                    have := sTreeOf_any (nn : Int) ts v j a1 c1 hln u (HTs.out.up hu)
                    rw [treeO_yes HAll.out.fp] at this
                    exact this.mono fun e u' ⟨h1, h2⟩ => ⟨h1, hu.up h2⟩
                  clear HJ hg
                  go_wp2
                  go_loopw [10] (fun i wr => ∃ p : Nat, p ≤ k ∧ i = .int .i64 (p : Int) ∧ Hid (∀ y x, y < p → ls[y]? = some x → x.t = false → x.l = (q : Int) → trI ts x.a = trI ts x.b) ∧ Good W wr) (fun i _ => k - (intOf i).toNat)
                  case atStart => exact ⟨0, by omega, rfl, fun y x hy => by omega, HG.out⟩
                  case round =>
                    obtain ⟨p, hp, rfl, HP, hg⟩ := hrel
                    clear HG cf0 cf1 cw0 cw1 hgw
                    obtain ⟨⟨⟨cf0, cf1⟩, cw0, cw1⟩, hgw⟩ := HCW.out wr hg
                    have HG := hideIt hg
                    by_cases hpk : p < k
                    · obtain ⟨b, off, x, rfl, hbl, hxk, hat⟩ := (HLs.out wr hgw).at hpk
                      have e0 := hat.ca
                      have e1 := hat.cb
                      have e2 := hat.cl
                      have e3 := hat.ct
                      have b1 : (0 : Int) ≤ (p : Int) := by omega
                      have b2 : (p : Int) < (k : Int) := by omega
                      have HX := hideIt hxk
                      have HP2 : Hid ((x.t = false → x.l = (q : Int) → trI ts x.a = trI ts x.b) → ∀ y x, y < p + 1 → ls[y]? = some x → x.t = false → x.l = (q : Int) → trI ts x.a = trI ts x.b) := fun hv y z hy hz => by
                        by_cases e : y = p
                        · subst e
                          rw [HX.out] at hz
                          obtain rfl := Option.some.inj hz
                          exact hv
                        · exact HP.out y z (by omega) hz
                      have HGa := hideIt (hg.alloc (.cells #[.int .i64 x.a, .int .i64 x.b, .int .i64 x.l, .bool x.t] 52))
                      have hzw : W1.heap.size < wr.heap.size := by have := hg.size; omega
                      have HS : Hid (∀ u, Good (wr.alloc (.cells #[.int .i64 x.a, .int .i64 x.b, .int .i64 x.l, .bool x.t] 52)) u → ((u.cell? ⟨W1.heap.size, 0, none⟩ = some (.int .i64 (nn : Int)) ∧ u.cell? ⟨W1.heap.size, 1, none⟩ = some (.slice a1 j c1)) ∧ (u.cell? ⟨wr.heap.size, 0, none⟩ = some (.int .i64 x.a) ∧ u.cell? ⟨wr.heap.size, 1, none⟩ = some (.int .i64 x.b))) ∧ u.cell? ⟨wr.heap.size, 2, none⟩ = some (.int .i64 x.l) ∧ u.cell? ⟨wr.heap.size, 3, none⟩ = some (.bool x.t)) := fun u hu => by
                        refine ⟨⟨(HCW.out u (HGa.out.up hu)).1.1, ?_, ?_⟩, ?_, ?_⟩
                        all_goals rw [hu.cell (by simp)]; simp
                      have g0 : Good (wr.alloc (.cells #[.int .i64 x.a, .int .i64 x.b, .int .i64 x.l, .bool x.t] 52)) (wr.alloc (.cells #[.int .i64 x.a, .int .i64 x.b, .int .i64 x.l, .bool x.t] 52)).drew := (Good.refl _).drew
                      clear hxk hat hg HP
                      cases ht : x.t with
                      | true =>
                        rw [ht] at e3 HGa HS g0
                        have HP3 := hideIt (HP2.out fun h => by rw [ht] at h; cases h)
                        have hS0 := HS.out _ g0
                        clear HP2 ht
                        go_wp2
                        go_quiet (fail)
                        go_wp2
                        exact ⟨⟨p + 1, by omega, by go_num, HP3, below_drewN HGa.out _⟩, by simp [intOf]; omega⟩
                      | false =>
                        rw [ht] at e3 HGa HS g0
                        have hS0 := HS.out _ g0
                        by_cases hlq : x.l = (q : Int)
                        · have d2 : (x.l == (q : Int)) = true := by simpa using hlq
                          have HTa : Hid (∀ u, Good (wr.alloc (.cells #[.int .i64 x.a, .int .i64 x.b, .int .i64 x.l, .bool false] 52)) u → Calls Tryz.prog 91 #[.agg #[.int .i64 (nn : Int), .slice a1 j c1], .int .i64 x.a] u fun e w' => e = .returned (.int .i64 (trI ts x.a)) ∧ Good (wr.alloc (.cells #[.int .i64 x.a, .int .i64 x.b, .int .i64 x.l, .bool false] 52)) w') := fun u hu => by
                            have := sTreeOf_any (nn : Int) ts x.a j a1 c1 hln u (HTs.out.up (HGa.out.up hu))
                            rw [treeO_yes HAll.out.fp] at this
                            exact this.mono fun e u' ⟨h1, h2⟩ => ⟨h1, hu.up h2⟩
                          have HTb : Hid (∀ u, Good (wr.alloc (.cells #[.int .i64 x.a, .int .i64 x.b, .int .i64 x.l, .bool false] 52)) u → Calls Tryz.prog 91 #[.agg #[.int .i64 (nn : Int), .slice a1 j c1], .int .i64 x.b] u fun e w' => e = .returned (.int .i64 (trI ts x.b)) ∧ Good (wr.alloc (.cells #[.int .i64 x.a, .int .i64 x.b, .int .i64 x.l, .bool false] 52)) w') := fun u hu => by
                            have := sTreeOf_any (nn : Int) ts x.b j a1 c1 hln u (HTs.out.up (HGa.out.up hu))
                            rw [treeO_yes HAll.out.fp] at this
                            exact this.mono fun e u' ⟨h1, h2⟩ => ⟨h1, hu.up h2⟩
                          obtain ⟨ta, hta⟩ : ∃ ta, trI ts x.a = ta := ⟨_, rfl⟩
                          obtain ⟨tb, htb⟩ : ∃ tb, trI ts x.b = tb := ⟨_, rfl⟩
                          rw [hta] at HTa
                          rw [htb] at HTb
                          by_cases hab : ta = tb
                          · have d3 : (ta != tb) = false := by simpa using hab
                            have HP3 := hideIt (HP2.out fun _ _ => by rw [hta, htb]; exact hab)
                            clear HP2 ht hlq hab hta htb HTr
                            go_wp2
                            go_region_held3 (fun u => ((u.cell? ⟨W1.heap.size, 0, none⟩ = some (.int .i64 (nn : Int)) ∧ u.cell? ⟨W1.heap.size, 1, none⟩ = some (.slice a1 j c1)) ∧ (u.cell? ⟨wr.heap.size, 0, none⟩ = some (.int .i64 x.a) ∧ u.cell? ⟨wr.heap.size, 1, none⟩ = some (.int .i64 x.b))) ∧ u.cell? ⟨wr.heap.size, 2, none⟩ = some (.int .i64 x.l) ∧ u.cell? ⟨wr.heap.size, 3, none⟩ = some (.bool false))
                              (first | exact HS.out _ g5 | exact HS.out _ g4 | exact hS0)
                              (first | (go_at_call 91; refine (HTa.out _ g0).mono ?_; clear HTa; rintro e w4 ⟨rfl, g4⟩) | (go_at_call 91; refine (HTb.out _ g4).mono ?_; rintro e w5 ⟨rfl, g5⟩))
                            go_wp2
                            exact ⟨⟨p + 1, by omega, by go_num, HP3, HGa.out.up g5⟩, by simp [intOf]; omega⟩
                          · have d3 : (ta != tb) = true := by simpa using hab
                            have HN := hideIt (wB_no (N := (nn : Int)) (ls := ls) fun hw => by
                              have h7 := hw.2.2 q hq5
                              rw [Int.toNat_natCast, LvOk_iff HTS.out] at h7
                              have := h7.2 x (List.mem_of_getElem? HX.out) ht hlq
                              rw [hta, htb] at this
                              exact hab this)
                            clear HP2 ht hlq hab hta htb HTr
                            go_wp2
                            go_region_held3 (fun u => ((u.cell? ⟨W1.heap.size, 0, none⟩ = some (.int .i64 (nn : Int)) ∧ u.cell? ⟨W1.heap.size, 1, none⟩ = some (.slice a1 j c1)) ∧ (u.cell? ⟨wr.heap.size, 0, none⟩ = some (.int .i64 x.a) ∧ u.cell? ⟨wr.heap.size, 1, none⟩ = some (.int .i64 x.b))) ∧ u.cell? ⟨wr.heap.size, 2, none⟩ = some (.int .i64 x.l) ∧ u.cell? ⟨wr.heap.size, 3, none⟩ = some (.bool false))
                              (first | exact HS.out _ g5 | exact HS.out _ g4 | exact hS0)
                              (first | (go_at_call 91; refine (HTa.out _ g0).mono ?_; clear HTa; rintro e w4 ⟨rfl, g4⟩) | (go_at_call 91; refine (HTb.out _ g4).mono ?_; rintro e w5 ⟨rfl, g5⟩))
                            go_wp2
                            go_ret
                            exact ⟨by rw [HN.out]; rfl, hfa.up (HCW.out _ (HGa.out.up g5)).2⟩
                        · have d2 : (x.l == (q : Int)) = false := by simpa using hlq
                          have HP3 := hideIt (HP2.out fun _ h => absurd h hlq)
                          clear HP2 ht hlq HTr
                          go_wp2
                          go_quiet (fail)
                          go_wp2
                          exact ⟨⟨p + 1, by omega, by go_num, HP3, below_drewN HGa.out _⟩, by simp [intOf]; omega⟩
                    · obtain rfl : p = k := by omega
                      have HQ2 : Hid (∀ y, y < q + 1 → LvOk nn ls y) := fun y hy => by
                        by_cases e : y = q
                        · subst e
                          exact (LvOk_iff HTS.out).2 ⟨HA.out, fun x hx h1 h2 => by
                            obtain ⟨z, hz⟩ := List.mem_iff_getElem?.1 hx
                            exact HP.out z x (by have := (List.getElem?_eq_some_iff.1 hz).1; omega) hz h1 h2⟩
                        · exact HQ.out y (by omega)
                      have HMs2 : Hid (ms / 2 = nn / 2 ^ (q + 1)) := by show _ = _; rw [HMs.out, Nat.div_div_eq_div_mul, Nat.pow_succ]
                      clear HP hg
                      go_wp2
                      exact ⟨⟨q + 1, ms / 2, by omega, by omega, by go_num, by first | rfl | (congr 1; omega) | go_num, HMs2, HQ2, hgw⟩, by simp [intOf]; omega⟩
          · have d0 : decide ((q : Int) ≤ 4) = false := decide_eq_false (by omega)
            have HY := hideIt (wB_yes (N := (nn : Int)) (ls := ls) ⟨HG0.out, HLv.out, fun i hi => by rw [Int.toNat_natCast]; exact HQ.out i (by omega)⟩)
            clear HQ
            go_wp2
            go_ret
            exact ⟨by rw [HY.out]; rfl, hfa.up hg⟩
end Go.Proofs.YtgjnlhdgekfieaaGreat
namespace Go.Proofs.YtgjnlhdgekfieaaGreat
open Go.RowKit

/-- the edges that stay and the lost one, in the making -/
structure TkS (w : World) (N : Int) (a : Option Addr) (n c : Nat) (f : EdgeV) (b8 : Nat) (lk : Ld) (a' : Option Addr) (m' c' : Nat) (gs : List Ld) (u : World) : Prop where
  in4 : In4 w N a n c f u
  lost : Box4 u (b8 + 1) lk
  now : Box7 u b8 26 (.int .i64 N) (.slice a' m' c')
  own : u.ownsRow (b8 + 2) 52 4 (.slice a' m' c') m' (lcells gs)
section
variable {w : World} {N : Int} {a : Option Addr} {n c : Nat} {f : EdgeV} {b8 : Nat} {lk : Ld} {a' : Option Addr} {m' c' : Nat} {gs : List Ld} {u v : World}
theorem TkS.up (h : TkS w N a n c f b8 lk a' m' c' gs u) (hb : Below u.heap.size u v) : TkS w N a n c f b8 lk a' m' c' gs v := ⟨h.in4.up hb, h.lost.up hb, h.now.up hb, own_up h.own hb⟩
theorem TkS.lostSet (h : TkS w N a n c f b8 lk a' m' c' gs u) (hb : w.heap.size + 4 ≤ b8) (x : Ld) :
    TkS w N a n c f b8 x a' m' c' gs ((((u.setCell ⟨b8 + 1, 0, none⟩ (.int .i64 x.a)).setCell ⟨b8 + 1, 1, none⟩ (.int .i64 x.b)).setCell ⟨b8 + 1, 2, none⟩ (.int .i64 x.l)).setCell ⟨b8 + 1, 3, none⟩ (.bool x.t)) :=
  ⟨⟨Good.set4 h.in4.good _ _ _ _ _ (by rw [w4w_size]; omega)⟩, h.lost.set4 x, (((h.now.setOther _ (by omega)).setOther _ (by omega)).setOther _ (by omega)).setOther _ (by omega), own_setLow (own_setLow (own_setLow (own_setLow h.own _ 0 _ (by omega)) _ 1 _ (by omega)) _ 2 _ (by omega)) _ 3 _ (by omega)⟩
/-- the row of the edges that stay is another one -/
theorem TkS.put (h : TkS w N a n c f b8 lk a' m' c' gs u) (hb : w.heap.size + 4 ≤ b8) {row : Option Nat} (hg : u.grownBy v row) (hr : ∀ g, row = some g → b8 + 2 ≤ g) {a2 : Option Addr} {m2 c2 : Nat} {hs : List Ld} (ho : v.ownsRow (b8 + 2) 52 4 (.slice a2 m2 c2) m2 (lcells hs)) :
    TkS w N a n c f b8 lk a2 m2 c2 hs (v.setCell ⟨b8, 1, none⟩ (.slice a2 m2 c2)) :=
  ⟨⟨Below.setCell (good_grown2 h.in4.good hg fun g e => by have := hr g e; rw [w4w_size]; omega) (p := ⟨b8, 1, none⟩) (by rw [w4w_size]; exact hb) _⟩, (h.lost.grown hg (fun e => by have := hr _ e.symm; omega)).setOther _ (by omega), (h.now.grown hg (fun e => by have := hr _ e.symm; omega)).set1 _, own_setLow ho _ 1 _ (by omega)⟩
end
theorem ouL_snoc {ls : List Ld} {f : EdgeV} {k : Nat} {y : Ld} (h : ls[k]? = some y) : ouL (ls.take (k + 1)) f = ouL (ls.take k) f ++ if y.e = f then [] else [y] := by
  unfold ouL
  rw [List.take_add_one, h, List.filter_append]
  by_cases e : y.e = f <;> simp [e]
theorem srO_fst {i : Int} {t : List Int} : ∀ {L : List Ld}, (srO i t L).2 = none → (srO i t L).1 = L.map (srL i t)
  | [], _ => rfl
  | x :: xs, h => by
    rw [srO] at h ⊢
    by_cases hh : hitL i t x
    · rw [if_pos hh] at h
      cases h
    · rw [if_neg hh] at h ⊢
      rw [List.map_cons, ← srO_fst (L := xs) h]
theorem wta_drew2 {w u : World} {N : Int} {o : Option (List Ld × Option EdgeV)} {e : Ending} (h : WtA w N o e u) : WtA w N o e u.drew := by
  obtain ⟨a, m, c, h1, h2, h3⟩ := h
  exact ⟨a, m, c, h1, h2, h3.drew⟩
theorem own_nil {u : World} {B e s n c : Nat} {a : Option Addr} {xs : List Value} (h : u.ownsRow B e s (.slice a n c) n xs) (ha : a = none) : n = 0 ∧ c = 0 := by
  subst ha
  rcases h.2 with ⟨h1, _⟩ | ⟨g, cap, cur, h1, _⟩
  · simp at h1
    exact h1
  · simp at h1

set_option maxRecDepth 100000 in
set_option maxHeartbeats 8000000 in
theorem sWebTake_any (N : Int) (ls : List Ld) (f : EdgeV) (n : Nat) (a : Option Addr) (c : Nat) (hn : n ≤ 1048576) (w : World) (h : Ls w w.heap.size a n ls) :
    Calls Tryz.prog 29 #[.agg #[.int .i64 N, .slice a n c], .agg #[.int .i64 f.1, .int .i64 f.2]] w fun e w' => WtA w N (wtO N ls f) e w' := by
  obtain ⟨i0, hi, hz0, hz1, hz2⟩ := info_parts infoIL
  have hA : Hid (∀ u, In4 w N a n c f u → Ls u u.heap.size a n ls) := fun u hu => h.up hu.below
  have HOk : Hid (∀ u, In4 w N a n c f u → Calls Tryz.prog 21 #[.agg #[.int .i64 N, .slice a n c]] u fun e v => e = .returned (.bool (wB N ls)) ∧ In4 w N a n c f v) := fun u hu =>
    (sWebOk_any N ls n a c hn u (hA.out u hu)).mono fun _ _ ⟨he, hb⟩ => ⟨he, hu.up hb⟩
  have HK : Hid (∀ u, In4 w N a n c f u → (((u.cell? ⟨w.heap.size, 0, none⟩ = some (.int .i64 N) ∧ u.cell? ⟨w.heap.size, 1, none⟩ = some (.slice a n c)) ∧ (u.cell? ⟨w.heap.size + 1, 0, none⟩ = some (.int .i64 f.1) ∧ u.cell? ⟨w.heap.size + 1, 1, none⟩ = some (.int .i64 f.2))) ∧ In4 w N a n c f u)) := fun u hu => ⟨hu.cells, hu⟩
  have S1 := In4.start w N a n c f
  have Hls := hideIt h
  clear h
  go_enter Tryz.func29, Tryz.ntmps29
  go_upto_region 1 with fail
  obtain ⟨W, hW⟩ : ∃ W, W = w4w w N a n c f := ⟨_, rfl⟩
  have hW' : ((((w.alloc (.cells #[.int .i64 N, .slice a n c] 26)).alloc (.cells #[.int .i64 f.1, .int .i64 f.2] 28)).alloc (.cells #[.int .i64 0, .slice none 0 0] 26)).alloc (.cells #[.int .i64 0, .int .i64 0] 28)) = W := hW.symm
  rw [hW']
  rw [← hW] at S1
  clear hW hW'
  have hS1 := HK.out _ S1.drew
  by_cases hW : WOk N ls
  · rw [wB_yes hW] at HOk
    obtain ⟨nn, rfl, hn1, hn12⟩ := gB_n hW.1
    have HGr : Hid (∀ u, In4 w (nn : Int) a n c f u → Calls Tryz.prog 28 #[.agg #[.int .i64 (nn : Int), .slice a n c]] u fun e v => ∃ ag cg, e = .returned (.agg #[.int .i64 (nn : Int), .slice ag n cg]) ∧ Hid (Es v v.heap.size ag n (gE ls)) ∧ In4 w (nn : Int) a n c f v) := fun u hu =>
      (sGraphOf_any (nn : Int) ls n a c hn u (hA.out u hu)).mono fun _ _ ⟨ag, cg, he, ho, hb⟩ => ⟨ag, cg, he, Es_of_own ho, hu.up hb⟩
    have HHa : Hid (∀ ag cg u, In4 w (nn : Int) a n c f u → Hid (Es u u.heap.size ag n (gE ls)) → Calls Tryz.prog 15 #[.agg #[.int .i64 (nn : Int), .slice ag n cg], .agg #[.int .i64 f.1, .int .i64 f.2]] u fun e v => e = .returned (.bool (hasB (gE ls) f)) ∧ In4 w (nn : Int) a n c f v) := fun ag cg u hu he =>
      (sHasEdge_any (nn : Int) (gE ls) f n ag cg hn u he.out).mono fun _ _ ⟨h1, h2⟩ => ⟨h1, hu.up h2⟩
    by_cases hh : hasB (gE ls) f = true
    · rw [hh] at HHa
      obtain ⟨p, x, hk, hxe, _, hou, hfi⟩ := take_at hW hh
      have HW := hideIt (wtO_yes hW hh hfi)
      have hlen : ls.length = n := Hls.out.1
      have hpn : p < n := by have := (List.getElem?_eq_some_iff.1 hk).1; omega
      have HS := hideIt (Stg.of hW)
      have Hxl : Hid (0 ≤ x.l ∧ x.l ≤ 4) := hW.2.1 x (List.mem_of_getElem? hk)
      have Hfe : Hid ((0 ≤ f.1 ∧ f.1 < (nn : Int)) ∧ 0 ≤ f.2 ∧ f.2 < (nn : Int)) := by
        have := chk_eB (gB_chk hW.1).2.1 (gE_mem (List.mem_of_getElem? hk))
        have h2 := (eB_iff7 _ _).1 this
        rw [hxe] at h2
        exact ⟨⟨h2.2.2.1, by omega⟩, by omega, h2.2.2.2.2⟩
      have Huq : Hid (∀ (k : Nat) (y : Ld), ls[k]? = some y → (y.e = f ↔ k = p)) := fun k y hy => by
        constructor
        · intro he
          have ha := asc_of_chk (gB_chk hW.1).2.1
          rcases Nat.lt_trichotomy k p with h1 | h1 | h1
          · have h2 := ha k p _ _ h1 (gE_at hy) (gE_at hk)
            rw [he, hxe, lt_irrefl'] at h2
            exact absurd h2 (by simp)
          · exact h1
          · have h2 := ha p k _ _ h1 (gE_at hk) (gE_at hy)
            rw [he, hxe, lt_irrefl'] at h2
            exact absurd h2 (by simp)
        · intro he
          subst he
          rw [hk] at hy
          rw [← Option.some.inj hy]
          exact hxe
      have HKx := hideIt hk
      have Hxe := hideIt hxe
      clear hW hh hfi hou hk hxe
      go_region_held3 (fun u => ((u.cell? ⟨w.heap.size, 0, none⟩ = some (.int .i64 (nn : Int)) ∧ u.cell? ⟨w.heap.size, 1, none⟩ = some (.slice a n c)) ∧ (u.cell? ⟨w.heap.size + 1, 0, none⟩ = some (.int .i64 f.1) ∧ u.cell? ⟨w.heap.size + 1, 1, none⟩ = some (.int .i64 f.2))) ∧ In4 w (nn : Int) a n c f u)
        (first | with_reducible assumption)
        (first
          | (go_at_call 21; refine (HOk.out _ (And.right (by assumption))).mono ?_; rintro e w3 ⟨rfl, hg3⟩; have hS3 := HK.out _ hg3)
          | (go_at_call 28; refine (HGr.out _ (And.right (by assumption))).mono ?_; rintro e w4 ⟨ag, cg, rfl, ho4, hg4⟩; have hS4 := HK.out _ hg4)
          | (go_at_call 15; refine (HHa.out _ _ _ (And.right (by assumption)) (by assumption)).mono ?_; rintro e w5 ⟨rfl, hg5⟩; have hS5 := HK.out _ hg5))
      obtain ⟨⟨⟨k0, k1⟩, k2, k3⟩, S5⟩ := hS5
      clear hS1 hS3 hS4 hg3 hg4 hg5 ho4 HOk HGr HHa S1
      have T7 : TkS w (nn : Int) a n c f w5.heap.size ⟨0, 0, 0, false⟩ none 0 0 [] ((w5.alloc (.cells #[.int .i64 (nn : Int), .slice none 0 0] 26)).alloc (.cells #[.int .i64 0, .int .i64 0, .int .i64 0, .bool false] 52)) :=
        ⟨S5.up (((Below.refl _ _).alloc (Nat.le_refl _) _).alloc (by simp) _), Box4.new _ ⟨0, 0, 0, false⟩ _ (by simp), (Box7.new _ _ _ _ _ rfl).alloc _, World.ownsRow_nil _ _ _ _⟩
      have HT7 := hideIt T7
      have Z8 : Hid (w.heap.size + 4 ≤ w5.heap.size) := S5.size
      clear T7 S5
      go_wp2
      clear k0 k1 k2 k3
      generalize ((w5.alloc (.cells #[.int .i64 (nn : Int), .slice none 0 0] 26)).alloc (.cells #[.int .i64 0, .int .i64 0, .int .i64 0, .bool false] 52)) = W7 at *
      generalize w5.heap.size = b8 at *
      have z8 := Z8.out
      clear Z8
      go_loopw [10] (fun q wr => ∃ (k m' c' : Nat) (a' : Option Addr), k ≤ n ∧ m' ≤ k ∧ q = .int .i64 (k : Int) ∧ Hid (TkS w (nn : Int) a n c f b8 (if p < k then x else ⟨0, 0, 0, false⟩) a' m' c' (ouL (ls.take k) f) wr)) (fun q _ => n - (intOf q).toNat)
      case atStart => exact ⟨0, 0, 0, none, by omega, by omega, rfl, HT7.out⟩
      case round =>
        obtain ⟨k, m', c', a', hk, hmk, rfl, HT⟩ := hrel
        clear HT7
        by_cases hlt : k < n
        · obtain ⟨ba, off, y, rfl, hbl, hy, hat⟩ := (hA.out wr HT.out.in4).at hlt
          have b1 : (0 : Int) ≤ (k : Int) := by omega
          have b2 : (k : Int) < (n : Int) := by omega
          have o0 := hat.ca
          have o1 := hat.cb
          have o2 := hat.cl
          have o3 := hat.ct
          obtain ⟨⟨k0, k1⟩, k2, k3⟩ := HT.out.in4.cells
          have hyf := Huq.out k y hy
          have Hsn := hideIt (ouL_snoc (f := f) hy)
          by_cases hkp : k = p
          · have hye : y.e = f := hyf.2 hkp
            have hyx : y = x := by have := HKx.out; rw [hkp, this] at hy; exact (Option.some.inj hy).symm
            have d1 : (y.a == f.1) = true := by rw [← hye]; simp [Ld.e]
            have d2 : (y.b == f.2) = true := by rw [← hye]; simp [Ld.e]
            have q0 := HT.out.lost.cells
            obtain ⟨l0, l1, l2, l3⟩ := q0
            have g0 := HT.out.lost.frozen 0
            have g1 := HT.out.lost.frozen 1
            have g2 := HT.out.lost.frozen 2
            have g3 := HT.out.lost.frozen 3
            have HT2 : Hid (∀ q, TkS w (nn : Int) (some ⟨ba, off, none⟩) n c f b8 (if p < k + 1 then x else ⟨0, 0, 0, false⟩) a' m' c' (ouL (ls.take (k + 1)) f) (((((wr.drewN q).setCell ⟨b8 + 1, 0, none⟩ (.int .i64 y.a)).setCell ⟨b8 + 1, 1, none⟩ (.int .i64 y.b)).setCell ⟨b8 + 1, 2, none⟩ (.int .i64 y.l)).setCell ⟨b8 + 1, 3, none⟩ (.bool y.t))) := fun q => by
              have h1 := (HT.out.up (below_drewN (Below.refl _ _) q)).lostSet z8 y
              rw [Hsn.out, if_pos hye, List.append_nil, if_pos (by omega), ← hyx]
              exact h1
            have HD := hideIt (And.intro d1 d2)
            clear hy hat hyf hye hyx hkp
            go_wp2
            go_quiet (fail)
            go_wp2
            exact ⟨⟨k + 1, m', c', a', by omega, by omega, by go_num, hideIt (HT2.out _)⟩, by simp [intOf]; omega⟩
          · have hye : ¬ y.e = f := fun h => hkp (hyf.1 h)
            have Hye := hideIt hye
            have Hkp := hideIt hkp
            have HBl := hideIt hbl
            have Hsz : Hid (∀ q, wr.heap.size ≤ (wr.drewN q).heap.size) := fun q => (below_drewN (Below.refl wr.heap.size wr) q).size
            by_cases ha : y.a = f.1
            · have d1 : (y.a == f.1) = true := by simp [ha]
              have d2 : (y.b == f.2) = false := by
                have : y.b ≠ f.2 := fun hb => hye (Prod.ext ha hb)
                simpa using this
              clear hy hyf hye hkp ha
              go_wp2
              go_quiet (fail)
              obtain ⟨W8, hW8⟩ : ∃ W8, W8 = wr.drewN nq := ⟨_, rfl⟩
              have HT8 : Hid (TkS w (nn : Int) (some ⟨ba, off, none⟩) n c f b8 (if p < k then x else ⟨0, 0, 0, false⟩) a' m' c' (ouL (ls.take k) f) W8) := by rw [hW8]; exact HT.out.up (below_drewN (Below.refl _ _) nq)
              have hb8 : Below wr.heap.size wr W8 := by rw [hW8]; exact below_drewN (Below.refl _ _) nq
              have hat8 := hat.below hb8 hbl
              have o0 := hat8.ca
              have o1 := hat8.cb
              have o2 := hat8.cl
              have o3 := hat8.ct
              obtain ⟨⟨k0, k1⟩, k2, k3⟩ := HT8.out.in4.cells
              have n1 := HT8.out.now.cell1
              have hown := HT8.out.own
              have zw : b8 + 2 ≤ W8.heap.size := by have := HT8.out.lost.lt; omega
              have lb8 : b8 < W8.heap.size := by omega
              have lw8 : w.heap.size < W8.heap.size := by omega
              have HW8e := hideIt hW8
              rw [← hW8]
              clear hW8 hat hat8 hb8 HT
              have hbw : ba < W8.heap.size := by have := HBl.out; have := Hsz.out nq; rw [HW8e.out]; omega
              have HKK : Hid (∀ w1 : World, ((W8.alloc (.cells #[.int .i64 y.a, .int .i64 y.b, .int .i64 y.l, .bool y.t] 52)).drew).grownBy w1 (Value.slice a' m' c').ownBlock → W8.grownBy w1 (Value.slice a' m' c').ownBlock ∧ Box7 w1 b8 26 (.int .i64 (nn : Int)) (.slice a' m' c')) := fun w1 hg => by
                have hg' : W8.grownBy w1 (Value.slice a' m' c').ownBlock := grown_trans (World.grownBy_alloc W8 _ _) (⟨hg.os, hg.tape, hg.output, hg.size, hg.block⟩ : (W8.alloc (.cells #[.int .i64 y.a, .int .i64 y.b, .int .i64 y.l, .bool y.t] 52)).grownBy w1 _)
                exact ⟨hg', HT8.out.now.grown hg' fun e => by have := (HT8.out.own.lt b8 e.symm).1; omega⟩
              go_wp2
              go_region_law (refine step_append_lies _ (by rfl) _ _ _ (by rfl) (b8 + 2) 52 i0 _ 4 32 Tryz.underlying24 hi hz0 hz1 hz2 rfl (by omega) _ m' _ (by rfl) ((hown.alloc _).drew) ⟨W8.heap.size, 0, none⟩ 1 1 [.int .i64 y.a, .int .i64 y.b, .int .i64 y.l, .bool y.t] (by rfl) (by rfl) (World.news_of_block (cs := #[.int .i64 y.a, .int .i64 y.b, .int .i64 y.l, .bool y.t]) (t := 52) (fr := (0, 0)) (heap_alloc_new W8 _)) (by simp [Value.oneCell']) (by omega) (by unfold maxLen; omega) (by omega) (by simp; omega) (W8.heap.size + 1) (by simp) ?_; intro g9 cap9 w9 hown9 hg9 hat9 hlt9; obtain ⟨hg9', y0⟩ := HKK.out _ hg9; have z9 := y0.cell1; have z10 := y0.frozen 1)
              all_goals
                have HT9 : Hid (TkS w (nn : Int) (some ⟨ba, off, none⟩) n c f b8 (if p < k + 1 then x else ⟨0, 0, 0, false⟩) (some ⟨g9, 0, none⟩) (m' + 1) cap9 (ouL (ls.take (k + 1)) f) (w9.setCell ⟨b8, 1, none⟩ (.slice (some ⟨g9, 0, none⟩) (m' + 1) cap9))) := by
                  have h1 : (if p < k + 1 then x else (⟨0, 0, 0, false⟩ : Ld)) = if p < k then x else ⟨0, 0, 0, false⟩ := by
                    have := Hkp.out
                    by_cases h2 : p < k
                    · rw [if_pos h2, if_pos (by omega)]
                    · rw [if_neg h2, if_neg (by omega)]
                  rw [h1, Hsn.out, if_neg Hye.out]
                  exact HT8.out.put z8 hg9' (fun g hg => (HT8.out.own.lt g hg).1) (by rw [lcells_snoc]; exact hown9)
                clear hown9 hg9 hg9' HKK HT8 hown
                go_wp2
                exact ⟨⟨k + 1, m' + 1, cap9, some ⟨g9, 0, none⟩, by omega, by omega, by go_num, HT9⟩, by simp [intOf]; omega⟩
            · have d1 : (y.a == f.1) = false := by simpa using ha
              clear hy hyf hye hkp ha
              go_wp2
              go_quiet (fail)
              obtain ⟨W8, hW8⟩ : ∃ W8, W8 = wr.drewN nq := ⟨_, rfl⟩
              have HT8 : Hid (TkS w (nn : Int) (some ⟨ba, off, none⟩) n c f b8 (if p < k then x else ⟨0, 0, 0, false⟩) a' m' c' (ouL (ls.take k) f) W8) := by rw [hW8]; exact HT.out.up (below_drewN (Below.refl _ _) nq)
              have hb8 : Below wr.heap.size wr W8 := by rw [hW8]; exact below_drewN (Below.refl _ _) nq
              have hat8 := hat.below hb8 hbl
              have o0 := hat8.ca
              have o1 := hat8.cb
              have o2 := hat8.cl
              have o3 := hat8.ct
              obtain ⟨⟨k0, k1⟩, k2, k3⟩ := HT8.out.in4.cells
              have n1 := HT8.out.now.cell1
              have hown := HT8.out.own
              have zw : b8 + 2 ≤ W8.heap.size := by have := HT8.out.lost.lt; omega
              have lb8 : b8 < W8.heap.size := by omega
              have lw8 : w.heap.size < W8.heap.size := by omega
              have HW8e := hideIt hW8
              rw [← hW8]
              clear hW8 hat hat8 hb8 HT
              have hbw : ba < W8.heap.size := by have := HBl.out; have := Hsz.out nq; rw [HW8e.out]; omega
              have HKK : Hid (∀ w1 : World, ((W8.alloc (.cells #[.int .i64 y.a, .int .i64 y.b, .int .i64 y.l, .bool y.t] 52)).drew).grownBy w1 (Value.slice a' m' c').ownBlock → W8.grownBy w1 (Value.slice a' m' c').ownBlock ∧ Box7 w1 b8 26 (.int .i64 (nn : Int)) (.slice a' m' c')) := fun w1 hg => by
                have hg' : W8.grownBy w1 (Value.slice a' m' c').ownBlock := grown_trans (World.grownBy_alloc W8 _ _) (⟨hg.os, hg.tape, hg.output, hg.size, hg.block⟩ : (W8.alloc (.cells #[.int .i64 y.a, .int .i64 y.b, .int .i64 y.l, .bool y.t] 52)).grownBy w1 _)
                exact ⟨hg', HT8.out.now.grown hg' fun e => by have := (HT8.out.own.lt b8 e.symm).1; omega⟩
              go_wp2
              go_region_law (refine step_append_lies _ (by rfl) _ _ _ (by rfl) (b8 + 2) 52 i0 _ 4 32 Tryz.underlying24 hi hz0 hz1 hz2 rfl (by omega) _ m' _ (by rfl) ((hown.alloc _).drew) ⟨W8.heap.size, 0, none⟩ 1 1 [.int .i64 y.a, .int .i64 y.b, .int .i64 y.l, .bool y.t] (by rfl) (by rfl) (World.news_of_block (cs := #[.int .i64 y.a, .int .i64 y.b, .int .i64 y.l, .bool y.t]) (t := 52) (fr := (0, 0)) (heap_alloc_new W8 _)) (by simp [Value.oneCell']) (by omega) (by unfold maxLen; omega) (by omega) (by simp; omega) (W8.heap.size + 1) (by simp) ?_; intro g9 cap9 w9 hown9 hg9 hat9 hlt9; obtain ⟨hg9', y0⟩ := HKK.out _ hg9; have z9 := y0.cell1; have z10 := y0.frozen 1)
              all_goals
                have HT9 : Hid (TkS w (nn : Int) (some ⟨ba, off, none⟩) n c f b8 (if p < k + 1 then x else ⟨0, 0, 0, false⟩) (some ⟨g9, 0, none⟩) (m' + 1) cap9 (ouL (ls.take (k + 1)) f) (w9.setCell ⟨b8, 1, none⟩ (.slice (some ⟨g9, 0, none⟩) (m' + 1) cap9))) := by
                  have h1 : (if p < k + 1 then x else (⟨0, 0, 0, false⟩ : Ld)) = if p < k then x else ⟨0, 0, 0, false⟩ := by
                    have := Hkp.out
                    by_cases h2 : p < k
                    · rw [if_pos h2, if_pos (by omega)]
                    · rw [if_neg h2, if_neg (by omega)]
                  rw [h1, Hsn.out, if_neg Hye.out]
                  exact HT8.out.put z8 hg9' (fun g hg => (HT8.out.own.lt g hg).1) (by rw [lcells_snoc]; exact hown9)
                clear hown9 hg9 hg9' HKK HT8 hown
                go_wp2
                exact ⟨⟨k + 1, m' + 1, cap9, some ⟨g9, 0, none⟩, by omega, by omega, by go_num, HT9⟩, by simp [intOf]; omega⟩
        · obtain rfl : k = n := by omega
          rw [List.take_of_length_le (by omega), if_pos hpn] at HT
          obtain ⟨_, _, l2, l3⟩ := HT.out.lost.cells
          obtain ⟨⟨c0, c1⟩, _⟩ := HT.out.in4.cells
          have n0 := HT.out.now.cell0
          have n1 := HT.out.now.cell1
          clear hlt
          by_cases hxt : x.t = true
          · rw [hxt] at l3
            have HT0 := hideIt HT.out
            obtain ⟨L0, hL0⟩ : ∃ L0, L0 = ouL ls f := ⟨_, rfl⟩
            have HL0 : Hid (Stg nn L0) := by rw [hL0]; exact HS.out.out f
            rw [← hL0] at HT0
            have Hx := hideIt hxt
            clear HT hmk HS
            go_wp2
            clear n0 n1 l2 l3 c0 c1
            go_loopw [11] (fun lev wr => ∃ (kq : Nat) (l : Int) (L : List Ld) (m' c' : Nat) (a' : Option Addr), Hid (l + 1 = (kq : Int) ∧ l ≤ 4) ∧ lev = .int .i64 l ∧ Hid (Stg nn L ∧ tkO nn f (x.l.toNat + 1) (ouL ls f) = tkO nn f kq L) ∧ Hid (TkS w (nn : Int) a k c f b8 x a' m' c' L wr)) (fun lev _ => (intOf lev + 1).toNat)
            case atStart => exact ⟨x.l.toNat + 1, x.l, L0, m', c', a', (by have := Hxl.out; show _ ∧ _; omega : _ ∧ _), rfl, ⟨HL0.out, by rw [hL0]⟩, HT0.out⟩
            case round =>
              clear HT0 HL0
              obtain ⟨kk, l, L, m', c', a', HKk, rfl, HL, HT⟩ := hrel
              obtain ⟨⟨k0, k1⟩, k2', k3⟩ := HT.out.in4.cells
              have n0 := HT.out.now.cell0
              have n1 := HT.out.now.cell1
              by_cases hl0 : 0 ≤ l
              · obtain ⟨j, rfl⟩ : ∃ j : Nat, l = (j : Int) := ⟨l.toNat, by omega⟩
                have hj4 : (j : Int) ≤ 4 := HKk.out.2
                have HKj : Hid (kk = j + 1) := by show _ = _; have := HKk.out.1; omega
                have hj0 : (0 : Int) ≤ (j : Int) := by omega
                clear HKk hl0
                have hm66 : m' ≤ 1048576 := by
                  have h1 := HT.out.own.1
                  rw [lcells_length] at h1
                  have h2 := (gB_chk HL.out.1.g).2.2
                  rw [gE_len] at h2
                  omega
                have HSe := hideIt (l08Search_any nn L f j m' a' c' HL.out.1 hj4 Hfe.out.1 Hfe.out.2 hm66 (own_nil HT.out.own) wr (Ls_of_own HT.out.own))
                have n2 := HT.out.now.frozen 1
                clear k0 k1 hm66
                go_wp2_with (go_at_call 94; refine HSe.out.mono ?_; rintro e w8 ⟨a2, m2, c2, p2, rfl, ho8, hb8, hp2⟩; refine Hid.out ?_)
                refine (show ∀ {p : Prop}, p → Hid p from fun h => h) ?_
                have q1 := (HT.out.now.up hb8).cell1
                have q2 := (HT.out.now.up hb8).frozen 1
                have HT9 : Hid (TkS w (nn : Int) a k c f b8 x a2 m2 c2 (lvO nn f (j : Int) L).1 (w8.setCell ⟨b8, 1, none⟩ (.slice a2 m2 c2))) := HT.out.put z8 (grown_of_below hb8 none) (fun g hg => by cases hg) (own_mono ho8 (by have := HT.out.lost.lt; omega))
                obtain ⟨W9, hW9⟩ : ∃ W9, W9 = w8.setCell ⟨b8, 1, none⟩ (.slice a2 m2 c2) := ⟨_, rfl⟩
                rw [← hW9] at HT9
                clear HT ho8 hb8 HSe n0 n1 n2
                rcases hp2 with ⟨hr2, rfl⟩ | ⟨k2, y, hr2, rfl, hy⟩
                · have HL9 : Hid (Stg nn (lvO nn f (j : Int) L).1 ∧ tkO nn f (x.l.toNat + 1) (ouL ls f) = tkO nn f j (lvO nn f (j : Int) L).1) := by
                    refine ⟨?_, by rw [HL.out.2, HKj.out, tkO_down hr2]⟩
                    have h1 : (lvO nn f (j : Int) L).1 = (L.map (rsL (j : Int) (smT (lvT nn L (j : Int)) f))).map (srL (j : Int) (smT (lvT nn L (j : Int)) f)) := srO_fst hr2
                    rw [h1]
                    exact HL.out.1.down ⟨hj0, hj4⟩ _ _
                  have HK7 : Hid ((j : Int) - 1 + 1 = (j : Int) ∧ (j : Int) - 1 ≤ 4) := by constructor <;> omega
                  clear HL HKj hr2
                  go_wp2
                  rw [← hW9]
                  exact ⟨⟨j, (j : Int) - 1, _, m2, c2, a2, HK7, rfl, HL9, HT9⟩, by simp [intOf]⟩
                · obtain ⟨m', rfl⟩ : ∃ m', m' = m2 := ⟨_, rfl⟩
                  obtain ⟨c', rfl⟩ : ∃ c', c' = c2 := ⟨_, rfl⟩
                  obtain ⟨a', rfl⟩ : ∃ a', a' = a2 := ⟨_, rfl⟩
                  have hk2 : k2 < m' := by
                    have h1 := HT9.out.own.1
                    rw [lcells_length] at h1
                    have h2 := (List.getElem?_eq_some_iff.1 hy).1
                    omega
                  obtain ⟨g2, rfl⟩ : ∃ g2, a' = some ⟨g2, 0, none⟩ := by
                    rcases HT9.out.own.2 with ⟨_, h0⟩ | ⟨g, cap, cur, hv, _⟩
                    · omega
                    · simp at hv
                      exact ⟨g, hv.1⟩
                  have hg2 := HT9.out.own.lt g2 rfl
                  obtain ⟨p0, p1, _, _⟩ := lcells_at _ k2 _ hy
                  have hl4 : (lcells (lvO nn f (j : Int) L).1).length = m' * 4 := HT9.out.own.1
                  have v0 := HT9.out.now.cell0
                  have v1 := HT9.out.now.cell1
                  have v2 : W9.cell? ⟨g2, k2 * 4, none⟩ = some (.int .i64 y.a) := by rw [HT9.out.own.cellAt (k2 * 4) (by omega)]; exact p0
                  have v3 : W9.cell? ⟨g2, k2 * 4 + 1, none⟩ = some (.int .i64 y.b) := by rw [HT9.out.own.cellAt (k2 * 4 + 1) (by omega)]; exact p1
                  have HWr : Hid (wtO (nn : Int) ls f = some ((lvO nn f (j : Int) L).1, some y.e)) := by
                    show _ = _
                    rw [HW.out, hxt, HL.out.2, HKj.out, tkO_found hr2]
                    simp only [if_true]
                    rw [← hr2]
                  have S9 := HT9.out.in4
                  have r0 := S9.rw.cell0
                  have r1 := S9.rw.cell1
                  have r2 := S9.rw.frozen 0
                  have r3 := S9.rw.frozen 1
                  have r4 := S9.re.cell0
                  have r5 := S9.re.cell1
                  have r6 := S9.re.frozen 0
                  have r7 := S9.re.frozen 1
                  obtain ⟨⟨t0, t1⟩, t2, t3⟩ := putR_cells (M := (nn : Int)) (a' := some ⟨g2, 0, none⟩) (m' := m') (c' := c') (d := (y.a, y.b)) S9.rw S9.re
                  have HA := hideIt (wta_yes (N := (nn : Int)) (r := ((lvO nn f (j : Int) L).1, some y.e)) HWr.out (show w.heap.size + 4 ≤ b8 + 2 by omega) S9.below HT9.out.own (d := (y.a, y.b)) rfl (t := true) rfl)
                  unfold putR at t0 t1 t2 t3 HA

                  have b1 : (0 : Int) ≤ (k2 : Int) := by omega
                  have b2 : (k2 : Int) < (m' : Int) := by omega
                  have HSet : Hid (∀ (u : World) (b j : Nat) (v : Value), b < w.heap.size + 4 → ((u.cell? ⟨b8, 0, none⟩ = some (.int .i64 (nn : Int)) ∧ u.cell? ⟨b8, 1, none⟩ = some (.slice (some ⟨g2, 0, none⟩) m' c')) ∧ (u.cell? ⟨g2, k2 * 4, none⟩ = some (.int .i64 y.a) ∧ u.cell? ⟨g2, k2 * 4 + 1, none⟩ = some (.int .i64 y.b))) → (((u.setCell ⟨b, j, none⟩ v).cell? ⟨b8, 0, none⟩ = some (.int .i64 (nn : Int)) ∧ (u.setCell ⟨b, j, none⟩ v).cell? ⟨b8, 1, none⟩ = some (.slice (some ⟨g2, 0, none⟩) m' c')) ∧ ((u.setCell ⟨b, j, none⟩ v).cell? ⟨g2, k2 * 4, none⟩ = some (.int .i64 y.a) ∧ (u.setCell ⟨b, j, none⟩ v).cell? ⟨g2, k2 * 4 + 1, none⟩ = some (.int .i64 y.b)))) := fun u b j v hb h => by
                    rw [set_other (by omega), set_other (by omega), set_other (by omega), set_other (by omega)]
                    exact h
                  have hS0 : (W9.drew.cell? ⟨b8, 0, none⟩ = some (.int .i64 (nn : Int)) ∧ W9.drew.cell? ⟨b8, 1, none⟩ = some (.slice (some ⟨g2, 0, none⟩) m' c')) ∧ (W9.drew.cell? ⟨g2, k2 * 4, none⟩ = some (.int .i64 y.a) ∧ W9.drew.cell? ⟨g2, k2 * 4 + 1, none⟩ = some (.int .i64 y.b)) := ⟨⟨v0, v1⟩, v2, v3⟩
                  have hS1 : (((W9.setCell ⟨w.heap.size + 1 + 1, 0, none⟩ (.int .i64 (nn : Int))).setCell ⟨w.heap.size + 1 + 1, 1, none⟩ (.slice (some ⟨g2, 0, none⟩) m' c')).drew.cell? ⟨b8, 0, none⟩ = some (.int .i64 (nn : Int)) ∧ ((W9.setCell ⟨w.heap.size + 1 + 1, 0, none⟩ (.int .i64 (nn : Int))).setCell ⟨w.heap.size + 1 + 1, 1, none⟩ (.slice (some ⟨g2, 0, none⟩) m' c')).drew.cell? ⟨b8, 1, none⟩ = some (.slice (some ⟨g2, 0, none⟩) m' c')) ∧ (((W9.setCell ⟨w.heap.size + 1 + 1, 0, none⟩ (.int .i64 (nn : Int))).setCell ⟨w.heap.size + 1 + 1, 1, none⟩ (.slice (some ⟨g2, 0, none⟩) m' c')).drew.cell? ⟨g2, k2 * 4, none⟩ = some (.int .i64 y.a) ∧ ((W9.setCell ⟨w.heap.size + 1 + 1, 0, none⟩ (.int .i64 (nn : Int))).setCell ⟨w.heap.size + 1 + 1, 1, none⟩ (.slice (some ⟨g2, 0, none⟩) m' c')).drew.cell? ⟨g2, k2 * 4 + 1, none⟩ = some (.int .i64 y.b)) := HSet.out _ _ _ _ (by omega) (HSet.out W9 _ _ _ (by omega) ⟨⟨v0, v1⟩, v2, v3⟩)
                  have hS2 : (((((W9.setCell ⟨w.heap.size + 1 + 1, 0, none⟩ (.int .i64 (nn : Int))).setCell ⟨w.heap.size + 1 + 1, 1, none⟩ (.slice (some ⟨g2, 0, none⟩) m' c')).setCell ⟨w.heap.size + 1 + 1 + 1, 0, none⟩ (.int .i64 y.a)).setCell ⟨w.heap.size + 1 + 1 + 1, 1, none⟩ (.int .i64 y.b)).drew.cell? ⟨b8, 0, none⟩ = some (.int .i64 (nn : Int)) ∧ ((((W9.setCell ⟨w.heap.size + 1 + 1, 0, none⟩ (.int .i64 (nn : Int))).setCell ⟨w.heap.size + 1 + 1, 1, none⟩ (.slice (some ⟨g2, 0, none⟩) m' c')).setCell ⟨w.heap.size + 1 + 1 + 1, 0, none⟩ (.int .i64 y.a)).setCell ⟨w.heap.size + 1 + 1 + 1, 1, none⟩ (.int .i64 y.b)).drew.cell? ⟨b8, 1, none⟩ = some (.slice (some ⟨g2, 0, none⟩) m' c')) ∧ (((((W9.setCell ⟨w.heap.size + 1 + 1, 0, none⟩ (.int .i64 (nn : Int))).setCell ⟨w.heap.size + 1 + 1, 1, none⟩ (.slice (some ⟨g2, 0, none⟩) m' c')).setCell ⟨w.heap.size + 1 + 1 + 1, 0, none⟩ (.int .i64 y.a)).setCell ⟨w.heap.size + 1 + 1 + 1, 1, none⟩ (.int .i64 y.b)).drew.cell? ⟨g2, k2 * 4, none⟩ = some (.int .i64 y.a) ∧ ((((W9.setCell ⟨w.heap.size + 1 + 1, 0, none⟩ (.int .i64 (nn : Int))).setCell ⟨w.heap.size + 1 + 1, 1, none⟩ (.slice (some ⟨g2, 0, none⟩) m' c')).setCell ⟨w.heap.size + 1 + 1 + 1, 0, none⟩ (.int .i64 y.a)).setCell ⟨w.heap.size + 1 + 1 + 1, 1, none⟩ (.int .i64 y.b)).drew.cell? ⟨g2, k2 * 4 + 1, none⟩ = some (.int .i64 y.b)) := HSet.out _ _ _ _ (by omega) (HSet.out _ _ _ _ (by omega) (HSet.out _ _ _ _ (by omega) (HSet.out W9 _ _ _ (by omega) ⟨⟨v0, v1⟩, v2, v3⟩)))
                  clear v0 v1 v2 v3 p0 p1 hl4 HT9 S9 hr2 hy HSet
                  go_upto_region 19 with fail
                  rw [← hW9]
                  clear hW9
                  go_region_held3 (fun u => (u.cell? ⟨b8, 0, none⟩ = some (.int .i64 (nn : Int)) ∧ u.cell? ⟨b8, 1, none⟩ = some (.slice (some ⟨g2, 0, none⟩) m' c')) ∧ (u.cell? ⟨g2, k2 * 4, none⟩ = some (.int .i64 y.a) ∧ u.cell? ⟨g2, k2 * 4 + 1, none⟩ = some (.int .i64 y.b)))
                    (first | with_reducible assumption)
                    (fail)
                  all_goals
                    go_wp2
                    exact bodyPost_ret (v := .tuple #[.agg #[.int .i64 (nn : Int), .slice (some ⟨g2, 0, none⟩) m' c'], .agg #[.int .i64 y.a, .int .i64 y.b], .bool true, .bool true]) (by simp [results, Tryz.results29, go_sem, t0, t1, t2, t3]) rfl (wta_drew2 HA.out)
              · have hk0 : kk = 0 := by have := HKk.out.1; omega
                have hl1 : l = -1 := by have := HKk.out.1; omega
                subst hk0 hl1
                have HWr : Hid (wtO (nn : Int) ls f = some (L, none)) := by
                  show _ = _
                  rw [HW.out, hxt, HL.out.2]
                  rfl
                have S9 := HT.out.in4
                have r0 := S9.rw.cell0
                have r1 := S9.rw.cell1
                have r2 := S9.rw.frozen 0
                have r3 := S9.rw.frozen 1
                have r4 := S9.re.cell0
                have r5 := S9.re.cell1
                have r6 := S9.re.frozen 0
                have r7 := S9.re.frozen 1
                obtain ⟨⟨t0, t1⟩, t2, t3⟩ := putR_cells (M := (nn : Int)) (a' := a') (m' := m') (c' := c') (d := (0, 0)) S9.rw S9.re
                have HA := hideIt (wta_yes (N := (nn : Int)) (r := (L, none)) HWr.out (show w.heap.size + 4 ≤ b8 + 2 by omega) S9.below HT.out.own (d := (0, 0)) rfl (t := false) rfl)
                unfold putR at t0 t1 t2 t3 HA
                clear HT S9 HL HKk hl0 k0 k1
                go_wp2
                exact bodyPost_ret (v := .tuple #[.agg #[.int .i64 (nn : Int), .slice a' m' c'], .agg #[.int .i64 0, .int .i64 0], .bool false, .bool true]) (by simp [results, Tryz.results29, go_sem, t0, t1, t2, t3]) rfl HA.out
          · rw [show x.t = false by simpa using hxt] at l3
            have HWr : Hid (wtO (nn : Int) ls f = some (ouL ls f, none)) := by
              show _ = _
              rw [HW.out, show x.t = false by simpa using hxt]
              rfl
            have S9 := HT.out.in4
            have r0 := S9.rw.cell0
            have r1 := S9.rw.cell1
            have r2 := S9.rw.frozen 0
            have r3 := S9.rw.frozen 1
            have r4 := S9.re.cell0
            have r5 := S9.re.cell1
            have r6 := S9.re.frozen 0
            have r7 := S9.re.frozen 1
            obtain ⟨⟨t0, t1⟩, t2, t3⟩ := putR_cells (M := (nn : Int)) (a' := a') (m' := m') (c' := c') (d := (0, 0)) S9.rw S9.re
            have HA := hideIt (wta_yes (N := (nn : Int)) (r := (ouL ls f, none)) HWr.out (show w.heap.size + 4 ≤ b8 + 2 by omega) S9.below HT.out.own (d := (0, 0)) rfl (t := false) rfl)
            unfold putR at t0 t1 t2 t3 HA
            clear HT S9 hxt
            go_wp2
            exact bodyPost_ret (v := .tuple #[.agg #[.int .i64 (nn : Int), .slice a' m' c'], .agg #[.int .i64 0, .int .i64 0], .bool false, .bool true]) (by simp [results, Tryz.results29, go_sem, t0, t1, t2, t3]) rfl HA.out
    · rw [show hasB (gE ls) f = false by simpa using hh] at HHa
      have HW := hideIt (wtO_no (N := (nn : Int)) (ls := ls) (f := f) (fun h => hh h.2))
      clear hW hh
      go_region_held3 (fun u => ((u.cell? ⟨w.heap.size, 0, none⟩ = some (.int .i64 (nn : Int)) ∧ u.cell? ⟨w.heap.size, 1, none⟩ = some (.slice a n c)) ∧ (u.cell? ⟨w.heap.size + 1, 0, none⟩ = some (.int .i64 f.1) ∧ u.cell? ⟨w.heap.size + 1, 1, none⟩ = some (.int .i64 f.2))) ∧ In4 w (nn : Int) a n c f u)
        (first | with_reducible assumption)
        (first
          | (go_at_call 21; refine (HOk.out _ (And.right (by assumption))).mono ?_; rintro e w3 ⟨rfl, hg3⟩; have hS3 := HK.out _ hg3)
          | (go_at_call 28; refine (HGr.out _ (And.right (by assumption))).mono ?_; rintro e w4 ⟨ag, cg, rfl, ho4, hg4⟩; have hS4 := HK.out _ hg4)
          | (go_at_call 15; refine (HHa.out _ _ _ (And.right (by assumption)) (by assumption)).mono ?_; rintro e w5 ⟨rfl, S5⟩; have hS5 := HK.out _ S5))
      have r0 := S5.rw.cell0
      have r1 := S5.rw.cell1
      have r2 := S5.rw.frozen 0
      have r3 := S5.rw.frozen 1
      have r4 := S5.re.cell0
      have r5 := S5.re.cell1
      have r6 := S5.re.frozen 0
      have r7 := S5.re.frozen 1
      obtain ⟨⟨t0, t1⟩, t2, t3⟩ := putR_cells (M := 0) (a' := none) (m' := 0) (c' := 0) (d := (0, 0)) S5.rw S5.re
      have HA := hideIt (wta_no (N := (nn : Int)) HW.out S5.below)
      unfold putR at t0 t1 t2 t3 HA
      clear hS1 hS3 hS4 hS5 hg3 hg4 ho4 HOk HGr HHa S1 S5
      go_wp2
      exact bodyPost_ret (v := .tuple #[.agg #[.int .i64 0, .slice none 0 0], .agg #[.int .i64 0, .int .i64 0], .bool false, .bool false]) (by simp [results, Tryz.results29, go_sem, t0, t1, t2, t3]) rfl HA.out
  · rw [wB_no hW] at HOk
    have HW := hideIt (wtO_no (N := N) (ls := ls) (f := f) (fun h => hW h.1))
    clear hW
    refine wp_region_held_drew (S := (fun u => ((u.cell? ⟨w.heap.size, 0, none⟩ = some (.int .i64 N) ∧ u.cell? ⟨w.heap.size, 1, none⟩ = some (.slice a n c)) ∧ (u.cell? ⟨w.heap.size + 1, 0, none⟩ = some (.int .i64 f.1) ∧ u.cell? ⟨w.heap.size + 1, 1, none⟩ = some (.int .i64 f.2))) ∧ In4 w N a n c f u)) (by kernel_rfl) hS1 (fun hHeld => ?_)
    refine wpAnyH_take (i := 0) (v := ?_) rfl (by kernel_rfl) (by kernel_rfl) (by kernel_rfl) (fun _ _ _ h => h) (Or.inl ⟨by rfl, ?_⟩) (by assumption) ?_
    rotate_left
    · intro w hSw; (try dsimp only at hSw); go_simp; try with_reducible rfl
    try simp only [Act.put, List.getElem_toArray, List.getElem_cons_zero, List.setIfInBounds_toArray, List.set_cons_zero, List.set_cons_succ]
    refine wpAnyH_ready (rs := [1]) (by kernel_rfl) (by simp) ?_
    refine AllReadyH.cons rfl (fun K hK => ?_) AllReadyH.nil
    rw [if_pos]
    rotate_left
    · kernel_rfl
    go_wp2_with (go_at_call 21; refine (HOk.out _ S1.drew).mono ?_; rintro e w5 ⟨rfl, S5⟩; refine Hid.out ?_)
    refine (show ∀ {p : Prop}, p → Hid p from fun h => h) ?_
    refine hK.out _ _ (HK.out _ S5) (fun hHeld => ?_)
    clear hK K
    try simp only [Act.put, List.getElem_toArray, List.getElem_cons_succ, List.getElem_cons_zero, List.setIfInBounds_toArray, List.set_cons_zero, List.set_cons_succ]
    refine wpAnyH_take (i := 2) (v := ?_) rfl (by kernel_rfl) (by kernel_rfl) (by kernel_rfl) (fun _ _ _ h => h) (Or.inl ⟨by rfl, ?_⟩) (by assumption) ?_
    rotate_left
    · intro w hSw; (try dsimp only at hSw); go_simp; try with_reducible rfl
    try simp only [Act.put, List.getElem_toArray, List.getElem_cons_succ, List.getElem_cons_zero, List.setIfInBounds_toArray, List.set_cons_zero, List.set_cons_succ]
    refine wpAnyH_take (i := 3) (v := ?_) rfl (by kernel_rfl) (by kernel_rfl) (by kernel_rfl) (fun _ _ _ h => h) (Or.inl ⟨by rfl, ?_⟩) (by assumption) ?_
    rotate_left
    · intro w hSw; (try dsimp only at hSw); go_simp; try with_reducible rfl
    try simp only [Act.put, List.getElem_toArray, List.getElem_cons_succ, List.getElem_cons_zero, List.setIfInBounds_toArray, List.set_cons_zero, List.set_cons_succ]
    refine wpAnyH_take (i := 4) rfl (by kernel_rfl) (by kernel_rfl) (by kernel_rfl) (fun _ _ _ h => h) (Or.inr ⟨by kernel_rfl, rfl⟩) (by assumption) ?_
    refine wpAnyH_take (i := 5) rfl (by kernel_rfl) (by kernel_rfl) (by kernel_rfl) (fun _ _ _ h => h) (Or.inr ⟨by kernel_rfl, rfl⟩) (by assumption) ?_
    refine wpAnyH_take (i := 6) rfl (by kernel_rfl) (by kernel_rfl) (by kernel_rfl) (fun _ _ _ h => h) (Or.inr ⟨by kernel_rfl, rfl⟩) (by assumption) ?_
    refine wpAnyH_take (i := 7) rfl (by kernel_rfl) (by kernel_rfl) (by kernel_rfl) (fun _ _ _ h => h) (Or.inr ⟨by kernel_rfl, rfl⟩) (by assumption) ?_
    refine wpAnyH_take (i := 8) rfl (by kernel_rfl) (by kernel_rfl) (by kernel_rfl) (fun _ _ _ h => h) (Or.inr ⟨by kernel_rfl, rfl⟩) (by assumption) ?_
    refine wpAnyH_ready (rs := [9]) (by kernel_rfl) (by simp) ?_
    refine AllReadyH.cons rfl (fun K hK => ?_) AllReadyH.nil
    go_simp
    refine hK.out _ _ (by assumption) (fun hHeld => ?_)
    clear hK K
    try simp only [Act.put, List.getElem_toArray, List.getElem_cons_succ, List.getElem_cons_zero, List.setIfInBounds_toArray, List.set_cons_zero, List.set_cons_succ]
    refine wpAnyH_done (by kernel_rfl) ?_ _
    have r0 := S5.rw.cell0
    have r1 := S5.rw.cell1
    have r2 := S5.rw.frozen 0
    have r3 := S5.rw.frozen 1
    have r4 := S5.re.cell0
    have r5 := S5.re.cell1
    have r6 := S5.re.frozen 0
    have r7 := S5.re.frozen 1
    obtain ⟨⟨t0, t1⟩, t2, t3⟩ := putR_cells (M := 0) (a' := none) (m' := 0) (c' := 0) (d := (0, 0)) S5.rw S5.re
    have HA := hideIt (wta_no (N := N) HW.out S5.below)
    unfold putR at t0 t1 t2 t3 HA
    clear hS1 HOk S1 S5
    go_wp2
    exact bodyPost_ret (v := .tuple #[.agg #[.int .i64 0, .slice none 0 0], .agg #[.int .i64 0, .int .i64 0], .bool false, .bool false]) (by simp [results, Tryz.results29, go_sem, t0, t1, t2, t3]) rfl HA.out
end Go.Proofs.YtgjnlhdgekfieaaGreat
namespace Go.Proofs.YtgjnlhdgekfieaaGreat
open Go.RowKit

structure Bx (T : Prop) : Prop where
  out : T
theorem viaT {T G : Prop} (main : Bx T → G) (p : T) : G := main ⟨p⟩
theorem hidp {p : Prop} (h : p) : Hid p := h
theorem lstH {P : Program} {md : Region.Mode} {ops : Array Oper} {Q : Exit → Go.Act → World → Prop} {S : World → Prop} {fuel : Nat} {l l' : Array Bool} {a : Go.Act} {w : World} (h : l = l') (H : wpAnyH P md ops Q S fuel l' a w) : wpAnyH P md ops Q S fuel l a w := h ▸ H
end Go.Proofs.YtgjnlhdgekfieaaGreat
