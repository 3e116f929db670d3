/- The program's levelOk, where the edges of the forest make no ring. The program's WebOk. The specification's TreeOf and SizeOf. The specification's WebOk. The program's groundOf, WebLabels, WebTogether. The specification's WebAdd. -/
import Derived.Test.YtkkplppcgnikoaaGreatKIRo9
import Derived.Deep.RegionHeld3
import Derived.Test.YtkkplppcgnikoaaGreatKITrees
import Derived.Test.YtkkplppcgnikoaaGreatKIRer
import Derived.Test.YtkkplppcgnikoaaGreatKLb9
import Derived.Test.YtkkplppcgnikoaaGreatKSAdd9
import Derived.Test.YtkkplppcgnikoaaGreatKMk7
namespace Go.Proofs.YtkkplppcgnikoaaGreat
open Go.RowKit

theorem vs_half {t : List Int} (hB : tB t = true) : t.length + 1 = 2 * (vsL t).length := by
  obtain ⟨hv, x, s, h⟩ := (tB_iff t).1 hB
  have h1 := trun_len h
  have h2 := trun_nodup h List.nodup_nil
  have h3 := (trun_seen h (by simp)).1
  have e : s.length = (vsL t).length := by
    apply Nat.le_antisymm
    · exact nodup_sub h2 fun y hy => (vs_mem_of hB).2 (by simpa using (h3 y).1 hy)
    · exact nodup_sub (vs_nodup t) fun y hy => (h3 y).2 (.inr ((vs_mem_of hB).1 hy))
  simp at h1
  omega
/-- what levelOk asks of a level -/
def LvQ (nn : Nat) (ls : List Ld) (i : Nat) (ts : List (List Int)) : Prop := (∀ t ∈ ts, 1 < (vsL t).length → (vsL t).length ≤ nn / 2 ^ i) ∧ ∀ x ∈ ls, x.t = false → x.l = (i : Int) → trI ts x.a = trI ts x.b
/-- two heads are one: two places are -/
theorem head_same {es : List EdgeV} {n : Nat} {ts : List (List Int)} (h : FtAll es n ts) {u v : Int} {x y : Int} {s t : List Int} (hs : s ∈ ts) (ht : t ∈ ts) (hu : u ∈ s) (hv : v ∈ t) (hx : s[0]? = some x) (hy : t[0]? = some y) : x = y ↔ trI ts u = trI ts v := by
  have hq := h.fp.q
  obtain ⟨i, hi⟩ := List.mem_iff_getElem?.1 hs
  obtain ⟨j, hj⟩ := List.mem_iff_getElem?.1 ht
  rw [trI_of hq hi hu, trI_of hq hj hv]
  constructor
  · rintro rfl
    have h1 := trI_of hq hi (List.mem_of_getElem? hx)
    have h2 := trI_of hq hj (List.mem_of_getElem? hy)
    omega
  · intro e
    obtain rfl : i = j := by omega
    rw [hi] at hj
    obtain rfl := Option.some.inj hj
    rw [hx] at hy
    exact Option.some.inj hy

set_option maxRecDepth 100000 in
set_option maxHeartbeats 4000000 in
theorem levelOk_any (nn : Nat) (ls : List Ld) (i : Nat) (hi5 : i < 5) (n : Nat) (a : Option Addr) (c : Nat) (hG : gB (nn : Int) (gE ls) = true) (hl : ∀ x ∈ ls, 0 ≤ x.l) (hB : Bridge (fE ls 0)) (ts : List (List Int)) (hts : ftK (fE ls (i : Int)) nn nn = some ts) (w : World) (h : Ls w w.heap.size a n ls) :
    Calls Tryz.prog 80 #[.agg #[.int .i64 (nn : Int), .slice a n c], .int .i64 (i : Int)] w fun e w' => ∃ b : Bool, e = .returned (.bool b) ∧ (b = true ↔ LvQ nn ls i ts) ∧ Below w.heap.size w w' := by
  have hg := gB_chk hG
  have hn1 : 1 ≤ nn := by omega
  have hn12 : nn ≤ 12 := by omega
  have hlen := h.1
  have h66 : n ≤ 66 := by have := hg.2.2; rw [gE_len] at this; omega
  have hall := ft_all (fE_ends hG (i : Int)) hn1 hn12 hts
  have hfa : Good w (wW w (nn : Int) a n c) := wW_good w (nn : Int) a n c
  have HFA := hideIt ((iForestAt_yes nn ls (i : Int) n a c hG hl hB (by omega) ts hts _ (h.up hfa)).mono fun _ _ h => h.weak)
  have HR := hideIt h
  have HQ := hideIt hall
  have HEd : Hid (∀ x ∈ ls, 0 ≤ x.a ∧ x.a < x.b ∧ x.b < (nn : Int)) := fun x hx => gB_ends hG x.e (gE_mem hx)
  clear h hG hl hB hts hall hg
  go_enter Tryz.func80, Tryz.ntmps80
  go_wp2_with (go_at_call 163; refine HFA.out.mono ?_; rintro e w1 ⟨a1, m1, c1, rfl, hT1, hb1⟩; refine Hid.out ?_)
  refine (show ∀ {p : Prop}, p → Hid p from fun h => h) ?_
  simp only [Option.getD_some] at hT1
  rw [wW_size] at hb1
  obtain ⟨cw0, cw1⟩ := wW_cells hb1
  have z1 := hb1.size
  rw [wW_size] at z1
  obtain ⟨Q, hQ0⟩ : ∃ Q, nn / 2 ^ i = Q := ⟨_, rfl⟩
  have hsh : (nn : Int) / 2 ^ i = (Q : Int) := by
    rw [← hQ0]
    simp
  have HQ0 := hideIt hQ0
  have hm12 : m1 ≤ 12 := by have := HQ.out.fp.2.2.1; have := hT1.1; omega
  have HTB : Hid (∀ t ∈ ts, tB t = true ∧ ∀ x ∈ t, 0 ≤ x ∧ x < (nn : Int)) := fun t ht => by
    have h1 := HQ.out.fp.q.1 t ht
    refine ⟨h1.1, fun x hx => ⟨?_, h1.2 x hx⟩⟩
    have := ((tB_iff t).1 h1.1).1 x hx
    unfold vB at this
    have := of_decide_eq_true this
    omega
  obtain ⟨W, hW⟩ : ∃ W, W = w1.alloc (.cells #[.int .i64 (nn : Int), .slice a1 m1 c1] 127) := ⟨_, rfl⟩
  have hbW : Below w1.heap.size w1 W := by rw [hW]; exact (Below.refl _ _).alloc (Nat.le_refl _) _
  have hzW : W.heap.size = w1.heap.size + 1 := by rw [hW]; simp
  have HCW : Hid (∀ u, Below W.heap.size W u → ((u.cell? ⟨w.heap.size, 0, none⟩ = some (.int .i64 (nn : Int)) ∧ u.cell? ⟨w.heap.size, 1, none⟩ = some (.slice a n c)) ∧ (u.cell? ⟨w1.heap.size, 0, none⟩ = some (.int .i64 (nn : Int)) ∧ u.cell? ⟨w1.heap.size, 1, none⟩ = some (.slice a1 m1 c1))) ∧ Good w u) := fun u hu => by
    have hu1 : Below w1.heap.size w1 u := hbW.trans (hu.mono (by omega))
    refine ⟨⟨wW_cells (hb1.trans (hu1.mono z1)), ?_, ?_⟩, (hfa.trans (hb1.mono (by omega))).trans (hu1.mono (by omega))⟩
    · rw [hu.cell (p := ⟨w1.heap.size, 0, none⟩) (by show w1.heap.size < _; omega), hW]; simp
    · rw [hu.cell (p := ⟨w1.heap.size, 1, none⟩) (by show w1.heap.size < _; omega), hW]; simp
  have HTs := hideIt (hT1.up hbW)
  have HLs : Hid (∀ u, Below W.heap.size W u → Ls u w.heap.size a n ls) := fun u hu => HR.out.below (HCW.out u hu).2 (Nat.le_refl _)
  have k1 := (HCW.out W (Below.refl _ _)).1.2.2
  clear HFA hT1 hb1 hbW cw0 cw1
  go_wp2
  rw [← hW]
  go_loopw [23] (fun i wr => ∃ k : Nat, k ≤ m1 ∧ i = .int .i64 (k : Int) ∧ Hid (∀ j t, j < k → ts[j]? = some t → 1 < (vsL t).length → (vsL t).length ≤ Q) ∧ Good W wr) (fun i _ => m1 - (intOf i).toNat)
  case atStart => exact ⟨0, by omega, rfl, fun j t hj => by omega, Good.refl _⟩
  case round =>
    obtain ⟨k, hk, rfl, HK, hg⟩ := hrel
    obtain ⟨⟨⟨cw0, cw1⟩, cf0, cf1⟩, hgw⟩ := HCW.out wr hg
    have HG := hideIt hg
    by_cases hlt : k < m1
    · rcases (HTs.out.up hg).2 with hz | ⟨b, off, rfl, hbl, hc⟩
      · omega
      · obtain ⟨t, ht⟩ : ∃ t, ts[k]? = some t := ⟨ts[k]'(by have := HTs.out.1; omega), List.getElem?_eq_getElem (by have := HTs.out.1; omega)⟩
        obtain ⟨x, cx, e0, iI, _⟩ := hc k t ht
        have htm := List.mem_of_getElem? ht
        have hB := (HTB.out t htm).1
        have hhalf := vs_half hB
        have hl23 := tB_len hB
        have b1 : (0 : Int) ≤ (k : Int) := by omega
        have b2 : (k : Int) < (m1 : Int) := by omega
        have HTk := hideIt ht
        have HV : Hid (∀ u, Good wr u → Calls Tryz.prog 169 #[.slice x t.length cx] u fun e v => ∃ a3 c3, e = .returned (.slice a3 (vsL t).length c3) ∧ Good wr v) := fun u hu =>
          (iVertsOf_any t t.length x cx (by omega) u (iI.up hu)).mono fun e v ⟨a3, m3, c3, he, ho, hb⟩ => by
            have hm : (vsL t).length = m3 := by have := ho.1; rw [ic_len] at this; omega
            subst hm
            exact ⟨a3, c3, he, hu.up hb⟩
        have HC : Hid (∀ u, Good wr u → u.cell? ⟨w.heap.size, 0, none⟩ = some (.int .i64 (nn : Int))) := fun u hu => (HCW.out u (HG.out.up hu)).1.1.1
        obtain ⟨V, hV⟩ : ∃ V, (vsL t).length = V := ⟨_, rfl⟩
        rw [hV] at HV hhalf
        have HVV := hideIt hV
        have g0 : Good wr wr.drew := (Good.refl _).drew
        clear hc ht iI hB htm hV
        by_cases h1 : 1 < t.length
        · have d1 : decide ((1 : Int) < (t.length : Int)) = true := decide_eq_true (by omega)
          by_cases hle : V ≤ Q
          · have d2 : decide ((Q : Int) < (V : Int)) = false := decide_eq_false (by omega)
            have HK2 : Hid (∀ j t, j < k + 1 → ts[j]? = some t → 1 < (vsL t).length → (vsL t).length ≤ Q) := fun j s hj hs h2 => by
              by_cases e : j = k
              · subst e
                rw [HTk.out] at hs
                obtain rfl := Option.some.inj hs
                rw [HVV.out]; exact hle
              · exact HK.out j s (by omega) hs h2
            clear HK
            go_wp2
            go_region_held3 (fun u => u.cell? ⟨w.heap.size, 0, none⟩ = some (.int .i64 (nn : Int))) (first | exact HC.out _ g1 | exact HC.out _ g0) ((go_at_call 169; refine (HV.out _ g0).mono ?_; rintro e w3 ⟨a3, c3, rfl, g1⟩))
            go_wp2
            exact ⟨⟨k + 1, by omega, by go_num, HK2, HG.out.up g1⟩, by simp [intOf]; omega⟩
          · have d2 : decide ((Q : Int) < (V : Int)) = true := decide_eq_true (by omega)
            have HN : Hid (¬ LvQ nn ls i ts) := fun hq => by
              have := hq.1 t (List.mem_of_getElem? HTk.out) (by rw [HVV.out]; omega)
              rw [HVV.out, HQ0.out] at this
              omega
            clear HK
            go_wp2
            go_region_held3 (fun u => u.cell? ⟨w.heap.size, 0, none⟩ = some (.int .i64 (nn : Int))) (first | exact HC.out _ g1 | exact HC.out _ g0) ((go_at_call 169; refine (HV.out _ g0).mono ?_; rintro e w3 ⟨a3, c3, rfl, g1⟩))
            go_wp2
            go_ret
            exact ⟨false, rfl, ⟨fun h => (by cases h), fun h => absurd h HN.out⟩, (HCW.out _ (HG.out.up g1)).2⟩
        · have d1 : decide ((1 : Int) < (t.length : Int)) = false := decide_eq_false (by omega)
          have HK2 : Hid (∀ j t, j < k + 1 → ts[j]? = some t → 1 < (vsL t).length → (vsL t).length ≤ Q) := fun j s hj hs h2 => by
            by_cases e : j = k
            · subst e
              rw [HTk.out] at hs
              obtain rfl := Option.some.inj hs
              rw [HVV.out] at h2
              omega
            · exact HK.out j s (by omega) hs h2
          clear HK
          go_wp2
          refine wp_region_any (by kernel_rfl) ?_
          change wpAny _ _ _ _ _ _ _ (World.drew _)
          refine takeOp (i := 0) (v := ?_) rfl (by kernel_rfl) (by kernel_rfl) (by kernel_rfl) (fun _ _ _ h => h) (by kernel_rfl) ?_ ?_
          rotate_left
          · intro w; go_simp; try with_reducible rfl
          refine takeOp (i := 1) (v := ?_) rfl (by kernel_rfl) (by kernel_rfl) (by kernel_rfl) (fun _ _ _ h => h) (by kernel_rfl) ?_ ?_
          rotate_left
          · intro w; go_simp; try with_reducible rfl
          refine takeOp (i := 2) (v := ?_) rfl (by kernel_rfl) (by kernel_rfl) (by kernel_rfl) (fun _ _ _ h => h) (by kernel_rfl) ?_ ?_
          rotate_left
          · intro w; go_simp; try with_reducible rfl
          refine takeOp (i := 3) (v := ?_) rfl (by kernel_rfl) (by kernel_rfl) (by kernel_rfl) (fun _ _ _ h => h) (by kernel_rfl) ?_ ?_
          rotate_left
          · intro w; go_simp; try with_reducible rfl
          refine skipOp (i := 4) rfl (by kernel_rfl) (by kernel_rfl) (by kernel_rfl) (fun _ _ _ h => h) (by kernel_rfl) ?_
          refine skipOp (i := 5) rfl (by kernel_rfl) (by kernel_rfl) (by kernel_rfl) (fun _ _ _ h => h) (by kernel_rfl) ?_
          refine skipOp (i := 6) rfl (by kernel_rfl) (by kernel_rfl) (by kernel_rfl) (fun _ _ _ h => h) (by kernel_rfl) ?_
          refine skipOp (i := 7) rfl (by kernel_rfl) (by kernel_rfl) (by kernel_rfl) (fun _ _ _ h => h) (by kernel_rfl) ?_
          refine skipOp (i := 8) rfl (by kernel_rfl) (by kernel_rfl) (by kernel_rfl) (fun _ _ _ h => h) (by kernel_rfl) ?_
          refine skipOp (i := 9) rfl (by kernel_rfl) (by kernel_rfl) (by kernel_rfl) (fun _ _ _ h => h) (by kernel_rfl) ?_
          refine skipOp (i := 10) rfl (by kernel_rfl) (by kernel_rfl) (by kernel_rfl) (fun _ _ _ h => h) (by kernel_rfl) ?_
          refine skipOp (i := 11) rfl (by kernel_rfl) (by kernel_rfl) (by kernel_rfl) (fun _ _ _ h => h) (by kernel_rfl) ?_
          refine wpAny_ready (rs := [12]) (by kernel_rfl) (by simp) ?_
          refine AllReady.cons rfl (fun K hK => ?_) AllReady.nil
          go_simp
          refine hK _ _ ?_
          clear hK K
          refine wpAny_done (by kernel_rfl) ?_ _
          go_wp2
          exact ⟨⟨k + 1, by omega, by go_num, HK2, HG.out.drew⟩, by simp [intOf]; omega⟩
    · obtain rfl : k = m1 := by omega
      have HA : Hid (∀ t ∈ ts, 1 < (vsL t).length → (vsL t).length ≤ nn / 2 ^ i) := fun t ht h2 => by
        obtain ⟨j, hj⟩ := List.mem_iff_getElem?.1 ht
        rw [HQ0.out]
        exact HK.out j t (by have := (List.getElem?_eq_some_iff.1 hj).1; have := HTs.out.1; omega) hj h2
      have HRt := hideIt (rootsOf_any nn ts k a1 c1 hn12 hm12 (fun t ht => by have h1 := HTB.out t ht; have h2 := tB_len h1.1; exact ⟨by omega, h2.2, h1.2⟩) HQ.out.fp.q.2.1 wr (HTs.out.up hg))
      clear HK hg
      go_wp2_with (go_at_call 85; refine HRt.out.mono ?_; rintro e w2 ⟨gr, L, rfl, ho2, hL2, hb2⟩; refine Hid.out ?_)
      refine (show ∀ {p : Prop}, p → Hid p from fun h => h) ?_
      have hG2 : Good W w2 := HG.out.up hb2
      obtain ⟨⟨⟨cw0', cw1'⟩, _⟩, _⟩ := HCW.out w2 hG2
      have hLl : L.length = nn := by have := ho2.1; rw [ic_len] at this; omega
      have HL := hideIt hL2
      have HO := hideIt ho2
      have HG2 := hideIt hG2
      have hgr := (ho2.lt gr rfl).2
      clear HRt ho2 hL2 hb2 hG2 cw0 cw1 cf0 cf1 hgw
      go_wp2
      go_loopw [46] (fun i_1 wr => ∃ q : Nat, q ≤ n ∧ i_1 = .int .i64 (q : Int) ∧ Hid (∀ j x, j < q → ls[j]? = some x → x.t = false → x.l = (i : Int) → trI ts x.a = trI ts x.b) ∧ Good w2 wr) (fun i_1 _ => n - (intOf i_1).toNat)
      case atStart => exact ⟨0, by omega, rfl, fun j x hj => by omega, Good.refl _⟩
      case round =>
        obtain ⟨q, hq, rfl, HK, hg⟩ := hrel
        clear cw0' cw1'
        have hz3 := hg.size
        by_cases hlt2 : q < n
        · obtain ⟨b, off, x, rfl, hbl, hxk, hat⟩ := (HLs.out wr (HG2.out.up hg)).at hlt2
          have e0 := hat.ca
          have e1 := hat.cb
          have e2 := hat.cl
          have e3 := hat.ct
          have b1 : (0 : Int) ≤ (q : Int) := by omega
          have b2 : (q : Int) < (n : Int) := by omega
          have HX := hideIt hxk
          have HGa := hideIt (hg.alloc (.cells #[.int .i64 x.a, .int .i64 x.b, .int .i64 x.l, .bool x.t] 52))
          cases ht : x.t with
          | true =>
            rw [ht] at e3 HGa
            have HK2 : Hid (∀ j x, j < q + 1 → ls[j]? = some x → x.t = false → x.l = (i : Int) → trI ts x.a = trI ts x.b) := fun j y hj hy h1 h2 => by
              by_cases e : j = q
              · subst e
                rw [HX.out] at hy
                obtain rfl := Option.some.inj hy
                rw [ht] at h1; cases h1
              · exact HK.out j y (by omega) hy h1 h2
            clear HK hxk hat ht hg
            go_wp2
            go_quiet (fail)
            go_wp2
            exact ⟨⟨q + 1, by omega, by go_num, HK2, below_drewN HGa.out _⟩, by simp [intOf]; omega⟩
          | false =>
            rw [ht] at e3 HGa
            by_cases hli : x.l = (i : Int)
            · have hed := HEd.out x (List.mem_of_getElem? hxk)
              obtain ⟨ua, hua⟩ : ∃ u : Nat, x.a = (u : Int) := ⟨x.a.toNat, by omega⟩
              obtain ⟨ub, hub⟩ : ∃ u : Nat, x.b = (u : Int) := ⟨x.b.toNat, by omega⟩
              obtain ⟨s, hs, hus⟩ := HQ.out.cov x.a (by omega) (by omega)
              obtain ⟨s', hs', hus'⟩ := HQ.out.cov x.b (by omega) (by omega)
              obtain ⟨p, hp⟩ : ∃ p, s[0]? = some p := ⟨_, List.getElem?_eq_getElem (List.length_pos_of_mem hus)⟩
              obtain ⟨p', hp'⟩ : ∃ p, s'[0]? = some p := ⟨_, List.getElem?_eq_getElem (List.length_pos_of_mem hus')⟩
              have hsame := head_same HQ.out hs hs' hus hus' hp hp'
              have h1 := HL.out s hs ua (by rw [← hua]; exact hus)
              have h2 := HL.out s' hs' ub (by rw [← hub]; exact hus')
              rw [hp] at h1
              rw [hp'] at h2
              have HOw := own_up HO.out HGa.out
              have r1 : (wr.alloc (.cells #[.int .i64 x.a, .int .i64 x.b, .int .i64 x.l, .bool false] 52)).cell? ⟨gr, ua, none⟩ = some (.int .i64 p) := by rw [HOw.cellAt ua (by omega)]; exact ic_at h1
              have r2 : (wr.alloc (.cells #[.int .i64 x.a, .int .i64 x.b, .int .i64 x.l, .bool false] 52)).cell? ⟨gr, ub, none⟩ = some (.int .i64 p') := by rw [HOw.cellAt ub (by omega)]; exact ic_at h2
              have b3 : (0 : Int) ≤ (ua : Int) := by omega
              have b4 : (ua : Int) < (nn : Int) := by omega
              have b5 : (0 : Int) ≤ (ub : Int) := by omega
              have b6 : (ub : Int) < (nn : Int) := by omega
              have d2 : (x.l == (i : Int)) = true := by simpa using hli
              have HSame := hideIt hsame
              have HGb := hideIt HGa.out
              have HX2 : Hid (∀ y, ls[q]? = some y → (trI ts y.a = trI ts y.b ↔ p = p')) := fun y hy => by
                rw [HX.out] at hy
                obtain rfl := Option.some.inj hy
                exact HSame.out.symm
              rw [hua, hub] at HGb r1 r2
              rw [hua] at e0
              rw [hub] at e1
              rw [hli] at e2 HGb r1 r2
              have HNq : Hid (p ≠ p' → ¬ LvQ nn ls i ts) := fun hne hq => hne (HSame.out.2 (hq.2 x (List.mem_of_getElem? HX.out) ht hli))
              clear hxk hat ht hg hli d2 hs hs' hus hus' hp hp' hsame h1 h2 HOw HGa hed hua hub
              by_cases hpp : p = p'
              · have d3 : (p != p') = false := by simpa using hpp
                have HK2 : Hid (∀ j x, j < q + 1 → ls[j]? = some x → x.t = false → x.l = (i : Int) → trI ts x.a = trI ts x.b) := fun j y hj hy h1 h2 => by
                  by_cases e : j = q
                  · subst e
                    exact (HX2.out y hy).2 hpp
                  · exact HK.out j y (by omega) hy h1 h2
                have HPP := hideIt hpp
                clear HK hpp
                go_wp2
                go_quiet (fail)
                go_wp2
                exact ⟨⟨q + 1, by omega, by go_num, HK2, below_drewN HGb.out _⟩, by simp [intOf]; omega⟩
              · have d3 : (p != p') = true := by simpa using hpp
                have HN2 := hideIt (HNq.out hpp)
                clear HK hpp
                go_wp2
                go_quiet (fail)
                go_wp2
                go_ret
                exact ⟨false, rfl, ⟨fun h => (by cases h), fun h => absurd h HN2.out⟩, (HCW.out _ (HG2.out.up (below_drewN HGb.out _))).2⟩
            · have d2 : (x.l == (i : Int)) = false := by simpa using hli
              have HK2 : Hid (∀ j x, j < q + 1 → ls[j]? = some x → x.t = false → x.l = (i : Int) → trI ts x.a = trI ts x.b) := fun j y hj hy h1 h2 => by
                by_cases e : j = q
                · subst e
                  rw [HX.out] at hy
                  obtain rfl := Option.some.inj hy
                  exact absurd h2 hli
                · exact HK.out j y (by omega) hy h1 h2
              clear HK hxk hat ht hg hli
              go_wp2
              go_quiet (fail)
              go_wp2
              exact ⟨⟨q + 1, by omega, by go_num, HK2, below_drewN HGa.out _⟩, by simp [intOf]; omega⟩
        · obtain rfl : q = n := by omega
          have HY : Hid (LvQ nn ls i ts) := ⟨HA.out, fun x hx h1 h2 => by
            obtain ⟨j, hj⟩ := List.mem_iff_getElem?.1 hx
            exact HK.out j x (by have := (List.getElem?_eq_some_iff.1 hj).1; omega) hj h1 h2⟩
          clear HK
          go_wp2
          go_ret
          exact ⟨true, rfl, ⟨fun _ => HY.out, fun _ => rfl⟩, (HCW.out _ (HG2.out.up hg)).2⟩
end Go.Proofs.YtkkplppcgnikoaaGreat
namespace Go.Proofs.YtkkplppcgnikoaaGreat
open Go.RowKit

theorem LvOk_iff {nn : Nat} {ls : List Ld} {i : Nat} {ts : List (List Int)} (h : ftK (fE ls (i : Int)) nn nn = some ts) : LvOk nn ls i ↔ LvQ nn ls i ts :=
  ⟨fun ⟨ts', h1, h2⟩ => by rw [h] at h1; obtain rfl := Option.some.inj h1; exact h2, fun h2 => ⟨ts, h, h2⟩⟩
set_option maxRecDepth 100000 in
set_option maxHeartbeats 4000000 in
theorem levelOk_no (nn : Nat) (ls : List Ld) (i : Int) (n : Nat) (a : Option Addr) (c : Nat) (hG : gB (nn : Int) (gE ls) = true) (hl : ∀ x ∈ ls, 0 ≤ x.l) (hB : ¬ Bridge (fE ls 0)) (w : World) (h : Ls w w.heap.size a n ls) :
    Calls Tryz.prog 80 #[.agg #[.int .i64 (nn : Int), .slice a n c], .int .i64 i] w fun e w' => e = .returned (.bool false) ∧ Below w.heap.size w w' := by
  have hfa : Good w (wW w (nn : Int) a n c) := wW_good w (nn : Int) a n c
  have HFA := hideIt ((iForestAt_no nn ls i n a c hG hl hB _ (h.up hfa)).mono fun _ _ h => h.weak)
  clear h hG hl hB
  go_enter Tryz.func80, Tryz.ntmps80
  go_wp2_with (go_at_call 163; refine HFA.out.mono ?_; rintro e w1 ⟨a1, m1, c1, rfl, hT1, hb1⟩)
  go_ret
  exact ⟨rfl, (hfa.up hb1).alloc _⟩
set_option maxRecDepth 100000 in
set_option maxHeartbeats 4000000 in
theorem iWebOk_any (N : Int) (ls : List Ld) (n : Nat) (a : Option Addr) (c : Nat) (hn : n ≤ 1048576) (w : World) (h : Ls w w.heap.size a n ls) :
    Calls Tryz.prog 18 #[.agg #[.int .i64 N, .slice a n c]] w fun e w' => e = .returned (.bool (wB N ls)) ∧ Below w.heap.size w w' := by
  have hlen := h.1
  have hfa : Good w (wW w N a n c) := wW_good w N a n c
  have HR := hideIt h
  have HGo := hideIt (iGraphOf_any N ls n a c hn _ (h.up hfa))
  have HGk : Hid (∀ (g : Nat) (u : World), u.ownsRow (wW w N a n c).heap.size 28 2 (.slice (some ⟨g, 0, none⟩) n n) n (ecells (gE ls)) → Calls Tryz.prog 79 #[.agg #[.int .i64 N, .slice (some ⟨g, 0, none⟩) n n]] u fun e w' => e = .returned (.bool (gB N (gE ls))) ∧ Below u.heap.size u w') := fun g u hu => iGraphOk_any N (gE ls) n (some ⟨g, 0, none⟩) n hn u (Es_of_own hu)
  have HC : Hid (∀ u, Good (wW w N a n c) u → u.cell? ⟨w.heap.size, 0, none⟩ = some (.int .i64 N) ∧ u.cell? ⟨w.heap.size, 1, none⟩ = some (.slice a n c)) := fun u hu => by
    unfold Good at hu
    rw [wW_size] at hu
    exact wW_cells hu
  clear h
  cases hG : gB N (gE ls) with
  | false =>
    rw [hG] at HGk
    have HN := hideIt (wB_no (N := N) (ls := ls) fun hw => by have := hw.1; rw [hG] at this; cases this)
    clear hG
    go_enter Tryz.func18, Tryz.ntmps18
    go_wp2_with (first | (go_at_call 12; refine HGo.out.mono ?_; rintro e w1 ⟨g, rfl, ho1, hb1⟩; have HG2 := HGk.out g w1 ho1; clear ho1) | (go_at_call 79; refine HG2.mono ?_; rintro e w2 ⟨rfl, hb2⟩))
    go_ret
    exact ⟨by rw [HN.out]; rfl, (hfa.up hb1).up hb2⟩
  | true =>
    rw [hG] at HGk
    obtain ⟨nn, rfl, hn1, hn12⟩ := gB_n hG
    have h66 : n ≤ 66 := by have := (gB_chk hG).2.2; rw [gE_len] at this; omega
    go_enter Tryz.func18, Tryz.ntmps18
    go_wp2_with (first | (go_at_call 12; refine HGo.out.mono ?_; rintro e w1 ⟨g, rfl, ho1, hb1⟩; have HG2 := HGk.out g w1 ho1; clear ho1) | (go_at_call 79; refine HG2.mono ?_; rintro e w2 ⟨rfl, hb2⟩; refine Hid.out ?_))
    refine (show ∀ {p : Prop}, p → Hid p from fun h => h) ?_
    have G2 : Good (wW w (nn : Int) a n c) w2 := (show Good (wW w (nn : Int) a n c) w1 from hb1).up hb2
    obtain ⟨cw0, cw1⟩ := HC.out w2 G2
    have HG0 := hideIt hG
    clear HGo HGk HG2 hb1 hb2 hG
    go_wp2
    go_loopw [13] (fun i wr => ∃ k : Nat, k ≤ n ∧ i = .int .i64 (k : Int) ∧ Hid (∀ j x, j < k → ls[j]? = some x → 0 ≤ x.l ∧ x.l ≤ 4) ∧ Good (wW w (nn : Int) a n c) wr) (fun i _ => n - (intOf i).toNat)
    case atStart => exact ⟨0, by omega, rfl, fun j x hj => by omega, G2⟩
    case round =>
      obtain ⟨k, hk, rfl, HK, hg⟩ := hrel
      clear G2 cw0 cw1
      by_cases hlt : k < n
      · obtain ⟨b, off, x, rfl, hbl, hxk, hat⟩ := ((HR.out.up (wW_good w _ a n c)).up hg).at hlt
        have e0 := hat.ca
        have e1 := hat.cb
        have e2 := hat.cl
        have e3 := hat.ct
        have b1 : (0 : Int) ≤ (k : Int) := by omega
        have b2 : (k : Int) < (n : Int) := by omega
        have HGa := hideIt (hg.alloc (.cells #[.int .i64 x.a, .int .i64 x.b, .int .i64 x.l, .bool x.t] 52))
        have HX := hideIt hxk
        clear hxk hat hg
        by_cases hlow : x.l < 0
        · have d1 : decide (x.l < 0) = true := decide_eq_true hlow
          have HN := hideIt (wB_no (N := (nn : Int)) (ls := ls) fun hw => by have := hw.2.1 x (List.mem_of_getElem? HX.out); omega)
          clear HK hlow
          go_wp2
          go_ret
          exact ⟨by rw [HN.out]; rfl, hfa.up HGa.out⟩
        · have d1 : decide (x.l < 0) = false := decide_eq_false hlow
          by_cases hhi : 4 < x.l
          · have d2 : decide (4 < x.l) = true := decide_eq_true hhi
            have HN := hideIt (wB_no (N := (nn : Int)) (ls := ls) fun hw => by have := hw.2.1 x (List.mem_of_getElem? HX.out); omega)
            clear HK hlow hhi
            go_wp2
            go_ret
            exact ⟨by rw [HN.out]; rfl, hfa.up HGa.out⟩
          · have d2 : decide (4 < x.l) = false := decide_eq_false hhi
            have HK2 : Hid (∀ j x, j < k + 1 → ls[j]? = some x → 0 ≤ x.l ∧ x.l ≤ 4) := fun j y hj hy => by
              by_cases e : j = k
              · subst e
                rw [HX.out] at hy
                obtain rfl := Option.some.inj hy
                omega
              · exact HK.out j y (by omega) hy
            clear HK hlow hhi
            go_wp2
            exact ⟨⟨k + 1, by omega, by go_num, HK2, HGa.out⟩, by simp [intOf]; omega⟩
      · obtain rfl : k = n := by omega
        have HLv : Hid (∀ x ∈ ls, 0 ≤ x.l ∧ x.l ≤ 4) := fun x hx => by
          obtain ⟨j, hj⟩ := List.mem_iff_getElem?.1 hx
          exact HK.out j x (by have := (List.getElem?_eq_some_iff.1 hj).1; omega) hj
        have HLs : Hid (∀ u, Good (wW w (nn : Int) a k c) u → Ls u u.heap.size a k ls) := fun u hu => (HR.out.up (wW_good w _ a k c)).up hu
        clear HK
        by_cases hBr : Bridge (fE ls 0)
        · have HLo : Hid (∀ (i : Nat) (u : World), i < 5 → Good (wW w (nn : Int) a k c) u → Calls Tryz.prog 80 #[.agg #[.int .i64 (nn : Int), .slice a k c], .int .i64 (i : Int)] u fun e w' => ∃ b : Bool, e = .returned (.bool b) ∧ (b = true ↔ LvOk nn ls i) ∧ Good (wW w (nn : Int) a k c) w') := fun i u hi hu => by
            obtain ⟨ts, hts⟩ := ft_some (fE_ends HG0.out (i : Int)) (hBr.sub fun e he => fE_low (by omega) he) nn (Nat.le_refl _)
            refine (levelOk_any nn ls i hi k a c HG0.out (fun x hx => (HLv.out x hx).1) hBr ts hts u (HLs.out u hu)).mono fun e v ⟨b, h1, h2, h3⟩ => ⟨b, h1, ?_, hu.up h3⟩
            rw [h2, LvOk_iff hts]
          have HGs := hideIt hg
          clear hBr hg
          go_wp2
          go_loopw [5] (fun i wr => ∃ q : Nat, q ≤ 5 ∧ i = .int .i64 (q : Int) ∧ Hid (∀ j, j < q → LvOk nn ls j) ∧ Good (wW w (nn : Int) a k c) wr) (fun i _ => 5 - (intOf i).toNat)
          case atStart => exact ⟨0, by omega, rfl, fun j hj => by omega, HGs.out⟩
          case round =>
            obtain ⟨q, hq, rfl, HQ, hg⟩ := hrel
            clear HGs
            obtain ⟨cw0, cw1⟩ := HC.out wr hg
            by_cases hq5 : q < 5
            · have d0 : decide ((q : Int) ≤ 4) = true := decide_eq_true (by omega)
              have HCl := hideIt (HLo.out q wr hq5 hg)
              clear hg
              go_wp2_with (go_at_call 80; refine HCl.out.mono ?_; rintro e w3 ⟨b, rfl, hb3, hg3⟩; refine Hid.out ?_)
              refine (show ∀ {p : Prop}, p → Hid p from fun h => h) ?_
              cases b with
              | true =>
                have HQ2 : Hid (∀ j, j < q + 1 → LvOk nn ls j) := fun j hj => by
                  by_cases e : j = q
                  · subst e; exact hb3.1 rfl
                  · exact HQ.out j (by omega)
                clear HQ hb3
                go_wp2
                exact ⟨⟨q + 1, by omega, by go_num, HQ2, hg3⟩, by simp [intOf]; omega⟩
              | false =>
                have HN := hideIt (wB_no (N := (nn : Int)) (ls := ls) fun hw => by
                  have := hw.2.2 q hq5
                  rw [Int.toNat_natCast] at this
                  have := hb3.2 this
                  cases this)
                clear HQ hb3
                go_wp2
                go_ret
                exact ⟨by rw [HN.out]; rfl, hfa.up hg3⟩
            · have d0 : decide ((q : Int) ≤ 4) = false := decide_eq_false (by omega)
              have HY := hideIt (wB_yes (N := (nn : Int)) (ls := ls) ⟨HG0.out, HLv.out, fun i hi => by rw [Int.toNat_natCast]; exact HQ.out i (by omega)⟩)
              clear HQ
              go_wp2
              go_ret
              exact ⟨by rw [HY.out]; rfl, hfa.up hg⟩
        · have HLo := hideIt ((levelOk_no nn ls 0 k a c HG0.out (fun x hx => (HLv.out x hx).1) hBr wr (HLs.out wr hg)).mono fun e v ⟨h1, h2⟩ => And.intro h1 (hg.up h2))
          have HN := hideIt (wB_no (N := (nn : Int)) (ls := ls) fun hw => hBr hw.bridge)
          have HGs := hideIt hg
          obtain ⟨cw0, cw1⟩ := HC.out wr hg
          clear hBr hg
          go_wp2
          go_loopw [5] (fun i wq => i = .int .i64 0 ∧ wq = wr) (fun i _ => 5 - (intOf i).toNat)
          case atStart => exact ⟨rfl, rfl⟩
          case round =>
            obtain ⟨rfl, hw⟩ := hrel
            have hw' := hw.symm
            subst hw'
            go_wp2_with (go_at_call 80; refine HLo.out.mono ?_; rintro e w3 ⟨rfl, hg3⟩)
            go_ret
            exact ⟨by rw [HN.out]; rfl, hfa.up hg3⟩
end Go.Proofs.YtkkplppcgnikoaaGreat
namespace Go.Proofs.YtkkplppcgnikoaaGreat
open Go.RowKit

theorem sForestOk_yes {N : Int} {ts : List (List Int)} (hP : FP N ts) {n : Nat} {a : Option Addr} (c : Nat) (hn : n + lnS ts ≤ 1048576) {w : World} (h : Ts w w.heap.size a n ts) :
    Calls Tryz.prog 173 #[.agg #[.int .i64 N, .slice a n c]] w fun e w' => e = .returned (.bool true) ∧ Good w w' :=
  (sForestOk_any N ts n a c hn w h).mono fun e u ⟨b, he, hb, hbl⟩ => ⟨by rw [he, hb.2 hP], hbl⟩
theorem sForestOk_no {N : Int} {ts : List (List Int)} (hP : ¬ FP N ts) {n : Nat} {a : Option Addr} (c : Nat) (hn : n + lnS ts ≤ 1048576) {w : World} (h : Ts w w.heap.size a n ts) :
    Calls Tryz.prog 173 #[.agg #[.int .i64 N, .slice a n c]] w fun e w' => e = .returned (.bool false) ∧ Good w w' :=
  (sForestOk_any N ts n a c hn w h).mono fun e u ⟨b, he, hb, hbl⟩ => ⟨by
      have : b = false := by
        cases b with
        | false => rfl
        | true => exact absurd (hb.1 rfl) hP
      rw [he, this], hbl⟩

set_option maxHeartbeats 1000000 in
theorem sTreeOf_any (N : Int) (ts : List (List Int)) (v : Int) (n : Nat) (a : Option Addr) (c : Nat) (hn : n + lnS ts ≤ 1048576) (w : World) (h : Ts w w.heap.size a n ts) :
    Calls Tryz.prog 84 #[.agg #[.int .i64 N, .slice a n c], .int .i64 v] w fun e w' => e = .returned (.int .i64 (treeO N ts v)) ∧ Below w.heap.size w w' := by
  have b0 : Good w (w.alloc (.cells #[.int .i64 N, .slice a n c] 127)) := (Good.refl w).alloc _
  have HB0 := hideIt b0
  have HC0 : Hid (∀ u, Good (w.alloc (.cells #[.int .i64 N, .slice a n c] 127)) u → u.cell? ⟨w.heap.size, 1, none⟩ = some (.slice a n c)) := fun u hu => by rw [hu.cell (by simp)]; simp
  by_cases hP : FP N ts
  · have HF2 := hideIt (sForestOk_yes hP c hn (h.up b0))
    have HA := hideIt (h.up b0)
    have HV := hideIt (treeO_yes hP v)
    have hlen := h.1
    clear h b0 hP
    go_enter Tryz.func84, Tryz.ntmps84
    go_wp2_with (go_at_call 173; refine HF2.out.mono ?_; rintro e w1 ⟨rfl, hg1⟩; refine Hid.out ?_)
    refine (show ∀ {p : Prop}, p → Hid p from fun h => h) ?_
    have HG1 := hideIt hg1
    clear HF2 hg1
    go_wp2
    go_loopw [5] (fun i wr => ∃ k : Nat, k ≤ n ∧ i = .int .i64 (k : Int) ∧ Hid (∀ j, j < k → trP ts v j = false) ∧ wr = w1) (fun i _ => n - (intOf i).toNat)
    case atStart => exact ⟨0, by omega, rfl, fun j hj => by omega, rfl⟩
    case round =>
      obtain ⟨k, hk, rfl, HK, hw⟩ := hrel
      have hw' := hw.symm
      subst hw'
      clear hw
      have k1 := HC0.out _ HG1.out
      by_cases hlt : k < n
      · rcases (HA.out.up HG1.out).2 with hz | ⟨bb, off, rfl, hbl, hc⟩
        · omega
        · obtain ⟨t, ht⟩ : ∃ t, ts[k]? = some t := ⟨ts[k]'(by omega), List.getElem?_eq_getElem (by omega)⟩
          obtain ⟨x, cx, e0, iI, _⟩ := hc k t ht
          have b1 : (0 : Int) ≤ (k : Int) := by omega
          have b2 : (k : Int) < (n : Int) := by omega
          have HC := hideIt (l05In_any t v t.length x cx (by have := lnS_mem (List.mem_of_getElem? ht); omega) w1 iI)
          rw [← trP_at (v := v) ht] at HC
          cases hp : trP ts v k with
          | true =>
            rw [hp] at HC
            have HV2 : Hid (trI ts v = (k : Int)) := firstN_yes (by omega) hp HK.out
            clear hc ht iI hp HK
            go_wp2_with (go_at_call 171; refine HC.out.mono ?_; rintro e w2 ⟨rfl, hw⟩; have hw' := hw.symm; subst hw'; clear hw)
            go_ret
            exact ⟨by rw [HV.out, HV2.out]; rfl, HB0.out.up HG1.out⟩
          | false =>
            rw [hp] at HC
            have HK2 : Hid (∀ j, j < k + 1 → trP ts v j = false) := fun j hj => by
              by_cases h7 : j = k
              · rw [h7]; exact hp
              · exact HK.out j (by omega)
            clear hc ht iI hp HK
            go_wp2_with (go_at_call 171; refine HC.out.mono ?_; rintro e w2 ⟨rfl, hw⟩; have hw' := hw.symm; subst hw'; clear hw)
            exact ⟨⟨k + 1, by omega, by go_num, HK2, by first | trivial | rfl⟩, by simp [intOf]; omega⟩
      · obtain rfl : k = n := by omega
        have HV2 : Hid (trI ts v = -1) := firstN_no (fun j hj => HK.out j (by omega))
        clear HK
        go_wp2
        go_ret
        exact ⟨by rw [HV.out, HV2.out]; rfl, HB0.out.up HG1.out⟩
  · have HF2 := hideIt (sForestOk_no hP c hn (h.up b0))
    have HV := hideIt (treeO_no hP v)
    clear h b0 hP
    go_enter Tryz.func84, Tryz.ntmps84
    go_wp2_with (go_at_call 173; refine HF2.out.mono ?_; rintro e w1 ⟨rfl, hg1⟩)
    go_ret
    exact ⟨by rw [HV.out]; rfl, HB0.out.up hg1⟩

end Go.Proofs.YtkkplppcgnikoaaGreat
namespace Go.Proofs.YtkkplppcgnikoaaGreat
open Go.RowKit

theorem lnS_small {ts : List (List Int)} (h : ∀ t ∈ ts, t.length ≤ 23) : lnS ts ≤ 23 * ts.length := by
  induction ts with
  | nil => simp [lnS]
  | cons t ts ih =>
    have h1 := h t (by simp)
    have h2 := ih fun s hs => h s (by simp [hs])
    simp only [lnS, List.map_cons, List.sum_cons, List.length_cons] at h2 ⊢
    omega
set_option maxRecDepth 100000 in
set_option maxHeartbeats 8000000 in
theorem sWebOk_any (N : Int) (ls : List Ld) (n : Nat) (a : Option Addr) (c : Nat) (hn : n ≤ 1048576) (w : World) (h : Ls w w.heap.size a n ls) :
    Calls Tryz.prog 19 #[.agg #[.int .i64 N, .slice a n c]] w fun e w' => e = .returned (.bool (wB N ls)) ∧ Below w.heap.size w w' := by
  have hlen := h.1
  have hfa : Good w (wW w N a n c) := wW_good w N a n c
  have HR := hideIt h
  have HGo := hideIt (sGraphOf_any N ls n a c hn _ (h.up hfa))
  have HGk : Hid (∀ (a' : Option Addr) (c' : Nat) (u : World), u.ownsRow (wW w N a n c).heap.size 28 2 (.slice a' n c') n (ecells (gE ls)) → Calls Tryz.prog 72 #[.agg #[.int .i64 N, .slice a' n c']] u fun e w' => e = .returned (.bool (gB N (gE ls))) ∧ Below u.heap.size u w') := fun a' c' u hu => sGraphOk_any N (gE ls) n a' c' hn u (Es_of_own hu)
  have HC : Hid (∀ u, Good (wW w N a n c) u → u.cell? ⟨w.heap.size, 0, none⟩ = some (.int .i64 N) ∧ u.cell? ⟨w.heap.size, 1, none⟩ = some (.slice a n c)) := fun u hu => by
    unfold Good at hu
    rw [wW_size] at hu
    exact wW_cells hu
  have HIn := hideIt l01In_any
  clear h
  cases hG : gB N (gE ls) with
  | false =>
    rw [hG] at HGk
    have HN := hideIt (wB_no (N := N) (ls := ls) fun hw => by have := hw.1; rw [hG] at this; cases this)
    clear hG
    go_enter Tryz.func19, Tryz.ntmps19
    go_wp2_with (first | (go_at_call 26; refine HGo.out.mono ?_; rintro e w1 ⟨ag, cg, rfl, ho1, hb1⟩; have HG2 := HGk.out ag cg w1 ho1; clear ho1) | (go_at_call 72; refine HG2.mono ?_; rintro e w2 ⟨rfl, hb2⟩))
    go_ret
    exact ⟨by rw [HN.out]; rfl, (hfa.up hb1).up hb2⟩
  | true =>
    rw [hG] at HGk
    obtain ⟨nn, rfl, hn1, hn12⟩ := gB_n hG
    have h66 : n ≤ 66 := by have := (gB_chk hG).2.2; rw [gE_len] at this; omega
    go_enter Tryz.func19, Tryz.ntmps19
    go_wp2_with (first | (go_at_call 26; refine HGo.out.mono ?_; rintro e w1 ⟨ag, cg, rfl, ho1, hb1⟩; have HG2 := HGk.out ag cg w1 ho1; clear ho1) | (go_at_call 72; refine HG2.mono ?_; rintro e w2 ⟨rfl, hb2⟩; refine Hid.out ?_))
    refine (show ∀ {p : Prop}, p → Hid p from fun h => h) ?_
    have G2 : Good (wW w (nn : Int) a n c) w2 := (show Good (wW w (nn : Int) a n c) w1 from hb1).up hb2
    have HG0 := hideIt hG
    clear HGo HGk HG2 hb1 hb2 hG
    go_wp2
    go_loopw [3] (fun i wr => ∃ k : Nat, k ≤ n ∧ i = .int .i64 (k : Int) ∧ Hid (∀ j x, j < k → ls[j]? = some x → 0 ≤ x.l ∧ x.l ≤ 4) ∧ Good (wW w (nn : Int) a n c) wr) (fun i _ => n - (intOf i).toNat)
    case atStart => exact ⟨0, by omega, rfl, fun j x hj => by omega, G2⟩
    case round =>
      obtain ⟨k, hk, rfl, HK, hg⟩ := hrel
      clear G2
      obtain ⟨cw0, cw1⟩ := HC.out wr hg
      by_cases hlt : k < n
      · obtain ⟨b, off, x, rfl, hbl, hxk, hat⟩ := ((HR.out.up (wW_good w _ a n c)).up hg).at hlt
        have e2 := hat.cl
        have b1 : (0 : Int) ≤ (k : Int) := by omega
        have b2 : (k : Int) < (n : Int) := by omega
        have HX := hideIt hxk
        have HGs := hideIt hg
        clear hxk hat hg
        by_cases hlv : 0 ≤ x.l ∧ x.l ≤ 4
        · have HI2 := HIn.out x.l 0 4 wr
          rw [decide_eq_true hlv] at HI2
          have HI2 := hideIt HI2
          have HK2 : Hid (∀ j x, j < k + 1 → ls[j]? = some x → 0 ≤ x.l ∧ x.l ≤ 4) := fun j y hj hy => by
            by_cases e : j = k
            · subst e
              rw [HX.out] at hy
              obtain rfl := Option.some.inj hy
              exact hlv
            · exact HK.out j y (by omega) hy
          clear HK hlv
          go_wp2_with (go_at_call 81; refine HI2.out.mono ?_; rintro e w1 ⟨rfl, hw⟩; have hw' := hw.symm; subst hw'; clear hw)
          exact ⟨⟨k + 1, by omega, by go_num, HK2, HGs.out⟩, by simp [intOf]; omega⟩
        · have HI2 := HIn.out x.l 0 4 wr
          rw [decide_eq_false hlv] at HI2
          have HI2 := hideIt HI2
          have HN := hideIt (wB_no (N := (nn : Int)) (ls := ls) fun hw => hlv (hw.2.1 x (List.mem_of_getElem? HX.out)))
          clear HK hlv
          go_wp2_with (go_at_call 81; refine HI2.out.mono ?_; rintro e w1 ⟨rfl, hw⟩; have hw' := hw.symm; subst hw'; clear hw)
          go_ret
          exact ⟨by rw [HN.out]; rfl, hfa.up HGs.out⟩
      · obtain rfl : k = n := by omega
        have HLv : Hid (∀ x ∈ ls, 0 ≤ x.l ∧ x.l ≤ 4) := fun x hx => by
          obtain ⟨j, hj⟩ := List.mem_iff_getElem?.1 hx
          exact HK.out j x (by have := (List.getElem?_eq_some_iff.1 hj).1; omega) hj
        have HLs : Hid (∀ u, Good (wW w (nn : Int) a k c) u → Ls u u.heap.size a k ls) := fun u hu => (HR.out.up (wW_good w _ a k c)).up hu
        have HFa : Hid (∀ (i : Nat) (u : World), Good (wW w (nn : Int) a k c) u → Calls Tryz.prog 82 #[.agg #[.int .i64 (nn : Int), .slice a k c], .int .i64 (i : Int)] u (FAt9 u (nn : Int) (ftK (fE ls (i : Int)) nn nn))) := fun i u hu => (sForestAt_any nn ls (i : Int) k a c hn1 hn12 HG0.out u (HLs.out u hu)).mono fun _ _ h => h.weak
        have HGs := hideIt hg
        clear HK hg
        go_wp2
        go_loopw [4, 5] (fun mo i wr => ∃ q ms : Nat, q ≤ 5 ∧ ms ≤ 12 ∧ i = .int .i64 (q : Int) ∧ mo = .int .i64 (ms : Int) ∧ Hid (ms = nn / 2 ^ q) ∧ Hid (∀ j, j < q → LvOk nn ls j) ∧ Good (wW w (nn : Int) a k c) wr) (fun _ i _ => 5 - (intOf i).toNat)
        case atStart => exact ⟨0, nn, by omega, by omega, rfl, rfl, by show _ = _; simp, fun j hj => by omega, HGs.out⟩
        case round =>
          obtain ⟨q, ms, hq, hms, rfl, rfl, HMs, HQ, hg⟩ := hrel
          clear HGs cw0 cw1
          obtain ⟨cw0, cw1⟩ := HC.out wr hg
          have HGs := hideIt hg
          by_cases hq5 : q < 5
          · have d0 : decide ((q : Int) ≤ 4) = true := decide_eq_true (by omega)
            have HCf := HFa.out q wr hg
            cases hts : ftK (fE ls (q : Int)) nn nn with
            | none =>
              rw [hts] at HCf
              have HCf := hideIt HCf
              have HN := hideIt (wB_no (N := (nn : Int)) (ls := ls) fun hw => by
                obtain ⟨ts, h1, _⟩ := hw.2.2 q hq5
                rw [Int.toNat_natCast, hts] at h1
                cases h1)
              clear HQ hts hg
              go_wp2_with (go_at_call 82; refine HCf.out.mono ?_; rintro e w3 ⟨a3, m3, c3, rfl, hT3, hb3⟩)
              go_ret
              exact ⟨by rw [HN.out]; rfl, hfa.up ((HGs.out.up hb3).alloc _)⟩
            | some ts =>
              rw [hts] at HCf
              have HCf := hideIt HCf
              have hall := ft_all (fE_ends HG0.out (q : Int)) hn1 hn12 hts
              have HAll := hideIt hall
              have HTS := hideIt hts
              have HTB : Hid (∀ t ∈ ts, tB t = true) := fun t ht => (HAll.out.fp.q.1 t ht).1
              have hl12 : ts.length ≤ 12 := hall.fp.2.2.1
              clear hts hall hg
              go_wp2_with (go_at_call 82; refine HCf.out.mono ?_; rintro e W1 ⟨a1, m1, c1, rfl, hT1, hb3⟩; refine Hid.out ?_)
              refine (show ∀ {p : Prop}, p → Hid p from fun h => h) ?_
              simp only [Option.getD_some] at hT1
              have G1 : Good (wW w (nn : Int) a k c) W1 := HGs.out.up hb3
              obtain ⟨W, hW⟩ : ∃ W, W = W1.alloc (.cells #[.int .i64 (nn : Int), .slice a1 m1 c1] 127) := ⟨_, rfl⟩
              have hbW : Below W1.heap.size W1 W := by rw [hW]; exact (Below.refl _ _).alloc (Nat.le_refl _) _
              have hzW : W.heap.size = W1.heap.size + 1 := by rw [hW]; simp
              have hm1 : m1 ≤ 12 := by have := hT1.1; omega
              have HCW : Hid (∀ u, Good W u → ((u.cell? ⟨W1.heap.size, 0, none⟩ = some (.int .i64 (nn : Int)) ∧ u.cell? ⟨W1.heap.size, 1, none⟩ = some (.slice a1 m1 c1)) ∧ (u.cell? ⟨w.heap.size, 0, none⟩ = some (.int .i64 (nn : Int)) ∧ u.cell? ⟨w.heap.size, 1, none⟩ = some (.slice a k c))) ∧ Good (wW w (nn : Int) a k c) u) := fun u hu => by
                have hu1 : Below W1.heap.size W1 u := hbW.trans (Below.mono hu (by omega))
                have hgu := G1.up hu1
                refine ⟨⟨⟨?_, ?_⟩, HC.out u hgu⟩, hgu⟩
                · rw [hu.cell (by omega), hW]; simp
                · rw [hu.cell (by omega), hW]; simp
              have HTs := hideIt (hT1.up hbW)
              have hln : m1 + lnS ts ≤ 1048576 := by have := lnS_small (ts := ts) (fun t ht => (tB_len (HTB.out t ht)).2); omega
              clear HCf hT1 hb3 hbW G1 cw0 cw1
              go_wp2
              rw [← hW]
              go_loopw [8] (fun i wr => ∃ j : Nat, j ≤ m1 ∧ i = .int .i64 (j : Int) ∧ Hid (∀ y t, y < j → ts[y]? = some t → 1 < (vsL t).length → (vsL t).length ≤ ms) ∧ Good W wr) (fun i _ => m1 - (intOf i).toNat)
              case atStart => exact ⟨0, by omega, rfl, fun y t hy => by omega, Good.refl _⟩
              case round =>
                obtain ⟨j, hj, rfl, HJ, hg⟩ := hrel
                obtain ⟨⟨⟨cf0, cf1⟩, cw0, cw1⟩, hgw⟩ := HCW.out wr hg
                have HG := hideIt hg
                by_cases hjm : j < m1
                · rcases (HTs.out.up hg).2 with hz | ⟨b, off, rfl, hbl, hc⟩
                  · omega
                  · obtain ⟨t, ht⟩ : ∃ t, ts[j]? = some t := ⟨ts[j]'(by have := HTs.out.1; omega), List.getElem?_eq_getElem (by have := HTs.out.1; omega)⟩
                    obtain ⟨x, cx, e0, iI, _⟩ := hc j t ht
                    have hl23 := tB_len (HTB.out t (List.mem_of_getElem? ht))
                    have b1 : (0 : Int) ≤ (j : Int) := by omega
                    have b2 : (j : Int) < (m1 : Int) := by omega
                    have HTk := hideIt ht
                    obtain ⟨V, hV⟩ : ∃ V, (vsL t).length = V := ⟨_, rfl⟩
                    have hV12 := vsL_len t
                    rw [hV] at hV12
                    have HV : Hid (Calls Tryz.prog 83 #[.slice x t.length cx] wr fun e v => ∃ a3 c3, e = .returned (.slice a3 V c3) ∧ Good wr v) := (sVertsOf_any t t.length x cx (by omega) wr iI).mono fun e v ⟨a3, m3, c3, he, ho, hb⟩ => by
                      have hm : V = m3 := by have := ho.1; rw [ic_len] at this; omega
                      subst hm
                      exact ⟨a3, c3, he, hb⟩
                    have HVV := hideIt hV
                    have HJ2 : Hid ((1 < V → V ≤ ms) → ∀ y t, y < j + 1 → ts[y]? = some t → 1 < (vsL t).length → (vsL t).length ≤ ms) := fun hv y s hy hs h2 => by
                      by_cases e : y = j
                      · subst e
                        rw [HTk.out] at hs
                        obtain rfl := Option.some.inj hs
                        rw [HVV.out] at h2 ⊢
                        exact hv h2
                      · exact HJ.out y s (by omega) hs h2
                    clear hc ht iI hV HJ hg
                    by_cases h1 : 1 < V
                    · have d1 : decide ((1 : Int) < (V : Int)) = true := decide_eq_true (by omega)
                      by_cases hle : V ≤ ms
                      · have d2 : decide ((ms : Int) < (V : Int)) = false := decide_eq_false (by omega)
                        have HJ3 := hideIt (HJ2.out fun _ => hle)
                        clear HJ2
                        go_wp2_with (go_at_call 83; refine HV.out.mono ?_; rintro e w3 ⟨a3, c3, rfl, g3⟩)
                        exact ⟨⟨j + 1, by omega, by go_num, HJ3, HG.out.up g3⟩, by simp [intOf]; omega⟩
                      · have d2 : decide ((ms : Int) < (V : Int)) = true := decide_eq_true (by omega)
                        have HN := hideIt (wB_no (N := (nn : Int)) (ls := ls) fun hw => by
                          have h7 := hw.2.2 q hq5
                          rw [Int.toNat_natCast, LvOk_iff HTS.out] at h7
                          have := h7.1 t (List.mem_of_getElem? HTk.out) (by rw [HVV.out]; exact h1)
                          rw [HVV.out, ← HMs.out] at this
                          exact hle this)
                        clear HJ2
                        go_wp2_with (go_at_call 83; refine HV.out.mono ?_; rintro e w3 ⟨a3, c3, rfl, g3⟩)
                        go_ret
                        exact ⟨by rw [HN.out]; rfl, hfa.up (HCW.out _ (HG.out.up g3)).2⟩
                    · have d1 : decide ((1 : Int) < (V : Int)) = false := decide_eq_false (by omega)
                      have HJ3 := hideIt (HJ2.out fun h => absurd h h1)
                      clear HJ2
                      go_wp2_with (go_at_call 83; refine HV.out.mono ?_; rintro e w3 ⟨a3, c3, rfl, g3⟩)
                      exact ⟨⟨j + 1, by omega, by go_num, HJ3, HG.out.up g3⟩, by simp [intOf]; omega⟩
                · obtain rfl : j = m1 := by omega
                  have HA : Hid (∀ t ∈ ts, 1 < (vsL t).length → (vsL t).length ≤ nn / 2 ^ q) := fun t ht h2 => by
                    obtain ⟨y, hy⟩ := List.mem_iff_getElem?.1 ht
                    rw [← HMs.out]
                    exact HJ.out y t (by have := (List.getElem?_eq_some_iff.1 hy).1; have := HTs.out.1; omega) hy h2
                  have HTr : Hid (∀ (v : Int) (u : World), Good W u → Calls Tryz.prog 84 #[.agg #[.int .i64 (nn : Int), .slice a1 j c1], .int .i64 v] u fun e w' => e = .returned (.int .i64 (trI ts v)) ∧ Good W w') := fun v u hu => by
                    have := sTreeOf_any (nn : Int) ts v j a1 c1 hln u (HTs.out.up hu)
                    rw [treeO_yes HAll.out.fp] at this
                    exact this.mono fun e u' ⟨h1, h2⟩ => ⟨h1, hu.up h2⟩
                  clear HJ hg
                  go_wp2
                  go_loopw [10] (fun i wr => ∃ p : Nat, p ≤ k ∧ i = .int .i64 (p : Int) ∧ Hid (∀ y x, y < p → ls[y]? = some x → x.t = false → x.l = (q : Int) → trI ts x.a = trI ts x.b) ∧ Good W wr) (fun i _ => k - (intOf i).toNat)
                  case atStart => exact ⟨0, by omega, rfl, fun y x hy => by omega, HG.out⟩
                  case round =>
                    obtain ⟨p, hp, rfl, HP, hg⟩ := hrel
                    clear HG cf0 cf1 cw0 cw1 hgw
                    obtain ⟨⟨⟨cf0, cf1⟩, cw0, cw1⟩, hgw⟩ := HCW.out wr hg
                    have HG := hideIt hg
                    by_cases hpk : p < k
                    · obtain ⟨b, off, x, rfl, hbl, hxk, hat⟩ := (HLs.out wr hgw).at hpk
                      have e0 := hat.ca
                      have e1 := hat.cb
                      have e2 := hat.cl
                      have e3 := hat.ct
                      have b1 : (0 : Int) ≤ (p : Int) := by omega
                      have b2 : (p : Int) < (k : Int) := by omega
                      have HX := hideIt hxk
                      have HP2 : Hid ((x.t = false → x.l = (q : Int) → trI ts x.a = trI ts x.b) → ∀ y x, y < p + 1 → ls[y]? = some x → x.t = false → x.l = (q : Int) → trI ts x.a = trI ts x.b) := fun hv y z hy hz => by
                        by_cases e : y = p
                        · subst e
                          rw [HX.out] at hz
                          obtain rfl := Option.some.inj hz
                          exact hv
                        · exact HP.out y z (by omega) hz
                      have HGa := hideIt (hg.alloc (.cells #[.int .i64 x.a, .int .i64 x.b, .int .i64 x.l, .bool x.t] 52))
                      have hzw : W1.heap.size < wr.heap.size := by have := hg.size; omega
                      have HS : Hid (∀ u, Good (wr.alloc (.cells #[.int .i64 x.a, .int .i64 x.b, .int .i64 x.l, .bool x.t] 52)) u → ((u.cell? ⟨W1.heap.size, 0, none⟩ = some (.int .i64 (nn : Int)) ∧ u.cell? ⟨W1.heap.size, 1, none⟩ = some (.slice a1 j c1)) ∧ (u.cell? ⟨wr.heap.size, 0, none⟩ = some (.int .i64 x.a) ∧ u.cell? ⟨wr.heap.size, 1, none⟩ = some (.int .i64 x.b))) ∧ u.cell? ⟨wr.heap.size, 2, none⟩ = some (.int .i64 x.l) ∧ u.cell? ⟨wr.heap.size, 3, none⟩ = some (.bool x.t)) := fun u hu => by
                        refine ⟨⟨(HCW.out u (HGa.out.up hu)).1.1, ?_, ?_⟩, ?_, ?_⟩
                        all_goals rw [hu.cell (by simp)]; simp
                      have g0 : Good (wr.alloc (.cells #[.int .i64 x.a, .int .i64 x.b, .int .i64 x.l, .bool x.t] 52)) (wr.alloc (.cells #[.int .i64 x.a, .int .i64 x.b, .int .i64 x.l, .bool x.t] 52)).drew := (Good.refl _).drew
                      clear hxk hat hg HP
                      cases ht : x.t with
                      | true =>
                        rw [ht] at e3 HGa HS g0
                        have HP3 := hideIt (HP2.out fun h => by rw [ht] at h; cases h)
                        have hS0 := HS.out _ g0
                        clear HP2 ht
                        go_wp2
                        go_quiet (fail)
                        go_wp2
                        exact ⟨⟨p + 1, by omega, by go_num, HP3, below_drewN HGa.out _⟩, by simp [intOf]; omega⟩
                      | false =>
                        rw [ht] at e3 HGa HS g0
                        have hS0 := HS.out _ g0
                        by_cases hlq : x.l = (q : Int)
                        · have d2 : (x.l == (q : Int)) = true := by simpa using hlq
                          have HTa : Hid (∀ u, Good (wr.alloc (.cells #[.int .i64 x.a, .int .i64 x.b, .int .i64 x.l, .bool false] 52)) u → Calls Tryz.prog 84 #[.agg #[.int .i64 (nn : Int), .slice a1 j c1], .int .i64 x.a] u fun e w' => e = .returned (.int .i64 (trI ts x.a)) ∧ Good (wr.alloc (.cells #[.int .i64 x.a, .int .i64 x.b, .int .i64 x.l, .bool false] 52)) w') := fun u hu => by
                            have := sTreeOf_any (nn : Int) ts x.a j a1 c1 hln u (HTs.out.up (HGa.out.up hu))
                            rw [treeO_yes HAll.out.fp] at this
                            exact this.mono fun e u' ⟨h1, h2⟩ => ⟨h1, hu.up h2⟩
                          have HTb : Hid (∀ u, Good (wr.alloc (.cells #[.int .i64 x.a, .int .i64 x.b, .int .i64 x.l, .bool false] 52)) u → Calls Tryz.prog 84 #[.agg #[.int .i64 (nn : Int), .slice a1 j c1], .int .i64 x.b] u fun e w' => e = .returned (.int .i64 (trI ts x.b)) ∧ Good (wr.alloc (.cells #[.int .i64 x.a, .int .i64 x.b, .int .i64 x.l, .bool false] 52)) w') := fun u hu => by
                            have := sTreeOf_any (nn : Int) ts x.b j a1 c1 hln u (HTs.out.up (HGa.out.up hu))
                            rw [treeO_yes HAll.out.fp] at this
                            exact this.mono fun e u' ⟨h1, h2⟩ => ⟨h1, hu.up h2⟩
                          obtain ⟨ta, hta⟩ : ∃ ta, trI ts x.a = ta := ⟨_, rfl⟩
                          obtain ⟨tb, htb⟩ : ∃ tb, trI ts x.b = tb := ⟨_, rfl⟩
                          rw [hta] at HTa
                          rw [htb] at HTb
                          by_cases hab : ta = tb
                          · have d3 : (ta != tb) = false := by simpa using hab
                            have HP3 := hideIt (HP2.out fun _ _ => by rw [hta, htb]; exact hab)
                            clear HP2 ht hlq hab hta htb HTr
                            go_wp2
                            go_region_held3 (fun u => ((u.cell? ⟨W1.heap.size, 0, none⟩ = some (.int .i64 (nn : Int)) ∧ u.cell? ⟨W1.heap.size, 1, none⟩ = some (.slice a1 j c1)) ∧ (u.cell? ⟨wr.heap.size, 0, none⟩ = some (.int .i64 x.a) ∧ u.cell? ⟨wr.heap.size, 1, none⟩ = some (.int .i64 x.b))) ∧ u.cell? ⟨wr.heap.size, 2, none⟩ = some (.int .i64 x.l) ∧ u.cell? ⟨wr.heap.size, 3, none⟩ = some (.bool false))
                              (first | exact HS.out _ g5 | exact HS.out _ g4 | exact hS0)
                              (first | (go_at_call 84; refine (HTa.out _ g0).mono ?_; clear HTa; rintro e w4 ⟨rfl, g4⟩) | (go_at_call 84; refine (HTb.out _ g4).mono ?_; rintro e w5 ⟨rfl, g5⟩))
                            go_wp2
                            exact ⟨⟨p + 1, by omega, by go_num, HP3, HGa.out.up g5⟩, by simp [intOf]; omega⟩
                          · have d3 : (ta != tb) = true := by simpa using hab
                            have HN := hideIt (wB_no (N := (nn : Int)) (ls := ls) fun hw => by
                              have h7 := hw.2.2 q hq5
                              rw [Int.toNat_natCast, LvOk_iff HTS.out] at h7
                              have := h7.2 x (List.mem_of_getElem? HX.out) ht hlq
                              rw [hta, htb] at this
                              exact hab this)
                            clear HP2 ht hlq hab hta htb HTr
                            go_wp2
                            go_region_held3 (fun u => ((u.cell? ⟨W1.heap.size, 0, none⟩ = some (.int .i64 (nn : Int)) ∧ u.cell? ⟨W1.heap.size, 1, none⟩ = some (.slice a1 j c1)) ∧ (u.cell? ⟨wr.heap.size, 0, none⟩ = some (.int .i64 x.a) ∧ u.cell? ⟨wr.heap.size, 1, none⟩ = some (.int .i64 x.b))) ∧ u.cell? ⟨wr.heap.size, 2, none⟩ = some (.int .i64 x.l) ∧ u.cell? ⟨wr.heap.size, 3, none⟩ = some (.bool false))
                              (first | exact HS.out _ g5 | exact HS.out _ g4 | exact hS0)
                              (first | (go_at_call 84; refine (HTa.out _ g0).mono ?_; clear HTa; rintro e w4 ⟨rfl, g4⟩) | (go_at_call 84; refine (HTb.out _ g4).mono ?_; rintro e w5 ⟨rfl, g5⟩))
                            go_wp2
                            go_ret
                            exact ⟨by rw [HN.out]; rfl, hfa.up (HCW.out _ (HGa.out.up g5)).2⟩
                        · have d2 : (x.l == (q : Int)) = false := by simpa using hlq
                          have HP3 := hideIt (HP2.out fun _ h => absurd h hlq)
                          clear HP2 ht hlq HTr
                          go_wp2
                          go_quiet (fail)
                          go_wp2
                          exact ⟨⟨p + 1, by omega, by go_num, HP3, below_drewN HGa.out _⟩, by simp [intOf]; omega⟩
                    · obtain rfl : p = k := by omega
                      have HQ2 : Hid (∀ y, y < q + 1 → LvOk nn ls y) := fun y hy => by
                        by_cases e : y = q
                        · subst e
                          exact (LvOk_iff HTS.out).2 ⟨HA.out, fun x hx h1 h2 => by
                            obtain ⟨z, hz⟩ := List.mem_iff_getElem?.1 hx
                            exact HP.out z x (by have := (List.getElem?_eq_some_iff.1 hz).1; omega) hz h1 h2⟩
                        · exact HQ.out y (by omega)
                      have HMs2 : Hid (ms / 2 = nn / 2 ^ (q + 1)) := by show _ = _; rw [HMs.out, Nat.div_div_eq_div_mul, Nat.pow_succ]
                      clear HP hg
                      go_wp2
                      exact ⟨⟨q + 1, ms / 2, by omega, by omega, by go_num, by first | rfl | (congr 1; omega) | go_num, HMs2, HQ2, hgw⟩, by simp [intOf]; omega⟩
          · have d0 : decide ((q : Int) ≤ 4) = false := decide_eq_false (by omega)
            have HY := hideIt (wB_yes (N := (nn : Int)) (ls := ls) ⟨HG0.out, HLv.out, fun i hi => by rw [Int.toNat_natCast]; exact HQ.out i (by omega)⟩)
            clear HQ
            go_wp2
            go_ret
            exact ⟨by rw [HY.out]; rfl, hfa.up hg⟩
end Go.Proofs.YtkkplppcgnikoaaGreat
namespace Go.Proofs.YtkkplppcgnikoaaGreat
open Go.RowKit

theorem ft_lnS {es : List EdgeV} {nn : Nat} {ts : List (List Int)} (h : FtAll es nn ts) : ts.length + lnS ts ≤ 1048576 := by
  have h1 : ts.length ≤ 12 := h.fp.2.2.1
  have h2 : ∀ l : List (List Int), (∀ t ∈ l, t.length ≤ 23) → lnS l ≤ 23 * l.length := fun l => by
    induction l with
    | nil => intro _; simp [lnS]
    | cons t l ih =>
      intro hl
      have a := hl t (by simp)
      have b := ih fun s hs => hl s (by simp [hs])
      simp only [lnS, List.map_cons, List.sum_cons, List.length_cons] at b ⊢
      omega
  have := h2 ts fun t ht => (tB_len (h.fp.q.1 t ht).1).2
  omega
theorem ft_rng {es : List EdgeV} {nn : Nat} {ts : List (List Int)} (h : FtAll es nn ts) : ∀ t ∈ ts, 0 < t.length ∧ t.length ≤ 23 ∧ ∀ x ∈ t, 0 ≤ x ∧ x < (nn : Int) := fun t ht => by
  have h1 := h.fp.q.1 t ht
  have h2 := tB_len h1.1
  refine ⟨by omega, h2.2, fun x hx => ⟨?_, h1.2 x hx⟩⟩
  have := ((tB_iff t).1 h1.1).1 x hx
  unfold vB at this
  have := of_decide_eq_true this
  omega
set_option maxRecDepth 100000 in
set_option maxHeartbeats 4000000 in
theorem groundOf_yes (nn : Nat) (ls : List Ld) (n : Nat) (a : Option Addr) (c : Nat) (hn : n ≤ 1048576) (hW : WOk (nn : Int) ls) (ts : List (List Int)) (hts : ftK (fE ls 0) nn nn = some ts) (w : World) (h : Ls w w.heap.size a n ls) :
    Calls Tryz.prog 75 #[.agg #[.int .i64 (nn : Int), .slice a n c]] w fun e w' => ∃ a' m c', e = .returned (.agg #[.int .i64 (nn : Int), .slice a' m c']) ∧ Ts w' w'.heap.size a' m ts ∧ Below w.heap.size w w' := by
  have HO := iWebOk_any (nn : Int) ls n a c hn _ (h.up (wf2_good w (nn : Int) a n c))
  rw [wB_yes hW] at HO
  have HO := hideIt HO
  have HF : Hid (∀ u, Good (wf2 w (nn : Int) a n c) u → Calls Tryz.prog 163 #[.agg #[.int .i64 (nn : Int), .slice a n c], .int .i64 0] u (FAn9 u (nn : Int) (some ts))) := fun u hu => iForestAt_yes nn ls 0 n a c hW.1 (fun x hx => (hW.2.1 x hx).1) hW.bridge (by omega) ts hts u ((h.up (wf2_good w (nn : Int) a n c)).up hu)
  clear h hW hts
  go_enter Tryz.func75, Tryz.ntmps75
  go_wp2_with (go_at_call 18; refine HO.out.mono ?_; rintro e w1 ⟨rfl, hb1⟩; refine Hid.out ?_)
  refine (show ∀ {p : Prop}, p → Hid p from fun h => h) ?_
  have G1 : Good (wf2 w (nn : Int) a n c) w1 := hb1
  rw [wf2_size] at hb1
  obtain ⟨⟨cw0, cw1⟩, _⟩ := wf2_cells hb1
  have z1 := hb1.size
  rw [wf2_size] at z1
  have HF1 := hideIt (HF.out w1 G1)
  clear HO hb1 HF
  go_wp2_with (go_at_call 163; refine HF1.out.mono ?_; rintro e w2 ⟨a2, m2, c2, R2, rfl, hF2, hR2, hb2⟩; refine Hid.out ?_)
  refine (show ∀ {p : Prop}, p → Hid p from fun h => h) ?_
  simp only [Option.getD_some] at hR2
  have G2 := G1.up hb2
  have G2b : Below (w.heap.size + 2) (wf2 w (nn : Int) a n c) w2 := by have := G2; unfold Good at this; rwa [wf2_size] at this
  obtain ⟨_, bx⟩ := wf2_cells G2b
  have r0 := bx.cell0
  have r1 := bx.cell1
  have q0 := bx.frozen 0
  have q1 := bx.frozen 1
  have hlt := bx.lt
  have HG : Hid (Good w w2) := (wf2_good w (nn : Int) a n c).up G2
  have HTf : Hid (∀ v0 v1 o, Ts (((w2.setCell ⟨w.heap.size + 1, 0, none⟩ v0).setCell ⟨w.heap.size + 1, 1, none⟩ v1).alloc o) (((w2.setCell ⟨w.heap.size + 1, 0, none⟩ v0).setCell ⟨w.heap.size + 1, 1, none⟩ v1).alloc o).heap.size a2 m2 ts) := fun v0 v1 o => by
    have h1 := (hF2.setLow (x := w.heap.size + 1) (by omega) 0 v0).setLow (x := w.heap.size + 1) (by omega) 1 v1
    have h2 := h1.ts.up ((Below.refl _ _).alloc (Nat.le_refl _) o)
    rw [hR2] at h2
    exact h2
  have s2 := (bx.set2 (.int .i64 (nn : Int)) (.slice a2 m2 c2)).alloc (.cells #[.int .i64 (nn : Int), .slice a2 m2 c2] 127)
  have s0 := s2.cell0
  have s1 := s2.cell1
  clear hF2 hR2 G1 G2 G2b bx HF1 cw0 cw1 hb2 s2
  go_wp2
  refine bodyPost_ret (v := .agg #[.int .i64 (nn : Int), .slice a2 m2 c2]) (by simp [results, Tryz.results75, go_sem, s0, s1]) rfl ⟨a2, m2, c2, rfl, HTf.out _ _ _, ?_⟩
  exact (((HG.out.setCell (p := ⟨w.heap.size + 1, 0, none⟩) (by show _ ≤ w.heap.size + 1; omega) _).setCell (p := ⟨w.heap.size + 1, 1, none⟩) (by show _ ≤ w.heap.size + 1; omega) _)).alloc (by simp [World.setCell]; omega) _
set_option maxRecDepth 100000 in
set_option maxHeartbeats 4000000 in
theorem groundOf_no (N : Int) (ls : List Ld) (n : Nat) (a : Option Addr) (c : Nat) (hn : n ≤ 1048576) (hW : ¬ WOk N ls) (w : World) (h : Ls w w.heap.size a n ls) :
    Calls Tryz.prog 75 #[.agg #[.int .i64 N, .slice a n c]] w fun e w' => e = .returned (.agg #[.int .i64 0, .slice none 0 0]) ∧ Below w.heap.size w w' := by
  have HO := iWebOk_any N ls n a c hn _ (h.up (wf2_good w N a n c))
  rw [wB_no hW] at HO
  have HO := hideIt HO
  clear h hW
  go_enter Tryz.func75, Tryz.ntmps75
  go_wp2_with (go_at_call 18; refine HO.out.mono ?_; rintro e w1 ⟨rfl, hb1⟩; refine Hid.out ?_)
  refine (show ∀ {p : Prop}, p → Hid p from fun h => h) ?_
  have HG : Hid (Good w w1) := (wf2_good w N a n c).up hb1
  rw [wf2_size] at hb1
  obtain ⟨_, bx⟩ := wf2_cells hb1
  have r0 := bx.cell0
  have r1 := bx.cell1
  have q0 := bx.frozen 0
  have q1 := bx.frozen 1
  have s2 := bx.set2 (.int .i64 0) (.slice none 0 0)
  have s0 := s2.cell0
  have s1 := s2.cell1
  clear HO hb1 s2 bx
  go_wp2
  refine bodyPost_ret (v := .agg #[.int .i64 0, .slice none 0 0]) (by simp [results, Tryz.results75, go_sem, s0, s1]) rfl ⟨rfl, ?_⟩
  exact (HG.out.setCell (p := ⟨w.heap.size + 1, 0, none⟩) (by show _ ≤ w.heap.size + 1; omega) _).setCell (p := ⟨w.heap.size + 1, 1, none⟩) (by show _ ≤ w.heap.size + 1; omega) _
set_option maxRecDepth 100000 in
set_option maxHeartbeats 4000000 in
theorem iWebLabels_any (N : Int) (ls : List Ld) (n : Nat) (a : Option Addr) (c : Nat) (hn : n ≤ 1048576) (w : World) (h : Ls w w.heap.size a n ls) :
    Calls Tryz.prog 21 #[.agg #[.int .i64 N, .slice a n c]] w (IAns w (lbO N ls)) := by
  have hfa : Good w (wW w N a n c) := wW_good w N a n c
  by_cases hW : WOk N ls
  · obtain ⟨nn, rfl, hn1, hn12⟩ := gB_n hW.1
    obtain ⟨ts, hts, hall⟩ := hW.trees 0 (by omega)
    have hts : ftK (fE ls 0) nn nn = some ts := hts
    have HG := hideIt (groundOf_yes nn ls n a c hn hW ts hts _ (h.up hfa))
    have HR : Hid (∀ (a' : Option Addr) (m c' : Nat) (u : World), Ts u u.heap.size a' m ts → Calls Tryz.prog 85 #[.agg #[.int .i64 (nn : Int), .slice a' m c']] u fun e w' => ∃ g, e = .returned (.slice (some ⟨g, 0, none⟩) nn nn) ∧ w'.ownsRow u.heap.size 3 1 (.slice (some ⟨g, 0, none⟩) nn nn) nn (ic (labW ts nn)) ∧ Below u.heap.size u w') := fun a' m c' u hu => by
      refine (rootsOf_any nn ts m a' c' hn12 (by have := hu.1; have := hall.fp.2.2.1; omega) (ft_rng hall) hall.fp.q.2.1 u hu).mono fun e v ⟨g, L, h1, h2, h3, h4⟩ => ⟨g, h1, ?_, h4⟩
      rw [← labW_of hall (by have := h2.1; rw [ic_len] at this; omega) h3]
      exact h2
    have HL := hideIt (lbO_yes hW hts)
    clear h hW hts hall
    go_enter Tryz.func21, Tryz.ntmps21
    go_wp2_with (first | (go_at_call 75; refine HG.out.mono ?_; rintro e w1 ⟨a1, m1, c1, rfl, hT1, hb1⟩; have HR1 := HR.out a1 m1 c1 w1 hT1; clear hT1) | (go_at_call 85; refine HR1.mono ?_; rintro e w2 ⟨g2, rfl, ho2, hb2⟩))
    go_ret
    exact ⟨_, _, _, rfl, by rw [HL.out]; exact own_mono ho2 (by have := (hfa.up hb1).size; omega), (hfa.up hb1).up hb2⟩
  · have HG := hideIt (groundOf_no N ls n a c hn hW _ (h.up hfa))
    have HR : Hid (∀ (u : World), Calls Tryz.prog 85 #[.agg #[.int .i64 0, .slice none 0 0]] u fun e w' => ∃ g, e = .returned (.slice (some ⟨g, 0, none⟩) 0 0) ∧ w'.ownsRow u.heap.size 3 1 (.slice (some ⟨g, 0, none⟩) 0 0) 0 (ic []) ∧ Below u.heap.size u w') := fun u => by
      refine (rootsOf_any 0 [] 0 none 0 (by omega) (by omega) (by simp) List.Pairwise.nil u ⟨rfl, .inl rfl⟩).mono fun e v ⟨g, L, h1, h2, h3, h4⟩ => ⟨g, h1, ?_, h4⟩
      have : L = [] := by have := h2.1; rw [ic_len] at this; exact List.length_eq_zero_iff.1 (by omega)
      rw [← this]
      exact h2
    have HL := hideIt (lbO_no hW)
    clear h hW
    go_enter Tryz.func21, Tryz.ntmps21
    go_wp2_with (first | (go_at_call 75; refine HG.out.mono ?_; rintro e w1 ⟨rfl, hb1⟩) | (go_at_call 85; refine (HR.out _).mono ?_; rintro e w2 ⟨g2, rfl, ho2, hb2⟩))
    go_ret
    exact ⟨_, _, _, rfl, by rw [HL.out]; exact own_mono ho2 (by have := (hfa.up hb1).size; omega), (hfa.up hb1).up hb2⟩
set_option maxRecDepth 100000 in
set_option maxHeartbeats 4000000 in
theorem iWebTogether_any (N : Int) (ls : List Ld) (x y : Int) (n : Nat) (a : Option Addr) (c : Nat) (hn : n ≤ 1048576) (w : World) (h : Ls w w.heap.size a n ls) :
    Calls Tryz.prog 24 #[.agg #[.int .i64 N, .slice a n c], .int .i64 x, .int .i64 y] w fun e w' => e = .returned (.bool (tgB N ls x y)) ∧ Below w.heap.size w w' := by
  have hfa : Good w (wW w N a n c) := wW_good w N a n c
  by_cases hW : WOk N ls
  · obtain ⟨nn, rfl, hn1, hn12⟩ := gB_n hW.1
    obtain ⟨ts, hts, hall⟩ := hW.trees 0 (by omega)
    have hts : ftK (fE ls 0) nn nn = some ts := hts
    have HG := hideIt (groundOf_yes nn ls n a c hn hW ts hts _ (h.up hfa))
    have HR : Hid (∀ (v : Int) (a' : Option Addr) (m c' : Nat) (u : World), Ts u u.heap.size a' m ts → Calls Tryz.prog 76 #[.agg #[.int .i64 (nn : Int), .slice a' m c'], .int .i64 v] u fun e w' => e = .returned (.int .i64 (trI ts v)) ∧ Below u.heap.size u w') := fun v a' m c' u hu => by
      have := iTreeOf_any (nn : Int) ts v m a' c' (by have := hu.1; have := ft_lnS hall; omega) u hu
      rw [treeO_yes hall.fp] at this
      exact this
    have hvert : ∀ v : Int, 0 ≤ trI ts v ↔ 0 ≤ v ∧ v < (nn : Int) := fun v => by
      rw [← ft_in]
      constructor
      · intro hv
        obtain ⟨t, ht, hvt⟩ := List.mem_flatten.1 hv
        exact (ft_rng hall t ht).2.2 v hvt
      · rintro ⟨h0, h1⟩
        obtain ⟨t, ht, hvt⟩ := hall.cov v h0 h1
        exact List.mem_flatten.2 ⟨t, ht, hvt⟩
    have HB : Hid (∀ b : Bool, (b = true ↔ 0 ≤ trI ts x ∧ trI ts x = trI ts y) → b = tgB (nn : Int) ls x y) := fun b hb => tgB_is (by
      rw [hb, gndT_is hts]
      constructor
      · rintro ⟨h1, h2⟩
        exact ⟨hW, (hvert x).1 h1, (hvert y).1 (by omega), h2⟩
      · rintro ⟨_, h1, _, h2⟩
        exact ⟨(hvert x).2 h1, h2⟩)
    have hm1 : ∀ v, -1 ≤ trI ts v := fun v => by
      rcases trI_cases ts v with ⟨k, t, _, _, e⟩ | ⟨_, e⟩ <;> omega
    obtain ⟨p, hp⟩ : ∃ p, trI ts x = p := ⟨_, rfl⟩
    obtain ⟨q, hq⟩ : ∃ q, trI ts y = q := ⟨_, rfl⟩
    have HRx : Hid (∀ (a' : Option Addr) (m c' : Nat) (u : World), Ts u u.heap.size a' m ts → Calls Tryz.prog 76 #[.agg #[.int .i64 (nn : Int), .slice a' m c'], .int .i64 x] u fun e w' => e = .returned (.int .i64 p) ∧ Below u.heap.size u w') := by rw [← hp]; exact HR.out x
    have HRy : Hid (∀ (a' : Option Addr) (m c' : Nat) (u : World), Ts u u.heap.size a' m ts → Calls Tryz.prog 76 #[.agg #[.int .i64 (nn : Int), .slice a' m c'], .int .i64 y] u fun e w' => e = .returned (.int .i64 q) ∧ Below u.heap.size u w') := by rw [← hq]; exact HR.out y
    rw [hp, hq] at HB
    clear h hW hts hall hvert hm1 HR hp hq
    go_enter Tryz.func24, Tryz.ntmps24
    go_wp2_with (go_at_call 75; refine HG.out.mono ?_; rintro e w1 ⟨a1, m1, c1, rfl, hT1, hb1⟩; refine Hid.out ?_)
    refine (show ∀ {p : Prop}, p → Hid p from fun h => h) ?_
    have hba : Below w1.heap.size w1 (w1.alloc (.cells #[.int .i64 (nn : Int), .slice a1 m1 c1] 127)) := (Below.refl _ _).alloc (Nat.le_refl _) _
    have HX := hideIt (HRx.out a1 m1 c1 _ (hT1.up hba))
    have HT1 := hideIt (hT1.up hba)
    have HG1 := hideIt ((hfa.up hb1).up hba)
    clear hT1 hb1 hba HRx HG
    go_wp2_with (go_at_call 76; refine HX.out.mono ?_; rintro e w2 ⟨rfl, hb2⟩; refine Hid.out ?_)
    refine (show ∀ {p : Prop}, p → Hid p from fun h => h) ?_
    have c0 : w2.cell? ⟨w1.heap.size, 0, none⟩ = some (.int .i64 (nn : Int)) := by rw [hb2.cell (by simp)]; simp
    have c1' : w2.cell? ⟨w1.heap.size, 1, none⟩ = some (.slice a1 m1 c1) := by rw [hb2.cell (by simp)]; simp
    have HY := hideIt (HRy.out a1 m1 c1 w2 (HT1.out.up hb2))
    have HG2 := hideIt (HG1.out.up hb2)
    clear HX HT1 HG1 HRy hb2
    by_cases h0 : 0 ≤ p
    · have d0 : decide (0 ≤ p) = true := decide_eq_true h0
      by_cases hpq : p = q
      · have HBt := hideIt (HB.out true ⟨fun _ => ⟨h0, hpq⟩, fun _ => rfl⟩)
        have d1 : (p == q) = true := by simpa using hpq
        have HPQ := hideIt hpq
        clear HB hpq
        go_wp2_with (go_at_call 76; refine HY.out.mono ?_; rintro e w3 ⟨rfl, hb3⟩)
        go_ret
        exact ⟨by rw [← HBt.out]; rfl, HG2.out.up hb3⟩
      · have HBt := hideIt (HB.out false ⟨fun h => (by cases h), fun h => absurd h.2 hpq⟩)
        have d1 : (p == q) = false := by simpa using hpq
        clear HB hpq
        go_wp2_with (go_at_call 76; refine HY.out.mono ?_; rintro e w3 ⟨rfl, hb3⟩)
        go_ret
        exact ⟨by rw [← HBt.out]; rfl, HG2.out.up hb3⟩
    · have d0 : decide (0 ≤ p) = false := decide_eq_false h0
      have HBt := hideIt (HB.out false ⟨fun h => (by cases h), fun h => absurd h.1 h0⟩)
      clear HB
      go_wp2
      go_ret
      exact ⟨by rw [← HBt.out]; rfl, HG2.out⟩
  · have HG := hideIt (groundOf_no N ls n a c hn hW _ (h.up hfa))
    have HR : Hid (∀ (u : World), Calls Tryz.prog 76 #[.agg #[.int .i64 0, .slice none 0 0], .int .i64 x] u fun e w' => e = .returned (.int .i64 (-1)) ∧ Below u.heap.size u w') := fun u => by
      have := iTreeOf_any 0 [] x 0 none 0 (by simp [lnS]) u ⟨rfl, .inl rfl⟩
      rw [treeO_no (fun h => by have := h.1; omega)] at this
      exact this
    have HBt := hideIt (tgB_is (N := N) (ls := ls) (x := x) (y := y) (b := false) ⟨fun h => (by cases h), fun h => absurd h.1 hW⟩)
    clear h hW
    go_enter Tryz.func24, Tryz.ntmps24
    go_wp2_with (first | (go_at_call 75; refine HG.out.mono ?_; rintro e w1 ⟨rfl, hb1⟩) | (go_at_call 76; refine (HR.out _).mono ?_; rintro e w2 ⟨rfl, hb2⟩))
    go_ret
    exact ⟨by rw [← HBt.out]; rfl, ((hfa.up hb1).alloc _).up hb2⟩
end Go.Proofs.YtkkplppcgnikoaaGreat
namespace Go.Proofs.YtkkplppcgnikoaaGreat
open Go.RowKit

set_option maxRecDepth 100000 in
set_option maxHeartbeats 8000000 in
theorem sWebAdd_any (N : Int) (ls : List Ld) (f : EdgeV) (n : Nat) (a : Option Addr) (c : Nat) (hn : n ≤ 1048576) (w : World) (h : Ls w w.heap.size a n ls) :
    Calls Tryz.prog 97 #[.agg #[.int .i64 N, .slice a n c], .agg #[.int .i64 f.1, .int .i64 f.2]] w fun e w' => WAns w N (waO N ls f) e w' := by
  have hA : Hid (∀ u, In3w w N a n c f u → Ls u u.heap.size a n ls) := fun u hu => h.up hu.below
  have HGr : Hid (∀ u, In3w w N a n c f u → Calls Tryz.prog 26 #[.agg #[.int .i64 N, .slice a n c]] u fun e v => ∃ ag cg, e = .returned (.agg #[.int .i64 N, .slice ag n cg]) ∧ Hid (Es v v.heap.size ag n (gE ls)) ∧ In3w w N a n c f v ∧ Below u.heap.size u v) := fun u hu =>
    (sGraphOf_any N ls n a c hn u (hA.out u hu)).mono fun _ _ ⟨ag, cg, he, ho, hb⟩ => ⟨ag, cg, he, Es_of_own ho, hu.up hb, hb⟩
  have HAd : Hid (∀ ag cg u, In3w w N a n c f u → Hid (Es u u.heap.size ag n (gE ls)) → Calls Tryz.prog 17 #[.agg #[.int .i64 N, .slice ag n cg], .agg #[.int .i64 f.1, .int .i64 f.2]] u fun e v => ∃ a1 m1 c1, e = .returned (.tuple #[.agg #[.int .i64 (if (addE N (gE ls) f).isSome then N else 0), .slice a1 m1 c1], .bool (addE N (gE ls) f).isSome]) ∧ Hid (v.ownsRow u.heap.size 28 2 (.slice a1 m1 c1) m1 (ecells ((addE N (gE ls) f).getD []))) ∧ In3w w N a n c f v ∧ Below u.heap.size u v) := fun ag cg u hu he =>
    (sAddEdge_any N (gE ls) f n ag cg hn u he.out).mono fun _ _ ⟨a1, m1, c1, h1, h2, h3⟩ => ⟨a1, m1, c1, h1, h2, hu.up h3, h3⟩
  have S1 := In3w.start w N a n c f
  have HK : Hid (∀ u, In3w w N a n c f u → ((u.cell? ⟨w.heap.size, 0, none⟩ = some (.int .i64 N) ∧ u.cell? ⟨w.heap.size, 1, none⟩ = some (.slice a n c)) ∧ (u.cell? ⟨w.heap.size + 1, 0, none⟩ = some (.int .i64 f.1) ∧ u.cell? ⟨w.heap.size + 1, 1, none⟩ = some (.int .i64 f.2))) ∧ In3w w N a n c f u) := fun u hu => ⟨hu.cells, hu⟩
  obtain ⟨O, hO⟩ : ∃ O, addE N (gE ls) f = O := ⟨_, rfl⟩
  rw [hO] at HAd
  have HO := hideIt hO
  have Hls := hideIt h
  clear h hO
  generalize hfl : O.isSome = fl at *
  generalize hM : (if fl = true then N else 0) = M at *
  generalize hgs : O.getD [] = gs at *
  go_enter Tryz.func97, Tryz.ntmps97
  go_upto_region 1 with fail
  obtain ⟨W, hW⟩ : ∃ W, W = w3w w N a n c f := ⟨_, rfl⟩
  have hW' : (((w.alloc (.cells #[.int .i64 N, .slice a n c] 26)).alloc (.cells #[.int .i64 f.1, .int .i64 f.2] 28)).alloc (.cells #[.int .i64 0, .slice none 0 0] 26)) = W := hW.symm
  rw [hW']
  rw [← hW] at S1
  clear hW hW'
  have zW := S1.size
  go_cut [6, 7] (fun p ok wx => ∃ b a1 m1 c1, p = .pointer (some ⟨b, 0, none⟩) ∧ ok = .bool fl ∧ In3w w N a n c f wx ∧ Hid (EB wx (w.heap.size + 3) b M a1 m1 c1 gs))
  case first =>
    have hS1 := HK.out _ S1.drew
    clear hA Hls HO
    go_region_held3 (fun u => ((u.cell? ⟨w.heap.size, 0, none⟩ = some (.int .i64 N) ∧ u.cell? ⟨w.heap.size, 1, none⟩ = some (.slice a n c)) ∧ (u.cell? ⟨w.heap.size + 1, 0, none⟩ = some (.int .i64 f.1) ∧ u.cell? ⟨w.heap.size + 1, 1, none⟩ = some (.int .i64 f.2))) ∧ In3w w N a n c f u)
      (first | assumption | exact HK.out _ (InW.alloc (And.right (by assumption)) _) | exact HK.out _ (InW.set (InW.set (And.right (by assumption)) _ _ _ (by omega)) _ _ _ (by omega)))
      (first
        | (go_at_call 26; refine (HGr.out _ (And.right (by assumption))).mono ?_; rintro e w3 ⟨ag, cg, rfl, ho3, hg3, hb3⟩; have hS3 := HK.out _ hg3; have z3 := hg3.size; (first | have bx := Box7.up (Box7.new W.drew 33 (.int .i64 0) (.slice none 0 0) W.heap.size rfl) hb3 | skip))
        | (go_at_call 17; refine (HAd.out _ _ _ (And.right (by assumption)) (by first | exact ho3 | exact hideIt (Es.up (Hid.out ho3) ((Below.refl _ _).alloc (Nat.le_refl _) _)))).mono ?_; rintro e w4 ⟨a1, m1, c1, rfl, ho4, hg4, hb4⟩; have hS4 := HK.out _ hg4; have z4 := hg4.size; (first | have bx := Box7.up bx hb4 | have bx := Box7.up (Box7.new w3 33 (.int .i64 0) (.slice none 0 0) w3.heap.size rfl) hb4 | skip); (try (have bc0 := bx.cell0; have bc1 := bx.cell1; have bz0 := bx.frozen 0; have bz1 := bx.frozen 1))))
    all_goals
      go_wp2_with fail
      go_meet
      first
        | exact ⟨_, a1, m1, c1, rfl, rfl, InW.set (InW.set hg4 _ _ _ (by omega)) _ _ _ (by omega), EB.stored bx (by omega) ho4.out⟩
        | exact ⟨_, a1, m1, c1, rfl, rfl, InW.alloc hg4 _, EB.laid (by omega) ho4.out⟩
  case rest =>
    obtain ⟨b, a1, m1, c1, rfl, rfl, S2, hE2⟩ := hcut
    obtain ⟨⟨⟨k0, k1⟩, k2, k3⟩, _⟩ := HK.out _ S2
    have s2 := S2.size
    by_cases hW : WOk N ls
    · obtain ⟨nn, rfl, hn1, hn12⟩ := gB_n hW.1
      obtain ⟨ts, hts, hall⟩ := hW.trees 0 (by omega)
      have hts : ftK (fE ls 0) nn nn = some ts := hts
      have HG0 := sWebOk_any (nn : Int) ls n a c hn _ (hA.out _ S2)
      rw [wB_yes hW] at HG0
      have HG := hideIt HG0
      clear HG0
      by_cases hy : eB (nn : Int) f = true ∧ hasB (gE ls) f = false
      · have hO2 : O = some (putE (gE ls) f) := by rw [← HO.out]; exact addE_yes hW hy.1 hy.2
        subst hO2
        simp only [Option.isSome_some] at hfl
        subst hfl
        have HFo : Hid (∀ u, In3w w (nn : Int) a n c f u → Calls Tryz.prog 82 #[.agg #[.int .i64 (nn : Int), .slice a n c], .int .i64 0] u fun e v => ∃ a' m c', e = .returned (.tuple #[.agg #[.int .i64 (nn : Int), .slice a' m c'], .bool true]) ∧ Ts v v.heap.size a' m ts ∧ Below u.heap.size u v) := fun u hu => by
          have := sForestAt_any nn ls 0 n a c hn1 hn12 hW.1 u (hA.out u hu)
          rw [hts] at this
          exact this.mono fun _ _ h => h.weak
        have HW := hideIt (waO_yes hW hy.1 hy.2)
        have hlen : ls.length = n := Hls.out.1
        have HR : Hid (∀ (v : Int) (a' : Option Addr) (m c' : Nat) (u : World), Ts u u.heap.size a' m ts → Calls Tryz.prog 84 #[.agg #[.int .i64 (nn : Int), .slice a' m c'], .int .i64 v] u fun e w' => e = .returned (.int .i64 (trI ts v)) ∧ Below u.heap.size u w') := fun v a' m c' u hu => by
          have := sTreeOf_any (nn : Int) ts v m a' c' (by have := hu.1; have := ft_lnS hall; omega) u hu
          rw [treeO_yes hall.fp] at this
          exact this
        have hcm : cmL (nn : Int) ls f = ⟨f.1, f.2, 0, trI ts f.1 != trI ts f.2⟩ := by
          unfold cmL
          rw [gndT_is hts]
          by_cases e : trI ts f.1 = trI ts f.2 <;> simp [e]
        rw [hcm] at HW
        obtain ⟨Tf, hTf⟩ : ∃ Tf, trI ts = Tf := ⟨_, rfl⟩
        rw [hTf] at HW HR
        clear hcm hy hall hts hTf HGr HAd HO hW
        have HPu := hideIt (fun u (hu : In3w w (nn : Int) a n c f u) tb => l08Put_any ls ⟨f.1, f.2, 0, tb⟩ n a c hn u (hA.out u hu))
        go_wp2_with (go_at_call 19; refine HG.out.mono ?_; rintro e w3 ⟨rfl, hb3⟩; refine Hid.out ?_)
        refine (show ∀ {p : Prop}, p → Hid p from fun h => h) ?_
        have S3 := S2.up hb3
        obtain ⟨⟨⟨x0, x1⟩, x2, x3⟩, _⟩ := HK.out _ S3
        have HF3 := hideIt (HFo.out _ S3)
        clear k0 k1 k2 k3 hb3 HG HFo hE2
        go_wp2_with (go_at_call 82; refine HF3.out.mono ?_; rintro e w4 ⟨a3, m3, c3, rfl, hT4, hb4⟩; refine Hid.out ?_)
        refine (show ∀ {p : Prop}, p → Hid p from fun h => h) ?_
        obtain ⟨w5, hw5⟩ : ∃ w5, w5 = w4.alloc (.cells #[.int .i64 (nn : Int), .slice a3 m3 c3] 127) := ⟨_, rfl⟩
        have hba : Below w4.heap.size w4 w5 := by rw [hw5]; exact (Below.refl _ _).alloc (Nat.le_refl _) _
        have S5 := (S3.up hb4).up hba
        have HT5 := hideIt (hT4.up hba)
        have bx5 : Box7 w5 w4.heap.size 127 (.int .i64 (nn : Int)) (.slice a3 m3 c3) := by rw [hw5]; exact Box7.new w4 _ _ _ _ rfl
        have HC5 : Hid (∀ u, Good w5 u → ((u.cell? ⟨w4.heap.size, 0, none⟩ = some (.int .i64 (nn : Int)) ∧ u.cell? ⟨w4.heap.size, 1, none⟩ = some (.slice a3 m3 c3)) ∧ (u.cell? ⟨w.heap.size + 1, 0, none⟩ = some (.int .i64 f.1) ∧ u.cell? ⟨w.heap.size + 1, 1, none⟩ = some (.int .i64 f.2))) ∧ Good w5 u) := fun u hu => ⟨⟨⟨(bx5.up hu).cell0, (bx5.up hu).cell1⟩, (S5.up hu).cells.2⟩, hu⟩
        have HP5 : Hid (∀ v u, Good w5 u → Calls Tryz.prog 84 #[.agg #[.int .i64 (nn : Int), .slice a3 m3 c3], .int .i64 v] u fun e v' => e = .returned (.int .i64 (Tf v)) ∧ Good w5 v' ∧ Below u.heap.size u v') := fun v u hu => (HR.out v a3 m3 c3 u (HT5.out.up hu)).mono fun _ _ ⟨he, hb⟩ => ⟨he, hu.up hb, hb⟩
        have s5 := S5.size
        clear x0 x1 x2 x3 HF3 hb4 HR HT5 bx5 hT4 S3 hba
        go_upto_region 5 with fail
        rw [← hw5]
        clear hw5
        go_cut [10] (fun p wx => ∃ b3, p = .pointer (some ⟨b3, 0, none⟩) ∧ w.heap.size + 3 ≤ b3 ∧ In3w w (nn : Int) a n c f wx ∧ Hid (Box4 wx b3 ⟨f.1, f.2, 0, Tf f.1 != Tf f.2⟩))
        case first =>
          have hS5 := HC5.out _ (Good.refl w5).drew
          clear hA Hls HW HPu
          go_region_held3 (fun u => ((u.cell? ⟨w4.heap.size, 0, none⟩ = some (.int .i64 (nn : Int)) ∧ u.cell? ⟨w4.heap.size, 1, none⟩ = some (.slice a3 m3 c3)) ∧ (u.cell? ⟨w.heap.size + 1, 0, none⟩ = some (.int .i64 f.1) ∧ u.cell? ⟨w.heap.size + 1, 1, none⟩ = some (.int .i64 f.2))) ∧ Good w5 u)
            (first | with_reducible assumption | with_reducible exact HC5.out _ (Good.alloc (And.right (by assumption)) _) | with_reducible exact HC5.out _ (Good.set4 (And.right (by assumption)) _ _ _ _ _ (by omega)))
            ((go_at_call 84; refine (HP5.out _ _ (And.right (by assumption))).mono ?_; rintro e w6 ⟨rfl, hg6, hb6⟩; have hS6 := HC5.out _ hg6; have z6 := hg6.size; (first | with_reducible have bx := Box4.up bx hb6 | with_reducible have bx := Box4.up (Box4.new0 _) hb6 | with_reducible have bx := Box4.up (Box4.new0d _) hb6 | skip); (try (obtain ⟨bc0, bc1, bc2, bc3⟩ := bx.cells; have bz0 := bx.frozen 0; have bz1 := bx.frozen 1; have bz2 := bx.frozen 2; have bz3 := bx.frozen 3))))
          all_goals
            go_wp2_with fail
            go_meet
            first
              | (have hbx := bx; exact ⟨_, rfl, by omega, S5.up (Good.set4 hg6 _ _ _ _ _ (by omega)), bx.set4 ⟨f.1, f.2, 0, Tf f.1 != Tf f.2⟩⟩)
              | exact ⟨_, rfl, by omega, S5.up (Good.alloc hg6 _), Box4.new w6 ⟨f.1, f.2, 0, Tf f.1 != Tf f.2⟩ _ rfl⟩
        case rest =>
          obtain ⟨b3, rfl, hb3, S7, hx7⟩ := hcut
          have S7d := S7.drew
          have X7d : Box4 wc.drew b3 ⟨f.1, f.2, 0, Tf f.1 != Tf f.2⟩ := hx7.out
          have HP7 := hideIt (HPu.out _ S7d (Tf f.1 != Tf f.2))
          generalize (Tf f.1 != Tf f.2) = tb at *
          have s7 := S7.size
          clear HP5 HC5 s5 S5 S2 s2 S1 zW HK Hls HPu
          go_upto_region 6 with fail
          go_region_held3 (fun u => (u.cell? ⟨w.heap.size, 0, none⟩ = some (.int .i64 (nn : Int)) ∧ u.cell? ⟨w.heap.size, 1, none⟩ = some (.slice a n c)) ∧ u.cell? ⟨b3, 0, none⟩ = some (.int .i64 f.1) ∧ u.cell? ⟨b3, 1, none⟩ = some (.int .i64 f.2) ∧ u.cell? ⟨b3, 2, none⟩ = some (.int .i64 0) ∧ u.cell? ⟨b3, 3, none⟩ = some (.bool tb))
            (first | with_reducible assumption | exact heldWset S8 X8 hb3 _ _ | exact heldW S8 X8 | exact heldW S7d X7d)
            ((go_at_call 186; refine HP7.out.mono ?_; rintro e w8 ⟨a', m', c', rfl, hown8, hb8⟩; have S8 := S7d.up hb8; have X8 := X7d.up hb8; obtain ⟨⟨r0, r1⟩, r2, r3⟩ := S8.out))
          all_goals
            have hown9 : w8.ownsRow wc.heap.size 52 4 (.slice a' m' c') m' (lcells (putL ls ⟨f.1, f.2, 0, tb⟩)) := hown8
            go_wp2
            exact bodyPost_ret (v := .tuple #[.agg #[.int .i64 (nn : Int), .slice a' m' c'], .bool true]) (by simp [results, Tryz.results97, go_sem, r0, r1]) rfl (wans_yes S8 HW.out (by omega) hown9)
      · have HW := hideIt (waO_no (N := (nn : Int)) (ls := ls) (f := f) (fun h => hy h.2))
        have hO2 : O = none := by rw [← HO.out]; exact addE_no hW HW.out
        subst hO2
        simp only [Option.isSome_none] at hfl
        subst hfl
        clear hW hts hall hy HGr HAd hA HO Hls hE2
        go_wp2_with (go_at_call 19; refine HG.out.mono ?_; rintro e w3 ⟨rfl, hb3⟩; refine Hid.out ?_)
        refine (show ∀ {p : Prop}, p → Hid p from fun h => h) ?_
        have S3 := S2.up hb3
        obtain ⟨⟨r0, r1⟩, r2, r3⟩ := S3.out
        have s3 := S3.size
        have HA3 := hideIt (wans_no S3 HW.out)
        clear k0 k1 k2 k3 hb3 HG
        go_wp2
        exact bodyPost_ret (v := .tuple #[.agg #[.int .i64 0, .slice none 0 0], .bool false]) (by simp [results, Tryz.results97, go_sem, r0, r1]) rfl HA3.out
    · have HG0 := sWebOk_any N ls n a c hn _ (hA.out _ S2)
      rw [wB_no hW] at HG0
      have HG := hideIt HG0
      have HW := hideIt (waO_no (N := N) (ls := ls) (f := f) (fun h => hW h.1))
      clear HG0 hW HGr HAd hA HO Hls hE2
      go_wp2_with (go_at_call 19; refine HG.out.mono ?_; rintro e w3 ⟨rfl, hb3⟩; refine Hid.out ?_)
      refine (show ∀ {p : Prop}, p → Hid p from fun h => h) ?_
      have S3 := S2.up hb3
      obtain ⟨⟨r0, r1⟩, r2, r3⟩ := S3.out
      have s3 := S3.size
      have HA3 := hideIt (wans_no S3 HW.out)
      clear k0 k1 k2 k3 hb3 HG
      go_wp2
      exact bodyPost_ret (v := .tuple #[.agg #[.int .i64 0, .slice none 0 0], .bool false]) (by simp [results, Tryz.results97, go_sem, r0, r1]) rfl HA3.out
end Go.Proofs.YtkkplppcgnikoaaGreat
