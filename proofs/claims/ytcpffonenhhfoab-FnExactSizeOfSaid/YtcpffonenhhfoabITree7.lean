/- The program's placeTold, TreeOf and SizeOf. -/
import Derived.Test.YtcpffonenhhfoabIShare7
import Derived.Test.YtcpffonenhhfoabICom
import Derived.Test.YtcpffonenhhfoabTr7
namespace Go.Proofs.Ytcpffonenhhfoab
open Go.RowKit

theorem someIn_any (us vs : List Int) (n : Nat) (a : Option Addr) (c : Nat) (hn : n ≤ 3000000) (nb : Nat) (b : Option Addr) (cb : Nat) (hnb : nb ≤ 3000000) (w : World) (h : Is w w.heap.size a n us) (hb : Is w w.heap.size b nb vs) :
    Calls Try.prog 50 #[.slice b nb cb, .slice a n c] w fun e w' => e = .returned (.bool (comB us vs)) ∧ Below w.heap.size w w' := by
  have HC := hideIt (haveCommon_any us vs n a c hn nb b cb hnb w h hb)
  clear h hb
  go_enter Try.func50, Try.ntmps50
  go_wp2_with (go_at_call 73; refine HC.out.mono ?_; rintro e w1 ⟨rfl, hb1⟩)
  go_ret
  exact ⟨rfl, hb1⟩
theorem comB_one (t : List Int) (v : Int) : comB t [v] = decide (v ∈ t) := by
  unfold comB
  rw [Bool.eq_iff_iff]
  simp

set_option maxHeartbeats 1000000 in
theorem placeTold_any (ts : List (List Int)) (v : Int) (hm : ∀ t ∈ ts, t.length ≤ 3000000) (n : Nat) (a : Option Addr) (c : Nat) (hn : n ≤ 3000000) (b : Option Addr) (cb : Nat) (w : World) (h : Ts w w.heap.size a n ts) (hb : Is w w.heap.size b 1 [v]) :
    Calls Try.prog 49 #[.slice a n c, .func (.func 50) #[.slice b 1 cb] #[]] w fun e w' => e = .returned (.int .i64 (trI ts v)) ∧ Below w.heap.size w w' := by
  have hlen := h.1
  have HA := hideIt h
  have HB := hideIt hb
  clear h hb
  go_enter Try.func49, Try.ntmps49
  go_wp2
  go_loopw [8] (fun i wr => ∃ k : Nat, k ≤ n ∧ i = .int .i64 (k : Int) ∧ Hid (∀ j, j < k → trP ts v j = false) ∧ Good w wr) (fun i _ => n - (intOf i).toNat)
  case atStart => exact ⟨0, by omega, rfl, fun j hj => by omega, Good.refl _⟩
  case round =>
    obtain ⟨k, hk, rfl, HK, hg⟩ := hrel
    by_cases hlt : k < n
    · rcases (HA.out.up hg).2 with hz | ⟨bb, off, rfl, hbl, hc⟩
      · omega
      · obtain ⟨t, ht⟩ : ∃ t, ts[k]? = some t := ⟨ts[k]'(by omega), List.getElem?_eq_getElem (by omega)⟩
        obtain ⟨x, cx, e0, iI, _⟩ := hc k t ht
        have b1 : (0 : Int) ≤ (k : Int) := by omega
        have b2 : (k : Int) < (n : Int) := by omega
        have HC := hideIt (someIn_any t [v] t.length x cx (hm t (List.mem_of_getElem? ht)) 1 b cb (by omega) wr iI (HB.out.up hg))
        rw [comB_one, ← trP_at (v := v) ht] at HC
        have HG := hideIt hg
        cases hp : trP ts v k with
        | true =>
          rw [hp] at HC
          have HV : Hid (trI ts v = (k : Int)) := firstN_yes (by omega) hp HK.out
          clear hc ht iI hp HK
          go_wp2_with (go_at_call 50; refine HC.out.mono ?_; rintro e w1 ⟨rfl, hb1⟩)
          go_ret
          exact ⟨by rw [HV.out]; rfl, HG.out.up hb1⟩
        | false =>
          rw [hp] at HC
          have HK2 : Hid (∀ j, j < k + 1 → trP ts v j = false) := fun j hj => by
            by_cases h7 : j = k
            · rw [h7]; exact hp
            · exact HK.out j (by omega)
          clear hc ht iI hp HK
          go_wp2_with (go_at_call 50; refine HC.out.mono ?_; rintro e w1 ⟨rfl, hb1⟩)
          exact ⟨⟨k + 1, by omega, by go_num, HK2, HG.out.up hb1⟩, by simp [intOf]; omega⟩
    · obtain rfl : k = n := by omega
      have HV : Hid (trI ts v = -1) := firstN_no (fun j hj => HK.out j (by omega))
      clear HK
      go_wp2
      go_ret
      exact ⟨by rw [HV.out]; rfl, hg⟩

set_option maxHeartbeats 1000000 in
theorem iTreeOf_any (N : Int) (ts : List (List Int)) (v : Int) (n : Nat) (a : Option Addr) (c : Nat) (hn : n + lnS ts ≤ 1048576) (w : World) (h : Ts w w.heap.size a n ts) :
    Calls Try.prog 27 #[.agg #[.int .i64 N, .slice a n c], .int .i64 v] w fun e w' => e = .returned (.int .i64 (treeO N ts v)) ∧ Below w.heap.size w w' := by
  have b0 : Good w (w.alloc (.cells #[.int .i64 N, .slice a n c] 28)) := (Good.refl w).alloc _
  have HF := iForestOk_any N ts n a c hn _ (h.up b0)
  have HB0 := hideIt b0
  by_cases hP : FP N ts
  · have HF2 := hideIt (HF.mono fun e u ⟨b, he, hb, hbl⟩ => (show e = Ending.returned (.bool true) ∧ Good (w.alloc (.cells #[.int .i64 N, .slice a n c] 28)) u from ⟨by rw [he, hb.2 hP], hbl⟩))
    have HT := hideIt (fun u (hu : Good (w.alloc (.cells #[.int .i64 N, .slice a n c] 28)) u) => placeTold_any ts v (fun t ht => by have := lnS_mem ht; omega) n a c (by omega) (some ⟨u.heap.size, 0, none⟩) 1 (u.alloc (.cells #[.int .i64 v] 3)) ((h.up b0).up (hu.alloc (.cells #[.int .i64 v] 3))) ⟨rfl, .inr ⟨u.heap.size, 0, rfl, by simp, fun j x hx => by
      rcases j with _ | j
      · simp at hx; subst hx; simp
      · simp at hx⟩⟩)
    have HV := hideIt (treeO_yes hP v)
    clear h b0 HF hP
    go_enter Try.func27, Try.ntmps27
    go_wp2_with (go_at_call 38; refine HF2.out.mono ?_; rintro e w1 ⟨rfl, hg1⟩; refine Hid.out ?_)
    refine (show ∀ {p : Prop}, p → Hid p from fun h => h) ?_
    have cB : w1.cell? ⟨w.heap.size, 1, none⟩ = some (.slice a n c) := by rw [hg1.cell (by simp)]; simp
    have HT2 := hideIt (HT.out w1 hg1)
    have HG1 := hideIt hg1
    clear hg1 HT HF2
    go_wp2_with (go_at_call 49; refine HT2.out.mono ?_; rintro e w2 ⟨rfl, hb2⟩)
    go_ret
    exact ⟨by rw [HV.out]; rfl, HB0.out.up ((HG1.out.alloc _).up hb2)⟩
  · have HF2 := hideIt (HF.mono fun e u ⟨b, he, hb, hbl⟩ => (show e = Ending.returned (.bool false) ∧ Good (w.alloc (.cells #[.int .i64 N, .slice a n c] 28)) u from ⟨by
      have : b = false := by
        cases b with
        | false => rfl
        | true => exact absurd (hb.1 rfl) hP
      rw [he, this], hbl⟩))
    have HV := hideIt (treeO_no hP v)
    clear h b0 HF hP
    go_enter Try.func27, Try.ntmps27
    go_wp2_with (go_at_call 38; refine HF2.out.mono ?_; rintro e w1 ⟨rfl, hg1⟩)
    go_ret
    exact ⟨by rw [HV.out]; rfl, HB0.out.up hg1⟩

set_option maxHeartbeats 1000000 in
theorem iSizeOf_any (N : Int) (ts : List (List Int)) (v : Int) (n : Nat) (a : Option Addr) (c : Nat) (hn : n + lnS ts ≤ 1048576) (w : World) (h : Ts w w.heap.size a n ts) :
    Calls Try.prog 15 #[.agg #[.int .i64 N, .slice a n c], .int .i64 v] w fun e w' => e = .returned (.int .i64 (sizeO N ts v)) ∧ Below w.heap.size w w' := by
  have b0 : Good w (w.alloc (.cells #[.int .i64 N, .slice a n c] 28)) := (Good.refl w).alloc _
  have HF := hideIt (iTreeOf_any N ts v n a c hn _ (h.up b0))
  have HB0 := hideIt b0
  rcases treeO_cases N ts v with ⟨k, t, hP, hk, hv, e⟩ | ⟨_, e⟩
  · rw [e] at HF
    have HV := hideIt (sizeO_yes e hk)
    have hkl := (List.getElem?_eq_some_iff.1 hk).1
    have hlen := h.1
    rcases (h.up b0).2 with hz | ⟨b, off, rfl, hbl, hc⟩
    · omega
    · obtain ⟨x, cx, e0, iI, _⟩ := hc k t hk
      have hfit := lnS_mem (List.mem_of_getElem? hk)
      have HVe := hideIt (fun u (hu : Good (w.alloc (.cells #[.int .i64 N, .slice (some ⟨b, off, none⟩) n c] 28)) u) => iVertsOf_any t t.length x cx (by omega) u (iI.up hu))
      have d1 : decide ((k : Int) < 0) = false := decide_eq_false (by omega)
      have b1 : (0 : Int) ≤ (k : Int) := by omega
      have b2 : (k : Int) < (n : Int) := by omega
      clear h b0 hc iI hP hv
      go_enter Try.func15, Try.ntmps15
      go_wp2_with (go_at_call 27; refine HF.out.mono ?_; rintro e w1 ⟨rfl, hg1⟩; refine Hid.out ?_)
      refine (show ∀ {p : Prop}, p → Hid p from fun h => h) ?_
      have hg1 : Good (w.alloc (.cells #[.int .i64 N, .slice (some ⟨b, off, none⟩) n c] 28)) w1 := hg1
      have cB : w1.cell? ⟨w.heap.size, 1, none⟩ = some (.slice (some ⟨b, off, none⟩) n c) := by rw [hg1.cell (by simp)]; simp
      have cE : w1.cell? ⟨b, off + k, none⟩ = some (.slice x t.length cx) := by rw [hg1.cell hbl]; exact e0
      have HT2 := hideIt (HVe.out w1 hg1)
      have HG1 := hideIt hg1
      clear hg1 HVe HF e0
      go_wp2_with (go_at_call 35; refine HT2.out.mono ?_; rintro e w2 ⟨a2, m2, c2, rfl, ho, hb2⟩)
      have hm2 : (vsL t).length = m2 := by have := ho.1; rw [ic_len] at this; omega
      go_ret
      exact ⟨by rw [HV.out, hm2]; rfl, HB0.out.up (HG1.out.up hb2)⟩
  · rw [e] at HF
    have HV := hideIt (sizeO_no e)
    clear h b0
    go_enter Try.func15, Try.ntmps15
    go_wp2_with (go_at_call 27; refine HF.out.mono ?_; rintro e w1 ⟨rfl, hg1⟩)
    go_ret
    exact ⟨by rw [HV.out]; rfl, HB0.out.up hg1⟩
end Go.Proofs.Ytcpffonenhhfoab
