/- The program's Reroot. -/
import Derived.Test.YtcpffonenhhfoaaRer
namespace Go.Proofs.Ytcpffonenhhfoaa
open Go.RowKit

set_option maxRecDepth 100000 in
set_option maxHeartbeats 4000000 in
theorem iReroot_any (t : List Int) (v : Int) (n : Nat) (a : Option Addr) (c : Nat) (hn : n ≤ 3000000) (hc : n ≤ c) (w : World) (h : Is w w.heap.size a n t) :
    Calls Try.prog 78 #[.slice a n c, .int .i64 v] w fun e w' => TAns w (reO t v) e w' := by
  have HX := hideIt (idxI_any t v n a c hn w h)
  have HT := hideIt (iTourOk_any t n a c hn w h)
  cases hT : tB t with
  | false =>
    rw [hT] at HT
    have HO := hideIt (show reO t v = none by unfold reO; rw [hT, if_neg (by simp)])
    clear hT h
    go_enter Try.func78, Try.ntmps78
    go_wp2_with (first | (go_at_call 102; refine HX.out.mono ?_; rintro e w1 ⟨rfl, hw⟩; have hw' := hw.symm; subst hw'; clear hw) | (go_at_call 71; refine HT.out.mono ?_; rintro e w2 ⟨rfl, hb2⟩))
    go_ret2
    exact tans_no HO.out hb2
  | true =>
    rw [hT] at HT
    by_cases hm : v ∈ t
    · obtain ⟨k, hk, hkn, hkv, hkf⟩ := fst_at hm
      have hlt := fst_lt hT hkn hkv hkf
      have HO := hideIt (show reO t v = some (reT t k v) by unfold reO; rw [hT, if_pos ⟨rfl, hm⟩, hk]; rfl)
      rw [hk] at HX
      have hlen := h.1
      rw [hlen] at hkn hlt
      have HI := hideIt h
      have d1 : decide ((k : Int) < 0) = false := decide_eq_false (by omega)
      obtain ⟨b, off, rfl⟩ : ∃ b off, a = some ⟨b, off, none⟩ := by
        rcases h.2 with hz | ⟨b, off, h1, _⟩
        · omega
        · exact ⟨b, off, h1⟩
      clear hT h hm hkv hkf hk
      go_enter Try.func78, Try.ntmps78
      go_wp2_with (first | (go_at_call 102; refine HX.out.mono ?_; rintro e w1 ⟨rfl, hw⟩; have hw' := hw.symm; subst hw'; clear hw) | (go_at_call 71; refine HT.out.mono ?_; rintro e w2 ⟨rfl, hb2⟩; refine Hid.out ?_))
      refine (show ∀ {p : Prop}, p → Hid p from fun h => h) ?_
      have HI2 := hideIt (HI.out.up hb2)
      have e1 : ((n : Int) - 1).toNat = n - 1 := by omega
      have b1 : (0 : Int) ≤ (k : Int) := by omega
      have b2 : (k : Int) ≤ (n : Int) - 1 := by omega
      have b3 : (n : Int) - 1 ≤ (c : Int) := by omega
      have b4 : (k : Int) ≤ (c : Int) := by omega
      have HL : Hid (Calls Try.prog 79 #[.slice (some ⟨w2.heap.size + 1, 0, none⟩) 3 3] ((w2.alloc (.cells #[.int .i64 v] 3)).alloc (.cells #[.slice (if n - 1 = k then some ⟨b, off, none⟩ else some ⟨b, off + k, none⟩) (n - 1 - k) (n - 1 - k), .slice (some ⟨b, off, none⟩) k k, .slice (some ⟨w2.heap.size, 0, none⟩) 1 1] 50)).drew
          fun e u => ∃ g m, e = .returned (.slice (some ⟨g, 0, none⟩) m m) ∧ u.ownsRow w2.heap.size 3 1 (.slice (some ⟨g, 0, none⟩) m m) m (ic (reT t k v)) ∧ Below w2.heap.size w2 u) := by
        have hb0 : Below w2.heap.size w2 (w2.alloc (.cells #[.int .i64 v] 3)) := (Below.refl _ _).alloc (Nat.le_refl _) _
        have hi2 := HI2.out.up hb0
        have hP := parts3 (p1 := ⟨if n - 1 = k then some ⟨b, off, none⟩ else some ⟨b, off + k, none⟩, n - 1 - k, n - 1 - k, (t.take (n - 1)).drop k⟩) (p2 := ⟨some ⟨b, off, none⟩, k, k, t.take k⟩) (p3 := ⟨some ⟨w2.heap.size, 0, none⟩, 1, 1, [v]⟩) (hi2.cut (by omega) (by omega)) (hi2.take (by show k ≤ n; omega)) (Is.single w2 v)
        have hs : (w2.alloc (.cells #[.int .i64 v] 3)).heap.size = w2.heap.size + 1 := by simp
        rw [hs] at hP
        refine (laid_any _ _ 3 rfl (by omega) _ hP (by simp [qLen]; omega)).mono fun e u ⟨g, m, he, ho, hb⟩ => ⟨g, m, he, ?_, ?_⟩
        · have hq : qAll [⟨if n - 1 = k then some ⟨b, off, none⟩ else some ⟨b, off + k, none⟩, n - 1 - k, n - 1 - k, (t.take (n - 1)).drop k⟩, ⟨some ⟨b, off, none⟩, k, k, t.take k⟩, ⟨some ⟨w2.heap.size, 0, none⟩, 1, 1, [v]⟩] = reT t k v := by
            simp [qAll, reT, hlen]
          rw [hq] at ho
          exact own_mono ho (by simp; omega)
        · exact ((hb0.alloc (by simp) _).drew).trans (hb.mono (by simp; omega))
      clear HI2 HI
      rcases hlt with hlt | ⟨rfl, rfl⟩
      · have hne : ¬ (n - 1 = k) := by omega
        rw [if_neg hne] at HL
        go_wp2
        go_region_held3 (fun _ => True) (trivial) ((go_at_call 79; refine HL.out.mono ?_; rintro e w3 ⟨g, m, rfl, ho3, hb3⟩))
        all_goals
          go_wp2
          go_ret2
          exact tans_yes HO.out hb2.size ho3 (hb2.trans (hb3.mono hb2.size))
      · rw [if_pos (by omega), show 1 - 1 - 0 = 0 from rfl] at HL
        go_wp2
        go_region_held3 (fun _ => True) (trivial) ((go_at_call 79; refine HL.out.mono ?_; rintro e w3 ⟨g, m, rfl, ho3, hb3⟩))
        all_goals
          go_wp2
          go_ret2
          exact tans_yes HO.out hb2.size ho3 (hb2.trans (hb3.mono hb2.size))
    · have HO := hideIt (show reO t v = none by unfold reO; rw [if_neg (by simp [hm])])
      rw [fst_no hm] at HX
      clear hT h hm
      go_enter Try.func78, Try.ntmps78
      go_wp2_with (first | (go_at_call 102; refine HX.out.mono ?_; rintro e w1 ⟨rfl, hw⟩; have hw' := hw.symm; subst hw'; clear hw) | (go_at_call 71; refine HT.out.mono ?_; rintro e w2 ⟨rfl, hb2⟩))
      go_ret2
      exact tans_no HO.out hb2
end Go.Proofs.Ytcpffonenhhfoaa
