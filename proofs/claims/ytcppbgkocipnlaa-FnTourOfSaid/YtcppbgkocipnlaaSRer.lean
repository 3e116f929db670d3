/- The specification's Reroot. -/
import Derived.Test.YtcppbgkocipnlaaRer
namespace Go.Proofs.Ytcppbgkocipnlaa
open Go.RowKit

theorem ISt.appL {wb : World} {a : Option Addr} {m c : Nat} {ls : List Int} {u : World} (h : ISt wb a m c ls u) {xs : List Int} {m3 : Nat} {v : Value} {u' : World}
    (ho : u'.ownsRow wb.heap.size 3 1 v m3 (ic ls ++ ic xs)) (hg : u.grownBy u' (Value.slice a m c).ownBlock) :
    ∃ a' c', v = .slice a' m3 c' ∧ ISt wb a' m3 c' (ls ++ xs) u' := by
  obtain ⟨a', c', rfl⟩ := own_form ho
  rw [← ic_append] at ho
  refine ⟨a', c', rfl, ho, ?_⟩
  exact h.bel.grown hg (by have := h.size; omega) (fun j hj => (h.own.lt j hj).1)
/-- from its root on a tour is as it is -/
theorem reT_zero {t : List Int} {v : Int} (hB : tB t = true) (hv : t[0]? = some v) : reT t 0 v = t := by
  obtain ⟨x, r, s, rfl, _, _, hr⟩ := tB_open hB
  simp at hv
  subst hv
  rcases hr with rfl | ⟨q, rfl⟩
  · simp [reT]
  · have e : x :: (q ++ [x]) = (x :: q) ++ [x] := rfl
    unfold reT
    rw [e, List.length_append, List.take_append_of_le_length (by simp), List.take_of_length_le (by simp)]
    simp
theorem tans_none {w u : World} {o : Option (List Int)} (ho : o = none) {g : Nat} (hown : u.ownsRow w.heap.size 3 1 (.slice (some ⟨g, 0, none⟩) 0 0) 0 (ic [])) (h : Below w.heap.size w u) : TAns w o (.returned (.tuple #[.slice (some ⟨g, 0, none⟩) 0 0, .bool false])) u := by
  subst ho
  exact ⟨_, 0, 0, rfl, hown, h⟩

set_option maxRecDepth 100000 in
set_option maxHeartbeats 4000000 in
theorem sReroot_any (t : List Int) (v : Int) (n : Nat) (a : Option Addr) (c : Nat) (hn : n ≤ 3000000) (hc : n ≤ c) (w : World) (h : Is w w.heap.size a n t) :
    Calls Try.prog 25 #[.slice a n c, .int .i64 v] w fun e w' => TAns w (reO t v) e w' := by
  obtain ⟨i0, hi, hz0, hz1, hz2⟩ := info_parts info3i
  have HX := hideIt (fun u (hu : Below w.heap.size w u) => l06First_any t v n a c hn u (h.up hu))
  have HT := hideIt (sTourOk_any t n a c hn w h)
  cases hT : tB t with
  | false =>
    rw [hT] at HT
    have HO := hideIt (show reO t v = none by unfold reO; rw [hT, if_neg (by simp)])
    clear hT h
    go_enter Try.func25, Try.ntmps25
    go_wp2_with (go_at_call 22; refine HT.out.mono ?_; rintro e w2 ⟨rfl, hb2⟩)
    go_ret2
    exact tans_none HO.out (own_mono (ISt.start w2).own hb2.size) (hb2.alloc hb2.size _)
  | true =>
    rw [hT] at HT
    by_cases hm : v ∈ t
    · obtain ⟨k, hk, hkn, hkv, hkf⟩ := fst_at hm
      have hlt := fst_lt hT hkn hkv hkf
      have HO := hideIt (show reO t v = some (reT t k v) by unfold reO; rw [hT, if_pos ⟨rfl, hm⟩, hk]; rfl)
      rw [hk] at HX
      have hlen := h.1
      rw [hlen] at hkn hlt
      have HI := hideIt h
      have d1 : decide ((k : Int) < 0) = false := decide_eq_false (by omega)
      obtain ⟨b, off, rfl⟩ : ∃ b off, a = some ⟨b, off, none⟩ := by
        rcases h.2 with hz | ⟨b, off, h1, _⟩
        · omega
        · exact ⟨b, off, h1⟩
      by_cases hk0 : k = 0
      · subst hk0
        have HZ := hideIt (reT_zero hT hkv)
        clear hT h hm hkv hkf hk
        go_enter Try.func25, Try.ntmps25
        go_wp2_with (first | (go_at_call 22; refine HT.out.mono ?_; rintro e w2 ⟨rfl, hb2⟩; refine Hid.out ?_))
        refine (show ∀ {p : Prop}, p → Hid p from fun h => h) ?_
        have HX2 := hideIt (HX.out w2 hb2)
        have S1 := ISt.start w2
        have HN := hideIt (((HI.out.up hb2).up S1.bel).news)
        have HL2 : Hid ((ic t).length = n * 1) := by show _ = _; rw [ic_len]; omega
        have z2 := hb2.size
        clear HX HT HI
        go_wp2_with (first | (go_at_call 52; refine HX2.out.mono ?_; rintro e w3 ⟨rfl, hw⟩; have hw' := hw.symm; subst hw'; clear hw) | (at_builtin; refine wpList_append_own _ rfl _ _ 24 rfl w2.heap.size 3 i0 _ 1 8 Try.underlying24 hi hz0 hz1 hz2 rfl (by decide) _ _ _ rfl S1.own ⟨b, off, none⟩ n c (ic t) rfl HL2.out HN.out ic_one (by unfold maxLen; omega) (by omega) (by simp) ?_))
        intro v3 w3 hown3 hg3 _
        obtain ⟨a3, c3, rfl, S3⟩ := S1.appL hown3 hg3
        clear hown3 hg3
        go_wp2
        go_ret2
        exact tans_yes HO.out z2 (by rw [HZ.out]; exact S3.own) (hb2.trans (S3.bel.mono z2))
      · obtain ⟨t1, ht1⟩ : ∃ x, x = (t.take (n - 1)).drop k := ⟨_, rfl⟩
        obtain ⟨t2, ht2⟩ : ∃ x, x = t.take k := ⟨_, rfl⟩
        have HZ : Hid (reT t k v = t1 ++ (t2 ++ [v])) := by show _ = _; unfold reT; rw [ht1, ht2, hlen]
        have hk1 : k < n - 1 := by omega
        have dk : ((k : Int) == 0) = false := by simp; omega
        clear hT h hm hkv hkf hk
        go_enter Try.func25, Try.ntmps25
        go_wp2_with (first | (go_at_call 22; refine HT.out.mono ?_; rintro e w2 ⟨rfl, hb2⟩; refine Hid.out ?_))
        refine (show ∀ {p : Prop}, p → Hid p from fun h => h) ?_
        have HX2 := hideIt (HX.out w2 hb2)
        have S1 := ISt.start w2
        have HI1 := hideIt ((HI.out.up hb2).up S1.bel)
        have HN := hideIt (((HI1.out.take (show n - 1 ≤ n by omega)).drop (show k ≤ n - 1 by omega)).news)
        have HL1 : Hid ((ic t1).length = (n - 1 - k) * 1) := by show _ = _; rw [ic_len, ht1, List.length_drop, List.length_take]; omega
        have HL2 : Hid ((ic t2).length = k * 1) := by show _ = _; rw [ic_len, ht2, List.length_take]; omega
        rw [← ht1] at HN
        have z2 := hb2.size
        have e1 : ((n : Int) - 1).toNat = n - 1 := by omega
        have b1 : (0 : Int) ≤ (k : Int) := by omega
        have b2 : (k : Int) ≤ (n : Int) - 1 := by omega
        have b3 : (n : Int) - 1 ≤ (c : Int) := by omega
        have b4 : (k : Int) ≤ (c : Int) := by omega
        have hck : ¬ (c = k) := by omega
        have HT1 := hideIt ht1
        have HT2 := hideIt ht2
        clear HX HT ht1 ht2
        go_wp2_with (first | (go_at_call 52; refine HX2.out.mono ?_; rintro e w3 ⟨rfl, hw⟩; have hw' := hw.symm; subst hw'; clear hw) | (at_builtin; refine wpList_append_own _ rfl _ _ 24 rfl w2.heap.size 3 i0 _ 1 8 Try.underlying24 hi hz0 hz1 hz2 rfl (by decide) _ _ _ rfl S1.own ⟨b, off + k, none⟩ (n - 1 - k) (c - k) (ic t1) rfl HL1.out HN.out ic_one (by unfold maxLen; omega) (by omega) (by simp) ?_))
        intro v3 w3 hown3 hg3 _
        obtain ⟨a3, c3, rfl, S3⟩ := S1.appL hown3 hg3
        clear hown3 hg3 S1
        refine Hid.out ?_
        refine (show ∀ {p : Prop}, p → Hid p from fun h => h) ?_
        have HI3 := hideIt ((HI.out.up hb2).up S3.bel)
        have HN3 := hideIt ((HI3.out.take (show k ≤ n by omega)).news)
        rw [← HT2.out] at HN3
        have z3 := S3.size
        clear HI1 HN
        go_wp2_with (at_builtin; refine wpList_append_own _ rfl _ _ 24 rfl w2.heap.size 3 i0 _ 1 8 Try.underlying24 hi hz0 hz1 hz2 rfl (by decide) _ _ _ rfl S3.own ⟨b, off, none⟩ k c (ic t2) rfl HL2.out HN3.out ic_one (by unfold maxLen; omega) (by omega) z3 ?_)
        intro v4 w4 hown4 hg4 _
        obtain ⟨a4, c4, rfl, S4⟩ := S3.appL hown4 hg4
        clear hown4 hg4 S3 HI3 HN3
        refine Hid.out ?_
        refine (show ∀ {p : Prop}, p → Hid p from fun h => h) ?_
        have z4 := S4.size
        go_wp2_with (at_builtin; refine wpList_append_own _ rfl _ _ 24 rfl w2.heap.size 3 i0 _ 1 8 Try.underlying24 hi hz0 hz1 hz2 rfl (by decide) _ _ _ rfl (S4.own.alloc _) ⟨w4.heap.size, 0, none⟩ 1 1 [.int .i64 v] rfl rfl (newsI w4 v) (by intro u hu; simp at hu; subst hu; rfl) (by unfold maxLen; omega) (by omega) (by simp; omega) ?_)
        intro v5 w5 hown5 hg5 _
        obtain ⟨a5, c5, rfl, S5⟩ := S4.app hown5 hg5
        clear hown5 hg5 S4
        go_wp2
        go_ret2
        exact tans_yes HO.out z2 (by rw [HZ.out]; have := S5.own; rw [List.nil_append, List.append_assoc] at this; exact this) (hb2.trans (S5.bel.mono z2))
    · have HO := hideIt (show reO t v = none by unfold reO; rw [if_neg (by simp [hm])])
      rw [fst_no hm] at HX
      clear hT h hm
      go_enter Try.func25, Try.ntmps25
      go_wp2_with (first | (go_at_call 22; refine HT.out.mono ?_; rintro e w2 ⟨rfl, hb2⟩; refine Hid.out ?_))
      refine (show ∀ {p : Prop}, p → Hid p from fun h => h) ?_
      have HX2 := hideIt (HX.out w2 hb2)
      clear HX HT
      go_wp2_with (go_at_call 52; refine HX2.out.mono ?_; rintro e w3 ⟨rfl, hw⟩; have hw' := hw.symm; subst hw'; clear hw)
      go_ret2
      exact tans_none HO.out (own_mono (ISt.start w2).own hb2.size) (hb2.alloc hb2.size _)
end Go.Proofs.Ytcppbgkocipnlaa
