/- The program's haveCommon. The program's JoinTours. What a tour that is rerooted, joined or split is: pure. What a tour that is split at one of its steps, and joined there again, is: pure. Forests linked and cut: pure. Lists of edges in memory; what the drawn laws of chapter 6 have of chapter 5. -/
import Derived.Test.YtklalfkdikjkfaaGreatKITour
import Derived.Test.YtklalfkdikjkfaaGreatKIBack
import Derived.Test.YtklalfkdikjkfaaGreatKSplit
namespace Go.Proofs.YtklalfkdikjkfaaGreat
open Go.RowKit

/-- a number of the one list is in the other -/
def comB (us vs : List Int) : Bool := us.any fun x => decide (x ∈ vs)
def comP (us vs : List Int) (k : Nat) : Bool := match us[k]? with | some x => decide (x ∈ vs) | none => false
theorem comP_at {us vs : List Int} {k : Nat} {f : Int} (h : us[k]? = some f) : comP us vs k = decide (f ∈ vs) := by simp [comP, h]
theorem comB_yes {us vs : List Int} {k : Nat} (hc : comP us vs k = true) : comB us vs = true := by
  unfold comP at hc
  cases h : us[k]? with
  | none => rw [h] at hc; simp at hc
  | some x =>
    rw [h] at hc
    unfold comB
    rw [List.any_eq_true]
    exact ⟨x, List.mem_of_getElem? h, hc⟩
theorem comB_no {us vs : List Int} (hc : ∀ j, j < us.length → comP us vs j = false) : comB us vs = false := by
  unfold comB
  rw [List.any_eq_false]
  intro x hx
  obtain ⟨k, hk⟩ := List.mem_iff_getElem?.1 hx
  have := hc k (List.getElem?_eq_some_iff.1 hk).1
  rw [comP_at hk] at this
  simpa using this
theorem com_first (us vs : List Int) : decide (0 ≤ firstN (comP us vs) us.length) = comB us vs := by
  rcases firstN_cases (comP us vs) us.length with ⟨k, _, h, _, e⟩ | ⟨h, e⟩
  · rw [e, comB_yes h]; simp
  · rw [e, comB_no h]; rfl

theorem comIt_any (vs : List Int) (x : Int) (B n : Nat) (a : Option Addr) (c : Nat) (hn : n ≤ 3000000) (w : World) (hB : w.cell? ⟨B, 0, none⟩ = some (.slice a n c)) (h : Is w w.heap.size a n vs) :
    Calls Tryz.prog 145 #[.int .i64 x, .pointer (some ⟨B, 0, none⟩)] w fun e w' => e = .returned (.bool (decide (x ∈ vs))) ∧ w' = w := by
  have HC := hideIt (conI_any vs x n a c hn w h)
  clear h
  go_enter Tryz.func145, Tryz.ntmps145
  go_wp2_with (go_at_call 146; refine HC.out.mono ?_; rintro e w1 ⟨rfl, rfl⟩)
  go_ret
  exact ⟨rfl, rfl⟩

set_option maxHeartbeats 1000000 in
theorem idxF_any (us vs : List Int) (n : Nat) (a : Option Addr) (c : Nat) (hn : n ≤ 3000000) (B nb : Nat) (b : Option Addr) (cb : Nat) (hnb : nb ≤ 3000000) (w : World) (h : Is w w.heap.size a n us) (hB : w.cell? ⟨B, 0, none⟩ = some (.slice b nb cb)) (hb : Is w w.heap.size b nb vs) :
    Calls Tryz.prog 152 #[.slice a n c, .func (.func 145) #[] #[.pointer (some ⟨B, 0, none⟩)]] w fun e w' => e = .returned (.int .i64 (firstN (comP us vs) us.length)) ∧ w' = w := by
  have HC := hideIt (fun x => comIt_any vs x B nb b cb hnb w hB hb)
  obtain ⟨hlen, hrow⟩ := h
  have HR := hideIt hrow
  clear hrow hb hB
  go_enter Tryz.func152, Tryz.ntmps152
  go_wp2
  go_loopw [8] (fun i wr => ∃ (k : Nat), k ≤ n ∧ i = .int .i64 (k : Int) ∧ Hid (∀ j, j < k → comP us vs j = false) ∧ wr = w) (fun i _ => n - (intOf i).toNat)
  case atStart => exact ⟨0, by omega, rfl, fun j hj => by omega, rfl⟩
  case round =>
    obtain ⟨k, hk, rfl, HF, hw⟩ := hrel
    have hw' := hw.symm
    subst hw'
    clear hw
    by_cases hlt : k < n
    · rcases HR.out with hz | ⟨b1, off, rfl, hbl, hc⟩
      · omega
      · obtain ⟨f, hf⟩ : ∃ f, us[k]? = some f := ⟨us[k]'(by omega), List.getElem?_eq_getElem (by omega)⟩
        have e0 := hc k f hf
        have b1 : (0 : Int) ≤ (k : Int) := by omega
        have b2 : (k : Int) < (n : Int) := by omega
        have HC1 := hideIt (HC.out f)
        have hcf := comP_at (vs := vs) hf
        cases hv : decide (f ∈ vs) with
        | true =>
          rw [hv] at HC1 hcf
          have hm := hideIt (show firstN (comP us vs) us.length = (k : Int) from firstN_yes (by omega) hcf HF.out)
          clear hc hf hv HF hcf
          go_wp2_with (go_at_call 145; refine HC1.out.mono ?_; rintro e w1 ⟨rfl, hw⟩; have hw' := hw.symm; subst hw'; clear hw)
          go_ret
          exact ⟨retI hm.out, rfl⟩
        | false =>
          rw [hv] at HC1 hcf
          have HF2 := hideIt (all_step HF.out hcf)
          clear hc hf hv HF hcf
          go_wp2_with (go_at_call 145; refine HC1.out.mono ?_; rintro e w1 ⟨rfl, hw⟩; have hw' := hw.symm; subst hw'; clear hw)
          exact ⟨⟨k + 1, by omega, by go_num, HF2, by first | trivial | rfl⟩, by simp [intOf]; omega⟩
    · obtain rfl : k = n := by omega
      have hm := hideIt (show firstN (comP us vs) us.length = -1 from firstN_no (by rw [hlen]; exact HF.out))
      clear HF
      go_wp2
      go_ret
      exact ⟨retI hm.out, rfl⟩

theorem conF_any (us vs : List Int) (n : Nat) (a : Option Addr) (c : Nat) (hn : n ≤ 3000000) (B nb : Nat) (b : Option Addr) (cb : Nat) (hnb : nb ≤ 3000000) (w : World) (h : Is w w.heap.size a n us) (hB : w.cell? ⟨B, 0, none⟩ = some (.slice b nb cb)) (hb : Is w w.heap.size b nb vs) :
    Calls Tryz.prog 144 #[.slice a n c, .func (.func 145) #[] #[.pointer (some ⟨B, 0, none⟩)]] w fun e w' => e = .returned (.bool (comB us vs)) ∧ w' = w := by
  have HI := hideIt (idxF_any us vs n a c hn B nb b cb hnb w h hB hb)
  have HM := hideIt (com_first us vs)
  clear h hB hb
  generalize firstN (comP us vs) us.length = x at *
  go_enter Tryz.func144, Tryz.ntmps144
  go_wp2_with (go_at_call 152; refine HI.out.mono ?_; rintro e w1 ⟨rfl, rfl⟩)
  go_ret
  exact ⟨by rw [← HM.out]; rfl, rfl⟩

theorem haveCommon_any (us vs : List Int) (n : Nat) (a : Option Addr) (c : Nat) (hn : n ≤ 3000000) (nb : Nat) (b : Option Addr) (cb : Nat) (hnb : nb ≤ 3000000) (w : World) (h : Is w w.heap.size a n us) (hb : Is w w.heap.size b nb vs) :
    Calls Tryz.prog 100 #[.slice a n c, .slice b nb cb] w fun e w' => e = .returned (.bool (comB us vs)) ∧ Below w.heap.size w w' := by
  have hbl : Below w.heap.size w (w.alloc (.cells #[.slice b nb cb] 39)) := (Below.refl _ _).alloc (Nat.le_refl _) _
  have HI := hideIt (conF_any us vs n a c hn w.heap.size nb b cb hnb (w.alloc (.cells #[.slice b nb cb] 39)) (h.up hbl) (by simp) (hb.up hbl))
  clear h hb
  go_enter Tryz.func100, Tryz.ntmps100
  go_wp2_with (go_at_call 144; refine HI.out.mono ?_; rintro e w1 ⟨rfl, rfl⟩)
  go_ret
  exact ⟨rfl, hbl⟩
end Go.Proofs.YtklalfkdikjkfaaGreat
namespace Go.Proofs.YtklalfkdikjkfaaGreat
open Go.RowKit

/-- a up to the place k, r, and a from that place on -/
def joT (t : List Int) (k : Nat) (r : List Int) : List Int := t.take (k + 1) ++ (r ++ t.drop k)
/-- two tours, joined -/
def joO (ta : List Int) (u : Int) (tb : List Int) (v : Int) : Option (List Int) :=
  if (tB ta = true ∧ tB tb = true) ∧ (u ∈ ta ∧ v ∈ tb) ∧ comB ta tb = false then some (joT ta (lstI ta u).toNat (reT tb (fstI tb v).toNat v)) else none
theorem reO_none {t : List Int} {v : Int} (h : reO t v = none) : ¬ (tB t = true ∧ v ∈ t) := by
  unfold reO at h
  by_cases hc : tB t = true ∧ v ∈ t
  · rw [if_pos hc] at h; simp at h
  · exact hc
theorem reO_some {t r : List Int} {v : Int} (h : reO t v = some r) : tB t = true ∧ v ∈ t ∧ r = reT t (fstI t v).toNat v := by
  unfold reO at h
  by_cases hc : tB t = true ∧ v ∈ t
  · rw [if_pos hc] at h; simp at h; exact ⟨hc.1, hc.2, h.symm⟩
  · rw [if_neg hc] at h; simp at h
theorem lst_mem {t : List Int} {v : Int} (h : v ∈ t) : ∃ k : Nat, lstI t v = (k : Int) ∧ k < t.length ∧ t[k]? = some v := by
  rcases lastN_cases (atP t v) t.length with ⟨k, h1, h2, _, h4⟩ | ⟨h1, _⟩
  · exact ⟨k, h4, h1, by simpa [atP] using h2⟩
  · exact absurd h (mem_of_atP rfl h1)
theorem lst_no {t : List Int} {v : Int} (h : v ∉ t) : lstI t v = -1 := by
  rcases lastN_cases (atP t v) t.length with ⟨k, h1, h2, _, h4⟩ | ⟨_, h2⟩
  · exact absurd (List.mem_of_getElem? (by simpa [atP] using h2 : t[k]? = some v)) h
  · exact h2
theorem reT_len {t : List Int} {v : Int} (hB : tB t = true) (k : Nat) : (reT t k v).length ≤ 50 := by
  have := tB_len hB
  simp [reT]
  omega

set_option maxRecDepth 100000 in
set_option maxHeartbeats 4000000 in
theorem iJoinTours_any (ta : List Int) (u : Int) (tb : List Int) (v : Int) (n : Nat) (a : Option Addr) (c : Nat) (hn : n ≤ 1048576) (hc : n ≤ c) (nb : Nat) (b : Option Addr) (cb : Nat) (hnb : nb ≤ 1048576) (hcb : nb ≤ cb) (w : World) (h : Is w w.heap.size a n ta) (hb : Is w w.heap.size b nb tb) :
    Calls Tryz.prog 53 #[.slice a n c, .int .i64 u, .slice b nb cb, .int .i64 v] w fun e w' => TAns w (joO ta u tb v) e w' := by
  have HL := hideIt (lastPlace_any ta u n a c (by omega) w h)
  have HR := hideIt (fun x (hx : Below w.heap.size w x) => iReroot_any tb v nb b cb (by omega) hcb x (hb.up hx))
  have HT := hideIt (fun x (hx : Below w.heap.size w x) => iTourOk_any ta n a c (by omega) x (h.up hx))
  have HC := hideIt (fun x (hx : Below w.heap.size w x) => haveCommon_any ta tb n a c (by omega) nb b cb (by omega) x (h.up hx) (hb.up hx))
  have HI := hideIt h
  have hlen := h.1
  cases hR : reO tb v with
  | none =>
    have HO := hideIt (show joO ta u tb v = none by unfold joO; rw [if_neg (fun hh => reO_none hR ⟨hh.1.2, hh.2.1.2⟩)])
    rw [hR] at HR
    clear hR h hb HC HT
    go_enter Tryz.func53, Tryz.ntmps53
    go_wp2_with (go_at_call 101; refine HL.out.mono ?_; rintro e w1 ⟨rfl, hb1⟩; refine Hid.out ?_)
    refine (show ∀ {p : Prop}, p → Hid p from fun h => h) ?_
    have HR1 := hideIt (HR.out w1 hb1)
    go_wp2_with (go_at_call 102; refine HR1.out.mono ?_; rintro e w2 ⟨ai, mi, ci, rfl, hoi, hb2⟩; refine Hid.out ?_)
    refine (show ∀ {p : Prop}, p → Hid p from fun h => h) ?_
    clear HR1
    have B2 := hb1.trans (hb2.mono hb1.size)
    clear hoi
    go_wp2
    go_ret2
    exact tans_no HO.out B2
  | some r =>
    obtain ⟨hTb, hvb, hr⟩ := reO_some hR
    have hrl := reT_len (v := v) hTb (fstI tb v).toNat
    rw [← hr] at hrl
    rw [hR] at HR
    cases hT : tB ta with
    | false =>
      have HO := hideIt (show joO ta u tb v = none by unfold joO; rw [if_neg (fun hh => by have := hh.1.1; rw [hT] at this; simp at this)])
      rw [hT] at HT
      clear hR h hb HC hT
      go_enter Tryz.func53, Tryz.ntmps53
      go_wp2_with (go_at_call 101; refine HL.out.mono ?_; rintro e w1 ⟨rfl, hb1⟩; refine Hid.out ?_)
      refine (show ∀ {p : Prop}, p → Hid p from fun h => h) ?_
      have HR1 := hideIt (HR.out w1 hb1)
      go_wp2_with (go_at_call 102; refine HR1.out.mono ?_; rintro e w2 ⟨ai, mi, ci, rfl, hoi, hb2⟩; refine Hid.out ?_)
      refine (show ∀ {p : Prop}, p → Hid p from fun h => h) ?_
      clear HR1
      have B2 := hb1.trans (hb2.mono hb1.size)
      have HT2 := hideIt (HT.out w2 B2)
      clear hoi
      go_wp2_with (go_at_call 103; refine HT2.out.mono ?_; rintro e w3 ⟨rfl, hb3⟩)
      go_ret2
      exact tans_no HO.out (B2.trans (hb3.mono B2.size))
    | true =>
      rw [hT] at HT
      by_cases hu : u ∈ ta
      · obtain ⟨k, hk, hkn, _⟩ := lst_mem hu
        rw [hk] at HL
        rw [hlen] at hkn
        have d1 : decide ((k : Int) < 0) = false := decide_eq_false (by omega)
        cases hC : comB ta tb with
        | true =>
          have HO := hideIt (show joO ta u tb v = none by unfold joO; rw [if_neg (fun hh => by have := hh.2.2; rw [hC] at this; simp at this)])
          rw [hC] at HC
          clear hR h hb hT hC hk hu
          go_enter Tryz.func53, Tryz.ntmps53
          go_wp2_with (go_at_call 101; refine HL.out.mono ?_; rintro e w1 ⟨rfl, hb1⟩; refine Hid.out ?_)
          refine (show ∀ {p : Prop}, p → Hid p from fun h => h) ?_
          have HR1 := hideIt (HR.out w1 hb1)
          go_wp2_with (go_at_call 102; refine HR1.out.mono ?_; rintro e w2 ⟨ai, mi, ci, rfl, hoi, hb2⟩; refine Hid.out ?_)
          refine (show ∀ {p : Prop}, p → Hid p from fun h => h) ?_
          clear HR1
          have B2 := hb1.trans (hb2.mono hb1.size)
          have HT2 := hideIt (HT.out w2 B2)
          clear hoi
          go_wp2_with (go_at_call 103; refine HT2.out.mono ?_; rintro e w3 ⟨rfl, hb3⟩; refine Hid.out ?_)
          refine (show ∀ {p : Prop}, p → Hid p from fun h => h) ?_
          have B3 := B2.trans (hb3.mono B2.size)
          have HC3 := hideIt (HC.out w3 B3)
          go_wp2_with (go_at_call 100; refine HC3.out.mono ?_; rintro e w4 ⟨rfl, hb4⟩)
          go_ret2
          exact tans_no HO.out (B3.trans (hb4.mono B3.size))
        | false =>
          have HO := hideIt (show joO ta u tb v = some (joT ta k r) by unfold joO; rw [if_pos ⟨⟨hT, hTb⟩, ⟨hu, hvb⟩, hC⟩, hk, hr]; rfl)
          rw [hC] at HC
          obtain ⟨b1, off, rfl⟩ : ∃ b1 off, a = some ⟨b1, off, none⟩ := by
            rcases h.2 with hz | ⟨b1, off, h1, _⟩
            · omega
            · exact ⟨b1, off, h1⟩
          clear hR h hb hT hC hk hu hr
          go_enter Tryz.func53, Tryz.ntmps53
          go_wp2_with (go_at_call 101; refine HL.out.mono ?_; rintro e w1 ⟨rfl, hb1⟩; refine Hid.out ?_)
          refine (show ∀ {p : Prop}, p → Hid p from fun h => h) ?_
          have HR1 := hideIt (HR.out w1 hb1)
          go_wp2_with (go_at_call 102; refine HR1.out.mono ?_; rintro e w2 ⟨ai, mi, ci, rfl, hoi, hb2⟩; refine Hid.out ?_)
          refine (show ∀ {p : Prop}, p → Hid p from fun h => h) ?_
          clear HR1
          have B2 := hb1.trans (hb2.mono hb1.size)
          have HT2 := hideIt (HT.out w2 B2)
          have RI := RBox.laid hoi
          clear hoi
          rw [Option.getD_some] at RI
          have hmi : mi ≤ 50 := by rw [← RI.len]; exact hrl
          go_wp2_with (go_at_call 103; refine HT2.out.mono ?_; rintro e w3 ⟨rfl, hb3⟩; refine Hid.out ?_)
          refine (show ∀ {p : Prop}, p → Hid p from fun h => h) ?_
          have B3 := B2.trans (hb3.mono B2.size)
          have RI3 := RI.up hb3
          have HC3 := hideIt (HC.out w3 B3)
          clear HT2 RI
          go_wp2_with (go_at_call 100; refine HC3.out.mono ?_; rintro e w4 ⟨rfl, hb4⟩; refine Hid.out ?_)
          refine (show ∀ {p : Prop}, p → Hid p from fun h => h) ?_
          have B4 := B3.trans (hb4.mono B3.size)
          have RI4 := RI3.up hb4
          clear HC3 RI3 HR HT HC HL
          have e1 : ((k : Int) + 1).toNat = k + 1 := by omega
          have p1 : (0 : Int) ≤ (k : Int) := by omega
          have p2 : (k : Int) ≤ (n : Int) := by omega
          have p3 : (n : Int) ≤ (c : Int) := by omega
          have p4 : (0 : Int) ≤ (k : Int) + 1 := by omega
          have p5 : (k : Int) + 1 ≤ (c : Int) := by omega
          have hne : ¬ (n = k) := by omega
          have pw : IntKind.i64.wrap ((k : Int) + 1) = (k : Int) + 1 := by rw [IntKind.wrap_i64]; omega
          have HLd : Hid (Calls Tryz.prog 104 #[.slice (some ⟨w4.heap.size, 0, none⟩) 3 3] (w4.alloc (.cells #[.slice (some ⟨b1, off, none⟩) (k + 1) (k + 1), .slice ai mi ci, .slice (some ⟨b1, off + k, none⟩) (n - k) (n - k)] 39)).drew
              fun e x => ∃ g m, e = .returned (.slice (some ⟨g, 0, none⟩) m m) ∧ x.ownsRow w4.heap.size 3 1 (.slice (some ⟨g, 0, none⟩) m m) m (ic (joT ta k r)) ∧ Below w4.heap.size w4 x) := by
            have hi4 := HI.out.up B4
            have hP := parts3 (p1 := ⟨some ⟨b1, off, none⟩, k + 1, k + 1, ta.take (k + 1)⟩) (p2 := ⟨ai, mi, ci, r⟩) (p3 := ⟨some ⟨b1, off + k, none⟩, n - k, n - k, ta.drop k⟩) (hi4.take (by show k + 1 ≤ n; omega)) RI4.is (hi4.drop (by show k ≤ n; omega))
            refine (laid_any _ _ 3 rfl (by omega) _ hP (by simp [qLen]; omega)).mono fun e x ⟨g, m, he, ho, hb⟩ => ⟨g, m, he, ?_, ?_⟩
            · have hq : qAll [⟨some ⟨b1, off, none⟩, k + 1, k + 1, ta.take (k + 1)⟩, ⟨ai, mi, ci, r⟩, ⟨some ⟨b1, off + k, none⟩, n - k, n - k, ta.drop k⟩] = joT ta k r := by
                simp [qAll, joT]
              rw [hq] at ho
              exact own_mono ho (by simp)
            · exact (((Below.refl w4.heap.size w4).alloc (Nat.le_refl _) _).drew).trans (hb.mono (by simp))
          clear HI RI4
          go_wp2
          go_region_held3 (fun _ => True) (trivial) ((go_at_call 104; refine HLd.out.mono ?_; rintro e w5 ⟨g, m, rfl, ho5, hb5⟩))
          all_goals
            go_wp2
            go_ret2
            exact tans_yes HO.out B4.size ho5 (B4.trans (hb5.mono B4.size))
      · have HO := hideIt (show joO ta u tb v = none by unfold joO; rw [if_neg (fun hh => hu hh.2.1.1)])
        rw [lst_no hu] at HL
        clear hR h hb HC hT hu
        go_enter Tryz.func53, Tryz.ntmps53
        go_wp2_with (go_at_call 101; refine HL.out.mono ?_; rintro e w1 ⟨rfl, hb1⟩; refine Hid.out ?_)
        refine (show ∀ {p : Prop}, p → Hid p from fun h => h) ?_
        have HR1 := hideIt (HR.out w1 hb1)
        go_wp2_with (go_at_call 102; refine HR1.out.mono ?_; rintro e w2 ⟨ai, mi, ci, rfl, hoi, hb2⟩; refine Hid.out ?_)
        refine (show ∀ {p : Prop}, p → Hid p from fun h => h) ?_
        clear HR1
        have B2 := hb1.trans (hb2.mono hb1.size)
        have HT2 := hideIt (HT.out w2 B2)
        clear hoi
        go_wp2_with (go_at_call 103; refine HT2.out.mono ?_; rintro e w3 ⟨rfl, hb3⟩)
        go_ret2
        exact tans_no HO.out (B2.trans (hb3.mono B2.size))
end Go.Proofs.YtklalfkdikjkfaaGreat
namespace Go.Proofs.YtklalfkdikjkfaaGreat

theorem re_cut {t : List Int} {v : Int} {k : Nat} (hv : t[k]? = some v) (hk : k < t.length - 1) : reT t k v = cutAt (t.take (t.length - 1)) k := by
  unfold reT cutAt
  rw [List.getElem?_take_of_lt hk, hv, List.take_take, Nat.min_eq_left (by omega)]
  rfl
theorem ring_zero {t : List Int} (h : tB t = true) (hl : 1 < t.length) : cutAt (t.take (t.length - 1)) 0 = t := by
  rcases tour_ring h with ⟨x, rfl⟩ | ⟨c, d, m, rfl⟩
  · simp at hl
  · have e : (c :: d :: (m ++ [c])).take ((c :: d :: (m ++ [c])).length - 1) = c :: d :: m := by simp
    rw [e]
    simp [cutAt]
theorem cut_mem {q : List Int} {k : Nat} (hk : k < q.length) (x : Int) : x ∈ cutAt q k ↔ x ∈ q := by
  unfold cutAt
  rw [List.getElem?_eq_getElem hk]
  simp only [List.mem_append, Option.toList_some, List.mem_singleton]
  constructor
  · intro h
    rcases h with h | h | h
    · exact List.mem_of_mem_drop h
    · exact List.mem_of_mem_take h
    · rw [h]; exact List.getElem_mem hk
  · intro h
    rw [← List.take_append_drop k q, List.mem_append] at h
    rcases h with h | h
    · exact .inr (.inl h)
    · exact .inl h
theorem cut_len {q : List Int} {k : Nat} (hk : k < q.length) : (cutAt q k).length = q.length + 1 := by
  unfold cutAt
  rw [List.getElem?_eq_getElem hk]
  simp
  omega
/-- a step of the ring, cut at its first place, is one wherever it is cut -/
theorem cut_step {q : List Int} {k : Nat} (hk : k < q.length) {i : Nat} {u w : Int} (h1 : (cutAt q 0)[i]? = some u) (h2 : (cutAt q 0)[i + 1]? = some w) : ∃ j, (cutAt q k)[j]? = some u ∧ (cutAt q k)[j + 1]? = some w := by
  have hl := cut_len (q := q) (k := 0) (by omega)
  have hi : i < q.length := by have := (List.getElem?_eq_some_iff.1 h2).1; omega
  have e0 : cutAt q 0 = q ++ [q[0]] := by unfold cutAt; rw [List.getElem?_eq_getElem (by omega)]; simp
  have ek : cutAt q k = q.drop k ++ (q.take k ++ [q[k]]) := by unfold cutAt; rw [List.getElem?_eq_getElem hk]; simp
  have at0 : ∀ a, a < q.length → (cutAt q 0)[a]? = q[a]? := fun a ha => by rw [e0, List.getElem?_append_left ha]
  have atE : (cutAt q 0)[q.length]? = some (q[0]'(by omega)) := by rw [e0, List.getElem?_append_right (Nat.le_refl _)]; simp
  have atH : ∀ a, k ≤ a → a < q.length → (cutAt q k)[a - k]? = q[a]? := fun a h3 h4 => by
    rw [ek, List.getElem?_append_left (by rw [List.length_drop]; omega), List.getElem?_drop, show k + (a - k) = a by omega]
  have atL : ∀ a, a < k → (cutAt q k)[q.length - k + a]? = q[a]? := fun a h3 => by
    rw [ek, List.getElem?_append_right (by rw [List.length_drop]; omega), List.length_drop, show q.length - k + a - (q.length - k) = a by omega, List.getElem?_append_left (by rw [List.length_take]; omega), List.getElem?_take_of_lt h3]
  have atZ : (cutAt q k)[q.length]? = some q[k] := by
    rw [ek, List.getElem?_append_right (by rw [List.length_drop]; omega), List.length_drop, List.getElem?_append_right (by rw [List.length_take]; omega), List.length_take]
    rw [show q.length - (q.length - k) - min k q.length = 0 by omega]
    rfl
  rw [at0 i hi] at h1
  by_cases hik : k ≤ i
  · refine ⟨i - k, by rw [atH i hik hi]; exact h1, ?_⟩
    by_cases hl2 : i + 1 < q.length
    · rw [at0 _ hl2] at h2
      rw [show i - k + 1 = i + 1 - k by omega, atH _ (by omega) hl2]
      exact h2
    · rw [show i + 1 = q.length by omega, atE] at h2
      by_cases hk0 : k = 0
      · subst hk0
        rw [show i - 0 + 1 = q.length by omega, atZ]
        exact h2
      · have := atL 0 (by omega)
        rw [show i - k + 1 = q.length - k + 0 by omega, this, List.getElem?_eq_getElem (by omega)]
        exact h2
  · refine ⟨q.length - k + i, by rw [atL i (by omega)]; exact h1, ?_⟩
    rw [at0 _ (by omega)] at h2
    by_cases hl2 : i + 1 < k
    · rw [show q.length - k + i + 1 = q.length - k + (i + 1) by omega, atL _ hl2]
      exact h2
    · rw [show q.length - k + i + 1 = q.length by omega, atZ]
      have e : i + 1 = k := by omega
      subst e
      rw [List.getElem?_eq_getElem hk] at h2
      exact h2
/-- a tour from another of its vertices on -/
structure ReIs (t : List Int) (v : Int) (r : List Int) : Prop where
  ok : tB r = true
  len : r.length = t.length
  fst : r[0]? = some v
  mem : ∀ x, x ∈ r ↔ x ∈ t
  step : ∀ (i : Nat) (u w : Int), t[i]? = some u → t[i + 1]? = some w → ∃ j, r[j]? = some u ∧ r[j + 1]? = some w
theorem re_is {t : List Int} {v : Int} (hB : tB t = true) (hv : v ∈ t) : ∃ r, reO t v = some r ∧ ReIs t v r := by
  obtain ⟨k, hk, hkl, hkv, hkf⟩ := fst_at hv
  refine ⟨reT t k v, by unfold reO; rw [if_pos ⟨hB, hv⟩, hk]; rfl, ?_⟩
  rcases fst_lt hB hkl hkv hkf with h | ⟨h0, h1⟩
  · have hl : 1 < t.length := by omega
    have hq : k < (t.take (t.length - 1)).length := by simp; omega
    have e0 := ring_zero hB hl
    rw [re_cut hkv h]
    have hm : ∀ x, x ∈ t ↔ x ∈ t.take (t.length - 1) := fun x => by
      have := cut_mem (q := t.take (t.length - 1)) (k := 0) (by omega) x
      rw [e0] at this
      exact this
    refine ⟨tour_cut (by rw [e0]; exact hB) k hq, by rw [cut_len hq]; simp; omega, ?_, fun x => by rw [cut_mem hq, hm], fun i u w h1 h2 => ?_⟩
    · unfold cutAt
      rw [List.getElem?_append_left (by simp; omega), List.getElem?_drop, Nat.add_zero, List.getElem?_take_of_lt h]
      exact hkv
    · rw [← e0] at h1 h2
      exact cut_step hq h1 h2
  · subst h0
    match t, h1 with
    | [x], _ =>
      simp at hkv
      subst hkv
      exact ⟨hB, rfl, rfl, fun _ => Iff.rfl, fun i u w h1 h2 => ⟨i, h1, h2⟩⟩

/-- what goes down from p to c, above c until it comes back -/
theorem trun_above {M Y S W1 S1 B : List Int} {c p z : Int} (h : trun (Y ++ c :: p :: B) S M = some (W1, S1)) (hz : (Y ++ [c]).head? = some z) (hno : ∀ j, (z :: M)[j]? = some c → (z :: M)[j + 1]? = some p → False) :
    ∃ Y', W1 = Y' ++ c :: p :: B ∧ trun (Y ++ [c]) S M = some (Y' ++ [c], S1) := by
  induction M generalizing Y S z with
  | nil => simp [trun] at h; exact ⟨Y, h.1.symm, by simp [trun, h.2]⟩
  | cons v M ih =>
    have hno' : ∀ j, (v :: M)[j]? = some c → (v :: M)[j + 1]? = some p → False := fun j h1 h2 => hno (j + 1) (by simpa using h1) (by simpa using h2)
    have hsame : Y ≠ [] → isUp (Y ++ c :: p :: B) v = isUp (Y ++ [c]) v := by
      intro hY
      match Y, hY with
      | [y], _ => rfl
      | y :: y2 :: Y, _ => rfl
    rcases trun_cons h with ⟨hu, h1⟩ | ⟨hu, hv, h1⟩
    · cases Y with
      | nil =>
        simp [isUp] at hu
        simp at hz
        exact absurd (hno 0 (by simp [hz]) (by simp [hu])) (by simp)
      | cons y Y =>
        have hu2 : isUp (y :: Y ++ [c]) v = true := by rw [← hsame (by simp)]; exact hu
        obtain ⟨Y', e1, e2⟩ := ih (Y := Y) h1 (z := v) (by obtain ⟨c2, q2, e⟩ := isUp_some hu2; simp at e; rw [e.2]; rfl) hno'
        exact ⟨Y', e1, by rw [trun_up hu2]; exact e2⟩
    · have hu2 : isUp (Y ++ [c]) v = false := by
        cases Y with
        | nil => rfl
        | cons y Y => rw [← hsame (by simp)]; exact hu
      obtain ⟨Y', e1, e2⟩ := ih (Y := v :: Y) h1 (z := v) (by simp) hno'
      exact ⟨Y', e1, by rw [trun_down hu2 hv]; exact e2⟩

/-- the two parts of a tour that is split between p and c, p above c -/
structure SpIs (t a b : List Int) (p c : Int) : Prop where
  oka : tB a = true
  okb : tB b = true
  apart : ∀ x ∈ b, x ∉ a
  low : c ∈ b
  high : p ∈ a
  mem : ∀ x, x ∈ t ↔ x ∈ a ∨ x ∈ b
  fst : a[0]? = t[0]?
  len : a.length + b.length + 1 = t.length
theorem split_is {t : List Int} {p c : Int} {d q : Nat} (hB : tB t = true) (h1 : t[d]? = some p) (h2 : t[d + 1]? = some c) (h4 : t[q + 1]? = some p) (hdq : d < q)
    (hno : ∀ j, j < q → t[j]? = some c → t[j + 1]? = some p → False) : SpIs t (t.take (d + 1) ++ t.drop (q + 2)) ((t.take (q + 1)).drop (d + 1)) p c := by
  have hql := (List.getElem?_eq_some_iff.1 h4).1
  obtain ⟨hv, x, s, hrun⟩ := (tB_iff t).1 hB
  obtain ⟨A, hA⟩ : ∃ A, A = t.take (d + 1) := ⟨_, rfl⟩
  obtain ⟨M, hM⟩ : ∃ M, M = (t.take (q + 1)).drop (d + 2) := ⟨_, rfl⟩
  obtain ⟨D, hD⟩ : ∃ D, D = t.drop (q + 2) := ⟨_, rfl⟩
  have hb : (t.take (q + 1)).drop (d + 1) = c :: M := by
    rw [List.drop_eq_getElem_cons (by simp; omega), hM]
    congr 1
    rw [List.getElem?_eq_getElem (by omega)] at h2
    simpa using h2
  have hAp : A = t.take d ++ [p] := by rw [hA]; exact take_snocF t d p h1
  have ht : t = A ++ (c :: M ++ (p :: D)) := by
    have e1 : t = t.take (q + 1) ++ t.drop (q + 1) := (List.take_append_drop _ _).symm
    have e2 : t.drop (q + 1) = p :: D := by
      rw [List.drop_eq_getElem_cons (by omega), hD]
      congr 1
      rw [List.getElem?_eq_getElem (by omega)] at h4
      simpa using h4
    have e3 : t.take (q + 1) = (t.take (q + 1)).take (d + 1) ++ (t.take (q + 1)).drop (d + 1) := (List.take_append_drop _ _).symm
    rw [List.take_take, Nat.min_eq_left (by omega), hb, ← hA] at e3
    rw [e2, e3, List.append_assoc] at e1
    exact e1
  have hbl : (c :: M).length = q - d := by rw [← hb]; simp; omega
  have hat : ∀ j, j < q - d → (c :: M)[j]? = t[d + 1 + j]? := fun j hj => by
    rw [← hb, List.getElem?_drop, List.getElem?_take_of_lt (by omega)]
  rw [hb, ← hA, ← hD]
  rw [ht, trun_append] at hrun
  cases hq0 : trun [] [] A with
  | none => rw [hq0] at hrun; simp at hrun
  | some z =>
    obtain ⟨w, s0⟩ := z
    rw [hq0] at hrun
    simp only [Option.bind_some] at hrun
    have htop : w.head? = some p := by rw [hAp] at hq0; exact trun_top hq0
    obtain ⟨hs0, hw0⟩ := trun_seen hq0 (by simp)
    have hs0' : ∀ y, y ∈ s0 ↔ y ∈ A := fun y => by rw [hs0]; simp
    have hwn := trun_way hq0 (by simp) (by simp)
    have hpA : p ∈ A := by rw [hAp]; simp
    cases w with
    | nil => simp at htop
    | cons p' B =>
      simp at htop
      subst htop
      rcases trun_cons hrun with ⟨hu, _⟩ | ⟨hu, hcs, h5⟩
      · obtain ⟨c2, Z, e⟩ := isUp_some hu
        simp at e
        have hadj := adj_run (x := []) hq0 (fun A c p B e => by simp at e) rfl
        rw [List.nil_append] at hadj
        obtain ⟨j, hj⟩ := hadj [] p' c Z (by rw [e.2]; rfl)
        simp [goP] at hj
        have hj1 := (List.getElem?_eq_some_iff.1 hj.2).1
        rw [hA] at hj hj1
        simp at hj1
        rw [List.getElem?_take_of_lt (by omega), List.getElem?_take_of_lt (by omega)] at hj
        exact absurd (hno j (by omega) hj.1 hj.2) (by simp)
      · have hcw : (c :: p' :: B).Nodup := List.nodup_cons.2 ⟨fun h => hcs (hw0 c h), hwn⟩
        have hws : ∀ y ∈ c :: p' :: B, y ∈ c :: s0 := fun y hy => by
          rcases List.mem_cons.1 hy with rfl | hy
          · simp
          · exact List.mem_cons_of_mem _ (hw0 y hy)
        change trun (c :: p' :: B) (c :: s0) (M ++ (p' :: D)) = some ([x], s) at h5
        rw [trun_append] at h5
        cases hqM : trun (c :: p' :: B) (c :: s0) M with
        | none => rw [hqM] at h5; simp at h5
        | some z =>
          obtain ⟨w1, s1⟩ := z
          rw [hqM] at h5
          simp only [Option.bind_some] at h5
          obtain ⟨hs1, _⟩ := trun_seen hqM hws
          have hw1n := trun_way hqM hcw hws
          obtain ⟨Y', e1, e2⟩ := trun_above (Y := []) (z := c) hqM rfl (fun j ha hb2 => by
            have hj2 : j + 1 < q - d := by have := (List.getElem?_eq_some_iff.1 hb2).1; omega
            rw [hat j (by omega)] at ha
            rw [hat (j + 1) hj2] at hb2
            exact hno (d + 1 + j) (by omega) ha (by rw [show d + 1 + j + 1 = d + 1 + (j + 1) by omega]; exact hb2))
          have hcp : c ≠ p' := fun e => hcs (by rw [e]; exact (hs0' p').2 hpA)
          have hps1 : p' ∈ s1 := (hs1 p').2 (.inl (List.mem_cons_of_mem _ ((hs0' p').2 hpA)))
          have hY : Y' = [] := by
            rcases trun_cons h5 with ⟨hu2, _⟩ | ⟨_, hn, _⟩
            · cases Y' with
              | nil => rfl
              | cons y Y' =>
                exfalso
                rw [e1] at hu2 hw1n
                cases Y' with
                | nil => simp [isUp] at hu2; exact hcp hu2
                | cons y2 Y' =>
                  simp [isUp] at hu2
                  subst hu2
                  simp at hw1n
            · exact absurd hps1 hn
          subst hY
          rw [List.nil_append] at e1 e2
          subst e1
          have h6 : trun (p' :: B) s1 D = some ([x], s) := by
            rcases trun_cons h5 with ⟨_, h6⟩ | ⟨_, hn, _⟩
            · exact h6
            · exact absurd hps1 hn
          have e2' : trun [c] (c :: s0) M = some ([c], s1) := e2
          have hMs : ∀ y ∈ M, y ∉ s0 := trun_avoid e2' (X := fun y => y ∈ s0) (fun y hy => List.mem_cons_of_mem _ hy) (fun y hy => by simp at hy; subst hy; exact hcs)
          have hbs : ∀ y ∈ c :: M, y ∉ s0 := fun y hy => by
            rcases List.mem_cons.1 hy with rfl | hy
            · exact hcs
            · exact hMs y hy
          have hDb : ∀ y ∈ D, y ∉ c :: M := trun_avoid h6 (X := fun y => y ∈ c :: M) (fun y hy => (hs1 y).2 (by
              rcases List.mem_cons.1 hy with rfl | hy
              · exact .inl (by simp)
              · exact .inr hy)) (fun y hy h7 => hbs y h7 (hw0 y hy))
          have hvt : ∀ y, (y ∈ A ∨ y ∈ c :: M ∨ y ∈ D) → vB y = true := fun y hy => hv y (by
            rw [ht]
            simp at hy ⊢
            rcases hy with h | (h | h) | h <;> simp [h])
          refine ⟨?_, ?_, ?_, by simp, by simp [hpA], fun y => ?_, ?_, ?_⟩
          · obtain ⟨s2, h7⟩ := trun_less h6 (s' := s0) (fun y hy => (hs1 y).2 (.inl (List.mem_cons_of_mem _ hy)))
            refine (tB_iff _).2 ⟨fun y hy => hvt y ?_, x, s2, by rw [trun_append, hq0]; exact h7⟩
            simp at hy
            rcases hy with h | h <;> simp [h]
          · obtain ⟨s2, h7⟩ := trun_less e2' (s' := [c]) (fun y hy => by simp at hy; simp [hy])
            exact tB_of (fun y hy => hvt y (.inr (.inl hy))) h7
          · intro y hy h7
            rw [List.mem_append] at h7
            rcases h7 with h7 | h7
            · exact hbs y hy ((hs0' y).2 h7)
            · exact hDb y h7 hy
          · rw [ht]
            simp
            constructor
            · rintro (h | h | h | h | h)
              · simp [h]
              · simp [h]
              · simp [h]
              · rw [h]; simp [hpA]
              · simp [h]
            · rintro ((h | h) | h | h) <;> simp [h]
          · rw [hA, List.getElem?_append_left (by simp; omega), List.getElem?_take_of_lt (by omega)]
          · have e3 := congrArg List.length ht
            simp at e3 ⊢
            omega

/-- two tours of different vertices, joined -/
theorem join_is {a r : List Int} {u : Int} {k : Nat} (ha : tB a = true) (hr : tB r = true) (hap : ∀ x ∈ r, x ∉ a) (hk : a[k]? = some u) :
    tB (joT a k r) = true ∧ (joT a k r).length = a.length + r.length + 1 ∧ ∀ x, x ∈ joT a k r ↔ x ∈ a ∨ x ∈ r := by
  have hkl := (List.getElem?_eq_some_iff.1 hk).1
  have ej : joT a k r = a.take (k + 1) ++ (r ++ a.drop k) := rfl
  have ed : a.drop k = u :: a.drop (k + 1) := by
    rw [List.drop_eq_getElem_cons hkl]
    congr 1
    rw [List.getElem?_eq_getElem hkl] at hk
    simpa using hk
  have et : a.take (k + 1) = a.take k ++ [u] := take_snocF a k u hk
  have ea : a = a.take (k + 1) ++ a.drop (k + 1) := (List.take_append_drop _ _).symm
  have hua : u ∈ a := List.mem_of_getElem? hk
  obtain ⟨hva, x, s, hrun⟩ := (tB_iff a).1 ha
  obtain ⟨v', r', sr, er, hr2, hvr, _⟩ := tB_open hr
  refine ⟨?_, by rw [ej]; simp; omega, fun y => ?_⟩
  · rw [ea, trun_append] at hrun
    cases hq : trun [] [] (a.take (k + 1)) with
    | none => rw [hq] at hrun; simp at hrun
    | some z =>
      obtain ⟨w, s0⟩ := z
      rw [hq] at hrun
      simp only [Option.bind_some] at hrun
      have htop : w.head? = some u := by rw [et] at hq; exact trun_top hq
      obtain ⟨hs0, hw0⟩ := trun_seen hq (by simp)
      have hs0a : ∀ y ∈ s0, y ∈ a := fun y hy => by
        have := (hs0 y).1 hy
        simp at this
        exact List.mem_of_mem_take this
      cases w with
      | nil => simp at htop
      | cons u' B =>
        simp at htop
        subst htop
        have hvs : v' ∉ s0 := fun h => hap v' (by rw [er]; simp) (hs0a _ h)
        have hup : isUp (u' :: B) v' = false := by
          cases h : isUp (u' :: B) v' with
          | false => rfl
          | true => exact absurd (hw0 _ (isUp_mem h)) hvs
        have hr'a : ∀ y ∈ r', y ∉ a := fun y hy => hap y (by rw [er]; simp [hy])
        obtain ⟨s2, h3⟩ := trun_over (E := u' :: B) (s' := v' :: s0) hr2 (by simp) (fun y hy => by
            rcases List.mem_cons.1 hy with rfl | hy
            · exact .inl (by simp)
            · exact .inr (fun h => hr'a y h (hs0a y hy))) (fun y hy => .inr (fun h => hr'a y h (hs0a y (hw0 y hy))))
        obtain ⟨hs2, _⟩ := trun_seen h3 (fun y hy => by
          simp at hy ⊢
          rcases hy with h | h | h
          · exact .inl h
          · exact .inr (hw0 y (by simp [h]))
          · exact .inr (hw0 y (by simp [h])))
        obtain ⟨s3, h4⟩ := trun_over (E := []) (s' := s2) hrun (by simp) (fun y hy => by
          rcases (hs2 y).1 hy with h | h
          · rcases List.mem_cons.1 h with rfl | h
            · exact .inr (fun h5 => hap _ (by rw [er]; simp) (List.mem_of_mem_drop h5))
            · exact .inl h
          · exact .inr (fun h5 => hr'a y h (List.mem_of_mem_drop h5))) (by simp)
        refine (tB_iff _).2 ⟨fun y hy => ?_, x, s3, ?_⟩
        · rw [ej] at hy
          simp only [List.mem_append] at hy
          rcases hy with h | h | h
          · exact hva y (List.mem_of_mem_take h)
          · exact hvr y h
          · exact hva y (List.mem_of_mem_drop h)
        · rw [ej, ed, er, trun_append, hq, Option.bind_some, List.cons_append, trun_down hup hvs, trun_append]
          rw [show v' :: u' :: B = [v'] ++ u' :: B from rfl, h3, Option.bind_some]
          rw [trun_up (by simp [isUp])]
          simpa using h4
  · rw [ej]
    simp only [List.mem_append]
    constructor
    · rintro (h | h | h)
      · exact .inl (List.mem_of_mem_take h)
      · exact .inr h
      · exact .inl (List.mem_of_mem_drop h)
    · rintro (h | h)
      · rw [ea, List.mem_append] at h
        rcases h with h | h
        · exact .inl h
        · exact .inr (.inr (by rw [ed]; simp [h]))
      · exact .inr (.inl h)
end Go.Proofs.YtklalfkdikjkfaaGreat
namespace Go.Proofs.YtklalfkdikjkfaaGreat

theorem no_stay {t : List Int} {x : Int} {j : Nat} (hB : tB t = true) (h1 : t[j]? = some x) (h2 : t[j + 1]? = some x) : False := by
  obtain ⟨_, x0, s0, hrun⟩ := (tB_iff t).1 hB
  have hj := (List.getElem?_eq_some_iff.1 h2).1
  have e1 : t = t.take (j + 1) ++ (x :: t.drop (j + 2)) := by
    have := List.take_append_drop (j + 1) t
    rw [List.drop_eq_getElem_cons hj] at this
    rw [List.getElem?_eq_getElem hj] at h2
    simp at h2
    rw [h2] at this
    exact this.symm
  have e2 : t.take (j + 1) = t.take j ++ [x] := take_snocF t j x h1
  rw [e1, trun_append] at hrun
  cases hq : trun [] [] (t.take (j + 1)) with
  | none => rw [hq] at hrun; simp at hrun
  | some z =>
    obtain ⟨w, s⟩ := z
    rw [hq] at hrun
    simp only [Option.bind_some] at hrun
    have htop : w.head? = some x := by rw [e2] at hq; exact trun_top hq
    obtain ⟨_, hw⟩ := trun_seen hq (by simp)
    have hn := trun_way hq (by simp) (by simp)
    rcases trun_cons hrun with ⟨hu, _⟩ | ⟨_, hs, _⟩
    · obtain ⟨c, z, rfl⟩ := isUp_some hu
      simp at htop
      subst htop
      simp at hn
    · cases w with
      | nil => simp at htop
      | cons c z => simp at htop; subst htop; exact hs (hw c (by simp))
theorem spl_is {t : List Int} {u v : Int} {k : Nat} (hB : tB t = true) (h1 : t[k]? = some u) (h2 : t[k + 1]? = some v) :
    ∃ A B p c, spO t u v = (A, B, true) ∧ spO t v u = (A, B, true) ∧ SpIs t A B p c ∧ ((u = p ∧ v = c) ∨ (u = c ∧ v = p)) := by
  rcases go_at (t := t) (u := u) (v := v) with ⟨k1, e1, _, a1, a2, a3⟩ | ⟨_, hn⟩
  · rcases go_at (t := t) (u := v) (v := u) with ⟨k2, e2, _, b1, b2, b3⟩ | ⟨_, hn⟩
    · have hne : k1 ≠ k2 := fun e => by
        subst e
        rw [a1] at b1
        simp at b1
        subst b1
        exact no_stay hB a1 a2
      have hs1 : spO t u v = spT t (min k1 k2) (max k1 k2) := by
        unfold spO
        rw [if_pos ⟨hB, by rw [e1]; omega⟩, e1, e2]
        congr 1
        · omega
        · omega
      have hs2 : spO t v u = spT t (min k1 k2) (max k1 k2) := by
        unfold spO
        rw [if_pos ⟨hB, by rw [e2]; omega⟩, e1, e2]
        congr 1
        · omega
        · omega
      rcases Nat.lt_or_gt_of_ne hne with h | h
      · rw [Nat.min_eq_left (by omega), Nat.max_eq_right (by omega)] at hs1 hs2
        refine ⟨_, _, u, v, hs1, hs2, split_is hB a1 a2 b2 h (fun j hj x1 x2 => ?_), .inl ⟨rfl, rfl⟩⟩
        have := b3 j hj
        simp [goP, x1, x2] at this
      · rw [Nat.min_eq_right (by omega), Nat.max_eq_left (by omega)] at hs1 hs2
        refine ⟨_, _, v, u, hs1, hs2, split_is hB b1 b2 a2 h (fun j hj x1 x2 => ?_), .inr ⟨rfl, rfl⟩⟩
        have := a3 j hj
        simp [goP, x1, x2] at this
    · obtain ⟨j, hj⟩ := go_back hB h1 h2
      have hj1 : j + 1 < t.length := by
        simp [goP] at hj
        exact (List.getElem?_eq_some_iff.1 hj.2).1
      rw [hn j hj1] at hj
      simp at hj
  · have := hn k (List.getElem?_eq_some_iff.1 h2).1
    simp [goP, h1, h2] at this
theorem jo_is {t A B : List Int} {p c : Int} (h : SpIs t A B p c) : ∃ J, joO A p B c = some J ∧ tB J = true ∧ J.length = t.length ∧ ∀ x, x ∈ J ↔ x ∈ t := by
  obtain ⟨k, hk, hkl, hkp⟩ := lst_mem h.high
  obtain ⟨r, hr, HR⟩ := re_is h.okb h.low
  obtain ⟨_, _, er⟩ := reO_some hr
  have hcom : comB A B = false := comB_no fun j hj => by
    rw [comP_at (List.getElem?_eq_getElem hj)]
    exact decide_eq_false fun hx => h.apart _ hx (List.getElem_mem hj)
  obtain ⟨j1, j2, j3⟩ := join_is h.oka HR.ok (fun x hx => h.apart x ((HR.mem x).1 hx)) hkp
  refine ⟨joT A k r, ?_, j1, ?_, fun x => ?_⟩
  · unfold joO
    rw [if_pos ⟨⟨h.oka, h.okb⟩, ⟨h.high, h.low⟩, hcom⟩, hk, ← er]
    rfl
  · rw [j2, HR.len]; have := h.len; omega
  · rw [j3, HR.mem, h.mem]
theorem spl_no {t : List Int} (hB : tB t = true) (hl : t.length < 3) (u v : Int) : spO t u v = ([], [], false) := by
  unfold spO
  rw [if_neg]
  rintro ⟨_, h0⟩
  rcases go_at (t := t) (u := u) (v := v) with ⟨k1, _, h1, _⟩ | ⟨e, _⟩
  · rcases tour_ring hB with ⟨x, rfl⟩ | ⟨c, d, m, rfl⟩
    · simp at h1
    · simp at hl; omega
  · omega
end Go.Proofs.YtklalfkdikjkfaaGreat
namespace Go.Proofs.YtklalfkdikjkfaaGreat
open Go.RowKit

theorem nd_sub {α : Type} [DecidableEq α] : ∀ {a b : List α}, a.Nodup → (∀ x ∈ a, x ∈ b) → a.length ≤ b.length
  | [], _, _, _ => by simp
  | x :: a, b, hn, h => by
    have hn' := List.nodup_cons.1 hn
    have h1 := nd_sub (b := b.erase x) hn'.2 fun y hy => by
      have hne : y ≠ x := fun e => hn'.1 (e ▸ hy)
      exact (List.mem_erase_of_ne hne).2 (h y (by simp [hy]))
    have h2 := List.length_erase_of_mem (h x (by simp))
    have h3 := List.length_pos_of_mem (h x (by simp))
    simp only [List.length_cons]
    omega
theorem vs_nodup (t : List Int) : (vsL t).Nodup := (vsK_asc t 12).imp fun h e => by omega
theorem cnt_two {a b J : List Int} (hap : Apart a b) (h : ∀ x, x ∈ J ↔ x ∈ a ∨ x ∈ b) : (vsL J).length = (vsL a).length + (vsL b).length := by
  have hn : (vsL a ++ vsL b).Nodup := by
    rw [List.nodup_append]
    exact ⟨vs_nodup a, vs_nodup b, fun x hx y hy e => hap x ((vsL_mem a x).1 hx).2 (e ▸ ((vsL_mem b y).1 hy).2)⟩
  have hm : ∀ x, x ∈ vsL J ↔ x ∈ vsL a ++ vsL b := fun x => by
    rw [List.mem_append, vsL_mem, vsL_mem, vsL_mem, h]
    constructor
    · rintro ⟨h1, h2 | h2⟩
      · exact .inl ⟨h1, h2⟩
      · exact .inr ⟨h1, h2⟩
    · rintro (⟨h1, h2⟩ | ⟨h1, h2⟩)
      · exact ⟨h1, .inl h2⟩
      · exact ⟨h1, .inr h2⟩
  have h1 := nd_sub (vs_nodup J) fun x hx => (hm x).1 hx
  have h2 := nd_sub hn fun x hx => (hm x).2 hx
  rw [List.length_append] at h1 h2
  omega

/-- two tours side by side, joined: what comes of it, and where it goes from u to v and back -/
structure JoIs (a b : List Int) (u v : Int) (J : List Int) : Prop where
  ok : tB J = true
  len : J.length = a.length + b.length + 1
  mem : ∀ x, x ∈ J ↔ x ∈ a ∨ x ∈ b
  step : ∃ k : Nat, J[k]? = some u ∧ J[k + 1]? = some v
  back : ∃ r, ReIs b v r ∧ spO J u v = (a, r, true)
theorem jo_two {a b : List Int} {u v : Int} (ha : tB a = true) (hb : tB b = true) (hap : Apart a b) (hu : u ∈ a) (hv : v ∈ b) : ∃ J, joO a u b v = some J ∧ JoIs a b u v J := by
  obtain ⟨k, hk, hkl, hkp⟩ := lst_mem hu
  obtain ⟨r, hr, HR⟩ := re_is hb hv
  obtain ⟨_, _, er⟩ := reO_some hr
  have hapr : ∀ x ∈ r, x ∉ a := fun x hx hxa => hap x hxa ((HR.mem x).1 hx)
  have hcom : comB a b = false := comB_no fun j hj => by
    rw [comP_at (List.getElem?_eq_getElem hj)]
    exact decide_eq_false fun hx => hap _ (List.getElem_mem hj) hx
  obtain ⟨j1, j2, j3⟩ := join_is ha HR.ok hapr hkp
  have hrl : 0 < r.length := tB_pos HR.ok
  have hl1 : (a.take (k + 1)).length = k + 1 := by simp; omega
  have g1 : (joT a k r)[k]? = some u := by
    unfold joT
    rw [List.getElem?_append_left (by omega), List.getElem?_take_of_lt (by omega)]
    exact hkp
  have g2 : (joT a k r)[k + 1]? = some v := by
    unfold joT
    rw [List.getElem?_append_right (by omega), hl1, Nat.sub_self, List.getElem?_append_left hrl]
    exact HR.fst
  refine ⟨joT a k r, ?_, j1, by rw [j2, HR.len], fun x => by rw [j3, HR.mem], ⟨k, g1, g2⟩, r, HR, ?_⟩
  · unfold joO
    rw [if_pos ⟨⟨ha, hb⟩, ⟨hu, hv⟩, hcom⟩, hk, ← er]
    rfl
  · have hlow : ∀ i x, i ≤ k → (joT a k r)[i]? = some x → x ∈ a := fun i x hi hx => by
      unfold joT at hx
      rw [List.getElem?_append_left (by omega)] at hx
      exact List.mem_of_mem_take (List.mem_of_getElem? hx)
    have hmid : ∀ i x, k < i → i ≤ k + r.length → (joT a k r)[i]? = some x → x ∈ r := fun i x h1 h2 hx => by
      unfold joT at hx
      rw [List.getElem?_append_right (by omega), List.getElem?_append_left (by omega)] at hx
      exact List.mem_of_getElem? hx
    have hhigh : ∀ i x, k + r.length < i → (joT a k r)[i]? = some x → x ∈ a := fun i x h1 hx => by
      unfold joT at hx
      rw [List.getElem?_append_right (by omega), List.getElem?_append_right (by omega)] at hx
      exact List.mem_of_mem_drop (List.mem_of_getElem? hx)
    have hva : v ∉ a := fun h => hap v h hv
    have hur : u ∉ r := fun h => hapr u h hu
    have hone : ∀ i, (joT a k r)[i]? = some u → (joT a k r)[i + 1]? = some v → i = k := fun i h1 h2 => by
      by_cases c1 : i < k
      · exact absurd (hlow (i + 1) v (by omega) h2) hva
      · by_cases c2 : i = k
        · exact c2
        · by_cases c3 : i ≤ k + r.length
          · exact absurd (hmid i u (by omega) c3 h1) hur
          · exact absurd (hhigh (i + 1) v (by omega) h2) hva
    have htwo : ∀ i, (joT a k r)[i]? = some v → (joT a k r)[i + 1]? = some u → i = k + r.length := fun i h1 h2 => by
      by_cases c1 : i ≤ k
      · exact absurd (hlow i v c1 h1) hva
      · by_cases c2 : i < k + r.length
        · exact absurd (hmid (i + 1) u (by omega) (by omega) h2) hur
        · by_cases c3 : i = k + r.length
          · exact c3
          · exact absurd (hhigh i v (by omega) h1) hva
    have e1 : goI (joT a k r) u v = (k : Int) := by
      rcases go_at (t := joT a k r) (u := u) (v := v) with ⟨k1, e1, _, a1, a2, _⟩ | ⟨_, hn⟩
      · rw [e1, hone k1 a1 a2]
      · have := hn k (List.getElem?_eq_some_iff.1 g2).1
        simp [goP, g1, g2] at this
    have e2 : goI (joT a k r) v u = ((k + r.length : Nat) : Int) := by
      obtain ⟨p, e2, _, _⟩ := go_both j1 e1
      rcases go_at (t := joT a k r) (u := v) (v := u) with ⟨k2, e3, _, b1, b2, _⟩ | ⟨e3, _⟩
      · rw [e3, htwo k2 b1 b2]
      · omega
    unfold spO
    rw [if_pos ⟨j1, by rw [e1]; omega⟩, e1, e2, show (min (k : Int) ((k + r.length : Nat) : Int)).toNat = k by omega, show (max (k : Int) ((k + r.length : Nat) : Int)).toNat = k + r.length by omega]
    unfold spT
    have x1 : (joT a k r).take (k + 1) = a.take (k + 1) := by
      unfold joT
      rw [List.take_append_of_le_length (by omega), List.take_take, Nat.min_self]
    have x2 : (joT a k r).drop (k + r.length + 2) = a.drop (k + 1) := by
      unfold joT
      rw [List.drop_append, hl1, List.drop_append, List.drop_of_length_le (by omega), List.drop_of_length_le (by omega), List.drop_drop, List.nil_append, List.nil_append]
      congr 1
      omega
    have x3 : ((joT a k r).take (k + r.length + 1)).drop (k + 1) = r := by
      unfold joT
      rw [List.take_append, hl1, List.take_of_length_le (by omega), show k + r.length + 1 - (k + 1) = r.length by omega, List.take_append_of_le_length (Nat.le_refl _), List.take_of_length_le (Nat.le_refl _), List.drop_append, hl1, List.drop_of_length_le (by omega)]
      simp
    rw [x1, x2, x3, List.take_append_drop]

/-- those of the first k tours whose place is not in out -/
def woK (ts : List (List Int)) (out : List Nat) : Nat → List (List Int)
  | 0 => []
  | k + 1 => woK ts out k ++ (if k ∈ out then [] else ts[k]?.toList)
theorem wo_one {ts : List (List Int)} {i : Nat} {t : List Int} (hi : ts[i]? = some t) (k : Nat) : ((if i < k then [t] else []) ++ woK ts [i] k).Perm (ts.take k) := by
  induction k with
  | zero => simp [woK]
  | succ k ih =>
    rw [List.take_add_one]
    simp only [woK, List.mem_singleton]
    by_cases e : k = i
    · subst e
      rw [if_neg (by omega), List.nil_append] at ih
      rw [if_pos (by omega), if_pos rfl, List.append_nil, hi]
      exact (List.perm_append_comm (l₁ := [t])).trans (ih.append_right [t])
    · rw [if_neg e, ← List.append_assoc]
      have e2 : (if i < k + 1 then [t] else []) = (if i < k then [t] else []) := by
        by_cases h : i < k
        · rw [if_pos h, if_pos (by omega)]
        · rw [if_neg h, if_neg (by omega)]
      rw [e2]
      exact ih.append_right _
theorem wo_two {ts : List (List Int)} {i j : Nat} {s t : List Int} (hi : ts[i]? = some s) (hj : ts[j]? = some t) (hij : i ≠ j) (k : Nat) : ((if i < k then [s] else []) ++ (if j < k then [t] else []) ++ woK ts [i, j] k).Perm (ts.take k) := by
  induction k with
  | zero => simp [woK]
  | succ k ih =>
    rw [List.take_add_one]
    simp only [woK, List.mem_cons, List.not_mem_nil, or_false]
    by_cases e : k = i
    · subst e
      rw [if_neg (by omega), List.nil_append] at ih
      have e2 : (if j < k + 1 then [t] else []) = (if j < k then [t] else []) := by
        by_cases h : j < k
        · rw [if_pos h, if_pos (by omega)]
        · rw [if_neg h, if_neg (by omega)]
      rw [if_pos (show k < k + 1 by omega), e2, if_pos (show k = k ∨ k = j from .inl rfl), List.append_nil, hi, List.append_assoc]
      exact (List.perm_append_comm (l₁ := [s])).trans (ih.append_right [s])
    · have e3 : (if i < k + 1 then [s] else []) = (if i < k then [s] else []) := by
        by_cases h : i < k
        · rw [if_pos h, if_pos (by omega)]
        · rw [if_neg h, if_neg (by omega)]
      by_cases f : k = j
      · subst f
        rw [if_neg (show ¬ k < k by omega), List.append_nil] at ih
        rw [e3, if_pos (show k < k + 1 by omega), if_pos (show k = i ∨ k = k from .inr rfl), List.append_nil, hj]
        have p1 : ((if i < k then [s] else []) ++ [t] ++ woK ts [i, k] k).Perm ((if i < k then [s] else []) ++ woK ts [i, k] k ++ [t]) := by
          rw [List.append_assoc, List.append_assoc]
          exact List.perm_append_comm.append_left _
        exact p1.trans (ih.append_right [t])
      · have e4 : (if j < k + 1 then [t] else []) = (if j < k then [t] else []) := by
          by_cases h : j < k
          · rw [if_pos h, if_pos (by omega)]
          · rw [if_neg h, if_neg (by omega)]
        rw [e3, e4, if_neg (show ¬ (k = i ∨ k = j) by omega), ← List.append_assoc]
        exact ih.append_right _
theorem wo_one_all {ts : List (List Int)} {i : Nat} {t : List Int} (hi : ts[i]? = some t) : (t :: woK ts [i] ts.length).Perm ts := by
  have h := wo_one hi ts.length
  rw [if_pos (List.getElem?_eq_some_iff.1 hi).1, List.take_length] at h
  exact h
theorem wo_two_all {ts : List (List Int)} {i j : Nat} {s t : List Int} (hi : ts[i]? = some s) (hj : ts[j]? = some t) (hij : i ≠ j) : (s :: t :: woK ts [i, j] ts.length).Perm ts := by
  have h := wo_two hi hj hij ts.length
  rw [if_pos (List.getElem?_eq_some_iff.1 hi).1, if_pos (List.getElem?_eq_some_iff.1 hj).1, List.take_length] at h
  exact h
/-- two tours in the place of which their join stands -/
theorem FQ.join {N : Int} {a b J : List Int} {W : List (List Int)} (h : FQ N (a :: b :: W)) (hJ : tB J = true) (hm : ∀ x, x ∈ J ↔ x ∈ a ∨ x ∈ b) : FQ N (W ++ [J]) := by
  obtain ⟨h1, h2, h3⟩ := h
  rw [List.pairwise_cons, List.pairwise_cons] at h2
  obtain ⟨p1, p2, p3⟩ := h2
  have hab : Apart a b := p1 b (by simp)
  refine FQ.perm (a := J :: W) ⟨fun t ht => ?_, ?_, ?_⟩ (List.perm_append_comm (l₁ := [J]))
  · rcases List.mem_cons.1 ht with rfl | ht
    · refine ⟨hJ, fun x hx => ?_⟩
      rcases (hm x).1 hx with hx | hx
      · exact (h1 a (by simp)).2 x hx
      · exact (h1 b (by simp)).2 x hx
    · exact h1 t (by simp [ht])
  · rw [List.pairwise_cons]
    refine ⟨fun t ht x hx => ?_, p3⟩
    rcases (hm x).1 hx with hx | hx
    · exact p1 t (by simp [ht]) x hx
    · exact p2 t ht x hx
  · rw [← h3]
    have := cnt_two hab hm
    simp only [cnt, List.map_cons, List.sum_cons]
    omega
/-- a tour in the place of which its two parts stand -/
theorem FQ.split {N : Int} {t a b : List Int} {p c : Int} {W : List (List Int)} (h : FQ N (t :: W)) (hs : SpIs t a b p c) : FQ N (W ++ [a, b]) := by
  obtain ⟨h1, h2, h3⟩ := h
  rw [List.pairwise_cons] at h2
  obtain ⟨p1, p2⟩ := h2
  have hab : Apart a b := Apart.symm fun x hx => hs.apart x hx
  refine FQ.perm (a := a :: b :: W) ⟨fun s hs' => ?_, ?_, ?_⟩ (List.perm_append_comm (l₁ := [a, b]))
  · rcases List.mem_cons.1 hs' with rfl | hs'
    · exact ⟨hs.oka, fun x hx => (h1 t (by simp)).2 x ((hs.mem x).2 (.inl hx))⟩
    · rcases List.mem_cons.1 hs' with rfl | hs'
      · exact ⟨hs.okb, fun x hx => (h1 t (by simp)).2 x ((hs.mem x).2 (.inr hx))⟩
      · exact h1 s (by simp [hs'])
  · rw [List.pairwise_cons, List.pairwise_cons]
    refine ⟨fun s hs' x hx => ?_, fun s hs' x hx => p1 s hs' x ((hs.mem x).2 (.inr hx)), p2⟩
    rcases List.mem_cons.1 hs' with rfl | hs'
    · exact hab x hx
    · exact p1 s hs' x ((hs.mem x).2 (.inl hx))
  · rw [← h3]
    have := cnt_two hab hs.mem
    simp only [cnt, List.map_cons, List.sum_cons]
    omega
end Go.Proofs.YtklalfkdikjkfaaGreat
namespace Go.Proofs.YtklalfkdikjkfaaGreat
open Go.RowKit

/-- an edge -/
abbrev EdgeV := Int × Int

/-- the edge is right -/
def eB (n : Int) (e : EdgeV) : Bool := decide (1 ≤ n ∧ n ≤ 12 ∧ 0 ≤ e.1 ∧ e.1 < e.2 ∧ e.2 < n)

theorem sEdgeOk_any (n : Int) (e : EdgeV) (w : World) :
    Calls Tryz.prog 79 #[.int .i64 n, .agg #[.int .i64 e.1, .int .i64 e.2]] w fun x w' => x = .returned (.bool (eB n e)) ∧ Below w.heap.size w w' := by
  obtain ⟨a, b⟩ := e
  dsimp only
  have HI := hideIt l01In_any
  by_cases h1 : 1 ≤ n ∧ n ≤ 12
  · have r1 : decide (1 ≤ n ∧ n ≤ 12) = true := by simpa using h1
    by_cases h2 : 0 ≤ a ∧ a ≤ n - 1
    · have r2 : decide (0 ≤ a ∧ a ≤ n - 1) = true := by simpa using h2
      by_cases h3 : 0 ≤ b ∧ b ≤ n - 1
      · have r3 : decide (0 ≤ b ∧ b ≤ n - 1) = true := by simpa using h3
        go_enter Tryz.func79, Tryz.ntmps79
        go_wp2_with (go_at_call 64; refine (HI.out _ _ _ _).mono ?_; rintro e w1 ⟨rfl, rfl⟩)
        go_ret
        exact ⟨bret (by dsimp only; omega), (Below.refl _ _).alloc (Nat.le_refl _) _⟩
      · have r3 : decide (0 ≤ b ∧ b ≤ n - 1) = false := by simpa using h3
        go_enter Tryz.func79, Tryz.ntmps79
        go_wp2_with (go_at_call 64; refine (HI.out _ _ _ _).mono ?_; rintro e w1 ⟨rfl, rfl⟩)
        go_ret
        exact ⟨by simp [eB]; omega, (Below.refl _ _).alloc (Nat.le_refl _) _⟩
    · have r2 : decide (0 ≤ a ∧ a ≤ n - 1) = false := by simpa using h2
      go_enter Tryz.func79, Tryz.ntmps79
      go_wp2_with (go_at_call 64; refine (HI.out _ _ _ _).mono ?_; rintro e w1 ⟨rfl, rfl⟩)
      go_ret
      exact ⟨by simp [eB]; omega, (Below.refl _ _).alloc (Nat.le_refl _) _⟩
  · have r1 : decide (1 ≤ n ∧ n ≤ 12) = false := by simpa using h1
    go_enter Tryz.func79, Tryz.ntmps79
    go_wp2_with (go_at_call 64; refine (HI.out _ _ _ _).mono ?_; rintro e w1 ⟨rfl, rfl⟩)
    go_ret
    exact ⟨by simp [eB]; omega, (Below.refl _ _).alloc (Nat.le_refl _) _⟩

/-- the list of edges es stands at a, n of them, below block B -/
def Es (w : World) (B : Nat) (a : Option Addr) (n : Nat) (es : List EdgeV) : Prop :=
  es.length = n ∧ (n = 0 ∨ ∃ b off, a = some ⟨b, off, none⟩ ∧ b < B ∧ ∀ (j : Nat) (f : EdgeV), es[j]? = some f →
    w.cell? ⟨b, off + j * 2, none⟩ = some (.int .i64 f.1) ∧ w.cell? ⟨b, off + j * 2 + 1, none⟩ = some (.int .i64 f.2))

theorem Es.alloc {w : World} {B : Nat} {a : Option Addr} {n : Nat} {fs : List EdgeV} (h : Es w B a n fs) (hB : B ≤ w.heap.size) (o : Obj) : Es (w.alloc o) B a n fs := by
  refine ⟨h.1, h.2.imp id ?_⟩
  rintro ⟨b, off, ha, hb, hc⟩
  refine ⟨b, off, ha, hb, fun j f hf => ?_⟩
  have hbl : b < w.heap.size := by omega
  obtain ⟨c0, c1⟩ := hc j f hf
  exact ⟨by rw [World.cell?_of_block (w := w) (Below.heap_alloc w o b hbl)]; exact c0, by rw [World.cell?_of_block (w := w) (Below.heap_alloc w o b hbl)]; exact c1⟩

theorem Es.below {w w' : World} {B C : Nat} {a : Option Addr} {n : Nat} {fs : List EdgeV} (h : Es w B a n fs) (hb : Below C w w') (hB : B ≤ C) : Es w' B a n fs := by
  refine ⟨h.1, h.2.imp id ?_⟩
  rintro ⟨b, off, ha, hbl, hc⟩
  refine ⟨b, off, ha, hbl, fun j f hf => ?_⟩
  obtain ⟨c0, c1⟩ := hc j f hf
  have hl : b < C := by omega
  exact ⟨by rw [hb.cell (p := ⟨b, _, none⟩) hl]; exact c0, by rw [hb.cell (p := ⟨b, _, none⟩) hl]; exact c1⟩

theorem Es.mono {w : World} {B C : Nat} {a : Option Addr} {n : Nat} {fs : List EdgeV} (h : Es w B a n fs) (hB : B ≤ C) : Es w C a n fs := by
  refine ⟨h.1, h.2.imp id ?_⟩
  rintro ⟨b, off, ha, hbl, hc⟩
  exact ⟨b, off, ha, by omega, hc⟩

theorem Es.up {w w' : World} {a : Option Addr} {n : Nat} {fs : List EdgeV} (h : Es w w.heap.size a n fs) (hb : Below w.heap.size w w') : Es w' w'.heap.size a n fs :=
  (h.below hb (Nat.le_refl _)).mono hb.size

/-- the cells of an edge -/
def ecell (f : EdgeV) : List Value := [.int .i64 f.1, .int .i64 f.2]

/-- the cells of a list of edges -/
def ecells (fs : List EdgeV) : List Value := fs.flatMap ecell

theorem ecells_length (fs : List EdgeV) : (ecells fs).length = fs.length * 2 := by
  induction fs with
  | nil => rfl
  | cons f fs ih => simp only [ecells, List.flatMap_cons, List.length_append, List.length_cons] at ih ⊢; rw [ih]; simp [ecell]; omega

theorem ecells_at (fs : List EdgeV) (j : Nat) (f : EdgeV) (h : fs[j]? = some f) :
    (ecells fs)[j * 2]? = some (.int .i64 f.1) ∧ (ecells fs)[j * 2 + 1]? = some (.int .i64 f.2) := by
  induction fs generalizing j with
  | nil => simp at h
  | cons g fs ih =>
    cases j with
    | zero => simp at h; subst h; simp [ecells, ecell]
    | succ j =>
      have h2 := ih j (by simpa using h)
      have e : ∀ m, (ecells (g :: fs))[m + 2]? = (ecells fs)[m]? := fun m => by simp [ecells, ecell]
      refine ⟨?_, ?_⟩
      · rw [show (j + 1) * 2 = j * 2 + 2 by omega, e]; exact h2.1
      · rw [show (j + 1) * 2 + 1 = j * 2 + 1 + 2 by omega, e]; exact h2.2

theorem ecells_snoc (fs : List EdgeV) (f : EdgeV) : ecells (fs ++ [f]) = ecells fs ++ [.int .i64 f.1, .int .i64 f.2] := by simp [ecells, ecell]

theorem ecells_append (fs gs : List EdgeV) : ecells (fs ++ gs) = ecells fs ++ ecells gs := by simp [ecells]

theorem infoIE : (Tryz.prog.info? 28).map (fun i => (i.zero, i.size, i.bytes)) = some (some (.agg #[.int .i64 0, .int .i64 0]), 2, 16) := by kernel_rfl

/-- a list of one's own reads as its edges -/
theorem Es_of_own {w : World} {B n c : Nat} {a : Option Addr} {fs : List EdgeV} (h : w.ownsRow B 28 2 (.slice a n c) n (ecells fs)) : Es w w.heap.size a n fs := by
  have hl := h.1
  rw [ecells_length] at hl
  refine ⟨by omega, ?_⟩
  rcases h.2 with ⟨hv, h0⟩ | ⟨g, cap, cur, hv, hrest⟩
  · exact .inl h0
  · simp at hv
    obtain ⟨rfl, rfl⟩ := hv
    by_cases h0 : n = 0
    · exact .inl h0
    · refine .inr ⟨g, 0, rfl, (h.lt g rfl).2, fun j f hf => ?_⟩
      have hj : j < fs.length := (List.getElem?_eq_some_iff.1 hf).1
      obtain ⟨c0, c1⟩ := ecells_at fs j f hf
      rw [Nat.zero_add]
      exact ⟨by rw [h.cellAt (j * 2) (by omega)]; exact c0, by rw [h.cellAt (j * 2 + 1) (by omega)]; exact c1⟩

/-- the one edge comes ahead of the other -/
def lt (d e : EdgeV) : Bool := decide (d.1 < e.1 ∨ d.1 = e.1 ∧ d.2 < e.2)

theorem l05Less_any (d e : EdgeV) (w : World) :
    Calls Tryz.prog 131 #[.agg #[.int .i64 d.1, .int .i64 d.2], .agg #[.int .i64 e.1, .int .i64 e.2]] w fun x w' => x = .returned (.bool (lt d e)) ∧ Below w.heap.size w w' := by
  obtain ⟨a, b⟩ := d
  obtain ⟨c, f⟩ := e
  dsimp only
  by_cases h1 : a < c
  · have r1 : decide (a < c) = true := by simpa using h1
    go_enter Tryz.func131, Tryz.ntmps131
    go_wp2
    go_ret
    exact ⟨by simp [lt]; omega, ((Below.refl _ _).alloc (Nat.le_refl _) _).alloc (by simp) _⟩
  · have r1 : decide (a < c) = false := by simpa using h1
    by_cases h2 : a = c
    · subst h2
      go_enter Tryz.func131, Tryz.ntmps131
      go_wp2
      go_ret
      exact ⟨bret (by dsimp only; omega), ((Below.refl _ _).alloc (Nat.le_refl _) _).alloc (by simp) _⟩
    · have r2 : (a == c) = false := by simpa using h2
      go_enter Tryz.func131, Tryz.ntmps131
      go_wp2
      go_ret
      exact ⟨by simp [lt]; omega, ((Below.refl _ _).alloc (Nat.le_refl _) _).alloc (by simp) _⟩

/-- it is one of them -/
def hasB (es : List EdgeV) (e : EdgeV) : Bool := decide (e ∈ es)

theorem hasB_yes {es : List EdgeV} {e : EdgeV} {k : Nat} (h : es[k]? = some e) : hasB es e = true := decide_eq_true (List.mem_of_getElem? h)

theorem hasB_no {es : List EdgeV} {e : EdgeV} (h : ∀ j, j < es.length → es[j]? ≠ some e) : hasB es e = false := decide_eq_false fun hm => by
  obtain ⟨j, hj, rfl⟩ := List.getElem_of_mem hm
  exact h j hj (List.getElem?_eq_getElem hj)

set_option maxHeartbeats 1000000 in
theorem l05Has_any (es : List EdgeV) (e : EdgeV) (n : Nat) (a : Option Addr) (c : Nat) (hn : n ≤ 1048576) (w : World) (h : Es w w.heap.size a n es) :
    Calls Tryz.prog 71 #[.slice a n c, .agg #[.int .i64 e.1, .int .i64 e.2]] w fun x w' => x = .returned (.bool (hasB es e)) ∧ Below w.heap.size w w' := by
  obtain ⟨hlen, hrow⟩ := h
  have HR := hideIt hrow
  clear hrow
  go_enter Tryz.func71, Tryz.ntmps71
  go_wp2
  go_loopw [5] (fun i wr => ∃ k : Nat, k ≤ n ∧ i = .int .i64 (k : Int) ∧ Hid (∀ j, j < k → es[j]? ≠ some e) ∧ Below w.heap.size w wr ∧ wr.cell? ⟨w.heap.size, 0, none⟩ = some (.int .i64 e.1) ∧ wr.cell? ⟨w.heap.size, 1, none⟩ = some (.int .i64 e.2)) (fun i _ => n - (intOf i).toNat)
  case atStart => exact ⟨0, by omega, rfl, fun j hj => by omega, (Below.refl _ _).alloc (Nat.le_refl _) _, by simp, by simp⟩
  case round =>
    obtain ⟨k, hk, rfl, hck, hb, x0, x1⟩ := hrel
    by_cases hlt : k < n
    · rcases HR.out with hz | ⟨b, off, rfl, hbl, hc⟩
      · omega
      · obtain ⟨f, hf⟩ : ∃ f, es[k]? = some f := ⟨es[k]'(by omega), List.getElem?_eq_getElem (by omega)⟩
        obtain ⟨c0, c1⟩ := hc k f hf
        have e0 : wr.cell? ⟨b, off + k * 2, none⟩ = some (.int .i64 f.1) := by rw [hb.cell hbl]; exact c0
        have e1 : wr.cell? ⟨b, off + k * 2 + 1, none⟩ = some (.int .i64 f.2) := by rw [hb.cell hbl]; exact c1
        have b1 : (0 : Int) ≤ (k : Int) := by omega
        have b2 : (k : Int) < (n : Int) := by omega
        by_cases hfe : f = e
        · subst hfe
          have HY := hideIt (hasB_yes hf)
          clear hf hc c0 c1 hck
          go_wp2
          go_quiet (fail)
          go_wp2
          go_ret
          exact ⟨by rw [HY.out]; rfl, below_drewN hb _⟩
        · have HN : Hid (∀ j, j < k + 1 → es[j]? ≠ some e) := fun j hj => by
            by_cases hjk : j = k
            · subst hjk; rw [hf]; exact fun hh => hfe (Option.some.inj hh)
            · exact hck.out j (by omega)
          clear hf hc c0 c1 hck
          by_cases h1 : f.1 = e.1
          · have h2 : ¬ f.2 = e.2 := fun h2 => hfe (Prod.ext h1 h2)
            rw [h1] at e0
            have d2 : (f.2 == e.2) = false := by simpa using h2
            clear hfe
            go_wp2
            go_quiet (fail)
            go_wp2
            exact ⟨⟨k + 1, by omega, by go_num, HN, below_drewN hb _, x0, x1⟩, by simp [intOf]; omega⟩
          · have d1 : (f.1 == e.1) = false := by simpa using h1
            clear hfe
            go_wp2
            go_quiet (fail)
            go_wp2
            exact ⟨⟨k + 1, by omega, by go_num, HN, below_drewN hb _, x0, x1⟩, by simp [intOf]; omega⟩
    · have HN := hideIt (hasB_no (es := es) (e := e) (fun j hj => hck.out j (by omega)))
      clear hck
      go_wp2
      go_ret
      exact ⟨by rw [HN.out]; rfl, hb⟩

theorem lt_iff (d e : EdgeV) : lt d e = true ↔ (d.1 < e.1 ∨ d.1 = e.1 ∧ d.2 < e.2) := by unfold lt; rw [decide_eq_true_iff]

theorem lt_trans' {a b c : EdgeV} (h1 : lt a b = true) (h2 : lt b c = true) : lt a c = true := by rw [lt_iff] at *; omega

theorem lt_asymm' {a b : EdgeV} (h1 : lt a b = true) : lt b a = false := by
  cases h : lt b a with
  | false => rfl
  | true => rw [lt_iff] at *; omega

theorem lt_irrefl' (a : EdgeV) : lt a a = false := by
  cases h : lt a a with
  | false => rfl
  | true => rw [lt_iff] at h; omega

theorem lt_total' {a b : EdgeV} (h1 : lt a b = false) (h2 : a ≠ b) : lt b a = true := by
  have h3 : ¬ (a.1 < b.1 ∨ a.1 = b.1 ∧ a.2 < b.2) := fun h => by rw [(lt_iff a b).2 h] at h1; cases h1
  rw [lt_iff]
  by_cases h4 : a.1 = b.1
  · have h5 : ¬ a.2 = b.2 := fun h5 => h2 (Prod.ext h4 h5)
    omega
  · omega

/-- they ascend -/
def Asc (es : List EdgeV) : Prop := ∀ (i j : Nat) (d e : EdgeV), i < j → es[i]? = some d → es[j]? = some e → lt d e = true

/-- the edge in its place, as the specification puts it -/
def putE (es : List EdgeV) (e : EdgeV) : List EdgeV := es.filter (fun d => lt d e) ++ [e] ++ es.filter (fun d => lt e d)

end Go.Proofs.YtklalfkdikjkfaaGreat
