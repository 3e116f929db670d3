/- The program's JoinTours. -/
import Derived.Test.YtcpffonenhhfoaaIRer
import Derived.Test.YtcpffonenhhfoaaIBack
import Derived.Test.YtcpffonenhhfoaaICom
namespace Go.Proofs.Ytcpffonenhhfoaa
open Go.RowKit

/-- a up to the place k, r, and a from that place on -/
def joT (t : List Int) (k : Nat) (r : List Int) : List Int := t.take (k + 1) ++ (r ++ t.drop k)
/-- two tours, joined -/
def joO (ta : List Int) (u : Int) (tb : List Int) (v : Int) : Option (List Int) :=
  if (tB ta = true ∧ tB tb = true) ∧ (u ∈ ta ∧ v ∈ tb) ∧ comB ta tb = false then some (joT ta (lstI ta u).toNat (reT tb (fstI tb v).toNat v)) else none
theorem reO_none {t : List Int} {v : Int} (h : reO t v = none) : ¬ (tB t = true ∧ v ∈ t) := by
  unfold reO at h
  by_cases hc : tB t = true ∧ v ∈ t
  · rw [if_pos hc] at h; simp at h
  · exact hc
theorem reO_some {t r : List Int} {v : Int} (h : reO t v = some r) : tB t = true ∧ v ∈ t ∧ r = reT t (fstI t v).toNat v := by
  unfold reO at h
  by_cases hc : tB t = true ∧ v ∈ t
  · rw [if_pos hc] at h; simp at h; exact ⟨hc.1, hc.2, h.symm⟩
  · rw [if_neg hc] at h; simp at h
theorem lst_mem {t : List Int} {v : Int} (h : v ∈ t) : ∃ k : Nat, lstI t v = (k : Int) ∧ k < t.length ∧ t[k]? = some v := by
  rcases lastN_cases (atP t v) t.length with ⟨k, h1, h2, _, h4⟩ | ⟨h1, _⟩
  · exact ⟨k, h4, h1, by simpa [atP] using h2⟩
  · exact absurd h (mem_of_atP rfl h1)
theorem lst_no {t : List Int} {v : Int} (h : v ∉ t) : lstI t v = -1 := by
  rcases lastN_cases (atP t v) t.length with ⟨k, h1, h2, _, h4⟩ | ⟨_, h2⟩
  · exact absurd (List.mem_of_getElem? (by simpa [atP] using h2 : t[k]? = some v)) h
  · exact h2
theorem reT_len {t : List Int} {v : Int} (hB : tB t = true) (k : Nat) : (reT t k v).length ≤ 50 := by
  have := tB_len hB
  simp [reT]
  omega

set_option maxRecDepth 100000 in
set_option maxHeartbeats 4000000 in
theorem iJoinTours_any (ta : List Int) (u : Int) (tb : List Int) (v : Int) (n : Nat) (a : Option Addr) (c : Nat) (hn : n ≤ 1048576) (hc : n ≤ c) (nb : Nat) (b : Option Addr) (cb : Nat) (hnb : nb ≤ 1048576) (hcb : nb ≤ cb) (w : World) (h : Is w w.heap.size a n ta) (hb : Is w w.heap.size b nb tb) :
    Calls Try.prog 50 #[.slice a n c, .int .i64 u, .slice b nb cb, .int .i64 v] w fun e w' => TAns w (joO ta u tb v) e w' := by
  have HL := hideIt (lastPlace_any ta u n a c (by omega) w h)
  have HR := hideIt (fun x (hx : Below w.heap.size w x) => iReroot_any tb v nb b cb (by omega) hcb x (hb.up hx))
  have HT := hideIt (fun x (hx : Below w.heap.size w x) => iTourOk_any ta n a c (by omega) x (h.up hx))
  have HC := hideIt (fun x (hx : Below w.heap.size w x) => haveCommon_any ta tb n a c (by omega) nb b cb (by omega) x (h.up hx) (hb.up hx))
  have HI := hideIt h
  have hlen := h.1
  cases hR : reO tb v with
  | none =>
    have HO := hideIt (show joO ta u tb v = none by unfold joO; rw [if_neg (fun hh => reO_none hR ⟨hh.1.2, hh.2.1.2⟩)])
    rw [hR] at HR
    clear hR h hb HC HT
    go_enter Try.func50, Try.ntmps50
    go_wp2_with (go_at_call 77; refine HL.out.mono ?_; rintro e w1 ⟨rfl, hb1⟩; refine Hid.out ?_)
    refine (show ∀ {p : Prop}, p → Hid p from fun h => h) ?_
    have HR1 := hideIt (HR.out w1 hb1)
    go_wp2_with (go_at_call 78; refine HR1.out.mono ?_; rintro e w2 ⟨ai, mi, ci, rfl, hoi, hb2⟩; refine Hid.out ?_)
    refine (show ∀ {p : Prop}, p → Hid p from fun h => h) ?_
    clear HR1
    have B2 := hb1.trans (hb2.mono hb1.size)
    clear hoi
    go_wp2
    go_ret2
    exact tans_no HO.out B2
  | some r =>
    obtain ⟨hTb, hvb, hr⟩ := reO_some hR
    have hrl := reT_len (v := v) hTb (fstI tb v).toNat
    rw [← hr] at hrl
    rw [hR] at HR
    cases hT : tB ta with
    | false =>
      have HO := hideIt (show joO ta u tb v = none by unfold joO; rw [if_neg (fun hh => by have := hh.1.1; rw [hT] at this; simp at this)])
      rw [hT] at HT
      clear hR h hb HC hT
      go_enter Try.func50, Try.ntmps50
      go_wp2_with (go_at_call 77; refine HL.out.mono ?_; rintro e w1 ⟨rfl, hb1⟩; refine Hid.out ?_)
      refine (show ∀ {p : Prop}, p → Hid p from fun h => h) ?_
      have HR1 := hideIt (HR.out w1 hb1)
      go_wp2_with (go_at_call 78; refine HR1.out.mono ?_; rintro e w2 ⟨ai, mi, ci, rfl, hoi, hb2⟩; refine Hid.out ?_)
      refine (show ∀ {p : Prop}, p → Hid p from fun h => h) ?_
      clear HR1
      have B2 := hb1.trans (hb2.mono hb1.size)
      have HT2 := hideIt (HT.out w2 B2)
      clear hoi
      go_wp2_with (go_at_call 71; refine HT2.out.mono ?_; rintro e w3 ⟨rfl, hb3⟩)
      go_ret2
      exact tans_no HO.out (B2.trans (hb3.mono B2.size))
    | true =>
      rw [hT] at HT
      by_cases hu : u ∈ ta
      · obtain ⟨k, hk, hkn, _⟩ := lst_mem hu
        rw [hk] at HL
        rw [hlen] at hkn
        have d1 : decide ((k : Int) < 0) = false := decide_eq_false (by omega)
        cases hC : comB ta tb with
        | true =>
          have HO := hideIt (show joO ta u tb v = none by unfold joO; rw [if_neg (fun hh => by have := hh.2.2; rw [hC] at this; simp at this)])
          rw [hC] at HC
          clear hR h hb hT hC hk hu
          go_enter Try.func50, Try.ntmps50
          go_wp2_with (go_at_call 77; refine HL.out.mono ?_; rintro e w1 ⟨rfl, hb1⟩; refine Hid.out ?_)
          refine (show ∀ {p : Prop}, p → Hid p from fun h => h) ?_
          have HR1 := hideIt (HR.out w1 hb1)
          go_wp2_with (go_at_call 78; refine HR1.out.mono ?_; rintro e w2 ⟨ai, mi, ci, rfl, hoi, hb2⟩; refine Hid.out ?_)
          refine (show ∀ {p : Prop}, p → Hid p from fun h => h) ?_
          clear HR1
          have B2 := hb1.trans (hb2.mono hb1.size)
          have HT2 := hideIt (HT.out w2 B2)
          clear hoi
          go_wp2_with (go_at_call 71; refine HT2.out.mono ?_; rintro e w3 ⟨rfl, hb3⟩; refine Hid.out ?_)
          refine (show ∀ {p : Prop}, p → Hid p from fun h => h) ?_
          have B3 := B2.trans (hb3.mono B2.size)
          have HC3 := hideIt (HC.out w3 B3)
          go_wp2_with (go_at_call 55; refine HC3.out.mono ?_; rintro e w4 ⟨rfl, hb4⟩)
          go_ret2
          exact tans_no HO.out (B3.trans (hb4.mono B3.size))
        | false =>
          have HO := hideIt (show joO ta u tb v = some (joT ta k r) by unfold joO; rw [if_pos ⟨⟨hT, hTb⟩, ⟨hu, hvb⟩, hC⟩, hk, hr]; rfl)
          rw [hC] at HC
          obtain ⟨b1, off, rfl⟩ : ∃ b1 off, a = some ⟨b1, off, none⟩ := by
            rcases h.2 with hz | ⟨b1, off, h1, _⟩
            · omega
            · exact ⟨b1, off, h1⟩
          clear hR h hb hT hC hk hu hr
          go_enter Try.func50, Try.ntmps50
          go_wp2_with (go_at_call 77; refine HL.out.mono ?_; rintro e w1 ⟨rfl, hb1⟩; refine Hid.out ?_)
          refine (show ∀ {p : Prop}, p → Hid p from fun h => h) ?_
          have HR1 := hideIt (HR.out w1 hb1)
          go_wp2_with (go_at_call 78; refine HR1.out.mono ?_; rintro e w2 ⟨ai, mi, ci, rfl, hoi, hb2⟩; refine Hid.out ?_)
          refine (show ∀ {p : Prop}, p → Hid p from fun h => h) ?_
          clear HR1
          have B2 := hb1.trans (hb2.mono hb1.size)
          have HT2 := hideIt (HT.out w2 B2)
          have RI := RBox.laid hoi
          clear hoi
          rw [Option.getD_some] at RI
          have hmi : mi ≤ 50 := by rw [← RI.len]; exact hrl
          go_wp2_with (go_at_call 71; refine HT2.out.mono ?_; rintro e w3 ⟨rfl, hb3⟩; refine Hid.out ?_)
          refine (show ∀ {p : Prop}, p → Hid p from fun h => h) ?_
          have B3 := B2.trans (hb3.mono B2.size)
          have RI3 := RI.up hb3
          have HC3 := hideIt (HC.out w3 B3)
          clear HT2 RI
          go_wp2_with (go_at_call 55; refine HC3.out.mono ?_; rintro e w4 ⟨rfl, hb4⟩; refine Hid.out ?_)
          refine (show ∀ {p : Prop}, p → Hid p from fun h => h) ?_
          have B4 := B3.trans (hb4.mono B3.size)
          have RI4 := RI3.up hb4
          clear HC3 RI3 HR HT HC HL
          have e1 : ((k : Int) + 1).toNat = k + 1 := by omega
          have p1 : (0 : Int) ≤ (k : Int) := by omega
          have p2 : (k : Int) ≤ (n : Int) := by omega
          have p3 : (n : Int) ≤ (c : Int) := by omega
          have p4 : (0 : Int) ≤ (k : Int) + 1 := by omega
          have p5 : (k : Int) + 1 ≤ (c : Int) := by omega
          have hne : ¬ (n = k) := by omega
          have pw : IntKind.i64.wrap ((k : Int) + 1) = (k : Int) + 1 := by rw [IntKind.wrap_i64]; omega
          have HLd : Hid (Calls Try.prog 79 #[.slice (some ⟨w4.heap.size, 0, none⟩) 3 3] (w4.alloc (.cells #[.slice (some ⟨b1, off, none⟩) (k + 1) (k + 1), .slice ai mi ci, .slice (some ⟨b1, off + k, none⟩) (n - k) (n - k)] 50)).drew
              fun e x => ∃ g m, e = .returned (.slice (some ⟨g, 0, none⟩) m m) ∧ x.ownsRow w4.heap.size 3 1 (.slice (some ⟨g, 0, none⟩) m m) m (ic (joT ta k r)) ∧ Below w4.heap.size w4 x) := by
            have hi4 := HI.out.up B4
            have hP := parts3 (p1 := ⟨some ⟨b1, off, none⟩, k + 1, k + 1, ta.take (k + 1)⟩) (p2 := ⟨ai, mi, ci, r⟩) (p3 := ⟨some ⟨b1, off + k, none⟩, n - k, n - k, ta.drop k⟩) (hi4.take (by show k + 1 ≤ n; omega)) RI4.is (hi4.drop (by show k ≤ n; omega))
            refine (laid_any _ _ 3 rfl (by omega) _ hP (by simp [qLen]; omega)).mono fun e x ⟨g, m, he, ho, hb⟩ => ⟨g, m, he, ?_, ?_⟩
            · have hq : qAll [⟨some ⟨b1, off, none⟩, k + 1, k + 1, ta.take (k + 1)⟩, ⟨ai, mi, ci, r⟩, ⟨some ⟨b1, off + k, none⟩, n - k, n - k, ta.drop k⟩] = joT ta k r := by
                simp [qAll, joT]
              rw [hq] at ho
              exact own_mono ho (by simp)
            · exact (((Below.refl w4.heap.size w4).alloc (Nat.le_refl _) _).drew).trans (hb.mono (by simp))
          clear HI RI4
          go_wp2
          go_region_held3 (fun _ => True) (trivial) ((go_at_call 79; refine HLd.out.mono ?_; rintro e w5 ⟨g, m, rfl, ho5, hb5⟩))
          all_goals
            go_wp2
            go_ret2
            exact tans_yes HO.out B4.size ho5 (B4.trans (hb5.mono B4.size))
      · have HO := hideIt (show joO ta u tb v = none by unfold joO; rw [if_neg (fun hh => hu hh.2.1.1)])
        rw [lst_no hu] at HL
        clear hR h hb HC hT hu
        go_enter Try.func50, Try.ntmps50
        go_wp2_with (go_at_call 77; refine HL.out.mono ?_; rintro e w1 ⟨rfl, hb1⟩; refine Hid.out ?_)
        refine (show ∀ {p : Prop}, p → Hid p from fun h => h) ?_
        have HR1 := hideIt (HR.out w1 hb1)
        go_wp2_with (go_at_call 78; refine HR1.out.mono ?_; rintro e w2 ⟨ai, mi, ci, rfl, hoi, hb2⟩; refine Hid.out ?_)
        refine (show ∀ {p : Prop}, p → Hid p from fun h => h) ?_
        clear HR1
        have B2 := hb1.trans (hb2.mono hb1.size)
        have HT2 := hideIt (HT.out w2 B2)
        clear hoi
        go_wp2_with (go_at_call 71; refine HT2.out.mono ?_; rintro e w3 ⟨rfl, hb3⟩)
        go_ret2
        exact tans_no HO.out (B2.trans (hb3.mono B2.size))
end Go.Proofs.Ytcpffonenhhfoaa
