/- The program's Reroot. slices.Backward over ints: it yields each place with its number, the last one first; the program's lastPlace, which ranges over it. The program's haveCommon. The program's JoinTours. What a tour that is rerooted, joined or split is: pure. What a tour that is split at one of its steps, and joined there again, is: pure. -/
import Derived.Test.YtpfkfbmghddepaaGreatKSplit
import Derived.RangeFuncNested
import Derived.RangeFuncBound
import Derived.RangeFuncCalls
import Derived.RangeFuncLeaves
import Derived.RangeFuncBox
import Derived.Shelf.Abstract
import Derived.Shelf.RegionOpen
import Derived.WalkKit
import Derived.OwnWalkIn
import Derived.TacticsInMore
import Derived.LoopNIn
import Derived.LoopIn
import Derived.Maps.AppendAt
import Derived.Test.YtpfkfbmghddepaaGreatKLd9
import Derived.Test.YtpfkfbmghddepaaGreatKSTour
namespace Go.Proofs.YtpfkfbmghddepaaGreat
open Go.RowKit

end Go.Proofs.YtpfkfbmghddepaaGreat
namespace Go.Proofs.YtpfkfbmghddepaaGreat
open Go.RowKit Go.Shelf
attribute [local go_sem] Oper.semAt_some

/-- a place and what stands there, as yield takes it -/
abbrev plV (x : Int × Int) : Array Value := #[.int .i64 x.1, .int .i64 x.2]
/-- what has come: the places from the last one down -/
def Bw (ls : List Int) (pre : List (Int × Int)) : Prop := pre.length ≤ ls.length ∧ ∀ (j : Nat) (x : Int × Int), pre[j]? = some x → x.1 = (ls.length : Int) - 1 - (j : Int) ∧ ls[ls.length - 1 - j]? = some x.2
theorem Bw.nil (ls : List Int) : Bw ls [] := ⟨by simp, fun j x h => by simp at h⟩
theorem Bw.snoc {ls : List Int} {pre : List (Int × Int)} (h : Bw ls pre) {k : Nat} {f : Int} (hk : pre.length + (k + 1) = ls.length) (hf : ls[k]? = some f) : Bw ls (pre ++ [((k : Int), f)]) := by
  refine ⟨by simp; omega, fun j x hx => ?_⟩
  by_cases hj : j < pre.length
  · rw [List.getElem?_append_left hj] at hx
    exact h.2 j x hx
  · rw [List.getElem?_append_right (by omega)] at hx
    have h0 : j - pre.length = 0 := by
      have := (List.getElem?_eq_some_iff.1 hx).1
      simp at this
      omega
    rw [h0] at hx
    simp at hx
    subst hx
    refine ⟨by show (k : Int) = _; omega, ?_⟩
    rw [show ls.length - 1 - j = k by omega]
    exact hf

theorem lst_at {ls : List Int} {v : Int} {p : Nat} (hp : ls[p]? = some v) (hn : ∀ j, p < j → j < ls.length → ls[j]? ≠ some v) : lstI ls v = (p : Int) := by
  rcases lastN_cases (atP ls v) ls.length with ⟨k, h1, h2, h3, h4⟩ | ⟨h1, _⟩
  · have hk : ls[k]? = some v := by simpa [atP] using h2
    have hpl := (List.getElem?_eq_some_iff.1 hp).1
    rcases Nat.lt_trichotomy k p with h | h | h
    · have := h3 p h hpl
      rw [atP_yes hp] at this
      simp at this
    · rw [← h]; exact h4
    · exact absurd hk (hn k h h1)
  · have := h1 p (List.getElem?_eq_some_iff.1 hp).1
    rw [atP_yes hp] at this
    simp at this
theorem lst_none {ls : List Int} {v : Int} (hn : ∀ j, j < ls.length → ls[j]? ≠ some v) : lstI ls v = -1 := by
  rcases lastN_cases (atP ls v) ls.length with ⟨k, h1, h2, h3, h4⟩ | ⟨_, h2⟩
  · exact absurd (by simpa [atP] using h2) (hn k h1)
  · exact h2
theorem bw_stop {ls : List Int} {v : Int} {pre : List (Int × Int)} {x : Int × Int} (h : Bw ls (pre ++ [x])) (hx : x.2 = v) (hn : ∀ y ∈ pre, y.2 ≠ v) : lstI ls v = x.1 := by
  have hl := h.1
  simp at hl
  obtain ⟨h1, h2⟩ := h.2 pre.length x (by simp)
  rw [h1, show (ls.length : Int) - 1 - (pre.length : Int) = ((ls.length - 1 - pre.length : Nat) : Int) by omega]
  refine lst_at (by rw [h2, hx]) fun j hj hjl e => ?_
  obtain ⟨y, hy⟩ : ∃ y, pre[ls.length - 1 - j]? = some y := ⟨pre[ls.length - 1 - j]'(by omega), List.getElem?_eq_getElem (by omega)⟩
  obtain ⟨_, h4⟩ := h.2 (ls.length - 1 - j) y (by rw [List.getElem?_append_left (by omega)]; exact hy)
  rw [show ls.length - 1 - (ls.length - 1 - j) = j by omega, e] at h4
  exact hn y (List.mem_of_getElem? hy) (by simpa using h4.symm)
theorem bw_done {ls : List Int} {v : Int} {pre : List (Int × Int)} (h : Bw ls pre) (hl : pre.length = ls.length) (hn : ∀ y ∈ pre, y.2 ≠ v) : lstI ls v = -1 := by
  refine lst_none fun j hj e => ?_
  obtain ⟨y, hy⟩ : ∃ y, pre[ls.length - 1 - j]? = some y := ⟨pre[ls.length - 1 - j]'(by omega), List.getElem?_eq_getElem (by omega)⟩
  obtain ⟨_, h4⟩ := h.2 (ls.length - 1 - j) y hy
  rw [show ls.length - 1 - (ls.length - 1 - j) = j by omega, e] at h4
  exact hn y (List.mem_of_getElem? hy) (by simpa using h4.symm)

end Go.Proofs.YtpfkfbmghddepaaGreat
namespace Go.Proofs.YtpfkfbmghddepaaGreat
open Go.RowKit

/-- a number of the one list is in the other -/
def comB (us vs : List Int) : Bool := us.any fun x => decide (x ∈ vs)
def comP (us vs : List Int) (k : Nat) : Bool := match us[k]? with | some x => decide (x ∈ vs) | none => false
theorem comP_at {us vs : List Int} {k : Nat} {f : Int} (h : us[k]? = some f) : comP us vs k = decide (f ∈ vs) := by simp [comP, h]
theorem comB_yes {us vs : List Int} {k : Nat} (hc : comP us vs k = true) : comB us vs = true := by
  unfold comP at hc
  cases h : us[k]? with
  | none => rw [h] at hc; simp at hc
  | some x =>
    rw [h] at hc
    unfold comB
    rw [List.any_eq_true]
    exact ⟨x, List.mem_of_getElem? h, hc⟩
theorem comB_no {us vs : List Int} (hc : ∀ j, j < us.length → comP us vs j = false) : comB us vs = false := by
  unfold comB
  rw [List.any_eq_false]
  intro x hx
  obtain ⟨k, hk⟩ := List.mem_iff_getElem?.1 hx
  have := hc k (List.getElem?_eq_some_iff.1 hk).1
  rw [comP_at hk] at this
  simpa using this
theorem com_first (us vs : List Int) : decide (0 ≤ firstN (comP us vs) us.length) = comB us vs := by
  rcases firstN_cases (comP us vs) us.length with ⟨k, _, h, _, e⟩ | ⟨h, e⟩
  · rw [e, comB_yes h]; simp
  · rw [e, comB_no h]; rfl

theorem comIt_any (vs : List Int) (x : Int) (B n : Nat) (a : Option Addr) (c : Nat) (hn : n ≤ 3000000) (w : World) (hB : w.cell? ⟨B, 0, none⟩ = some (.slice a n c)) (h : Is w w.heap.size a n vs) :
    Calls Tryz.prog 197 #[.int .i64 x, .pointer (some ⟨B, 0, none⟩)] w fun e w' => e = .returned (.bool (decide (x ∈ vs))) ∧ w' = w := by
  have HC := hideIt (conI_any vs x n a c hn w h)
  clear h
  go_enter Tryz.func197, Tryz.ntmps197
  go_wp2_with (go_at_call 188; refine HC.out.mono ?_; rintro e w1 ⟨rfl, rfl⟩)
  go_ret
  exact ⟨rfl, rfl⟩

set_option maxHeartbeats 1000000 in
theorem idxF_any (us vs : List Int) (n : Nat) (a : Option Addr) (c : Nat) (hn : n ≤ 3000000) (B nb : Nat) (b : Option Addr) (cb : Nat) (hnb : nb ≤ 3000000) (w : World) (h : Is w w.heap.size a n us) (hB : w.cell? ⟨B, 0, none⟩ = some (.slice b nb cb)) (hb : Is w w.heap.size b nb vs) :
    Calls Tryz.prog 200 #[.slice a n c, .func (.func 197) #[] #[.pointer (some ⟨B, 0, none⟩)]] w fun e w' => e = .returned (.int .i64 (firstN (comP us vs) us.length)) ∧ w' = w := by
  have HC := hideIt (fun x => comIt_any vs x B nb b cb hnb w hB hb)
  obtain ⟨hlen, hrow⟩ := h
  have HR := hideIt hrow
  clear hrow hb hB
  go_enter Tryz.func200, Tryz.ntmps200
  go_wp2
  go_loopw [8] (fun i wr => ∃ (k : Nat), k ≤ n ∧ i = .int .i64 (k : Int) ∧ Hid (∀ j, j < k → comP us vs j = false) ∧ wr = w) (fun i _ => n - (intOf i).toNat)
  case atStart => exact ⟨0, by omega, rfl, fun j hj => by omega, rfl⟩
  case round =>
    obtain ⟨k, hk, rfl, HF, hw⟩ := hrel
    have hw' := hw.symm
    subst hw'
    clear hw
    by_cases hlt : k < n
    · rcases HR.out with hz | ⟨b1, off, rfl, hbl, hc⟩
      · omega
      · obtain ⟨f, hf⟩ : ∃ f, us[k]? = some f := ⟨us[k]'(by omega), List.getElem?_eq_getElem (by omega)⟩
        have e0 := hc k f hf
        have b1 : (0 : Int) ≤ (k : Int) := by omega
        have b2 : (k : Int) < (n : Int) := by omega
        have HC1 := hideIt (HC.out f)
        have hcf := comP_at (vs := vs) hf
        cases hv : decide (f ∈ vs) with
        | true =>
          rw [hv] at HC1 hcf
          have hm := hideIt (show firstN (comP us vs) us.length = (k : Int) from firstN_yes (by omega) hcf HF.out)
          clear hc hf hv HF hcf
          go_wp2_with (go_at_call 197; refine HC1.out.mono ?_; rintro e w1 ⟨rfl, hw⟩; have hw' := hw.symm; subst hw'; clear hw)
          go_ret
          exact ⟨retI hm.out, rfl⟩
        | false =>
          rw [hv] at HC1 hcf
          have HF2 := hideIt (all_step HF.out hcf)
          clear hc hf hv HF hcf
          go_wp2_with (go_at_call 197; refine HC1.out.mono ?_; rintro e w1 ⟨rfl, hw⟩; have hw' := hw.symm; subst hw'; clear hw)
          exact ⟨⟨k + 1, by omega, by go_num, HF2, by first | trivial | rfl⟩, by simp [intOf]; omega⟩
    · obtain rfl : k = n := by omega
      have hm := hideIt (show firstN (comP us vs) us.length = -1 from firstN_no (by rw [hlen]; exact HF.out))
      clear HF
      go_wp2
      go_ret
      exact ⟨retI hm.out, rfl⟩

theorem conF_any (us vs : List Int) (n : Nat) (a : Option Addr) (c : Nat) (hn : n ≤ 3000000) (B nb : Nat) (b : Option Addr) (cb : Nat) (hnb : nb ≤ 3000000) (w : World) (h : Is w w.heap.size a n us) (hB : w.cell? ⟨B, 0, none⟩ = some (.slice b nb cb)) (hb : Is w w.heap.size b nb vs) :
    Calls Tryz.prog 196 #[.slice a n c, .func (.func 197) #[] #[.pointer (some ⟨B, 0, none⟩)]] w fun e w' => e = .returned (.bool (comB us vs)) ∧ w' = w := by
  have HI := hideIt (idxF_any us vs n a c hn B nb b cb hnb w h hB hb)
  have HM := hideIt (com_first us vs)
  clear h hB hb
  generalize firstN (comP us vs) us.length = x at *
  go_enter Tryz.func196, Tryz.ntmps196
  go_wp2_with (go_at_call 200; refine HI.out.mono ?_; rintro e w1 ⟨rfl, rfl⟩)
  go_ret
  exact ⟨by rw [← HM.out]; rfl, rfl⟩

theorem haveCommon_any (us vs : List Int) (n : Nat) (a : Option Addr) (c : Nat) (hn : n ≤ 3000000) (nb : Nat) (b : Option Addr) (cb : Nat) (hnb : nb ≤ 3000000) (w : World) (h : Is w w.heap.size a n us) (hb : Is w w.heap.size b nb vs) :
    Calls Tryz.prog 150 #[.slice a n c, .slice b nb cb] w fun e w' => e = .returned (.bool (comB us vs)) ∧ Below w.heap.size w w' := by
  have hbl : Below w.heap.size w (w.alloc (.cells #[.slice b nb cb] 44)) := (Below.refl _ _).alloc (Nat.le_refl _) _
  have HI := hideIt (conF_any us vs n a c hn w.heap.size nb b cb hnb (w.alloc (.cells #[.slice b nb cb] 44)) (h.up hbl) (by simp) (hb.up hbl))
  clear h hb
  go_enter Tryz.func150, Tryz.ntmps150
  go_wp2_with (go_at_call 196; refine HI.out.mono ?_; rintro e w1 ⟨rfl, rfl⟩)
  go_ret
  exact ⟨rfl, hbl⟩
end Go.Proofs.YtpfkfbmghddepaaGreat
namespace Go.Proofs.YtpfkfbmghddepaaGreat
open Go.RowKit

/-- a up to the place k, r, and a from that place on -/
def joT (t : List Int) (k : Nat) (r : List Int) : List Int := t.take (k + 1) ++ (r ++ t.drop k)
/-- two tours, joined -/
def joO (ta : List Int) (u : Int) (tb : List Int) (v : Int) : Option (List Int) :=
  if (tB ta = true ∧ tB tb = true) ∧ (u ∈ ta ∧ v ∈ tb) ∧ comB ta tb = false then some (joT ta (lstI ta u).toNat (reT tb (fstI tb v).toNat v)) else none
theorem reO_none {t : List Int} {v : Int} (h : reO t v = none) : ¬ (tB t = true ∧ v ∈ t) := by
  unfold reO at h
  by_cases hc : tB t = true ∧ v ∈ t
  · rw [if_pos hc] at h; simp at h
  · exact hc
theorem reO_some {t r : List Int} {v : Int} (h : reO t v = some r) : tB t = true ∧ v ∈ t ∧ r = reT t (fstI t v).toNat v := by
  unfold reO at h
  by_cases hc : tB t = true ∧ v ∈ t
  · rw [if_pos hc] at h; simp at h; exact ⟨hc.1, hc.2, h.symm⟩
  · rw [if_neg hc] at h; simp at h
theorem lst_mem {t : List Int} {v : Int} (h : v ∈ t) : ∃ k : Nat, lstI t v = (k : Int) ∧ k < t.length ∧ t[k]? = some v := by
  rcases lastN_cases (atP t v) t.length with ⟨k, h1, h2, _, h4⟩ | ⟨h1, _⟩
  · exact ⟨k, h4, h1, by simpa [atP] using h2⟩
  · exact absurd h (mem_of_atP rfl h1)
theorem lst_no {t : List Int} {v : Int} (h : v ∉ t) : lstI t v = -1 := by
  rcases lastN_cases (atP t v) t.length with ⟨k, h1, h2, _, h4⟩ | ⟨_, h2⟩
  · exact absurd (List.mem_of_getElem? (by simpa [atP] using h2 : t[k]? = some v)) h
  · exact h2
theorem reT_len {t : List Int} {v : Int} (hB : tB t = true) (k : Nat) : (reT t k v).length ≤ 50 := by
  have := tB_len hB
  simp [reT]
  omega

end Go.Proofs.YtpfkfbmghddepaaGreat
namespace Go.Proofs.YtpfkfbmghddepaaGreat

theorem re_cut {t : List Int} {v : Int} {k : Nat} (hv : t[k]? = some v) (hk : k < t.length - 1) : reT t k v = cutAt (t.take (t.length - 1)) k := by
  unfold reT cutAt
  rw [List.getElem?_take_of_lt hk, hv, List.take_take, Nat.min_eq_left (by omega)]
  rfl
theorem ring_zero {t : List Int} (h : tB t = true) (hl : 1 < t.length) : cutAt (t.take (t.length - 1)) 0 = t := by
  rcases tour_ring h with ⟨x, rfl⟩ | ⟨c, d, m, rfl⟩
  · simp at hl
  · have e : (c :: d :: (m ++ [c])).take ((c :: d :: (m ++ [c])).length - 1) = c :: d :: m := by simp
    rw [e]
    simp [cutAt]
theorem cut_mem {q : List Int} {k : Nat} (hk : k < q.length) (x : Int) : x ∈ cutAt q k ↔ x ∈ q := by
  unfold cutAt
  rw [List.getElem?_eq_getElem hk]
  simp only [List.mem_append, Option.toList_some, List.mem_singleton]
  constructor
  · intro h
    rcases h with h | h | h
    · exact List.mem_of_mem_drop h
    · exact List.mem_of_mem_take h
    · rw [h]; exact List.getElem_mem hk
  · intro h
    rw [← List.take_append_drop k q, List.mem_append] at h
    rcases h with h | h
    · exact .inr (.inl h)
    · exact .inl h
theorem cut_len {q : List Int} {k : Nat} (hk : k < q.length) : (cutAt q k).length = q.length + 1 := by
  unfold cutAt
  rw [List.getElem?_eq_getElem hk]
  simp
  omega
/-- a step of the ring, cut at its first place, is one wherever it is cut -/
theorem cut_step {q : List Int} {k : Nat} (hk : k < q.length) {i : Nat} {u w : Int} (h1 : (cutAt q 0)[i]? = some u) (h2 : (cutAt q 0)[i + 1]? = some w) : ∃ j, (cutAt q k)[j]? = some u ∧ (cutAt q k)[j + 1]? = some w := by
  have hl := cut_len (q := q) (k := 0) (by omega)
  have hi : i < q.length := by have := (List.getElem?_eq_some_iff.1 h2).1; omega
  have e0 : cutAt q 0 = q ++ [q[0]] := by unfold cutAt; rw [List.getElem?_eq_getElem (by omega)]; simp
  have ek : cutAt q k = q.drop k ++ (q.take k ++ [q[k]]) := by unfold cutAt; rw [List.getElem?_eq_getElem hk]; simp
  have at0 : ∀ a, a < q.length → (cutAt q 0)[a]? = q[a]? := fun a ha => by rw [e0, List.getElem?_append_left ha]
  have atE : (cutAt q 0)[q.length]? = some (q[0]'(by omega)) := by rw [e0, List.getElem?_append_right (Nat.le_refl _)]; simp
  have atH : ∀ a, k ≤ a → a < q.length → (cutAt q k)[a - k]? = q[a]? := fun a h3 h4 => by
    rw [ek, List.getElem?_append_left (by rw [List.length_drop]; omega), List.getElem?_drop, show k + (a - k) = a by omega]
  have atL : ∀ a, a < k → (cutAt q k)[q.length - k + a]? = q[a]? := fun a h3 => by
    rw [ek, List.getElem?_append_right (by rw [List.length_drop]; omega), List.length_drop, show q.length - k + a - (q.length - k) = a by omega, List.getElem?_append_left (by rw [List.length_take]; omega), List.getElem?_take_of_lt h3]
  have atZ : (cutAt q k)[q.length]? = some q[k] := by
    rw [ek, List.getElem?_append_right (by rw [List.length_drop]; omega), List.length_drop, List.getElem?_append_right (by rw [List.length_take]; omega), List.length_take]
    rw [show q.length - (q.length - k) - min k q.length = 0 by omega]
    rfl
  rw [at0 i hi] at h1
  by_cases hik : k ≤ i
  · refine ⟨i - k, by rw [atH i hik hi]; exact h1, ?_⟩
    by_cases hl2 : i + 1 < q.length
    · rw [at0 _ hl2] at h2
      rw [show i - k + 1 = i + 1 - k by omega, atH _ (by omega) hl2]
      exact h2
    · rw [show i + 1 = q.length by omega, atE] at h2
      by_cases hk0 : k = 0
      · subst hk0
        rw [show i - 0 + 1 = q.length by omega, atZ]
        exact h2
      · have := atL 0 (by omega)
        rw [show i - k + 1 = q.length - k + 0 by omega, this, List.getElem?_eq_getElem (by omega)]
        exact h2
  · refine ⟨q.length - k + i, by rw [atL i (by omega)]; exact h1, ?_⟩
    rw [at0 _ (by omega)] at h2
    by_cases hl2 : i + 1 < k
    · rw [show q.length - k + i + 1 = q.length - k + (i + 1) by omega, atL _ hl2]
      exact h2
    · rw [show q.length - k + i + 1 = q.length by omega, atZ]
      have e : i + 1 = k := by omega
      subst e
      rw [List.getElem?_eq_getElem hk] at h2
      exact h2
/-- a tour from another of its vertices on -/
structure ReIs (t : List Int) (v : Int) (r : List Int) : Prop where
  ok : tB r = true
  len : r.length = t.length
  fst : r[0]? = some v
  mem : ∀ x, x ∈ r ↔ x ∈ t
  step : ∀ (i : Nat) (u w : Int), t[i]? = some u → t[i + 1]? = some w → ∃ j, r[j]? = some u ∧ r[j + 1]? = some w
theorem re_is {t : List Int} {v : Int} (hB : tB t = true) (hv : v ∈ t) : ∃ r, reO t v = some r ∧ ReIs t v r := by
  obtain ⟨k, hk, hkl, hkv, hkf⟩ := fst_at hv
  refine ⟨reT t k v, by unfold reO; rw [if_pos ⟨hB, hv⟩, hk]; rfl, ?_⟩
  rcases fst_lt hB hkl hkv hkf with h | ⟨h0, h1⟩
  · have hl : 1 < t.length := by omega
    have hq : k < (t.take (t.length - 1)).length := by simp; omega
    have e0 := ring_zero hB hl
    rw [re_cut hkv h]
    have hm : ∀ x, x ∈ t ↔ x ∈ t.take (t.length - 1) := fun x => by
      have := cut_mem (q := t.take (t.length - 1)) (k := 0) (by omega) x
      rw [e0] at this
      exact this
    refine ⟨tour_cut (by rw [e0]; exact hB) k hq, by rw [cut_len hq]; simp; omega, ?_, fun x => by rw [cut_mem hq, hm], fun i u w h1 h2 => ?_⟩
    · unfold cutAt
      rw [List.getElem?_append_left (by simp; omega), List.getElem?_drop, Nat.add_zero, List.getElem?_take_of_lt h]
      exact hkv
    · rw [← e0] at h1 h2
      exact cut_step hq h1 h2
  · subst h0
    match t, h1 with
    | [x], _ =>
      simp at hkv
      subst hkv
      exact ⟨hB, rfl, rfl, fun _ => Iff.rfl, fun i u w h1 h2 => ⟨i, h1, h2⟩⟩

/-- what goes down from p to c, above c until it comes back -/
theorem trun_above {M Y S W1 S1 B : List Int} {c p z : Int} (h : trun (Y ++ c :: p :: B) S M = some (W1, S1)) (hz : (Y ++ [c]).head? = some z) (hno : ∀ j, (z :: M)[j]? = some c → (z :: M)[j + 1]? = some p → False) :
    ∃ Y', W1 = Y' ++ c :: p :: B ∧ trun (Y ++ [c]) S M = some (Y' ++ [c], S1) := by
  induction M generalizing Y S z with
  | nil => simp [trun] at h; exact ⟨Y, h.1.symm, by simp [trun, h.2]⟩
  | cons v M ih =>
    have hno' : ∀ j, (v :: M)[j]? = some c → (v :: M)[j + 1]? = some p → False := fun j h1 h2 => hno (j + 1) (by simpa using h1) (by simpa using h2)
    have hsame : Y ≠ [] → isUp (Y ++ c :: p :: B) v = isUp (Y ++ [c]) v := by
      intro hY
      match Y, hY with
      | [y], _ => rfl
      | y :: y2 :: Y, _ => rfl
    rcases trun_cons h with ⟨hu, h1⟩ | ⟨hu, hv, h1⟩
    · cases Y with
      | nil =>
        simp [isUp] at hu
        simp at hz
        exact absurd (hno 0 (by simp [hz]) (by simp [hu])) (by simp)
      | cons y Y =>
        have hu2 : isUp (y :: Y ++ [c]) v = true := by rw [← hsame (by simp)]; exact hu
        obtain ⟨Y', e1, e2⟩ := ih (Y := Y) h1 (z := v) (by obtain ⟨c2, q2, e⟩ := isUp_some hu2; simp at e; rw [e.2]; rfl) hno'
        exact ⟨Y', e1, by rw [trun_up hu2]; exact e2⟩
    · have hu2 : isUp (Y ++ [c]) v = false := by
        cases Y with
        | nil => rfl
        | cons y Y => rw [← hsame (by simp)]; exact hu
      obtain ⟨Y', e1, e2⟩ := ih (Y := v :: Y) h1 (z := v) (by simp) hno'
      exact ⟨Y', e1, by rw [trun_down hu2 hv]; exact e2⟩

/-- the two parts of a tour that is split between p and c, p above c -/
structure SpIs (t a b : List Int) (p c : Int) : Prop where
  oka : tB a = true
  okb : tB b = true
  apart : ∀ x ∈ b, x ∉ a
  low : c ∈ b
  high : p ∈ a
  mem : ∀ x, x ∈ t ↔ x ∈ a ∨ x ∈ b
  fst : a[0]? = t[0]?
  len : a.length + b.length + 1 = t.length
theorem split_is {t : List Int} {p c : Int} {d q : Nat} (hB : tB t = true) (h1 : t[d]? = some p) (h2 : t[d + 1]? = some c) (h4 : t[q + 1]? = some p) (hdq : d < q)
    (hno : ∀ j, j < q → t[j]? = some c → t[j + 1]? = some p → False) : SpIs t (t.take (d + 1) ++ t.drop (q + 2)) ((t.take (q + 1)).drop (d + 1)) p c := by
  have hql := (List.getElem?_eq_some_iff.1 h4).1
  obtain ⟨hv, x, s, hrun⟩ := (tB_iff t).1 hB
  obtain ⟨A, hA⟩ : ∃ A, A = t.take (d + 1) := ⟨_, rfl⟩
  obtain ⟨M, hM⟩ : ∃ M, M = (t.take (q + 1)).drop (d + 2) := ⟨_, rfl⟩
  obtain ⟨D, hD⟩ : ∃ D, D = t.drop (q + 2) := ⟨_, rfl⟩
  have hb : (t.take (q + 1)).drop (d + 1) = c :: M := by
    rw [List.drop_eq_getElem_cons (by simp; omega), hM]
    congr 1
    rw [List.getElem?_eq_getElem (by omega)] at h2
    simpa using h2
  have hAp : A = t.take d ++ [p] := by rw [hA]; exact take_snocF t d p h1
  have ht : t = A ++ (c :: M ++ (p :: D)) := by
    have e1 : t = t.take (q + 1) ++ t.drop (q + 1) := (List.take_append_drop _ _).symm
    have e2 : t.drop (q + 1) = p :: D := by
      rw [List.drop_eq_getElem_cons (by omega), hD]
      congr 1
      rw [List.getElem?_eq_getElem (by omega)] at h4
      simpa using h4
    have e3 : t.take (q + 1) = (t.take (q + 1)).take (d + 1) ++ (t.take (q + 1)).drop (d + 1) := (List.take_append_drop _ _).symm
    rw [List.take_take, Nat.min_eq_left (by omega), hb, ← hA] at e3
    rw [e2, e3, List.append_assoc] at e1
    exact e1
  have hbl : (c :: M).length = q - d := by rw [← hb]; simp; omega
  have hat : ∀ j, j < q - d → (c :: M)[j]? = t[d + 1 + j]? := fun j hj => by
    rw [← hb, List.getElem?_drop, List.getElem?_take_of_lt (by omega)]
  rw [hb, ← hA, ← hD]
  rw [ht, trun_append] at hrun
  cases hq0 : trun [] [] A with
  | none => rw [hq0] at hrun; simp at hrun
  | some z =>
    obtain ⟨w, s0⟩ := z
    rw [hq0] at hrun
    simp only [Option.bind_some] at hrun
    have htop : w.head? = some p := by rw [hAp] at hq0; exact trun_top hq0
    obtain ⟨hs0, hw0⟩ := trun_seen hq0 (by simp)
    have hs0' : ∀ y, y ∈ s0 ↔ y ∈ A := fun y => by rw [hs0]; simp
    have hwn := trun_way hq0 (by simp) (by simp)
    have hpA : p ∈ A := by rw [hAp]; simp
    cases w with
    | nil => simp at htop
    | cons p' B =>
      simp at htop
      subst htop
      rcases trun_cons hrun with ⟨hu, _⟩ | ⟨hu, hcs, h5⟩
      · obtain ⟨c2, Z, e⟩ := isUp_some hu
        simp at e
        have hadj := adj_run (x := []) hq0 (fun A c p B e => by simp at e) rfl
        rw [List.nil_append] at hadj
        obtain ⟨j, hj⟩ := hadj [] p' c Z (by rw [e.2]; rfl)
        simp [goP] at hj
        have hj1 := (List.getElem?_eq_some_iff.1 hj.2).1
        rw [hA] at hj hj1
        simp at hj1
        rw [List.getElem?_take_of_lt (by omega), List.getElem?_take_of_lt (by omega)] at hj
        exact absurd (hno j (by omega) hj.1 hj.2) (by simp)
      · have hcw : (c :: p' :: B).Nodup := List.nodup_cons.2 ⟨fun h => hcs (hw0 c h), hwn⟩
        have hws : ∀ y ∈ c :: p' :: B, y ∈ c :: s0 := fun y hy => by
          rcases List.mem_cons.1 hy with rfl | hy
          · simp
          · exact List.mem_cons_of_mem _ (hw0 y hy)
        change trun (c :: p' :: B) (c :: s0) (M ++ (p' :: D)) = some ([x], s) at h5
        rw [trun_append] at h5
        cases hqM : trun (c :: p' :: B) (c :: s0) M with
        | none => rw [hqM] at h5; simp at h5
        | some z =>
          obtain ⟨w1, s1⟩ := z
          rw [hqM] at h5
          simp only [Option.bind_some] at h5
          obtain ⟨hs1, _⟩ := trun_seen hqM hws
          have hw1n := trun_way hqM hcw hws
          obtain ⟨Y', e1, e2⟩ := trun_above (Y := []) (z := c) hqM rfl (fun j ha hb2 => by
            have hj2 : j + 1 < q - d := by have := (List.getElem?_eq_some_iff.1 hb2).1; omega
            rw [hat j (by omega)] at ha
            rw [hat (j + 1) hj2] at hb2
            exact hno (d + 1 + j) (by omega) ha (by rw [show d + 1 + j + 1 = d + 1 + (j + 1) by omega]; exact hb2))
          have hcp : c ≠ p' := fun e => hcs (by rw [e]; exact (hs0' p').2 hpA)
          have hps1 : p' ∈ s1 := (hs1 p').2 (.inl (List.mem_cons_of_mem _ ((hs0' p').2 hpA)))
          have hY : Y' = [] := by
            rcases trun_cons h5 with ⟨hu2, _⟩ | ⟨_, hn, _⟩
            · cases Y' with
              | nil => rfl
              | cons y Y' =>
                exfalso
                rw [e1] at hu2 hw1n
                cases Y' with
                | nil => simp [isUp] at hu2; exact hcp hu2
                | cons y2 Y' =>
                  simp [isUp] at hu2
                  subst hu2
                  simp at hw1n
            · exact absurd hps1 hn
          subst hY
          rw [List.nil_append] at e1 e2
          subst e1
          have h6 : trun (p' :: B) s1 D = some ([x], s) := by
            rcases trun_cons h5 with ⟨_, h6⟩ | ⟨_, hn, _⟩
            · exact h6
            · exact absurd hps1 hn
          have e2' : trun [c] (c :: s0) M = some ([c], s1) := e2
          have hMs : ∀ y ∈ M, y ∉ s0 := trun_avoid e2' (X := fun y => y ∈ s0) (fun y hy => List.mem_cons_of_mem _ hy) (fun y hy => by simp at hy; subst hy; exact hcs)
          have hbs : ∀ y ∈ c :: M, y ∉ s0 := fun y hy => by
            rcases List.mem_cons.1 hy with rfl | hy
            · exact hcs
            · exact hMs y hy
          have hDb : ∀ y ∈ D, y ∉ c :: M := trun_avoid h6 (X := fun y => y ∈ c :: M) (fun y hy => (hs1 y).2 (by
              rcases List.mem_cons.1 hy with rfl | hy
              · exact .inl (by simp)
              · exact .inr hy)) (fun y hy h7 => hbs y h7 (hw0 y hy))
          have hvt : ∀ y, (y ∈ A ∨ y ∈ c :: M ∨ y ∈ D) → vB y = true := fun y hy => hv y (by
            rw [ht]
            simp at hy ⊢
            rcases hy with h | (h | h) | h <;> simp [h])
          refine ⟨?_, ?_, ?_, by simp, by simp [hpA], fun y => ?_, ?_, ?_⟩
          · obtain ⟨s2, h7⟩ := trun_less h6 (s' := s0) (fun y hy => (hs1 y).2 (.inl (List.mem_cons_of_mem _ hy)))
            refine (tB_iff _).2 ⟨fun y hy => hvt y ?_, x, s2, by rw [trun_append, hq0]; exact h7⟩
            simp at hy
            rcases hy with h | h <;> simp [h]
          · obtain ⟨s2, h7⟩ := trun_less e2' (s' := [c]) (fun y hy => by simp at hy; simp [hy])
            exact tB_of (fun y hy => hvt y (.inr (.inl hy))) h7
          · intro y hy h7
            rw [List.mem_append] at h7
            rcases h7 with h7 | h7
            · exact hbs y hy ((hs0' y).2 h7)
            · exact hDb y h7 hy
          · rw [ht]
            simp
            constructor
            · rintro (h | h | h | h | h)
              · simp [h]
              · simp [h]
              · simp [h]
              · rw [h]; simp [hpA]
              · simp [h]
            · rintro ((h | h) | h | h) <;> simp [h]
          · rw [hA, List.getElem?_append_left (by simp; omega), List.getElem?_take_of_lt (by omega)]
          · have e3 := congrArg List.length ht
            simp at e3 ⊢
            omega

/-- two tours of different vertices, joined -/
theorem join_is {a r : List Int} {u : Int} {k : Nat} (ha : tB a = true) (hr : tB r = true) (hap : ∀ x ∈ r, x ∉ a) (hk : a[k]? = some u) :
    tB (joT a k r) = true ∧ (joT a k r).length = a.length + r.length + 1 ∧ ∀ x, x ∈ joT a k r ↔ x ∈ a ∨ x ∈ r := by
  have hkl := (List.getElem?_eq_some_iff.1 hk).1
  have ej : joT a k r = a.take (k + 1) ++ (r ++ a.drop k) := rfl
  have ed : a.drop k = u :: a.drop (k + 1) := by
    rw [List.drop_eq_getElem_cons hkl]
    congr 1
    rw [List.getElem?_eq_getElem hkl] at hk
    simpa using hk
  have et : a.take (k + 1) = a.take k ++ [u] := take_snocF a k u hk
  have ea : a = a.take (k + 1) ++ a.drop (k + 1) := (List.take_append_drop _ _).symm
  have hua : u ∈ a := List.mem_of_getElem? hk
  obtain ⟨hva, x, s, hrun⟩ := (tB_iff a).1 ha
  obtain ⟨v', r', sr, er, hr2, hvr, _⟩ := tB_open hr
  refine ⟨?_, by rw [ej]; simp; omega, fun y => ?_⟩
  · rw [ea, trun_append] at hrun
    cases hq : trun [] [] (a.take (k + 1)) with
    | none => rw [hq] at hrun; simp at hrun
    | some z =>
      obtain ⟨w, s0⟩ := z
      rw [hq] at hrun
      simp only [Option.bind_some] at hrun
      have htop : w.head? = some u := by rw [et] at hq; exact trun_top hq
      obtain ⟨hs0, hw0⟩ := trun_seen hq (by simp)
      have hs0a : ∀ y ∈ s0, y ∈ a := fun y hy => by
        have := (hs0 y).1 hy
        simp at this
        exact List.mem_of_mem_take this
      cases w with
      | nil => simp at htop
      | cons u' B =>
        simp at htop
        subst htop
        have hvs : v' ∉ s0 := fun h => hap v' (by rw [er]; simp) (hs0a _ h)
        have hup : isUp (u' :: B) v' = false := by
          cases h : isUp (u' :: B) v' with
          | false => rfl
          | true => exact absurd (hw0 _ (isUp_mem h)) hvs
        have hr'a : ∀ y ∈ r', y ∉ a := fun y hy => hap y (by rw [er]; simp [hy])
        obtain ⟨s2, h3⟩ := trun_over (E := u' :: B) (s' := v' :: s0) hr2 (by simp) (fun y hy => by
            rcases List.mem_cons.1 hy with rfl | hy
            · exact .inl (by simp)
            · exact .inr (fun h => hr'a y h (hs0a y hy))) (fun y hy => .inr (fun h => hr'a y h (hs0a y (hw0 y hy))))
        obtain ⟨hs2, _⟩ := trun_seen h3 (fun y hy => by
          simp at hy ⊢
          rcases hy with h | h | h
          · exact .inl h
          · exact .inr (hw0 y (by simp [h]))
          · exact .inr (hw0 y (by simp [h])))
        obtain ⟨s3, h4⟩ := trun_over (E := []) (s' := s2) hrun (by simp) (fun y hy => by
          rcases (hs2 y).1 hy with h | h
          · rcases List.mem_cons.1 h with rfl | h
            · exact .inr (fun h5 => hap _ (by rw [er]; simp) (List.mem_of_mem_drop h5))
            · exact .inl h
          · exact .inr (fun h5 => hr'a y h (List.mem_of_mem_drop h5))) (by simp)
        refine (tB_iff _).2 ⟨fun y hy => ?_, x, s3, ?_⟩
        · rw [ej] at hy
          simp only [List.mem_append] at hy
          rcases hy with h | h | h
          · exact hva y (List.mem_of_mem_take h)
          · exact hvr y h
          · exact hva y (List.mem_of_mem_drop h)
        · rw [ej, ed, er, trun_append, hq, Option.bind_some, List.cons_append, trun_down hup hvs, trun_append]
          rw [show v' :: u' :: B = [v'] ++ u' :: B from rfl, h3, Option.bind_some]
          rw [trun_up (by simp [isUp])]
          simpa using h4
  · rw [ej]
    simp only [List.mem_append]
    constructor
    · rintro (h | h | h)
      · exact .inl (List.mem_of_mem_take h)
      · exact .inr h
      · exact .inl (List.mem_of_mem_drop h)
    · rintro (h | h)
      · rw [ea, List.mem_append] at h
        rcases h with h | h
        · exact .inl h
        · exact .inr (.inr (by rw [ed]; simp [h]))
      · exact .inr (.inl h)
end Go.Proofs.YtpfkfbmghddepaaGreat
namespace Go.Proofs.YtpfkfbmghddepaaGreat

theorem no_stay {t : List Int} {x : Int} {j : Nat} (hB : tB t = true) (h1 : t[j]? = some x) (h2 : t[j + 1]? = some x) : False := by
  obtain ⟨_, x0, s0, hrun⟩ := (tB_iff t).1 hB
  have hj := (List.getElem?_eq_some_iff.1 h2).1
  have e1 : t = t.take (j + 1) ++ (x :: t.drop (j + 2)) := by
    have := List.take_append_drop (j + 1) t
    rw [List.drop_eq_getElem_cons hj] at this
    rw [List.getElem?_eq_getElem hj] at h2
    simp at h2
    rw [h2] at this
    exact this.symm
  have e2 : t.take (j + 1) = t.take j ++ [x] := take_snocF t j x h1
  rw [e1, trun_append] at hrun
  cases hq : trun [] [] (t.take (j + 1)) with
  | none => rw [hq] at hrun; simp at hrun
  | some z =>
    obtain ⟨w, s⟩ := z
    rw [hq] at hrun
    simp only [Option.bind_some] at hrun
    have htop : w.head? = some x := by rw [e2] at hq; exact trun_top hq
    obtain ⟨_, hw⟩ := trun_seen hq (by simp)
    have hn := trun_way hq (by simp) (by simp)
    rcases trun_cons hrun with ⟨hu, _⟩ | ⟨_, hs, _⟩
    · obtain ⟨c, z, rfl⟩ := isUp_some hu
      simp at htop
      subst htop
      simp at hn
    · cases w with
      | nil => simp at htop
      | cons c z => simp at htop; subst htop; exact hs (hw c (by simp))
theorem spl_is {t : List Int} {u v : Int} {k : Nat} (hB : tB t = true) (h1 : t[k]? = some u) (h2 : t[k + 1]? = some v) :
    ∃ A B p c, spO t u v = (A, B, true) ∧ spO t v u = (A, B, true) ∧ SpIs t A B p c ∧ ((u = p ∧ v = c) ∨ (u = c ∧ v = p)) := by
  rcases go_at (t := t) (u := u) (v := v) with ⟨k1, e1, _, a1, a2, a3⟩ | ⟨_, hn⟩
  · rcases go_at (t := t) (u := v) (v := u) with ⟨k2, e2, _, b1, b2, b3⟩ | ⟨_, hn⟩
    · have hne : k1 ≠ k2 := fun e => by
        subst e
        rw [a1] at b1
        simp at b1
        subst b1
        exact no_stay hB a1 a2
      have hs1 : spO t u v = spT t (min k1 k2) (max k1 k2) := by
        unfold spO
        rw [if_pos ⟨hB, by rw [e1]; omega⟩, e1, e2]
        congr 1
        · omega
        · omega
      have hs2 : spO t v u = spT t (min k1 k2) (max k1 k2) := by
        unfold spO
        rw [if_pos ⟨hB, by rw [e2]; omega⟩, e1, e2]
        congr 1
        · omega
        · omega
      rcases Nat.lt_or_gt_of_ne hne with h | h
      · rw [Nat.min_eq_left (by omega), Nat.max_eq_right (by omega)] at hs1 hs2
        refine ⟨_, _, u, v, hs1, hs2, split_is hB a1 a2 b2 h (fun j hj x1 x2 => ?_), .inl ⟨rfl, rfl⟩⟩
        have := b3 j hj
        simp [goP, x1, x2] at this
      · rw [Nat.min_eq_right (by omega), Nat.max_eq_left (by omega)] at hs1 hs2
        refine ⟨_, _, v, u, hs1, hs2, split_is hB b1 b2 a2 h (fun j hj x1 x2 => ?_), .inr ⟨rfl, rfl⟩⟩
        have := a3 j hj
        simp [goP, x1, x2] at this
    · obtain ⟨j, hj⟩ := go_back hB h1 h2
      have hj1 : j + 1 < t.length := by
        simp [goP] at hj
        exact (List.getElem?_eq_some_iff.1 hj.2).1
      rw [hn j hj1] at hj
      simp at hj
  · have := hn k (List.getElem?_eq_some_iff.1 h2).1
    simp [goP, h1, h2] at this
theorem jo_is {t A B : List Int} {p c : Int} (h : SpIs t A B p c) : ∃ J, joO A p B c = some J ∧ tB J = true ∧ J.length = t.length ∧ ∀ x, x ∈ J ↔ x ∈ t := by
  obtain ⟨k, hk, hkl, hkp⟩ := lst_mem h.high
  obtain ⟨r, hr, HR⟩ := re_is h.okb h.low
  obtain ⟨_, _, er⟩ := reO_some hr
  have hcom : comB A B = false := comB_no fun j hj => by
    rw [comP_at (List.getElem?_eq_getElem hj)]
    exact decide_eq_false fun hx => h.apart _ hx (List.getElem_mem hj)
  obtain ⟨j1, j2, j3⟩ := join_is h.oka HR.ok (fun x hx => h.apart x ((HR.mem x).1 hx)) hkp
  refine ⟨joT A k r, ?_, j1, ?_, fun x => ?_⟩
  · unfold joO
    rw [if_pos ⟨⟨h.oka, h.okb⟩, ⟨h.high, h.low⟩, hcom⟩, hk, ← er]
    rfl
  · rw [j2, HR.len]; have := h.len; omega
  · rw [j3, HR.mem, h.mem]
theorem spl_no {t : List Int} (hB : tB t = true) (hl : t.length < 3) (u v : Int) : spO t u v = ([], [], false) := by
  unfold spO
  rw [if_neg]
  rintro ⟨_, h0⟩
  rcases go_at (t := t) (u := u) (v := v) with ⟨k1, _, h1, _⟩ | ⟨e, _⟩
  · rcases tour_ring hB with ⟨x, rfl⟩ | ⟨c, d, m, rfl⟩
    · simp at h1
    · simp at hl; omega
  · omega
end Go.Proofs.YtpfkfbmghddepaaGreat
