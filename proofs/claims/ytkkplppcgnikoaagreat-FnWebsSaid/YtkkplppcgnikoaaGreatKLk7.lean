/- slices.Backward over ints: it yields each place with its number, the last one first; the program's lastPlace, which ranges over it. The program's haveCommon. The program's JoinTours. What a tour that is rerooted, joined or split is: pure. What a tour that is split at one of its steps, and joined there again, is: pure. Forests linked and cut: pure. -/
import Derived.RangeFuncNested
import Derived.RangeFuncBound
import Derived.RangeFuncCalls
import Derived.RangeFuncLeaves
import Derived.RangeFuncBox
import Derived.Shelf.Abstract
import Derived.Shelf.RegionOpen
import Derived.WalkKit
import Derived.OwnWalkIn
import Derived.TacticsInMore
import Derived.LoopNIn
import Derived.LoopIn
import Derived.Maps.AppendAt
import Derived.Test.YtkkplppcgnikoaaGreatKFB7
import Derived.Test.YtkkplppcgnikoaaGreatKIRer
import Derived.Test.YtkkplppcgnikoaaGreatKIVerts
namespace Go.Proofs.YtkkplppcgnikoaaGreat
open Go.RowKit Go.Shelf
attribute [local go_sem] Oper.semAt_some

end Go.Proofs.YtkkplppcgnikoaaGreat
namespace Go.Proofs.YtkkplppcgnikoaaGreat
open Go.RowKit

/-- a number of the one list is in the other -/
def comB (us vs : List Int) : Bool := us.any fun x => decide (x ∈ vs)
def comP (us vs : List Int) (k : Nat) : Bool := match us[k]? with | some x => decide (x ∈ vs) | none => false
theorem comP_at {us vs : List Int} {k : Nat} {f : Int} (h : us[k]? = some f) : comP us vs k = decide (f ∈ vs) := by simp [comP, h]
theorem comB_yes {us vs : List Int} {k : Nat} (hc : comP us vs k = true) : comB us vs = true := by
  unfold comP at hc
  cases h : us[k]? with
  | none => rw [h] at hc; simp at hc
  | some x =>
    rw [h] at hc
    unfold comB
    rw [List.any_eq_true]
    exact ⟨x, List.mem_of_getElem? h, hc⟩
theorem comB_no {us vs : List Int} (hc : ∀ j, j < us.length → comP us vs j = false) : comB us vs = false := by
  unfold comB
  rw [List.any_eq_false]
  intro x hx
  obtain ⟨k, hk⟩ := List.mem_iff_getElem?.1 hx
  have := hc k (List.getElem?_eq_some_iff.1 hk).1
  rw [comP_at hk] at this
  simpa using this
theorem com_first (us vs : List Int) : decide (0 ≤ firstN (comP us vs) us.length) = comB us vs := by
  rcases firstN_cases (comP us vs) us.length with ⟨k, _, h, _, e⟩ | ⟨h, e⟩
  · rw [e, comB_yes h]; simp
  · rw [e, comB_no h]; rfl

theorem comIt_any (vs : List Int) (x : Int) (B n : Nat) (a : Option Addr) (c : Nat) (hn : n ≤ 3000000) (w : World) (hB : w.cell? ⟨B, 0, none⟩ = some (.slice a n c)) (h : Is w w.heap.size a n vs) :
    Calls Tryz.prog 278 #[.int .i64 x, .pointer (some ⟨B, 0, none⟩)] w fun e w' => e = .returned (.bool (decide (x ∈ vs))) ∧ w' = w := by
  have HC := hideIt (conI_any vs x n a c hn w h)
  clear h
  go_enter Tryz.func278, Tryz.ntmps278
  go_wp2_with (go_at_call 230; refine HC.out.mono ?_; rintro e w1 ⟨rfl, rfl⟩)
  go_ret
  exact ⟨rfl, rfl⟩

set_option maxHeartbeats 1000000 in
theorem idxF_any (us vs : List Int) (n : Nat) (a : Option Addr) (c : Nat) (hn : n ≤ 3000000) (B nb : Nat) (b : Option Addr) (cb : Nat) (hnb : nb ≤ 3000000) (w : World) (h : Is w w.heap.size a n us) (hB : w.cell? ⟨B, 0, none⟩ = some (.slice b nb cb)) (hb : Is w w.heap.size b nb vs) :
    Calls Tryz.prog 279 #[.slice a n c, .func (.func 278) #[] #[.pointer (some ⟨B, 0, none⟩)]] w fun e w' => e = .returned (.int .i64 (firstN (comP us vs) us.length)) ∧ w' = w := by
  have HC := hideIt (fun x => comIt_any vs x B nb b cb hnb w hB hb)
  obtain ⟨hlen, hrow⟩ := h
  have HR := hideIt hrow
  clear hrow hb hB
  go_enter Tryz.func279, Tryz.ntmps279
  go_wp2
  go_loopw [8] (fun i wr => ∃ (k : Nat), k ≤ n ∧ i = .int .i64 (k : Int) ∧ Hid (∀ j, j < k → comP us vs j = false) ∧ wr = w) (fun i _ => n - (intOf i).toNat)
  case atStart => exact ⟨0, by omega, rfl, fun j hj => by omega, rfl⟩
  case round =>
    obtain ⟨k, hk, rfl, HF, hw⟩ := hrel
    have hw' := hw.symm
    subst hw'
    clear hw
    by_cases hlt : k < n
    · rcases HR.out with hz | ⟨b1, off, rfl, hbl, hc⟩
      · omega
      · obtain ⟨f, hf⟩ : ∃ f, us[k]? = some f := ⟨us[k]'(by omega), List.getElem?_eq_getElem (by omega)⟩
        have e0 := hc k f hf
        have b1 : (0 : Int) ≤ (k : Int) := by omega
        have b2 : (k : Int) < (n : Int) := by omega
        have HC1 := hideIt (HC.out f)
        have hcf := comP_at (vs := vs) hf
        cases hv : decide (f ∈ vs) with
        | true =>
          rw [hv] at HC1 hcf
          have hm := hideIt (show firstN (comP us vs) us.length = (k : Int) from firstN_yes (by omega) hcf HF.out)
          clear hc hf hv HF hcf
          go_wp2_with (go_at_call 278; refine HC1.out.mono ?_; rintro e w1 ⟨rfl, hw⟩; have hw' := hw.symm; subst hw'; clear hw)
          go_ret
          exact ⟨retI hm.out, rfl⟩
        | false =>
          rw [hv] at HC1 hcf
          have HF2 := hideIt (all_step HF.out hcf)
          clear hc hf hv HF hcf
          go_wp2_with (go_at_call 278; refine HC1.out.mono ?_; rintro e w1 ⟨rfl, hw⟩; have hw' := hw.symm; subst hw'; clear hw)
          exact ⟨⟨k + 1, by omega, by go_num, HF2, by first | trivial | rfl⟩, by simp [intOf]; omega⟩
    · obtain rfl : k = n := by omega
      have hm := hideIt (show firstN (comP us vs) us.length = -1 from firstN_no (by rw [hlen]; exact HF.out))
      clear HF
      go_wp2
      go_ret
      exact ⟨retI hm.out, rfl⟩

theorem conF_any (us vs : List Int) (n : Nat) (a : Option Addr) (c : Nat) (hn : n ≤ 3000000) (B nb : Nat) (b : Option Addr) (cb : Nat) (hnb : nb ≤ 3000000) (w : World) (h : Is w w.heap.size a n us) (hB : w.cell? ⟨B, 0, none⟩ = some (.slice b nb cb)) (hb : Is w w.heap.size b nb vs) :
    Calls Tryz.prog 277 #[.slice a n c, .func (.func 278) #[] #[.pointer (some ⟨B, 0, none⟩)]] w fun e w' => e = .returned (.bool (comB us vs)) ∧ w' = w := by
  have HI := hideIt (idxF_any us vs n a c hn B nb b cb hnb w h hB hb)
  have HM := hideIt (com_first us vs)
  clear h hB hb
  generalize firstN (comP us vs) us.length = x at *
  go_enter Tryz.func277, Tryz.ntmps277
  go_wp2_with (go_at_call 279; refine HI.out.mono ?_; rintro e w1 ⟨rfl, rfl⟩)
  go_ret
  exact ⟨by rw [← HM.out]; rfl, rfl⟩

theorem haveCommon_any (us vs : List Int) (n : Nat) (a : Option Addr) (c : Nat) (hn : n ≤ 3000000) (nb : Nat) (b : Option Addr) (cb : Nat) (hnb : nb ≤ 3000000) (w : World) (h : Is w w.heap.size a n us) (hb : Is w w.heap.size b nb vs) :
    Calls Tryz.prog 238 #[.slice a n c, .slice b nb cb] w fun e w' => e = .returned (.bool (comB us vs)) ∧ Below w.heap.size w w' := by
  have hbl : Below w.heap.size w (w.alloc (.cells #[.slice b nb cb] 44)) := (Below.refl _ _).alloc (Nat.le_refl _) _
  have HI := hideIt (conF_any us vs n a c hn w.heap.size nb b cb hnb (w.alloc (.cells #[.slice b nb cb] 44)) (h.up hbl) (by simp) (hb.up hbl))
  clear h hb
  go_enter Tryz.func238, Tryz.ntmps238
  go_wp2_with (go_at_call 277; refine HI.out.mono ?_; rintro e w1 ⟨rfl, rfl⟩)
  go_ret
  exact ⟨rfl, hbl⟩
end Go.Proofs.YtkkplppcgnikoaaGreat
namespace Go.Proofs.YtkkplppcgnikoaaGreat
open Go.RowKit

end Go.Proofs.YtkkplppcgnikoaaGreat
namespace Go.Proofs.YtkkplppcgnikoaaGreat

/-- what goes down from p to c, above c until it comes back -/
theorem trun_above {M Y S W1 S1 B : List Int} {c p z : Int} (h : trun (Y ++ c :: p :: B) S M = some (W1, S1)) (hz : (Y ++ [c]).head? = some z) (hno : ∀ j, (z :: M)[j]? = some c → (z :: M)[j + 1]? = some p → False) :
    ∃ Y', W1 = Y' ++ c :: p :: B ∧ trun (Y ++ [c]) S M = some (Y' ++ [c], S1) := by
  induction M generalizing Y S z with
  | nil => simp [trun] at h; exact ⟨Y, h.1.symm, by simp [trun, h.2]⟩
  | cons v M ih =>
    have hno' : ∀ j, (v :: M)[j]? = some c → (v :: M)[j + 1]? = some p → False := fun j h1 h2 => hno (j + 1) (by simpa using h1) (by simpa using h2)
    have hsame : Y ≠ [] → isUp (Y ++ c :: p :: B) v = isUp (Y ++ [c]) v := by
      intro hY
      match Y, hY with
      | [y], _ => rfl
      | y :: y2 :: Y, _ => rfl
    rcases trun_cons h with ⟨hu, h1⟩ | ⟨hu, hv, h1⟩
    · cases Y with
      | nil =>
        simp [isUp] at hu
        simp at hz
        exact absurd (hno 0 (by simp [hz]) (by simp [hu])) (by simp)
      | cons y Y =>
        have hu2 : isUp (y :: Y ++ [c]) v = true := by rw [← hsame (by simp)]; exact hu
        obtain ⟨Y', e1, e2⟩ := ih (Y := Y) h1 (z := v) (by obtain ⟨c2, q2, e⟩ := isUp_some hu2; simp at e; rw [e.2]; rfl) hno'
        exact ⟨Y', e1, by rw [trun_up hu2]; exact e2⟩
    · have hu2 : isUp (Y ++ [c]) v = false := by
        cases Y with
        | nil => rfl
        | cons y Y => rw [← hsame (by simp)]; exact hu
      obtain ⟨Y', e1, e2⟩ := ih (Y := v :: Y) h1 (z := v) (by simp) hno'
      exact ⟨Y', e1, by rw [trun_down hu2 hv]; exact e2⟩

/-- the two parts of a tour that is split between p and c, p above c -/
structure SpIs (t a b : List Int) (p c : Int) : Prop where
  oka : tB a = true
  okb : tB b = true
  apart : ∀ x ∈ b, x ∉ a
  low : c ∈ b
  high : p ∈ a
  mem : ∀ x, x ∈ t ↔ x ∈ a ∨ x ∈ b
  fst : a[0]? = t[0]?
  len : a.length + b.length + 1 = t.length
theorem split_is {t : List Int} {p c : Int} {d q : Nat} (hB : tB t = true) (h1 : t[d]? = some p) (h2 : t[d + 1]? = some c) (h4 : t[q + 1]? = some p) (hdq : d < q)
    (hno : ∀ j, j < q → t[j]? = some c → t[j + 1]? = some p → False) : SpIs t (t.take (d + 1) ++ t.drop (q + 2)) ((t.take (q + 1)).drop (d + 1)) p c := by
  have hql := (List.getElem?_eq_some_iff.1 h4).1
  obtain ⟨hv, x, s, hrun⟩ := (tB_iff t).1 hB
  obtain ⟨A, hA⟩ : ∃ A, A = t.take (d + 1) := ⟨_, rfl⟩
  obtain ⟨M, hM⟩ : ∃ M, M = (t.take (q + 1)).drop (d + 2) := ⟨_, rfl⟩
  obtain ⟨D, hD⟩ : ∃ D, D = t.drop (q + 2) := ⟨_, rfl⟩
  have hb : (t.take (q + 1)).drop (d + 1) = c :: M := by
    rw [List.drop_eq_getElem_cons (by simp; omega), hM]
    congr 1
    rw [List.getElem?_eq_getElem (by omega)] at h2
    simpa using h2
  have hAp : A = t.take d ++ [p] := by rw [hA]; exact take_snocF t d p h1
  have ht : t = A ++ (c :: M ++ (p :: D)) := by
    have e1 : t = t.take (q + 1) ++ t.drop (q + 1) := (List.take_append_drop _ _).symm
    have e2 : t.drop (q + 1) = p :: D := by
      rw [List.drop_eq_getElem_cons (by omega), hD]
      congr 1
      rw [List.getElem?_eq_getElem (by omega)] at h4
      simpa using h4
    have e3 : t.take (q + 1) = (t.take (q + 1)).take (d + 1) ++ (t.take (q + 1)).drop (d + 1) := (List.take_append_drop _ _).symm
    rw [List.take_take, Nat.min_eq_left (by omega), hb, ← hA] at e3
    rw [e2, e3, List.append_assoc] at e1
    exact e1
  have hbl : (c :: M).length = q - d := by rw [← hb]; simp; omega
  have hat : ∀ j, j < q - d → (c :: M)[j]? = t[d + 1 + j]? := fun j hj => by
    rw [← hb, List.getElem?_drop, List.getElem?_take_of_lt (by omega)]
  rw [hb, ← hA, ← hD]
  rw [ht, trun_append] at hrun
  cases hq0 : trun [] [] A with
  | none => rw [hq0] at hrun; simp at hrun
  | some z =>
    obtain ⟨w, s0⟩ := z
    rw [hq0] at hrun
    simp only [Option.bind_some] at hrun
    have htop : w.head? = some p := by rw [hAp] at hq0; exact trun_top hq0
    obtain ⟨hs0, hw0⟩ := trun_seen hq0 (by simp)
    have hs0' : ∀ y, y ∈ s0 ↔ y ∈ A := fun y => by rw [hs0]; simp
    have hwn := trun_way hq0 (by simp) (by simp)
    have hpA : p ∈ A := by rw [hAp]; simp
    cases w with
    | nil => simp at htop
    | cons p' B =>
      simp at htop
      subst htop
      rcases trun_cons hrun with ⟨hu, _⟩ | ⟨hu, hcs, h5⟩
      · obtain ⟨c2, Z, e⟩ := isUp_some hu
        simp at e
        have hadj := adj_run (x := []) hq0 (fun A c p B e => by simp at e) rfl
        rw [List.nil_append] at hadj
        obtain ⟨j, hj⟩ := hadj [] p' c Z (by rw [e.2]; rfl)
        simp [goP] at hj
        have hj1 := (List.getElem?_eq_some_iff.1 hj.2).1
        rw [hA] at hj hj1
        simp at hj1
        rw [List.getElem?_take_of_lt (by omega), List.getElem?_take_of_lt (by omega)] at hj
        exact absurd (hno j (by omega) hj.1 hj.2) (by simp)
      · have hcw : (c :: p' :: B).Nodup := List.nodup_cons.2 ⟨fun h => hcs (hw0 c h), hwn⟩
        have hws : ∀ y ∈ c :: p' :: B, y ∈ c :: s0 := fun y hy => by
          rcases List.mem_cons.1 hy with rfl | hy
          · simp
          · exact List.mem_cons_of_mem _ (hw0 y hy)
        change trun (c :: p' :: B) (c :: s0) (M ++ (p' :: D)) = some ([x], s) at h5
        rw [trun_append] at h5
        cases hqM : trun (c :: p' :: B) (c :: s0) M with
        | none => rw [hqM] at h5; simp at h5
        | some z =>
          obtain ⟨w1, s1⟩ := z
          rw [hqM] at h5
          simp only [Option.bind_some] at h5
          obtain ⟨hs1, _⟩ := trun_seen hqM hws
          have hw1n := trun_way hqM hcw hws
          obtain ⟨Y', e1, e2⟩ := trun_above (Y := []) (z := c) hqM rfl (fun j ha hb2 => by
            have hj2 : j + 1 < q - d := by have := (List.getElem?_eq_some_iff.1 hb2).1; omega
            rw [hat j (by omega)] at ha
            rw [hat (j + 1) hj2] at hb2
            exact hno (d + 1 + j) (by omega) ha (by rw [show d + 1 + j + 1 = d + 1 + (j + 1) by omega]; exact hb2))
          have hcp : c ≠ p' := fun e => hcs (by rw [e]; exact (hs0' p').2 hpA)
          have hps1 : p' ∈ s1 := (hs1 p').2 (.inl (List.mem_cons_of_mem _ ((hs0' p').2 hpA)))
          have hY : Y' = [] := by
            rcases trun_cons h5 with ⟨hu2, _⟩ | ⟨_, hn, _⟩
            · cases Y' with
              | nil => rfl
              | cons y Y' =>
                exfalso
                rw [e1] at hu2 hw1n
                cases Y' with
                | nil => simp [isUp] at hu2; exact hcp hu2
                | cons y2 Y' =>
                  simp [isUp] at hu2
                  subst hu2
                  simp at hw1n
            · exact absurd hps1 hn
          subst hY
          rw [List.nil_append] at e1 e2
          subst e1
          have h6 : trun (p' :: B) s1 D = some ([x], s) := by
            rcases trun_cons h5 with ⟨_, h6⟩ | ⟨_, hn, _⟩
            · exact h6
            · exact absurd hps1 hn
          have e2' : trun [c] (c :: s0) M = some ([c], s1) := e2
          have hMs : ∀ y ∈ M, y ∉ s0 := trun_avoid e2' (X := fun y => y ∈ s0) (fun y hy => List.mem_cons_of_mem _ hy) (fun y hy => by simp at hy; subst hy; exact hcs)
          have hbs : ∀ y ∈ c :: M, y ∉ s0 := fun y hy => by
            rcases List.mem_cons.1 hy with rfl | hy
            · exact hcs
            · exact hMs y hy
          have hDb : ∀ y ∈ D, y ∉ c :: M := trun_avoid h6 (X := fun y => y ∈ c :: M) (fun y hy => (hs1 y).2 (by
              rcases List.mem_cons.1 hy with rfl | hy
              · exact .inl (by simp)
              · exact .inr hy)) (fun y hy h7 => hbs y h7 (hw0 y hy))
          have hvt : ∀ y, (y ∈ A ∨ y ∈ c :: M ∨ y ∈ D) → vB y = true := fun y hy => hv y (by
            rw [ht]
            simp at hy ⊢
            rcases hy with h | (h | h) | h <;> simp [h])
          refine ⟨?_, ?_, ?_, by simp, by simp [hpA], fun y => ?_, ?_, ?_⟩
          · obtain ⟨s2, h7⟩ := trun_less h6 (s' := s0) (fun y hy => (hs1 y).2 (.inl (List.mem_cons_of_mem _ hy)))
            refine (tB_iff _).2 ⟨fun y hy => hvt y ?_, x, s2, by rw [trun_append, hq0]; exact h7⟩
            simp at hy
            rcases hy with h | h <;> simp [h]
          · obtain ⟨s2, h7⟩ := trun_less e2' (s' := [c]) (fun y hy => by simp at hy; simp [hy])
            exact tB_of (fun y hy => hvt y (.inr (.inl hy))) h7
          · intro y hy h7
            rw [List.mem_append] at h7
            rcases h7 with h7 | h7
            · exact hbs y hy ((hs0' y).2 h7)
            · exact hDb y h7 hy
          · rw [ht]
            simp
            constructor
            · rintro (h | h | h | h | h)
              · simp [h]
              · simp [h]
              · simp [h]
              · rw [h]; simp [hpA]
              · simp [h]
            · rintro ((h | h) | h | h) <;> simp [h]
          · rw [hA, List.getElem?_append_left (by simp; omega), List.getElem?_take_of_lt (by omega)]
          · have e3 := congrArg List.length ht
            simp at e3 ⊢
            omega

end Go.Proofs.YtkkplppcgnikoaaGreat
namespace Go.Proofs.YtkkplppcgnikoaaGreat

theorem no_stay {t : List Int} {x : Int} {j : Nat} (hB : tB t = true) (h1 : t[j]? = some x) (h2 : t[j + 1]? = some x) : False := by
  obtain ⟨_, x0, s0, hrun⟩ := (tB_iff t).1 hB
  have hj := (List.getElem?_eq_some_iff.1 h2).1
  have e1 : t = t.take (j + 1) ++ (x :: t.drop (j + 2)) := by
    have := List.take_append_drop (j + 1) t
    rw [List.drop_eq_getElem_cons hj] at this
    rw [List.getElem?_eq_getElem hj] at h2
    simp at h2
    rw [h2] at this
    exact this.symm
  have e2 : t.take (j + 1) = t.take j ++ [x] := take_snocF t j x h1
  rw [e1, trun_append] at hrun
  cases hq : trun [] [] (t.take (j + 1)) with
  | none => rw [hq] at hrun; simp at hrun
  | some z =>
    obtain ⟨w, s⟩ := z
    rw [hq] at hrun
    simp only [Option.bind_some] at hrun
    have htop : w.head? = some x := by rw [e2] at hq; exact trun_top hq
    obtain ⟨_, hw⟩ := trun_seen hq (by simp)
    have hn := trun_way hq (by simp) (by simp)
    rcases trun_cons hrun with ⟨hu, _⟩ | ⟨_, hs, _⟩
    · obtain ⟨c, z, rfl⟩ := isUp_some hu
      simp at htop
      subst htop
      simp at hn
    · cases w with
      | nil => simp at htop
      | cons c z => simp at htop; subst htop; exact hs (hw c (by simp))
end Go.Proofs.YtkkplppcgnikoaaGreat
namespace Go.Proofs.YtkkplppcgnikoaaGreat
open Go.RowKit

theorem nd_sub {α : Type} [DecidableEq α] : ∀ {a b : List α}, a.Nodup → (∀ x ∈ a, x ∈ b) → a.length ≤ b.length
  | [], _, _, _ => by simp
  | x :: a, b, hn, h => by
    have hn' := List.nodup_cons.1 hn
    have h1 := nd_sub (b := b.erase x) hn'.2 fun y hy => by
      have hne : y ≠ x := fun e => hn'.1 (e ▸ hy)
      exact (List.mem_erase_of_ne hne).2 (h y (by simp [hy]))
    have h2 := List.length_erase_of_mem (h x (by simp))
    have h3 := List.length_pos_of_mem (h x (by simp))
    simp only [List.length_cons]
    omega
theorem vs_nodup (t : List Int) : (vsL t).Nodup := (vsK_asc t 12).imp fun h e => by omega
end Go.Proofs.YtkkplppcgnikoaaGreat
