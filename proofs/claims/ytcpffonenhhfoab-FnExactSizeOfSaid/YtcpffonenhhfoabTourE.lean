/- The edges that a right tour goes along: each is the only way between its ends, they hold all of its vertices together, and the tour has twice as many steps: pure. -/
import Derived.Test.YtcpffonenhhfoabTourT
import Derived.Test.YtcpffonenhhfoabWk
namespace Go.Proofs.Ytcpffonenhhfoab

/-- the edges of the first k steps that go up in number, each once -/
def eK (t : List Int) : Nat → List EdgeV
  | 0 => []
  | i + 1 => match t[i]?, t[i + 1]? with
    | some a, some b => if a < b ∧ (a, b) ∉ eK t i then eK t i ++ [(a, b)] else eK t i
    | _, _ => eK t i
def tE (t : List Int) : List EdgeV := eK t (t.length - 1)
theorem eK_yes {t : List Int} {i : Nat} {a b : Int} (h1 : t[i]? = some a) (h2 : t[i + 1]? = some b) (hl : a < b) (hn : (a, b) ∉ eK t i) : eK t (i + 1) = eK t i ++ [(a, b)] := by
  rw [eK, h1, h2]; exact if_pos ⟨hl, hn⟩
theorem eK_no {t : List Int} {i : Nat} {a b : Int} (h1 : t[i]? = some a) (h2 : t[i + 1]? = some b) (hn : ¬ (a < b ∧ (a, b) ∉ eK t i)) : eK t (i + 1) = eK t i := by
  rw [eK, h1, h2]; exact if_neg hn
theorem eK_len (t : List Int) (k : Nat) : (eK t k).length ≤ k := by
  induction k with
  | zero => simp [eK]
  | succ k ih =>
    rw [eK]
    split
    · split
      · simp; omega
      · omega
    · omega
theorem eK_nodup (t : List Int) (k : Nat) : (eK t k).Nodup := by
  induction k with
  | zero => simp [eK]
  | succ k ih =>
    rw [eK]
    split
    · split
      · rename_i h
        rw [List.nodup_append]
        exact ⟨ih, by simp, fun x hx y hy => by simp at hy; subst hy; exact fun e => h.2 (e ▸ hx)⟩
      · exact ih
    · exact ih
theorem eK_mem (t : List Int) (k : Nat) (e : EdgeV) : e ∈ eK t k ↔ ∃ i, i < k ∧ t[i]? = some e.1 ∧ t[i + 1]? = some e.2 ∧ e.1 < e.2 := by
  induction k with
  | zero => simp [eK]
  | succ k ih =>
    constructor
    · intro h
      rw [eK] at h
      split at h
      · rename_i a b h1 h2
        split at h
        · rename_i hc
          rcases List.mem_append.1 h with h | h
          · obtain ⟨i, hi, h3⟩ := ih.1 h; exact ⟨i, by omega, h3⟩
          · simp at h; subst h; exact ⟨k, by omega, h1, h2, hc.1⟩
        · obtain ⟨i, hi, h3⟩ := ih.1 h; exact ⟨i, by omega, h3⟩
      · obtain ⟨i, hi, h3⟩ := ih.1 h; exact ⟨i, by omega, h3⟩
    · rintro ⟨i, hi, h1, h2, h3⟩
      by_cases hk : i = k
      · subst hk
        by_cases hm : e ∈ eK t i
        · rw [eK_no h1 h2 (fun h => h.2 hm)]; exact hm
        · rw [eK_yes h1 h2 h3 hm]; simp
      · have := ih.2 ⟨i, by omega, h1, h2, h3⟩
        rw [eK]
        split
        · split
          · simp [this]
          · exact this
        · exact this
theorem tE_mem (t : List Int) (e : EdgeV) : e ∈ tE t ↔ ∃ i, t[i]? = some e.1 ∧ t[i + 1]? = some e.2 ∧ e.1 < e.2 := by
  unfold tE
  rw [eK_mem]
  constructor
  · rintro ⟨i, _, h⟩; exact ⟨i, h⟩
  · rintro ⟨i, h1, h2, h3⟩
    have := (List.getElem?_eq_some_iff.1 h2).1
    exact ⟨i, by omega, h1, h2, h3⟩
theorem tE_step {t : List Int} (hB : tB t = true) {i : Nat} {a b : Int} (h1 : t[i]? = some a) (h2 : t[i + 1]? = some b) : mkE a b ∈ tE t := by
  unfold mkE
  by_cases h : a < b
  · rw [if_pos h]; exact (tE_mem t _).2 ⟨i, h1, h2, h⟩
  · rw [if_neg h]
    have hne : a ≠ b := fun e => by subst e; exact no_stay hB h1 h2
    obtain ⟨j, hj⟩ := go_back hB h1 h2
    simp [goP] at hj
    exact (tE_mem t _).2 ⟨j, hj.1, hj.2, by show b < a; omega⟩
theorem tE_ends {t : List Int} (hB : tB t = true) : ∀ e ∈ tE t, 0 ≤ e.1 ∧ e.1 < e.2 ∧ e.2 < ((12 : Nat) : Int) := fun e he => by
  obtain ⟨i, h1, h2, h3⟩ := (tE_mem t e).1 he
  have hv := ((tB_iff t).1 hB).1
  have a1 := hv _ (List.mem_of_getElem? h1)
  have a2 := hv _ (List.mem_of_getElem? h2)
  simp [vB] at a1 a2
  omega
theorem tE_in {t : List Int} : ∀ e ∈ tE t, e.1 ∈ t ∧ e.2 ∈ t := fun e he => by
  obtain ⟨i, h1, h2, _⟩ := (tE_mem t e).1 he
  exact ⟨List.mem_of_getElem? h1, List.mem_of_getElem? h2⟩
/-- below c, and not below c, are apart but for the one edge -/
theorem split_side {t : List Int} {p c : Int} {d q : Nat} (hB : tB t = true) (h1 : t[d]? = some p) (h2 : t[d + 1]? = some c) (h3 : t[q]? = some c) (h4 : t[q + 1]? = some p) (hdq : d < q)
    (hno : ∀ j, j < q → t[j]? = some c → t[j + 1]? = some p → False) : ∃ S : Int → Prop, S c ∧ ¬ S p ∧ ∀ (i : Nat) (a b : Int), t[i]? = some a → t[i + 1]? = some b → mkE a b ≠ mkE p c → (S a ↔ S b) := by
  have SI := split_is hB h1 h2 h4 hdq hno
  refine ⟨fun x => x ∈ (t.take (q + 1)).drop (d + 1), SI.low, fun h => SI.apart p h SI.high, fun i a b ha hb hne => ?_⟩
  have hin : ∀ (j : Nat) (x : Int), t[j]? = some x → d + 1 ≤ j → j ≤ q → x ∈ (t.take (q + 1)).drop (d + 1) := fun j x hx h5 h6 => by
    refine List.mem_of_getElem? (i := j - (d + 1)) ?_
    rw [List.getElem?_drop, show d + 1 + (j - (d + 1)) = j by omega, List.getElem?_take_of_lt (by omega)]
    exact hx
  have hout : ∀ (j : Nat) (x : Int), t[j]? = some x → (j ≤ d ∨ q + 1 ≤ j) → x ∉ (t.take (q + 1)).drop (d + 1) := fun j x hx h5 h6 => by
    refine SI.apart x h6 ?_
    rw [List.mem_append]
    rcases h5 with h5 | h5
    · left
      refine List.mem_of_getElem? (i := j) ?_
      rw [List.getElem?_take_of_lt (by omega)]
      exact hx
    · by_cases h7 : j = q + 1
      · subst h7
        rw [h4] at hx
        simp at hx
        subst hx
        left
        refine List.mem_of_getElem? (i := d) ?_
        rw [List.getElem?_take_of_lt (by omega)]
        exact h1
      · right
        refine List.mem_of_getElem? (i := j - (q + 2)) ?_
        rw [List.getElem?_drop, show q + 2 + (j - (q + 2)) = j by omega]
        exact hx
  by_cases hid : i = d
  · subst hid
    rw [h1] at ha; rw [h2] at hb
    simp at ha hb
    subst ha hb
    exact absurd rfl hne
  · by_cases hiq : i = q
    · subst hiq
      rw [h3] at ha; rw [h4] at hb
      simp at ha hb
      subst ha hb
      exact absurd (mkE_comm (fun e => by subst e; exact no_stay hB h3 h4)) hne
    · by_cases hmid : d + 1 ≤ i ∧ i < q
      · exact ⟨fun _ => hin (i + 1) b hb (by omega) (by omega), fun _ => hin i a ha (by omega) (by omega)⟩
      · exact ⟨fun h => absurd h (hout i a ha (by omega)), fun h => absurd h (hout (i + 1) b hb (by omega))⟩
theorem tE_bridge {t : List Int} (hB : tB t = true) : Bridge (tE t) := fun e he => by
  obtain ⟨i, x1, x2, hlt⟩ := (tE_mem t e).1 he
  have em : mkE e.1 e.2 = e := by unfold mkE; rw [if_pos hlt]
  have key : ∃ S : Int → Prop, ((S e.2 ∧ ¬ S e.1) ∨ (S e.1 ∧ ¬ S e.2)) ∧ ∀ (i : Nat) (a b : Int), t[i]? = some a → t[i + 1]? = some b → mkE a b ≠ e → (S a ↔ S b) := by
    rcases go_at (t := t) (u := e.1) (v := e.2) with ⟨k1, _, _, a1, a2, a3⟩ | ⟨_, hn⟩
    · rcases go_at (t := t) (u := e.2) (v := e.1) with ⟨k2, _, _, b1, b2, b3⟩ | ⟨_, hn⟩
      · have hne : k1 ≠ k2 := fun h => by
          subst h
          rw [a1] at b1
          simp at b1
          omega
        rcases Nat.lt_or_gt_of_ne hne with h | h
        · obtain ⟨S, s1, s2, s3⟩ := split_side hB a1 a2 b1 b2 h (fun j hj y1 y2 => by have := b3 j hj; simp [goP, y1, y2] at this)
          exact ⟨S, .inl ⟨s1, s2⟩, fun i a b h1 h2 h3 => s3 i a b h1 h2 (by rw [em]; exact h3)⟩
        · obtain ⟨S, s1, s2, s3⟩ := split_side hB b1 b2 a1 a2 h (fun j hj y1 y2 => by have := a3 j hj; simp [goP, y1, y2] at this)
          exact ⟨S, .inr ⟨s1, s2⟩, fun i a b h1 h2 h3 => s3 i a b h1 h2 (by rw [show mkE e.2 e.1 = e from (mkE_comm (by omega)).trans em]; exact h3)⟩
      · obtain ⟨j, hj⟩ := go_back hB x1 x2
        have hj1 : j + 1 < t.length := by
          simp [goP] at hj
          exact (List.getElem?_eq_some_iff.1 hj.2).1
        rw [hn j hj1] at hj
        simp at hj
    · have := hn i (List.getElem?_eq_some_iff.1 x2).1
      simp [goP, x1, x2] at this
  obtain ⟨S, hS, hSc⟩ := key
  have hcr : ∀ d ∈ tE t, d ≠ e → (S d.1 ↔ S d.2) := fun d hd hne => by
    obtain ⟨j, y1, y2, hl⟩ := (tE_mem t d).1 hd
    have : mkE d.1 d.2 = d := by unfold mkE; rw [if_pos hl]
    exact hSc j d.1 d.2 y1 y2 (by rw [this]; exact hne)
  rcases hS with ⟨s1, s2⟩ | ⟨s1, s2⟩
  · exact ⟨S, s1, s2, hcr⟩
  · exact ⟨fun x => ¬ S x, s2, fun h => h s1, fun d hd hne => not_congr (hcr d hd hne)⟩
/-- a set that no edge leaves has all of the vertices, or none -/
theorem tE_all {t : List Int} (hB : tB t = true) {S : Int → Prop} (hS : ∀ e ∈ tE t, (S e.1 ↔ S e.2)) {x y : Int} (hx : x ∈ t) (hy : y ∈ t) : S x ↔ S y := by
  have key : ∀ (i : Nat) (a z : Int), t[0]? = some z → t[i]? = some a → (S z ↔ S a) := fun i => by
    induction i with
    | zero => intro a z h1 h2; rw [h1] at h2; simp at h2; subst h2; exact Iff.rfl
    | succ i ih =>
      intro a z h1 h2
      have hi := (List.getElem?_eq_some_iff.1 h2).1
      obtain ⟨b, hb⟩ : ∃ b, t[i]? = some b := ⟨t[i]'(by omega), List.getElem?_eq_getElem (by omega)⟩
      have h3 := hS _ (tE_step hB hb h2)
      rw [ih b z h1 hb]
      rcases mkE_ends b a with e | e
      · rw [e] at h3; exact h3
      · rw [e] at h3; exact h3.symm
  obtain ⟨i, hi⟩ := List.mem_iff_getElem?.1 hx
  obtain ⟨j, hj⟩ := List.mem_iff_getElem?.1 hy
  have hl := tB_len hB
  have h0 : t[0]? = some (t[0]'(by omega)) := List.getElem?_eq_getElem (by omega)
  rw [← key i x _ h0 hi, key j y _ h0 hj]

theorem wk_closed {es : List EdgeV} {n : Nat} (hE : ∀ e ∈ es, 0 ≤ e.1 ∧ e.1 < e.2 ∧ e.2 < (n : Int)) (f : Nat) : ∀ (v fr : Int) (seen t sn : List Int), wk es n f v fr seen = some (t, sn) → v ∈ t ∧ ∀ e ∈ es, e ≠ mkE v fr → (e.1 ∈ t ↔ e.2 ∈ t) := by
  induction f with
  | zero => intro v fr seen t sn h; simp [wk] at h
  | succ f ih =>
    intro v fr seen t sn h
    rw [wk] at h
    have key : ∀ (rem k : Nat) (out seen : List Int), rem + k = n → v ∈ out → (∀ e ∈ es, e ≠ mkE v fr → (∀ u : Nat, k ≤ u → u < n → e ≠ mkE v (u : Int)) → (e.1 ∈ out ↔ e.2 ∈ out)) → wkGo (wk es n f) es n v fr rem out seen = some (t, sn) → v ∈ t ∧ ∀ e ∈ es, e ≠ mkE v fr → (e.1 ∈ t ↔ e.2 ∈ t) := by
      intro rem
      induction rem with
      | zero =>
        intro k out seen hk hv hc h
        simp [wkGo] at h
        rw [← h.1]
        exact ⟨hv, fun e he hne => hc e he hne (fun u h1 h2 => by omega)⟩
      | succ rem ihr =>
        intro k out seen hk hv hc h
        have ek : n - (rem + 1) = k := by omega
        by_cases hs : (k : Int) = fr ∨ mkE v (k : Int) ∉ es
        · rw [wkGo_skip ek hs] at h
          refine ihr (k + 1) out seen (by omega) hv (fun e he hne hu => hc e he hne (fun u h1 h2 => ?_)) h
          by_cases huk : u = k
          · subst huk
            rcases hs with hs | hs
            · rw [hs]; exact hne
            · exact fun e2 => hs (e2 ▸ he)
          · exact hu u (by omega) h2
        · have hkf : (k : Int) ≠ fr := fun e => hs (.inl e)
          have he : mkE v (k : Int) ∈ es := Classical.not_not.1 (fun e => hs (.inr e))
          obtain ⟨_, p, hp, hgo⟩ := wkGo_go ek hkf he h
          obtain ⟨hkp, hpc⟩ := ih (k : Int) v seen p.1 p.2 hp
          refine ihr (k + 1) _ p.2 (by omega) (by simp) (fun e he2 hne hu => ?_) hgo
          simp only [List.mem_append, List.mem_singleton]
          by_cases h5 : e = mkE v (k : Int)
          · subst h5
            rcases mkE_ends v (k : Int) with e | e
            · rw [e]; exact ⟨fun _ => .inl (.inr hkp), fun _ => .inl (.inl hv)⟩
            · rw [e]; exact ⟨fun _ => .inl (.inl hv), fun _ => .inl (.inr hkp)⟩
          · have hvk : v ≠ (k : Int) := fun e => by
              have := hE _ he
              rw [← e] at this
              unfold mkE at this
              rw [if_neg (by omega)] at this
              simp at this
            have h6 := hc e he2 hne (fun u h1 h2 => by
              by_cases huk : u = k
              · subst huk; exact h5
              · exact hu u (by omega) h2)
            have h7 := hpc e he2 (by rw [mkE_comm (fun e => hvk e.symm)]; exact h5)
            have hv1 : e.1 = v → e.1 ∈ out := fun e => e ▸ hv
            have hv2 : e.2 = v → e.2 ∈ out := fun e => e ▸ hv
            constructor
            · rintro ((h8 | h8) | h8)
              · exact .inl (.inl (h6.1 h8))
              · exact .inl (.inr (h7.1 h8))
              · exact .inl (.inl (h6.1 (hv1 h8)))
            · rintro ((h8 | h8) | h8)
              · exact .inl (.inl (h6.2 h8))
              · exact .inl (.inr (h7.2 h8))
              · exact .inl (.inl (h6.2 (hv2 h8)))
    refine key n 0 [v] (v :: seen) (by omega) (by simp) (fun e he hne hu => ?_) h
    have h1 := hE e he
    have no : ∀ w : Int, 0 ≤ w → w < (n : Int) → e ≠ mkE v w := fun w h2 h3 => by
      have := hu w.toNat (by omega) (by omega)
      rw [Int.toNat_of_nonneg h2] at this
      exact this
    have n1 : e.1 ≠ v := fun h2 => no e.2 (by omega) (by omega) (by unfold mkE; rw [← h2, if_pos h1.2.1])
    have n2 : e.2 ≠ v := fun h2 => no e.1 (by omega) (by omega) (by unfold mkE; rw [← h2, if_neg (by omega)])
    simp [n1, n2]

theorem nodup_sub {α : Type} [DecidableEq α] : ∀ {a b : List α}, a.Nodup → (∀ x ∈ a, x ∈ b) → a.length ≤ b.length
  | [], _, _, _ => by simp
  | x :: a, b, hn, hs => by
    rw [List.nodup_cons] at hn
    have h1 := nodup_sub (a := a) (b := b.erase x) hn.2 (fun y hy => (List.mem_erase_of_ne (show y ≠ x from fun e => hn.1 (by rw [← e]; exact hy))).2 (hs y (by simp [hy])))
    have h2 := List.length_erase_of_mem (hs x (by simp))
    have h3 : 0 < b.length := List.length_pos_of_mem (hs x (by simp))
    simp
    omega
theorem tour_card {t s : List Int} (ht : tB t = true) (hs : tB s = true) (h : ∀ x, x ∈ t ↔ x ∈ s) : t.length = s.length := by
  obtain ⟨_, x1, s1, r1⟩ := (tB_iff t).1 ht
  obtain ⟨_, x2, s2, r2⟩ := (tB_iff s).1 hs
  have l1 := trun_len r1
  have l2 := trun_len r2
  have n1 := trun_nodup r1 (by simp)
  have n2 := trun_nodup r2 (by simp)
  have m1 := (trun_seen r1 (by simp)).1
  have m2 := (trun_seen r2 (by simp)).1
  have a := nodup_sub n1 (b := s2) (fun y hy => (m2 y).2 (.inr ((h y).1 (by simpa using (m1 y).1 hy))))
  have b := nodup_sub n2 (b := s1) (fun y hy => (m1 y).2 (.inr ((h y).2 (by simpa using (m2 y).1 hy))))
  simp at l1 l2
  omega
/-- the edges along which a run goes down -/
def dRun : List Int → List Int → List EdgeV
  | _, [] => []
  | w, v :: r => if isUp w v = true then dRun w.tail r else (w.head?.toList.map fun p => mkE p v) ++ dRun (v :: w) r
def adjE : List Int → List EdgeV
  | a :: b :: w => mkE a b :: adjE (b :: w)
  | _ => []
theorem dRun_len {r w s w1 s1 : List Int} (h : trun w s r = some (w1, s1)) (hw : w ≠ []) : (dRun w r).length + s.length = s1.length := by
  induction r generalizing w s with
  | nil => simp [trun] at h; simp [dRun, h.2]
  | cons v r ih =>
    rcases trun_cons h with ⟨hu, h1⟩ | ⟨hu, _, h1⟩
    · rw [dRun, if_pos hu]
      obtain ⟨c, q, rfl⟩ := isUp_some hu
      exact ih h1 (by simp)
    · rw [dRun, if_neg (by rw [hu]; simp)]
      have := ih h1 (by simp)
      cases w with
      | nil => exact absurd rfl hw
      | cons p q => simp at this ⊢; omega
theorem dRun_new {r w s w1 s1 : List Int} (h : trun w s r = some (w1, s1)) : ∀ e ∈ dRun w r, e.1 ∉ s ∨ e.2 ∉ s := by
  induction r generalizing w s with
  | nil => simp [dRun]
  | cons v r ih =>
    intro e he
    rcases trun_cons h with ⟨hu, h1⟩ | ⟨hu, hv, h1⟩
    · rw [dRun, if_pos hu] at he
      exact ih h1 e he
    · rw [dRun, if_neg (by rw [hu]; simp)] at he
      rcases List.mem_append.1 he with he | he
      · cases w with
        | nil => simp at he
        | cons p q =>
          simp at he
          subst he
          rcases mkE_ends p v with e | e
          · rw [e]; exact .inr hv
          · rw [e]; exact .inl hv
      · exact (ih h1 e he).imp (fun h2 h3 => h2 (by simp [h3])) (fun h2 h3 => h2 (by simp [h3]))
theorem dRun_nodup {r w s w1 s1 : List Int} (h : trun w s r = some (w1, s1)) (hw : ∀ x ∈ w, x ∈ s) : (dRun w r).Nodup := by
  induction r generalizing w s with
  | nil => simp [dRun]
  | cons v r ih =>
    rcases trun_cons h with ⟨hu, h1⟩ | ⟨hu, hv, h1⟩
    · rw [dRun, if_pos hu]
      exact ih h1 (fun x hx => hw x (List.mem_of_mem_tail hx))
    · rw [dRun, if_neg (by rw [hu]; simp)]
      have hw2 : ∀ x ∈ v :: w, x ∈ v :: s := fun x hx => by
        rcases List.mem_cons.1 hx with rfl | hx
        · simp
        · exact List.mem_cons_of_mem _ (hw x hx)
      have h2 := ih h1 hw2
      cases w with
      | nil => simpa using h2
      | cons p q =>
        simp only [List.head?_cons, Option.toList_some, List.map_cons, List.map_nil, List.singleton_append, List.nodup_cons]
        refine ⟨fun h3 => ?_, h2⟩
        have := dRun_new h1 _ h3
        have hp := hw p (by simp)
        rcases mkE_ends p v with e | e
        · rw [e] at this; simp [hp] at this
        · rw [e] at this; simp [hp] at this
theorem dRun_steps {r w : List Int} {c : Int} (hc : w.head? = some c) : ∀ (i : Nat) (a b : Int), (c :: r)[i]? = some a → (c :: r)[i + 1]? = some b → mkE a b ∈ dRun w r ∨ mkE a b ∈ adjE w ∨ mkE b a ∈ adjE w ∨ mkE b a ∈ dRun w r := by
  induction r generalizing w c with
  | nil => intro i a b h1 h2; simp at h2
  | cons v r ih =>
    intro i a b h1 h2
    cases w with
    | nil => simp at hc
    | cons c' q =>
      simp at hc
      subst hc
      cases hu : isUp (c' :: q) v with
      | true =>
        rw [dRun, if_pos hu]
        obtain ⟨c2, z, e⟩ := isUp_some hu
        simp at e
        obtain ⟨rfl, rfl⟩ := e
        cases i with
        | zero =>
          simp at h1 h2
          subst h1 h2
          exact .inr (.inl (by simp [adjE]))
        | succ i =>
          rcases ih (w := v :: z) rfl i a b (by simpa using h1) (by simpa using h2) with h | h | h | h
          · exact .inl h
          · exact .inr (.inl (by simp [adjE, h]))
          · exact .inr (.inr (.inl (by simp [adjE, h])))
          · exact .inr (.inr (.inr h))
      | false =>
        rw [dRun, if_neg (by rw [hu]; simp)]
        cases i with
        | zero =>
          simp at h1 h2
          subst h1 h2
          exact .inl (by simp)
        | succ i =>
          rcases ih (w := v :: c' :: q) rfl i a b (by simpa using h1) (by simpa using h2) with h | h | h | h
          · exact .inl (by simp [h])
          · simp only [adjE, List.mem_cons] at h
            rcases h with h | h
            · rw [h]
              by_cases hvc : v = c'
              · subst hvc; exact .inl (by simp)
              · rw [mkE_comm hvc]; exact .inl (by simp)
            · exact .inr (.inl (by simpa [adjE] using h))
          · simp only [adjE, List.mem_cons] at h
            rcases h with h | h
            · rw [h]
              by_cases hvc : v = c'
              · subst hvc; exact .inr (.inr (.inr (by simp)))
              · rw [mkE_comm hvc]; exact .inr (.inr (.inr (by simp)))
            · exact .inr (.inr (.inl (by simpa [adjE] using h)))
          · exact .inr (.inr (.inr (by simp [h])))
theorem dRun_isStep {r w s w1 s1 : List Int} {c : Int} (h : trun w s r = some (w1, s1)) (hc : w.head? = some c) : ∀ e ∈ dRun w r, ∃ (i : Nat) (a b : Int), (c :: r)[i]? = some a ∧ (c :: r)[i + 1]? = some b ∧ e = mkE a b := by
  induction r generalizing w s c with
  | nil => simp [dRun]
  | cons v r ih =>
    intro e he
    rcases trun_cons h with ⟨hu, h1⟩ | ⟨hu, _, h1⟩
    · rw [dRun, if_pos hu] at he
      obtain ⟨c2, z, rfl⟩ := isUp_some hu
      obtain ⟨i, a, b, h2, h3, h4⟩ := ih h1 (c := v) rfl e he
      exact ⟨i + 1, a, b, by simpa using h2, by simpa using h3, h4⟩
    · rw [dRun, if_neg (by rw [hu]; simp)] at he
      rcases List.mem_append.1 he with he | he
      · rw [hc] at he
        simp at he
        exact ⟨0, c, v, rfl, rfl, he⟩
      · obtain ⟨i, a, b, h2, h3, h4⟩ := ih h1 (c := v) rfl e he
        exact ⟨i + 1, a, b, by simpa using h2, by simpa using h3, h4⟩
/-- a right tour has twice as many steps as edges -/
theorem tE_count {t : List Int} (hB : tB t = true) : t.length = 2 * (tE t).length + 1 := by
  obtain ⟨x, r, s, rfl, hr, _, _⟩ := tB_open hB
  have l1 := dRun_len hr (by simp)
  have l2 := trun_len hr
  have nd := dRun_nodup hr (by simp)
  have a := nodup_sub nd (b := tE (x :: r)) (fun e he => by
    obtain ⟨i, a, b, h1, h2, rfl⟩ := dRun_isStep hr (c := x) rfl e he
    exact tE_step hB h1 h2)
  have b := nodup_sub (eK_nodup (x :: r) ((x :: r).length - 1)) (b := dRun [x] r) (fun e he => by
    obtain ⟨i, h1, h2, h3⟩ := (tE_mem (x :: r) e).1 he
    have em : mkE e.1 e.2 = e := by unfold mkE; rw [if_pos h3]
    have em2 : mkE e.2 e.1 = e := by rw [mkE_comm (by omega)]; exact em
    have := dRun_steps (r := r) (w := [x]) (c := x) rfl i e.1 e.2 h1 h2
    rw [em, em2] at this
    simpa [adjE] using this)
  change (tE (x :: r)).length ≤ _ at b
  simp at l1 l2 ⊢
  omega
/-- the tour by its edges of a right tour -/
theorem tE_tour {t : List Int} (hB : tB t = true) {x0 : Int} (h0 : t[0]? = some x0) : ∃ s sn, wk (tE t) 12 12 x0 (-1) [] = some (s, sn) ∧ tB s = true ∧ (∀ x, x ∈ s ↔ x ∈ t) ∧ s.length = t.length ∧ 0 ≤ x0 ∧ x0 < 12 := by
  have hx : x0 ∈ t := List.mem_of_getElem? h0
  have hv := ((tB_iff t).1 hB).1 x0 hx
  simp [vB] at hv
  obtain ⟨s, sn, h1, h2⟩ := wk_ok (tE_ends hB) (tE_bridge hB) 12 x0 (-1) [] (by omega) (by omega) (by simp) (by simp) (by simp) ⟨fun _ => True, trivial, by simp, by simp⟩
  have hs : tB s = true := by
    obtain ⟨S', h3⟩ := h2.run [] [] (by simp) (by simp)
    refine (tB_iff s).2 ⟨fun y hy => ?_, x0, S', h3⟩
    have := h2.rng y ((h2.mem y).2 (.inr hy))
    simp [vB]
    omega
  have hm : ∀ x, x ∈ s ↔ x ∈ t := fun x => by
    constructor
    · exact h2.least (fun y => y ∈ t) hx (fun e he _ => ⟨fun _ => (tE_in e he).2, fun _ => (tE_in e he).1⟩) x
    · intro hxt
      obtain ⟨hxs, hcl⟩ := wk_closed (tE_ends hB) 12 x0 (-1) [] s sn h1
      refine (tE_all hB (S := fun y => y ∈ s) (fun e he => hcl e he ?_) hx hxt).1 hxs
      intro e2
      have := tE_ends hB e he
      rw [e2] at this
      rcases mkE_ends x0 (-1) with e3 | e3
      · rw [e3] at this; simp at this; omega
      · rw [e3] at this; simp at this
  exact ⟨s, sn, h1, hs, hm, tour_card hs hB hm, by omega, by omega⟩
/-- two vertices that no edge joins, where there are two edges and more -/
theorem tE_gap {t : List Int} (hB : tB t = true) (h2 : 2 ≤ (tE t).length) : ∃ a b, a ∈ t ∧ b ∈ t ∧ a < b ∧ (a, b) ∉ tE t := by
  refine Classical.byContradiction fun hno => ?_
  have hall : ∀ a b, a ∈ t → b ∈ t → a < b → (a, b) ∈ tE t := fun a b ha hb hl => Classical.byContradiction fun h => hno ⟨a, b, ha, hb, hl, h⟩
  have tri : ∀ a b c, a ∈ t → b ∈ t → c ∈ t → a < b → b < c → False := fun a b c ha hb hc h1 h3 => by
    have e1 := hall a c ha hc (by omega)
    have e2 := hall a b ha hb h1
    have e3 := hall b c hb hc h3
    obtain ⟨S, s1, s2, s3⟩ := tE_bridge hB _ e1
    have i1 := s3 _ e2 (by simp; omega)
    have i2 := s3 _ e3 (by simp; omega)
    simp at s1 s2 i1 i2
    exact s2 (i1.2 (i2.2 s1))
  obtain ⟨d, hd⟩ : ∃ d, (tE t)[0]? = some d := ⟨(tE t)[0]'(by omega), List.getElem?_eq_getElem (by omega)⟩
  obtain ⟨e, he⟩ : ∃ e, (tE t)[1]? = some e := ⟨(tE t)[1]'(by omega), List.getElem?_eq_getElem (by omega)⟩
  have hde : d ≠ e := fun h => by
    have hn := eK_nodup t (t.length - 1)
    obtain ⟨q0, q1⟩ := List.getElem?_eq_some_iff.1 (show (eK t (t.length - 1))[0]? = some d from hd)
    obtain ⟨q2, q3⟩ := List.getElem?_eq_some_iff.1 (show (eK t (t.length - 1))[1]? = some e from he)
    exact List.pairwise_iff_getElem.1 hn 0 1 q0 q2 (by omega) (by rw [q1, q3, h])
  have d1 := tE_in d (List.mem_of_getElem? hd)
  have e1 := tE_in e (List.mem_of_getElem? he)
  have d2 := tE_ends hB d (List.mem_of_getElem? hd)
  have e2 := tE_ends hB e (List.mem_of_getElem? he)
  by_cases h11 : d.1 = e.1
  · have : d.2 ≠ e.2 := fun h => hde (Prod.ext h11 h)
    rcases Nat.lt_or_ge 0 1 with _ | _
    · by_cases hl : d.2 < e.2
      · exact tri d.1 d.2 e.2 d1.1 d1.2 e1.2 (by omega) hl
      · exact tri e.1 e.2 d.2 e1.1 e1.2 d1.2 (by omega) (by omega)
    · omega
  · by_cases hl : d.1 < e.1
    · exact tri d.1 e.1 e.2 d1.1 e1.1 e1.2 hl (by omega)
    · exact tri e.1 d.1 d.2 e1.1 d1.1 d1.2 (by omega) (by omega)
end Go.Proofs.Ytcpffonenhhfoab
