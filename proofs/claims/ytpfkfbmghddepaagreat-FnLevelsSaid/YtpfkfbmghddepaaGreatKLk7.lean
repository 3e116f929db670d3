/- The edges that a right tour goes along: each is the only way between its ends, they hold all of its vertices together, and the tour has twice as many steps: pure. What a walk that closed no ring has gone along: pure. The vertices of a list of numbers, ascending; a sorted list without its repetitions: pure. Lists of tours in memory; what a right forest is: pure. Right forests, put in order by their least vertices: pure. Forests linked and cut: pure. -/
import Derived.Test.YtpfkfbmghddepaaGreatKTourT
import Derived.Test.YtpfkfbmghddepaaGreatKSTour
import Derived.Test.YtpfkfbmghddepaaGreatKLd9
import Derived.Lib.SlicesCompact
import Derived.Test.YtpfkfbmghddepaaGreatKSplit
namespace Go.Proofs.YtpfkfbmghddepaaGreat

/-- the edges of the first k steps that go up in number, each once -/
def eK (t : List Int) : Nat → List EdgeV
  | 0 => []
  | i + 1 => match t[i]?, t[i + 1]? with
    | some a, some b => if a < b ∧ (a, b) ∉ eK t i then eK t i ++ [(a, b)] else eK t i
    | _, _ => eK t i
def tE (t : List Int) : List EdgeV := eK t (t.length - 1)
theorem eK_yes {t : List Int} {i : Nat} {a b : Int} (h1 : t[i]? = some a) (h2 : t[i + 1]? = some b) (hl : a < b) (hn : (a, b) ∉ eK t i) : eK t (i + 1) = eK t i ++ [(a, b)] := by
  rw [eK, h1, h2]; exact if_pos ⟨hl, hn⟩
theorem eK_no {t : List Int} {i : Nat} {a b : Int} (h1 : t[i]? = some a) (h2 : t[i + 1]? = some b) (hn : ¬ (a < b ∧ (a, b) ∉ eK t i)) : eK t (i + 1) = eK t i := by
  rw [eK, h1, h2]; exact if_neg hn
theorem eK_len (t : List Int) (k : Nat) : (eK t k).length ≤ k := by
  induction k with
  | zero => simp [eK]
  | succ k ih =>
    rw [eK]
    split
    · split
      · simp; omega
      · omega
    · omega
theorem eK_nodup (t : List Int) (k : Nat) : (eK t k).Nodup := by
  induction k with
  | zero => simp [eK]
  | succ k ih =>
    rw [eK]
    split
    · split
      · rename_i h
        rw [List.nodup_append]
        exact ⟨ih, by simp, fun x hx y hy => by simp at hy; subst hy; exact fun e => h.2 (e ▸ hx)⟩
      · exact ih
    · exact ih
theorem eK_mem (t : List Int) (k : Nat) (e : EdgeV) : e ∈ eK t k ↔ ∃ i, i < k ∧ t[i]? = some e.1 ∧ t[i + 1]? = some e.2 ∧ e.1 < e.2 := by
  induction k with
  | zero => simp [eK]
  | succ k ih =>
    constructor
    · intro h
      rw [eK] at h
      split at h
      · rename_i a b h1 h2
        split at h
        · rename_i hc
          rcases List.mem_append.1 h with h | h
          · obtain ⟨i, hi, h3⟩ := ih.1 h; exact ⟨i, by omega, h3⟩
          · simp at h; subst h; exact ⟨k, by omega, h1, h2, hc.1⟩
        · obtain ⟨i, hi, h3⟩ := ih.1 h; exact ⟨i, by omega, h3⟩
      · obtain ⟨i, hi, h3⟩ := ih.1 h; exact ⟨i, by omega, h3⟩
    · rintro ⟨i, hi, h1, h2, h3⟩
      by_cases hk : i = k
      · subst hk
        by_cases hm : e ∈ eK t i
        · rw [eK_no h1 h2 (fun h => h.2 hm)]; exact hm
        · rw [eK_yes h1 h2 h3 hm]; simp
      · have := ih.2 ⟨i, by omega, h1, h2, h3⟩
        rw [eK]
        split
        · split
          · simp [this]
          · exact this
        · exact this
theorem tE_mem (t : List Int) (e : EdgeV) : e ∈ tE t ↔ ∃ i, t[i]? = some e.1 ∧ t[i + 1]? = some e.2 ∧ e.1 < e.2 := by
  unfold tE
  rw [eK_mem]
  constructor
  · rintro ⟨i, _, h⟩; exact ⟨i, h⟩
  · rintro ⟨i, h1, h2, h3⟩
    have := (List.getElem?_eq_some_iff.1 h2).1
    exact ⟨i, by omega, h1, h2, h3⟩
theorem tE_step {t : List Int} (hB : tB t = true) {i : Nat} {a b : Int} (h1 : t[i]? = some a) (h2 : t[i + 1]? = some b) : mkE a b ∈ tE t := by
  unfold mkE
  by_cases h : a < b
  · rw [if_pos h]; exact (tE_mem t _).2 ⟨i, h1, h2, h⟩
  · rw [if_neg h]
    have hne : a ≠ b := fun e => by subst e; exact no_stay hB h1 h2
    obtain ⟨j, hj⟩ := go_back hB h1 h2
    simp [goP] at hj
    exact (tE_mem t _).2 ⟨j, hj.1, hj.2, by show b < a; omega⟩
theorem tE_ends {t : List Int} (hB : tB t = true) : ∀ e ∈ tE t, 0 ≤ e.1 ∧ e.1 < e.2 ∧ e.2 < ((12 : Nat) : Int) := fun e he => by
  obtain ⟨i, h1, h2, h3⟩ := (tE_mem t e).1 he
  have hv := ((tB_iff t).1 hB).1
  have a1 := hv _ (List.mem_of_getElem? h1)
  have a2 := hv _ (List.mem_of_getElem? h2)
  simp [vB] at a1 a2
  omega
theorem tE_in {t : List Int} : ∀ e ∈ tE t, e.1 ∈ t ∧ e.2 ∈ t := fun e he => by
  obtain ⟨i, h1, h2, _⟩ := (tE_mem t e).1 he
  exact ⟨List.mem_of_getElem? h1, List.mem_of_getElem? h2⟩
/-- below c, and not below c, are apart but for the one edge -/
theorem split_side {t : List Int} {p c : Int} {d q : Nat} (hB : tB t = true) (h1 : t[d]? = some p) (h2 : t[d + 1]? = some c) (h3 : t[q]? = some c) (h4 : t[q + 1]? = some p) (hdq : d < q)
    (hno : ∀ j, j < q → t[j]? = some c → t[j + 1]? = some p → False) : ∃ S : Int → Prop, S c ∧ ¬ S p ∧ ∀ (i : Nat) (a b : Int), t[i]? = some a → t[i + 1]? = some b → mkE a b ≠ mkE p c → (S a ↔ S b) := by
  have SI := split_is hB h1 h2 h4 hdq hno
  refine ⟨fun x => x ∈ (t.take (q + 1)).drop (d + 1), SI.low, fun h => SI.apart p h SI.high, fun i a b ha hb hne => ?_⟩
  have hin : ∀ (j : Nat) (x : Int), t[j]? = some x → d + 1 ≤ j → j ≤ q → x ∈ (t.take (q + 1)).drop (d + 1) := fun j x hx h5 h6 => by
    refine List.mem_of_getElem? (i := j - (d + 1)) ?_
    rw [List.getElem?_drop, show d + 1 + (j - (d + 1)) = j by omega, List.getElem?_take_of_lt (by omega)]
    exact hx
  have hout : ∀ (j : Nat) (x : Int), t[j]? = some x → (j ≤ d ∨ q + 1 ≤ j) → x ∉ (t.take (q + 1)).drop (d + 1) := fun j x hx h5 h6 => by
    refine SI.apart x h6 ?_
    rw [List.mem_append]
    rcases h5 with h5 | h5
    · left
      refine List.mem_of_getElem? (i := j) ?_
      rw [List.getElem?_take_of_lt (by omega)]
      exact hx
    · by_cases h7 : j = q + 1
      · subst h7
        rw [h4] at hx
        simp at hx
        subst hx
        left
        refine List.mem_of_getElem? (i := d) ?_
        rw [List.getElem?_take_of_lt (by omega)]
        exact h1
      · right
        refine List.mem_of_getElem? (i := j - (q + 2)) ?_
        rw [List.getElem?_drop, show q + 2 + (j - (q + 2)) = j by omega]
        exact hx
  by_cases hid : i = d
  · subst hid
    rw [h1] at ha; rw [h2] at hb
    simp at ha hb
    subst ha hb
    exact absurd rfl hne
  · by_cases hiq : i = q
    · subst hiq
      rw [h3] at ha; rw [h4] at hb
      simp at ha hb
      subst ha hb
      exact absurd (mkE_comm (fun e => by subst e; exact no_stay hB h3 h4)) hne
    · by_cases hmid : d + 1 ≤ i ∧ i < q
      · exact ⟨fun _ => hin (i + 1) b hb (by omega) (by omega), fun _ => hin i a ha (by omega) (by omega)⟩
      · exact ⟨fun h => absurd h (hout i a ha (by omega)), fun h => absurd h (hout (i + 1) b hb (by omega))⟩
theorem tE_bridge {t : List Int} (hB : tB t = true) : Bridge (tE t) := fun e he => by
  obtain ⟨i, x1, x2, hlt⟩ := (tE_mem t e).1 he
  have em : mkE e.1 e.2 = e := by unfold mkE; rw [if_pos hlt]
  have key : ∃ S : Int → Prop, ((S e.2 ∧ ¬ S e.1) ∨ (S e.1 ∧ ¬ S e.2)) ∧ ∀ (i : Nat) (a b : Int), t[i]? = some a → t[i + 1]? = some b → mkE a b ≠ e → (S a ↔ S b) := by
    rcases go_at (t := t) (u := e.1) (v := e.2) with ⟨k1, _, _, a1, a2, a3⟩ | ⟨_, hn⟩
    · rcases go_at (t := t) (u := e.2) (v := e.1) with ⟨k2, _, _, b1, b2, b3⟩ | ⟨_, hn⟩
      · have hne : k1 ≠ k2 := fun h => by
          subst h
          rw [a1] at b1
          simp at b1
          omega
        rcases Nat.lt_or_gt_of_ne hne with h | h
        · obtain ⟨S, s1, s2, s3⟩ := split_side hB a1 a2 b1 b2 h (fun j hj y1 y2 => by have := b3 j hj; simp [goP, y1, y2] at this)
          exact ⟨S, .inl ⟨s1, s2⟩, fun i a b h1 h2 h3 => s3 i a b h1 h2 (by rw [em]; exact h3)⟩
        · obtain ⟨S, s1, s2, s3⟩ := split_side hB b1 b2 a1 a2 h (fun j hj y1 y2 => by have := a3 j hj; simp [goP, y1, y2] at this)
          exact ⟨S, .inr ⟨s1, s2⟩, fun i a b h1 h2 h3 => s3 i a b h1 h2 (by rw [show mkE e.2 e.1 = e from (mkE_comm (by omega)).trans em]; exact h3)⟩
      · obtain ⟨j, hj⟩ := go_back hB x1 x2
        have hj1 : j + 1 < t.length := by
          simp [goP] at hj
          exact (List.getElem?_eq_some_iff.1 hj.2).1
        rw [hn j hj1] at hj
        simp at hj
    · have := hn i (List.getElem?_eq_some_iff.1 x2).1
      simp [goP, x1, x2] at this
  obtain ⟨S, hS, hSc⟩ := key
  have hcr : ∀ d ∈ tE t, d ≠ e → (S d.1 ↔ S d.2) := fun d hd hne => by
    obtain ⟨j, y1, y2, hl⟩ := (tE_mem t d).1 hd
    have : mkE d.1 d.2 = d := by unfold mkE; rw [if_pos hl]
    exact hSc j d.1 d.2 y1 y2 (by rw [this]; exact hne)
  rcases hS with ⟨s1, s2⟩ | ⟨s1, s2⟩
  · exact ⟨S, s1, s2, hcr⟩
  · exact ⟨fun x => ¬ S x, s2, fun h => h s1, fun d hd hne => not_congr (hcr d hd hne)⟩
/-- a set that no edge leaves has all of the vertices, or none -/
theorem tE_all {t : List Int} (hB : tB t = true) {S : Int → Prop} (hS : ∀ e ∈ tE t, (S e.1 ↔ S e.2)) {x y : Int} (hx : x ∈ t) (hy : y ∈ t) : S x ↔ S y := by
  have key : ∀ (i : Nat) (a z : Int), t[0]? = some z → t[i]? = some a → (S z ↔ S a) := fun i => by
    induction i with
    | zero => intro a z h1 h2; rw [h1] at h2; simp at h2; subst h2; exact Iff.rfl
    | succ i ih =>
      intro a z h1 h2
      have hi := (List.getElem?_eq_some_iff.1 h2).1
      obtain ⟨b, hb⟩ : ∃ b, t[i]? = some b := ⟨t[i]'(by omega), List.getElem?_eq_getElem (by omega)⟩
      have h3 := hS _ (tE_step hB hb h2)
      rw [ih b z h1 hb]
      rcases mkE_ends b a with e | e
      · rw [e] at h3; exact h3
      · rw [e] at h3; exact h3.symm
  obtain ⟨i, hi⟩ := List.mem_iff_getElem?.1 hx
  obtain ⟨j, hj⟩ := List.mem_iff_getElem?.1 hy
  have hl := tB_len hB
  have h0 : t[0]? = some (t[0]'(by omega)) := List.getElem?_eq_getElem (by omega)
  rw [← key i x _ h0 hi, key j y _ h0 hj]

theorem wk_closed {es : List EdgeV} {n : Nat} (hE : ∀ e ∈ es, 0 ≤ e.1 ∧ e.1 < e.2 ∧ e.2 < (n : Int)) (f : Nat) : ∀ (v fr : Int) (seen t sn : List Int), wk es n f v fr seen = some (t, sn) → v ∈ t ∧ ∀ e ∈ es, e ≠ mkE v fr → (e.1 ∈ t ↔ e.2 ∈ t) := by
  induction f with
  | zero => intro v fr seen t sn h; simp [wk] at h
  | succ f ih =>
    intro v fr seen t sn h
    rw [wk] at h
    have key : ∀ (rem k : Nat) (out seen : List Int), rem + k = n → v ∈ out → (∀ e ∈ es, e ≠ mkE v fr → (∀ u : Nat, k ≤ u → u < n → e ≠ mkE v (u : Int)) → (e.1 ∈ out ↔ e.2 ∈ out)) → wkGo (wk es n f) es n v fr rem out seen = some (t, sn) → v ∈ t ∧ ∀ e ∈ es, e ≠ mkE v fr → (e.1 ∈ t ↔ e.2 ∈ t) := by
      intro rem
      induction rem with
      | zero =>
        intro k out seen hk hv hc h
        simp [wkGo] at h
        rw [← h.1]
        exact ⟨hv, fun e he hne => hc e he hne (fun u h1 h2 => by omega)⟩
      | succ rem ihr =>
        intro k out seen hk hv hc h
        have ek : n - (rem + 1) = k := by omega
        by_cases hs : (k : Int) = fr ∨ mkE v (k : Int) ∉ es
        · rw [wkGo_skip ek hs] at h
          refine ihr (k + 1) out seen (by omega) hv (fun e he hne hu => hc e he hne (fun u h1 h2 => ?_)) h
          by_cases huk : u = k
          · subst huk
            rcases hs with hs | hs
            · rw [hs]; exact hne
            · exact fun e2 => hs (e2 ▸ he)
          · exact hu u (by omega) h2
        · have hkf : (k : Int) ≠ fr := fun e => hs (.inl e)
          have he : mkE v (k : Int) ∈ es := Classical.not_not.1 (fun e => hs (.inr e))
          obtain ⟨_, p, hp, hgo⟩ := wkGo_go ek hkf he h
          obtain ⟨hkp, hpc⟩ := ih (k : Int) v seen p.1 p.2 hp
          refine ihr (k + 1) _ p.2 (by omega) (by simp) (fun e he2 hne hu => ?_) hgo
          simp only [List.mem_append, List.mem_singleton]
          by_cases h5 : e = mkE v (k : Int)
          · subst h5
            rcases mkE_ends v (k : Int) with e | e
            · rw [e]; exact ⟨fun _ => .inl (.inr hkp), fun _ => .inl (.inl hv)⟩
            · rw [e]; exact ⟨fun _ => .inl (.inl hv), fun _ => .inl (.inr hkp)⟩
          · have hvk : v ≠ (k : Int) := fun e => by
              have := hE _ he
              rw [← e] at this
              unfold mkE at this
              rw [if_neg (by omega)] at this
              simp at this
            have h6 := hc e he2 hne (fun u h1 h2 => by
              by_cases huk : u = k
              · subst huk; exact h5
              · exact hu u (by omega) h2)
            have h7 := hpc e he2 (by rw [mkE_comm (fun e => hvk e.symm)]; exact h5)
            have hv1 : e.1 = v → e.1 ∈ out := fun e => e ▸ hv
            have hv2 : e.2 = v → e.2 ∈ out := fun e => e ▸ hv
            constructor
            · rintro ((h8 | h8) | h8)
              · exact .inl (.inl (h6.1 h8))
              · exact .inl (.inr (h7.1 h8))
              · exact .inl (.inl (h6.1 (hv1 h8)))
            · rintro ((h8 | h8) | h8)
              · exact .inl (.inl (h6.2 h8))
              · exact .inl (.inr (h7.2 h8))
              · exact .inl (.inl (h6.2 (hv2 h8)))
    refine key n 0 [v] (v :: seen) (by omega) (by simp) (fun e he hne hu => ?_) h
    have h1 := hE e he
    have no : ∀ w : Int, 0 ≤ w → w < (n : Int) → e ≠ mkE v w := fun w h2 h3 => by
      have := hu w.toNat (by omega) (by omega)
      rw [Int.toNat_of_nonneg h2] at this
      exact this
    have n1 : e.1 ≠ v := fun h2 => no e.2 (by omega) (by omega) (by unfold mkE; rw [← h2, if_pos h1.2.1])
    have n2 : e.2 ≠ v := fun h2 => no e.1 (by omega) (by omega) (by unfold mkE; rw [← h2, if_neg (by omega)])
    simp [n1, n2]

theorem nodup_sub {α : Type} [DecidableEq α] : ∀ {a b : List α}, a.Nodup → (∀ x ∈ a, x ∈ b) → a.length ≤ b.length
  | [], _, _, _ => by simp
  | x :: a, b, hn, hs => by
    rw [List.nodup_cons] at hn
    have h1 := nodup_sub (a := a) (b := b.erase x) hn.2 (fun y hy => (List.mem_erase_of_ne (show y ≠ x from fun e => hn.1 (by rw [← e]; exact hy))).2 (hs y (by simp [hy])))
    have h2 := List.length_erase_of_mem (hs x (by simp))
    have h3 : 0 < b.length := List.length_pos_of_mem (hs x (by simp))
    simp
    omega
theorem tour_card {t s : List Int} (ht : tB t = true) (hs : tB s = true) (h : ∀ x, x ∈ t ↔ x ∈ s) : t.length = s.length := by
  obtain ⟨_, x1, s1, r1⟩ := (tB_iff t).1 ht
  obtain ⟨_, x2, s2, r2⟩ := (tB_iff s).1 hs
  have l1 := trun_len r1
  have l2 := trun_len r2
  have n1 := trun_nodup r1 (by simp)
  have n2 := trun_nodup r2 (by simp)
  have m1 := (trun_seen r1 (by simp)).1
  have m2 := (trun_seen r2 (by simp)).1
  have a := nodup_sub n1 (b := s2) (fun y hy => (m2 y).2 (.inr ((h y).1 (by simpa using (m1 y).1 hy))))
  have b := nodup_sub n2 (b := s1) (fun y hy => (m1 y).2 (.inr ((h y).2 (by simpa using (m2 y).1 hy))))
  simp at l1 l2
  omega
/-- the edges along which a run goes down -/
def dRun : List Int → List Int → List EdgeV
  | _, [] => []
  | w, v :: r => if isUp w v = true then dRun w.tail r else (w.head?.toList.map fun p => mkE p v) ++ dRun (v :: w) r
def adjE : List Int → List EdgeV
  | a :: b :: w => mkE a b :: adjE (b :: w)
  | _ => []
theorem dRun_len {r w s w1 s1 : List Int} (h : trun w s r = some (w1, s1)) (hw : w ≠ []) : (dRun w r).length + s.length = s1.length := by
  induction r generalizing w s with
  | nil => simp [trun] at h; simp [dRun, h.2]
  | cons v r ih =>
    rcases trun_cons h with ⟨hu, h1⟩ | ⟨hu, _, h1⟩
    · rw [dRun, if_pos hu]
      obtain ⟨c, q, rfl⟩ := isUp_some hu
      exact ih h1 (by simp)
    · rw [dRun, if_neg (by rw [hu]; simp)]
      have := ih h1 (by simp)
      cases w with
      | nil => exact absurd rfl hw
      | cons p q => simp at this ⊢; omega
theorem dRun_new {r w s w1 s1 : List Int} (h : trun w s r = some (w1, s1)) : ∀ e ∈ dRun w r, e.1 ∉ s ∨ e.2 ∉ s := by
  induction r generalizing w s with
  | nil => simp [dRun]
  | cons v r ih =>
    intro e he
    rcases trun_cons h with ⟨hu, h1⟩ | ⟨hu, hv, h1⟩
    · rw [dRun, if_pos hu] at he
      exact ih h1 e he
    · rw [dRun, if_neg (by rw [hu]; simp)] at he
      rcases List.mem_append.1 he with he | he
      · cases w with
        | nil => simp at he
        | cons p q =>
          simp at he
          subst he
          rcases mkE_ends p v with e | e
          · rw [e]; exact .inr hv
          · rw [e]; exact .inl hv
      · exact (ih h1 e he).imp (fun h2 h3 => h2 (by simp [h3])) (fun h2 h3 => h2 (by simp [h3]))
theorem dRun_nodup {r w s w1 s1 : List Int} (h : trun w s r = some (w1, s1)) (hw : ∀ x ∈ w, x ∈ s) : (dRun w r).Nodup := by
  induction r generalizing w s with
  | nil => simp [dRun]
  | cons v r ih =>
    rcases trun_cons h with ⟨hu, h1⟩ | ⟨hu, hv, h1⟩
    · rw [dRun, if_pos hu]
      exact ih h1 (fun x hx => hw x (List.mem_of_mem_tail hx))
    · rw [dRun, if_neg (by rw [hu]; simp)]
      have hw2 : ∀ x ∈ v :: w, x ∈ v :: s := fun x hx => by
        rcases List.mem_cons.1 hx with rfl | hx
        · simp
        · exact List.mem_cons_of_mem _ (hw x hx)
      have h2 := ih h1 hw2
      cases w with
      | nil => simpa using h2
      | cons p q =>
        simp only [List.head?_cons, Option.toList_some, List.map_cons, List.map_nil, List.singleton_append, List.nodup_cons]
        refine ⟨fun h3 => ?_, h2⟩
        have := dRun_new h1 _ h3
        have hp := hw p (by simp)
        rcases mkE_ends p v with e | e
        · rw [e] at this; simp [hp] at this
        · rw [e] at this; simp [hp] at this
theorem dRun_steps {r w : List Int} {c : Int} (hc : w.head? = some c) : ∀ (i : Nat) (a b : Int), (c :: r)[i]? = some a → (c :: r)[i + 1]? = some b → mkE a b ∈ dRun w r ∨ mkE a b ∈ adjE w ∨ mkE b a ∈ adjE w ∨ mkE b a ∈ dRun w r := by
  induction r generalizing w c with
  | nil => intro i a b h1 h2; simp at h2
  | cons v r ih =>
    intro i a b h1 h2
    cases w with
    | nil => simp at hc
    | cons c' q =>
      simp at hc
      subst hc
      cases hu : isUp (c' :: q) v with
      | true =>
        rw [dRun, if_pos hu]
        obtain ⟨c2, z, e⟩ := isUp_some hu
        simp at e
        obtain ⟨rfl, rfl⟩ := e
        cases i with
        | zero =>
          simp at h1 h2
          subst h1 h2
          exact .inr (.inl (by simp [adjE]))
        | succ i =>
          rcases ih (w := v :: z) rfl i a b (by simpa using h1) (by simpa using h2) with h | h | h | h
          · exact .inl h
          · exact .inr (.inl (by simp [adjE, h]))
          · exact .inr (.inr (.inl (by simp [adjE, h])))
          · exact .inr (.inr (.inr h))
      | false =>
        rw [dRun, if_neg (by rw [hu]; simp)]
        cases i with
        | zero =>
          simp at h1 h2
          subst h1 h2
          exact .inl (by simp)
        | succ i =>
          rcases ih (w := v :: c' :: q) rfl i a b (by simpa using h1) (by simpa using h2) with h | h | h | h
          · exact .inl (by simp [h])
          · simp only [adjE, List.mem_cons] at h
            rcases h with h | h
            · rw [h]
              by_cases hvc : v = c'
              · subst hvc; exact .inl (by simp)
              · rw [mkE_comm hvc]; exact .inl (by simp)
            · exact .inr (.inl (by simpa [adjE] using h))
          · simp only [adjE, List.mem_cons] at h
            rcases h with h | h
            · rw [h]
              by_cases hvc : v = c'
              · subst hvc; exact .inr (.inr (.inr (by simp)))
              · rw [mkE_comm hvc]; exact .inr (.inr (.inr (by simp)))
            · exact .inr (.inr (.inl (by simpa [adjE] using h)))
          · exact .inr (.inr (.inr (by simp [h])))
theorem dRun_isStep {r w s w1 s1 : List Int} {c : Int} (h : trun w s r = some (w1, s1)) (hc : w.head? = some c) : ∀ e ∈ dRun w r, ∃ (i : Nat) (a b : Int), (c :: r)[i]? = some a ∧ (c :: r)[i + 1]? = some b ∧ e = mkE a b := by
  induction r generalizing w s c with
  | nil => simp [dRun]
  | cons v r ih =>
    intro e he
    rcases trun_cons h with ⟨hu, h1⟩ | ⟨hu, _, h1⟩
    · rw [dRun, if_pos hu] at he
      obtain ⟨c2, z, rfl⟩ := isUp_some hu
      obtain ⟨i, a, b, h2, h3, h4⟩ := ih h1 (c := v) rfl e he
      exact ⟨i + 1, a, b, by simpa using h2, by simpa using h3, h4⟩
    · rw [dRun, if_neg (by rw [hu]; simp)] at he
      rcases List.mem_append.1 he with he | he
      · rw [hc] at he
        simp at he
        exact ⟨0, c, v, rfl, rfl, he⟩
      · obtain ⟨i, a, b, h2, h3, h4⟩ := ih h1 (c := v) rfl e he
        exact ⟨i + 1, a, b, by simpa using h2, by simpa using h3, h4⟩
/-- a right tour has twice as many steps as edges -/
theorem tE_count {t : List Int} (hB : tB t = true) : t.length = 2 * (tE t).length + 1 := by
  obtain ⟨x, r, s, rfl, hr, _, _⟩ := tB_open hB
  have l1 := dRun_len hr (by simp)
  have l2 := trun_len hr
  have nd := dRun_nodup hr (by simp)
  have a := nodup_sub nd (b := tE (x :: r)) (fun e he => by
    obtain ⟨i, a, b, h1, h2, rfl⟩ := dRun_isStep hr (c := x) rfl e he
    exact tE_step hB h1 h2)
  have b := nodup_sub (eK_nodup (x :: r) ((x :: r).length - 1)) (b := dRun [x] r) (fun e he => by
    obtain ⟨i, h1, h2, h3⟩ := (tE_mem (x :: r) e).1 he
    have em : mkE e.1 e.2 = e := by unfold mkE; rw [if_pos h3]
    have em2 : mkE e.2 e.1 = e := by rw [mkE_comm (by omega)]; exact em
    have := dRun_steps (r := r) (w := [x]) (c := x) rfl i e.1 e.2 h1 h2
    rw [em, em2] at this
    simpa [adjE] using this)
  change (tE (x :: r)).length ≤ _ at b
  simp at l1 l2 ⊢
  omega
/-- the tour by its edges of a right tour -/
theorem tE_tour {t : List Int} (hB : tB t = true) {x0 : Int} (h0 : t[0]? = some x0) : ∃ s sn, wk (tE t) 12 12 x0 (-1) [] = some (s, sn) ∧ tB s = true ∧ (∀ x, x ∈ s ↔ x ∈ t) ∧ s.length = t.length ∧ 0 ≤ x0 ∧ x0 < 12 := by
  have hx : x0 ∈ t := List.mem_of_getElem? h0
  have hv := ((tB_iff t).1 hB).1 x0 hx
  simp [vB] at hv
  obtain ⟨s, sn, h1, h2⟩ := wk_ok (tE_ends hB) (tE_bridge hB) 12 x0 (-1) [] (by omega) (by omega) (by simp) (by simp) (by simp) ⟨fun _ => True, trivial, by simp, by simp⟩
  have hs : tB s = true := by
    obtain ⟨S', h3⟩ := h2.run [] [] (by simp) (by simp)
    refine (tB_iff s).2 ⟨fun y hy => ?_, x0, S', h3⟩
    have := h2.rng y ((h2.mem y).2 (.inr hy))
    simp [vB]
    omega
  have hm : ∀ x, x ∈ s ↔ x ∈ t := fun x => by
    constructor
    · exact h2.least (fun y => y ∈ t) hx (fun e he _ => ⟨fun _ => (tE_in e he).2, fun _ => (tE_in e he).1⟩) x
    · intro hxt
      obtain ⟨hxs, hcl⟩ := wk_closed (tE_ends hB) 12 x0 (-1) [] s sn h1
      refine (tE_all hB (S := fun y => y ∈ s) (fun e he => hcl e he ?_) hx hxt).1 hxs
      intro e2
      have := tE_ends hB e he
      rw [e2] at this
      rcases mkE_ends x0 (-1) with e3 | e3
      · rw [e3] at this; simp at this; omega
      · rw [e3] at this; simp at this
  exact ⟨s, sn, h1, hs, hm, tour_card hs hB hm, by omega, by omega⟩
/-- two vertices that no edge joins, where there are two edges and more -/
theorem tE_gap {t : List Int} (hB : tB t = true) (h2 : 2 ≤ (tE t).length) : ∃ a b, a ∈ t ∧ b ∈ t ∧ a < b ∧ (a, b) ∉ tE t := by
  refine Classical.byContradiction fun hno => ?_
  have hall : ∀ a b, a ∈ t → b ∈ t → a < b → (a, b) ∈ tE t := fun a b ha hb hl => Classical.byContradiction fun h => hno ⟨a, b, ha, hb, hl, h⟩
  have tri : ∀ a b c, a ∈ t → b ∈ t → c ∈ t → a < b → b < c → False := fun a b c ha hb hc h1 h3 => by
    have e1 := hall a c ha hc (by omega)
    have e2 := hall a b ha hb h1
    have e3 := hall b c hb hc h3
    obtain ⟨S, s1, s2, s3⟩ := tE_bridge hB _ e1
    have i1 := s3 _ e2 (by simp; omega)
    have i2 := s3 _ e3 (by simp; omega)
    simp at s1 s2 i1 i2
    exact s2 (i1.2 (i2.2 s1))
  obtain ⟨d, hd⟩ : ∃ d, (tE t)[0]? = some d := ⟨(tE t)[0]'(by omega), List.getElem?_eq_getElem (by omega)⟩
  obtain ⟨e, he⟩ : ∃ e, (tE t)[1]? = some e := ⟨(tE t)[1]'(by omega), List.getElem?_eq_getElem (by omega)⟩
  have hde : d ≠ e := fun h => by
    have hn := eK_nodup t (t.length - 1)
    obtain ⟨q0, q1⟩ := List.getElem?_eq_some_iff.1 (show (eK t (t.length - 1))[0]? = some d from hd)
    obtain ⟨q2, q3⟩ := List.getElem?_eq_some_iff.1 (show (eK t (t.length - 1))[1]? = some e from he)
    exact List.pairwise_iff_getElem.1 hn 0 1 q0 q2 (by omega) (by rw [q1, q3, h])
  have d1 := tE_in d (List.mem_of_getElem? hd)
  have e1 := tE_in e (List.mem_of_getElem? he)
  have d2 := tE_ends hB d (List.mem_of_getElem? hd)
  have e2 := tE_ends hB e (List.mem_of_getElem? he)
  by_cases h11 : d.1 = e.1
  · have : d.2 ≠ e.2 := fun h => hde (Prod.ext h11 h)
    rcases Nat.lt_or_ge 0 1 with _ | _
    · by_cases hl : d.2 < e.2
      · exact tri d.1 d.2 e.2 d1.1 d1.2 e1.2 (by omega) hl
      · exact tri e.1 e.2 d.2 e1.1 e1.2 d1.2 (by omega) (by omega)
    · omega
  · by_cases hl : d.1 < e.1
    · exact tri d.1 e.1 e.2 d1.1 e1.1 e1.2 hl (by omega)
    · exact tri e.1 d.1 d.2 e1.1 d1.1 d1.2 (by omega) (by omega)
end Go.Proofs.YtpfkfbmghddepaaGreat
namespace Go.Proofs.YtpfkfbmghddepaaGreat
open Go.RowKit

/-- the list goes from the one to the other, or back -/
def Stp (t : List Int) (x y : Int) : Prop := ∃ i : Nat, (t[i]? = some x ∧ t[i + 1]? = some y) ∨ (t[i]? = some y ∧ t[i + 1]? = some x)
theorem Stp.left {t : List Int} {x y : Int} (h : Stp t x y) (s : List Int) : Stp (t ++ s) x y := by
  obtain ⟨i, h⟩ := h
  refine ⟨i, ?_⟩
  rcases h with ⟨h1, h2⟩ | ⟨h1, h2⟩
  · exact .inl ⟨by rw [List.getElem?_append_left (List.getElem?_eq_some_iff.1 h1).1]; exact h1, by rw [List.getElem?_append_left (List.getElem?_eq_some_iff.1 h2).1]; exact h2⟩
  · exact .inr ⟨by rw [List.getElem?_append_left (List.getElem?_eq_some_iff.1 h1).1]; exact h1, by rw [List.getElem?_append_left (List.getElem?_eq_some_iff.1 h2).1]; exact h2⟩
theorem Stp.right {t : List Int} {x y : Int} (h : Stp t x y) (s : List Int) : Stp (s ++ t) x y := by
  obtain ⟨i, h⟩ := h
  refine ⟨s.length + i, ?_⟩
  have e : ∀ j, (s ++ t)[s.length + j]? = t[j]? := fun j => by rw [List.getElem?_append_right (by omega)]; congr 1; omega
  rw [show s.length + i + 1 = s.length + (i + 1) by omega, e, e]
  exact h
theorem Stp.comm {t : List Int} {x y : Int} (h : Stp t x y) : Stp t y x := by
  obtain ⟨i, h⟩ := h
  exact ⟨i, h.symm⟩
theorem stp_mid {a b : List Int} {x y : Int} (ha : a.getLast? = some x) (hb : b.head? = some y) : Stp (a ++ b) x y := by
  cases a with
  | nil => simp at ha
  | cons c a =>
    refine ⟨a.length, .inl ⟨?_, ?_⟩⟩
    · rw [List.getElem?_append_left (by simp)]
      rw [List.getLast?_eq_getElem?] at ha
      simpa using ha
    · rw [List.getElem?_append_right (by simp)]
      rw [List.head?_eq_getElem?] at hb
      simpa using hb
structure Wr (es : List EdgeV) (v fr : Int) (seen t seen' : List Int) : Prop where
  head : t.head? = some v
  last : t.getLast? = some v
  mem : ∀ x, x ∈ seen' ↔ x ∈ seen ∨ x ∈ t
  new : ∀ x ∈ t, x ∉ seen
  run : ∀ W S : List Int, (∀ x ∈ W, x ∈ S) → (∀ x ∈ t, x ∉ S) → ∃ S', trun W S t = some (v :: W, S')
  all : ∀ x ∈ t, ∀ y, mkE x y ∈ es → (x = v → y ≠ fr) → Stp t x y
structure Gr (es : List EdgeV) (v fr : Int) (k : Nat) (seen0 out seen : List Int) : Prop where
  head : out.head? = some v
  last : out.getLast? = some v
  mem : ∀ x, x ∈ seen ↔ x ∈ seen0 ∨ x ∈ out
  new : ∀ x ∈ out, x ∉ seen0
  run : ∀ W S : List Int, (∀ x ∈ W, x ∈ S) → (∀ x ∈ out, x ∉ S) → ∃ S', trun W S out = some (v :: W, S')
  all : ∀ x ∈ out, ∀ y, mkE x y ∈ es → (x = v → y ≠ fr ∧ y < (k : Int)) → Stp out x y
theorem Gr.go {es : List EdgeV} {v fr : Int} {k : Nat} {seen0 out seen p seen' : List Int} (h : Gr es v fr k seen0 out seen) (hp : Wr es (k : Int) v seen p seen') : Gr es v fr (k + 1) seen0 (out ++ p ++ [v]) seen' := by
  have hvo : v ∈ out := List.mem_of_getLast? h.last
  have hpk : p.head? = some (k : Int) := hp.head
  have hvp : v ∉ p := fun h2 => hp.new v h2 ((h.mem v).2 (.inr hvo))
  refine ⟨?_, by simp, fun x => ?_, fun x hx => ?_, fun W T hW hT => ?_, fun x hx y he hy => ?_⟩
  · have := h.head
    cases out with
    | nil => simp at this
    | cons a o => simpa using this
  · rw [hp.mem, h.mem]
    simp only [List.mem_append, List.mem_singleton]
    constructor
    · rintro ((h1 | h1) | h1)
      · exact .inl h1
      · exact .inr (.inl (.inl h1))
      · exact .inr (.inl (.inr h1))
    · rintro (h1 | (h1 | h1) | h1)
      · exact .inl (.inl h1)
      · exact .inl (.inr h1)
      · exact .inr h1
      · exact .inl (.inr (by rw [h1]; exact hvo))
  · simp only [List.mem_append, List.mem_singleton] at hx
    rcases hx with (h1 | h1) | h1
    · exact h.new x h1
    · exact fun h2 => hp.new x h1 ((h.mem x).2 (.inl h2))
    · rw [h1]; exact h.new v hvo
  · obtain ⟨S1, h1⟩ := h.run W T hW (fun x hx => hT x (by simp [hx]))
    obtain ⟨hs, hw⟩ := trun_seen h1 hW
    obtain ⟨S2, h2⟩ := hp.run (v :: W) S1 hw (fun x hx h3 => by
      rcases (hs x).1 h3 with h4 | h4
      · exact hT x (by simp [hx]) h4
      · exact hp.new x hx ((h.mem x).2 (.inr h4)))
    refine ⟨S2, ?_⟩
    rw [trun_append, trun_append, h1, Option.bind_some, h2, Option.bind_some, trun_up (by simp [isUp])]
    rfl
  · have hstep : Stp (out ++ p ++ [v]) v (k : Int) := (stp_mid h.last hpk).left [v]
    have hin : x ∈ out → Stp (out ++ p ++ [v]) x y := fun h1 => by
      by_cases hxv : x = v
      · obtain ⟨h2, h3⟩ := hy hxv
        by_cases hyk : y = (k : Int)
        · rw [hxv, hyk]; exact hstep
        · exact ((h.all x h1 y he fun _ => ⟨h2, by omega⟩).left p).left [v]
      · exact ((h.all x h1 y he fun h2 => absurd h2 hxv).left p).left [v]
    simp only [List.mem_append, List.mem_singleton] at hx
    rcases hx with (h1 | h1) | h1
    · exact hin h1
    · by_cases h2 : x = (k : Int) ∧ y = v
      · rw [h2.1, h2.2]; exact hstep.comm
      · exact ((hp.all x h1 y he fun h3 h4 => h2 ⟨h3, h4⟩).right out).left [v]
    · exact hin (h1 ▸ hvo)
theorem wk_wr {es : List EdgeV} {n : Nat} (hE : ∀ e ∈ es, 0 ≤ e.1 ∧ e.1 < e.2 ∧ e.2 < (n : Int)) (f : Nat) : ∀ (v fr : Int) (seen t sn : List Int), v ∉ seen → wk es n f v fr seen = some (t, sn) → Wr es v fr seen t sn := by
  induction f with
  | zero => intro v fr seen t sn _ h; simp [wk] at h
  | succ f ih =>
    intro v fr seen0 t sn hv h
    rw [wk] at h
    have key : ∀ (rem k : Nat) (out seen : List Int), rem + k = n → Gr es v fr k seen0 out seen → wkGo (wk es n f) es n v fr rem out seen = some (t, sn) → Gr es v fr n seen0 t sn := by
      intro rem
      induction rem with
      | zero =>
        intro k out seen hk hg h
        simp [wkGo] at h
        obtain ⟨rfl, rfl⟩ := h
        obtain rfl : k = n := by omega
        exact hg
      | succ rem ihr =>
        intro k out seen hk hg h
        have ek : n - (rem + 1) = k := by omega
        by_cases hs : (k : Int) = fr ∨ mkE v (k : Int) ∉ es
        · rw [wkGo_skip ek hs] at h
          refine ihr (k + 1) out seen (by omega) ⟨hg.head, hg.last, hg.mem, hg.new, hg.run, fun x hx y he hy => hg.all x hx y he fun h1 => ?_⟩ h
          obtain ⟨h2, h3⟩ := hy h1
          refine ⟨h2, ?_⟩
          by_cases hyk : y = (k : Int)
          · rcases hs with hs | hs
            · exact absurd (hyk.trans hs) h2
            · rw [h1, hyk] at he; exact absurd he hs
          · omega
        · have hkf : (k : Int) ≠ fr := fun e => hs (.inl e)
          have he : mkE v (k : Int) ∈ es := Classical.not_not.1 (fun e => hs (.inr e))
          obtain ⟨hks, p, hp, hgo⟩ := wkGo_go ek hkf he h
          exact ihr (k + 1) _ p.2 (by omega) (hg.go (ih (k : Int) v seen p.1 p.2 hks hp)) hgo
    have h3 := key n 0 [v] (v :: seen0) (by omega) ⟨rfl, rfl, fun x => by simp; exact or_comm, fun x hx => by simp at hx; rw [hx]; exact hv, fun W S hW hS => by
      have hvS : v ∉ S := hS v (by simp)
      have hup : isUp W v = false := by
        cases h : isUp W v with
        | false => rfl
        | true => exact absurd (hW _ (isUp_mem h)) hvS
      exact ⟨v :: S, by rw [trun_down hup hvS]; rfl⟩, fun x hx y he hy => by
      simp at hx
      subst hx
      have h1 := hy rfl
      have h2 := hE _ he
      rcases mkE_ends x y with e | e
      · rw [e] at h2; simp at h2; omega
      · rw [e] at h2; simp at h2; omega⟩ h
    refine ⟨h3.head, h3.last, h3.mem, h3.new, h3.run, fun x hx y he hy => h3.all x hx y he fun h1 => ⟨hy h1, ?_⟩⟩
    have h2 := hE _ he
    rcases mkE_ends x y with e | e
    · rw [e] at h2; simp at h2; omega
    · rw [e] at h2; simp at h2; omega
theorem step_split {a b : List Int} {i : Nat} {x y : Int} (h1 : (a ++ b)[i]? = some x) (h2 : (a ++ b)[i + 1]? = some y) :
    (a[i]? = some x ∧ a[i + 1]? = some y) ∨ (a.getLast? = some x ∧ b.head? = some y) ∨ ∃ j, b[j]? = some x ∧ b[j + 1]? = some y := by
  by_cases ha : i + 1 < a.length
  · rw [List.getElem?_append_left (by omega)] at h1 h2
    exact .inl ⟨h1, h2⟩
  · by_cases hb : i < a.length
    · rw [List.getElem?_append_left (by omega)] at h1
      rw [List.getElem?_append_right (by omega)] at h2
      refine .inr (.inl ⟨?_, ?_⟩)
      · rw [List.getLast?_eq_getElem?, show a.length - 1 = i by omega]; exact h1
      · rw [List.head?_eq_getElem?, ← show i + 1 - a.length = 0 by omega]; exact h2
    · rw [List.getElem?_append_right (by omega)] at h1 h2
      exact .inr (.inr ⟨i - a.length, h1, by rw [show i - a.length + 1 = i + 1 - a.length by omega]; exact h2⟩)
theorem wk_steps {es : List EdgeV} {n : Nat} (hE : ∀ e ∈ es, 0 ≤ e.1 ∧ e.1 < e.2 ∧ e.2 < (n : Int)) (f : Nat) : ∀ (v fr : Int) (seen t sn : List Int), wk es n f v fr seen = some (t, sn) →
    t.head? = some v ∧ t.getLast? = some v ∧ ∀ i x y, t[i]? = some x → t[i + 1]? = some y → mkE x y ∈ es := by
  induction f with
  | zero => intro v fr seen t sn h; simp [wk] at h
  | succ f ih =>
    intro v fr seen0 t sn h
    rw [wk] at h
    have key : ∀ (rem k : Nat) (out seen : List Int), rem + k = n → (out.head? = some v ∧ out.getLast? = some v ∧ ∀ i x y, out[i]? = some x → out[i + 1]? = some y → mkE x y ∈ es) → wkGo (wk es n f) es n v fr rem out seen = some (t, sn) →
        t.head? = some v ∧ t.getLast? = some v ∧ ∀ i x y, t[i]? = some x → t[i + 1]? = some y → mkE x y ∈ es := by
      intro rem
      induction rem with
      | zero =>
        intro k out seen hk hg h
        simp [wkGo] at h
        obtain ⟨rfl, rfl⟩ := h
        exact hg
      | succ rem ihr =>
        intro k out seen hk hg h
        have ek : n - (rem + 1) = k := by omega
        by_cases hs : (k : Int) = fr ∨ mkE v (k : Int) ∉ es
        · rw [wkGo_skip ek hs] at h
          exact ihr (k + 1) out seen (by omega) hg h
        · have hkf : (k : Int) ≠ fr := fun e => hs (.inl e)
          have he : mkE v (k : Int) ∈ es := Classical.not_not.1 (fun e => hs (.inr e))
          have hkv : v ≠ (k : Int) := fun e => by
            have := hE _ he
            rw [← e] at this
            unfold mkE at this
            rw [if_neg (by omega)] at this
            simp at this
          obtain ⟨_, p, hp, hgo⟩ := wkGo_go ek hkf he h
          obtain ⟨p1, p2, p3⟩ := ih (k : Int) v seen p.1 p.2 hp
          refine ihr (k + 1) _ p.2 (by omega) ⟨?_, by simp, fun i x y h1 h2 => ?_⟩ hgo
          · have := hg.1
            cases out with
            | nil => simp at this
            | cons a o => simpa using this
          · rcases step_split h1 h2 with ⟨h3, h4⟩ | ⟨h3, h4⟩ | ⟨j, h3, h4⟩
            · rcases step_split h3 h4 with ⟨h5, h6⟩ | ⟨h5, h6⟩ | ⟨j, h5, h6⟩
              · exact hg.2.2 i x y h5 h6
              · rw [hg.2.1] at h5
                rw [p1] at h6
                obtain rfl := Option.some.inj h5
                obtain rfl := Option.some.inj h6
                exact he
              · exact p3 j x y h5 h6
            · have h5 : (k : Int) = x := by
                rw [List.getLast?_append, p2] at h3
                simpa using h3
              simp at h4
              rw [← h5, ← h4, mkE_comm (fun e => hkv e.symm)]
              exact he
            · rcases j with _ | j
              · simp at h4
              · simp at h3
    exact key n 0 [v] (v :: seen0) (by omega) ⟨rfl, rfl, fun i x y h1 h2 => by
      rcases i with _ | i
      · simp at h2
      · simp at h1⟩ h
theorem wk_along {es : List EdgeV} {n : Nat} (hE : ∀ e ∈ es, 0 ≤ e.1 ∧ e.1 < e.2 ∧ e.2 < (n : Int)) (f : Nat) (v fr : Int) (seen t sn : List Int) (h : wk es n f v fr seen = some (t, sn)) : ∀ e ∈ tE t, e ∈ es := fun e he => by
  obtain ⟨i, h1, h2, h3⟩ := (tE_mem t e).1 he
  have := (wk_steps hE f v fr seen t sn h).2.2 i _ _ h1 h2
  unfold mkE at this
  rw [if_pos h3] at this
  exact this
/-- what such a walk tells of the tree that it went around -/
theorem wk_tree {es : List EdgeV} {n : Nat} (hE : ∀ e ∈ es, 0 ≤ e.1 ∧ e.1 < e.2 ∧ e.2 < (n : Int)) (hn : n ≤ 12) {r : Int} (hr0 : 0 ≤ r) (hr : r < (n : Int)) {t sn : List Int} (h : wk es n n r (-1) [] = some (t, sn)) :
    tB t = true ∧ t.head? = some r ∧ (∀ x ∈ t, 0 ≤ x ∧ x < (n : Int)) ∧ (∀ e ∈ es, (e.1 ∈ t ↔ e.2 ∈ t)) ∧ (∀ e ∈ es, e.1 ∈ t → e ∈ tE t) := by
  have hw := wk_wr hE n r (-1) [] t sn (by simp) h
  have hc := (wk_closed hE n r (-1) [] t sn h).2
  have hcl : ∀ e ∈ es, (e.1 ∈ t ↔ e.2 ∈ t) := fun e he => hc e he fun e2 => by
    have := hE e he
    rw [e2] at this
    rcases mkE_ends r (-1) with e | e
    · rw [e] at this; simp at this; omega
    · rw [e] at this; simp at this
  have hrt : r ∈ t := by
    have := hw.head
    cases t with
    | nil => simp at this
    | cons a t => simp at this; simp [this]
  have hrng : ∀ x ∈ t, 0 ≤ x ∧ x < (n : Int) := by
    -- the walk goes along edges alone
    have hs : ∀ x ∈ sn, 0 ≤ x ∧ x < (n : Int) := by
      have key : ∀ (f : Nat) (v fr : Int) (seen t sn : List Int), 0 ≤ v → v < (n : Int) → (∀ x ∈ seen, 0 ≤ x ∧ x < (n : Int)) → wk es n f v fr seen = some (t, sn) → ∀ x ∈ sn, 0 ≤ x ∧ x < (n : Int) := by
        intro f
        induction f with
        | zero => intro v fr seen t sn _ _ _ h; simp [wk] at h
        | succ f ih =>
          intro v fr seen t sn h0 h1 hs h
          rw [wk] at h
          have key : ∀ (rem k : Nat) (out seen : List Int), rem + k = n → (∀ x ∈ seen, 0 ≤ x ∧ x < (n : Int)) → wkGo (wk es n f) es n v fr rem out seen = some (t, sn) → ∀ x ∈ sn, 0 ≤ x ∧ x < (n : Int) := by
            intro rem
            induction rem with
            | zero =>
              intro k out seen hk hs h
              simp [wkGo] at h
              rw [← h.2]
              exact hs
            | succ rem ihr =>
              intro k out seen hk hs h
              have ek : n - (rem + 1) = k := by omega
              by_cases hc : (k : Int) = fr ∨ mkE v (k : Int) ∉ es
              · rw [wkGo_skip ek hc] at h
                exact ihr (k + 1) out seen (by omega) hs h
              · obtain ⟨_, p, hp, hgo⟩ := wkGo_go ek (fun e => hc (.inl e)) (Classical.not_not.1 (fun e => hc (.inr e))) h
                exact ihr (k + 1) _ p.2 (by omega) (ih (k : Int) v seen p.1 p.2 (by omega) (by omega) hs hp) hgo
          exact key n 0 [v] (v :: seen) (by omega) (fun x hx => by
            rcases List.mem_cons.1 hx with rfl | hx
            · exact ⟨h0, h1⟩
            · exact hs x hx) h
      exact key n r (-1) [] t sn hr0 hr (by simp) h
    exact fun x hx => hs x ((hw.mem x).2 (.inr hx))
  have hB : tB t = true := by
    obtain ⟨S', h3⟩ := hw.run [] [] (by simp) (by simp)
    refine (tB_iff t).2 ⟨fun x hx => ?_, r, S', h3⟩
    have := hrng x hx
    simp [vB]
    omega
  refine ⟨hB, hw.head, hrng, hcl, fun e he h1 => ?_⟩
  have hee := hE e he
  have hm : mkE e.1 e.2 = e := by unfold mkE; rw [if_pos hee.2.1]
  obtain ⟨i, hi⟩ := hw.all e.1 h1 e.2 (by rw [hm]; exact he) (fun _ => by omega)
  rcases hi with ⟨a, b⟩ | ⟨a, b⟩
  · have := tE_step hB a b
    rwa [hm] at this
  · have := tE_step hB a b
    rwa [mkE_comm (by omega), hm] at this
end Go.Proofs.YtpfkfbmghddepaaGreat
namespace Go.Proofs.YtpfkfbmghddepaaGreat
open Go.Lib

/-- the vertices below k that stand in t, ascending -/
def vsK (t : List Int) (k : Nat) : List Int := ((List.range k).map fun j : Nat => (j : Int)).filter fun x => decide (x ∈ t)
/-- the vertices that stand in t, ascending -/
def vsL (t : List Int) : List Int := vsK t 12
theorem vsK_zero (t : List Int) : vsK t 0 = [] := by simp [vsK]
theorem vsK_yes {t : List Int} {k : Nat} (h : (k : Int) ∈ t) : vsK t (k + 1) = vsK t k ++ [(k : Int)] := by simp [vsK, List.range_succ, h]
theorem vsK_no {t : List Int} {k : Nat} (h : (k : Int) ∉ t) : vsK t (k + 1) = vsK t k := by simp [vsK, List.range_succ, h]
theorem vsK_len (t : List Int) (k : Nat) : (vsK t k).length ≤ k := by
  have := List.length_filter_le (fun x : Int => decide (x ∈ t)) ((List.range k).map fun j : Nat => (j : Int))
  simpa [vsK] using this
theorem vsL_len (t : List Int) : (vsL t).length ≤ 12 := vsK_len t 12
theorem vsL_mem (t : List Int) (x : Int) : x ∈ vsL t ↔ vB x = true ∧ x ∈ t := by
  simp only [vsL, vsK, List.mem_filter, List.mem_map, List.mem_range, vB, decide_eq_true_eq]
  constructor
  · rintro ⟨⟨j, hj, rfl⟩, h⟩
    exact ⟨by simp; omega, h⟩
  · rintro ⟨h1, h2⟩
    exact ⟨⟨x.toNat, by omega, by omega⟩, h2⟩
theorem vsK_asc (t : List Int) (k : Nat) : (vsK t k).Pairwise (· < ·) := by
  refine List.Pairwise.filter _ ?_
  rw [List.pairwise_map]
  exact List.Pairwise.imp (fun h => by omega) (List.pairwise_lt_range (n := k))
/-- two ascending lists with the same members are one -/
theorem asc_ext : ∀ {a b : List Int}, a.Pairwise (· < ·) → b.Pairwise (· < ·) → (∀ x, x ∈ a ↔ x ∈ b) → a = b
  | [], [], _, _, _ => rfl
  | [], y :: b, _, _, h => by have := (h y).2 (by simp); simp at this
  | x :: a, [], _, _, h => by have := (h x).1 (by simp); simp at this
  | x :: a, y :: b, ha, hb, h => by
    rw [List.pairwise_cons] at ha hb
    have hxy : x = y := by
      have h1 := (h x).1 (by simp)
      have h2 := (h y).2 (by simp)
      rcases List.mem_cons.1 h1 with h1 | h1
      · exact h1
      · rcases List.mem_cons.1 h2 with h2 | h2
        · exact h2.symm
        · have := hb.1 x h1; have := ha.1 y h2; omega
    subst hxy
    have : a = b := asc_ext ha.2 hb.2 fun z => by
      have hz := h z
      simp only [List.mem_cons] at hz
      constructor
      · intro h3
        rcases hz.1 (.inr h3) with h4 | h4
        · have := ha.1 z h3; omega
        · exact h4
      · intro h3
        rcases hz.2 (.inr h3) with h4 | h4
        · have := hb.1 z h3; omega
        · exact h4
    rw [this]
theorem comp_asc (d : Array Int) (hs : ∀ i j, i ≤ j → j < d.size → d[i]! ≤ d[j]!) : ∀ m, m ≤ d.size → (compactUpTo d m).Pairwise (· < ·) ∧ ∀ x, x ∈ compactUpTo d m ↔ ∃ j, j < m ∧ d[j]! = x
  | 0, _ => by simp [compactUpTo]
  | m + 1, hm => by
    obtain ⟨h1, h2⟩ := comp_asc d hs m (by omega)
    rw [compactUpTo_succ]
    by_cases hk : keeps d m = true
    · rw [if_pos hk]
      constructor
      · rw [List.pairwise_append]
        refine ⟨h1, by simp, fun x hx y hy => ?_⟩
        obtain ⟨j, hj, rfl⟩ := (h2 x).1 hx
        simp only [List.mem_singleton] at hy
        subst hy
        simp only [keeps, decide_eq_true_eq] at hk
        rcases hk with hk | hk
        · omega
        · have a1 := hs j (m - 1) (by omega) (by omega)
          have a2 := hs (m - 1) m (by omega) (by omega)
          omega
      · intro x
        simp only [List.mem_append, h2, List.mem_singleton]
        constructor
        · rintro (⟨j, hj, rfl⟩ | rfl)
          · exact ⟨j, by omega, rfl⟩
          · exact ⟨m, by omega, rfl⟩
        · rintro ⟨j, hj, rfl⟩
          by_cases e : j = m
          · exact .inr (by rw [e])
          · exact .inl ⟨j, by omega, rfl⟩
    · rw [if_neg hk, List.append_nil]
      refine ⟨h1, fun x => ?_⟩
      rw [h2]
      have hk' : m ≠ 0 ∧ d[m]! = d[m - 1]! := by
        simp only [keeps, decide_eq_true_eq] at hk
        exact ⟨fun e => hk (.inl e), Classical.not_not.1 (fun e => hk (.inr e))⟩
      constructor
      · rintro ⟨j, hj, rfl⟩; exact ⟨j, by omega, rfl⟩
      · rintro ⟨j, hj, rfl⟩
        by_cases e : j = m
        · exact ⟨m - 1, by omega, by rw [e, hk'.2]⟩
        · exact ⟨j, by omega, rfl⟩
/-- sorted, without repetitions, without what is no vertex -/
def vsI (t : List Int) : List Int := (compactUpTo (t.mergeSort fun x y => decide (x ≤ y)).toArray (t.mergeSort fun x y => decide (x ≤ y)).toArray.size).filter fun x => !(!vB x)
theorem vsI_eq (t : List Int) : vsI t = vsL t := by
  have hp : (t.mergeSort fun x y => decide (x ≤ y)).Pairwise (fun x y => decide (x ≤ y) = true) := List.pairwise_mergeSort (fun a b c h1 h2 => by simp at h1 h2 ⊢; omega) (fun a b => by simp; omega) t
  have hm := fun x => (List.mergeSort_perm t fun x y : Int => decide (x ≤ y)).mem_iff (a := x)
  unfold vsI
  generalize (t.mergeSort fun x y => decide (x ≤ y)) = s at hp hm ⊢
  have hs : ∀ i j, i ≤ j → j < s.toArray.size → s.toArray[i]! ≤ s.toArray[j]! := by
    intro i j hij hj
    have hj' : j < s.length := by simpa using hj
    by_cases e : i = j
    · rw [e]; exact Int.le_refl _
    · have := List.pairwise_iff_getElem.1 hp i j (by omega) hj' (by omega)
      simp at this
      simpa [getElem!_pos, hj', show i < s.length by omega] using this
  obtain ⟨h1, h2⟩ := comp_asc s.toArray hs s.toArray.size (Nat.le_refl _)
  refine asc_ext (List.Pairwise.filter _ h1) (vsK_asc t 12) fun x => ?_
  rw [vsL_mem, List.mem_filter, h2]
  have h3 : (∃ j, j < s.toArray.size ∧ s.toArray[j]! = x) ↔ x ∈ t := by
    rw [← hm x]
    constructor
    · rintro ⟨j, hj, rfl⟩
      have hj' : j < s.length := by simpa using hj
      simp [hj']
    · intro hx
      obtain ⟨j, hj, e⟩ := List.getElem_of_mem hx
      exact ⟨j, by simpa using hj, by simp [hj, e]⟩
  rw [h3]
  simp
  exact And.comm
end Go.Proofs.YtpfkfbmghddepaaGreat
namespace Go.Proofs.YtpfkfbmghddepaaGreat
open Go.RowKit

/-- a list of lists of numbers stands at a -/
def Ts (w : World) (B : Nat) (a : Option Addr) (n : Nat) (ts : List (List Int)) : Prop :=
  ts.length = n ∧ (n = 0 ∨ ∃ b off, a = some ⟨b, off, none⟩ ∧ b < B ∧ ∀ (j : Nat) (t : List Int), ts[j]? = some t →
    ∃ (a' : Option Addr) (c' : Nat), w.cell? ⟨b, off + j, none⟩ = some (.slice a' t.length c') ∧ Is w B a' t.length t ∧ t.length ≤ c')
theorem Ts.below {w w' : World} {B C : Nat} {a : Option Addr} {n : Nat} {ts : List (List Int)} (h : Ts w B a n ts) (hb : Below C w w') (hB : B ≤ C) : Ts w' B a n ts := by
  refine ⟨h.1, h.2.imp id ?_⟩
  rintro ⟨b, off, ha, hbl, hc⟩
  refine ⟨b, off, ha, hbl, fun j t ht => ?_⟩
  obtain ⟨a', c', h1, h2, h3⟩ := hc j t ht
  exact ⟨a', c', by rw [hb.cell (p := ⟨b, _, none⟩) (by show b < C; omega)]; exact h1, h2.below hb hB, h3⟩
theorem Ts.mono {w : World} {B C : Nat} {a : Option Addr} {n : Nat} {ts : List (List Int)} (h : Ts w B a n ts) (hB : B ≤ C) : Ts w C a n ts := by
  refine ⟨h.1, h.2.imp id ?_⟩
  rintro ⟨b, off, ha, hbl, hc⟩
  refine ⟨b, off, ha, by omega, fun j t ht => ?_⟩
  obtain ⟨a', c', h1, h2, h3⟩ := hc j t ht
  exact ⟨a', c', h1, h2.mono hB, h3⟩
theorem Ts.up {w w' : World} {a : Option Addr} {n : Nat} {ts : List (List Int)} (h : Ts w w.heap.size a n ts) (hb : Below w.heap.size w w') : Ts w' w'.heap.size a n ts := (h.below hb (Nat.le_refl _)).mono hb.size
theorem Ts.at {w : World} {B b off n : Nat} {ts : List (List Int)} (h : Ts w B (some ⟨b, off, none⟩) n ts) {j : Nat} {t : List Int} (ht : ts[j]? = some t) :
    ∃ (a' : Option Addr) (c' : Nat), w.cell? ⟨b, off + j, none⟩ = some (.slice a' t.length c') ∧ Is w B a' t.length t ∧ t.length ≤ c' := by
  have hj := (List.getElem?_eq_some_iff.1 ht).1
  have hn := h.1
  rcases h.2 with h0 | ⟨b', off', hb, _, hc⟩
  · omega
  · simp at hb
    obtain ⟨rfl, rfl⟩ := hb
    exact hc j t ht

/-- the least vertex of a tour -/
def mnV (t : List Int) : Int := (vsL t).headD 0
/-- the tour at i is right beside those before it -/
def FAt (N : Int) (ts : List (List Int)) (i : Nat) : Prop := ∀ t, ts[i]? = some t →
  tB t = true ∧ (∀ x ∈ t, x < N) ∧ (∀ j s, j + 1 = i → ts[j]? = some s → mnV s < mnV t) ∧ ∀ k s, k < i → ts[k]? = some s → ∀ x ∈ t, x ∉ s
/-- the vertices of the first k tours, counted -/
def cntV (ts : List (List Int)) (k : Nat) : Nat := ((ts.take k).map fun t => (vsL t).length).sum
/-- N vertices and these tours are a right forest -/
def FP (N : Int) (ts : List (List Int)) : Prop := 1 ≤ N ∧ N ≤ 12 ∧ ts.length ≤ 12 ∧ (∀ i, FAt N ts i) ∧ (cntV ts ts.length : Int) = N
theorem cntV_zero (ts : List (List Int)) : cntV ts 0 = 0 := by simp [cntV]
theorem cntV_succ {ts : List (List Int)} {k : Nat} {t : List Int} (h : ts[k]? = some t) : cntV ts (k + 1) = cntV ts k + (vsL t).length := by
  unfold cntV
  rw [List.take_add_one, h]
  simp
theorem cntV_le (ts : List (List Int)) (k : Nat) : cntV ts k ≤ 12 * k := by
  induction k with
  | zero => simp [cntV]
  | succ k ih =>
    cases h : ts[k]? with
    | none =>
      have : ts.take (k + 1) = ts.take k := by rw [List.take_add_one, h]; simp
      unfold cntV at ih ⊢
      rw [this]
      omega
    | some t =>
      rw [cntV_succ h]
      have := vsL_len t
      omega
theorem vs_mem_of {t : List Int} (hB : tB t = true) {x : Int} : x ∈ vsL t ↔ x ∈ t := by
  rw [vsL_mem]
  exact ⟨fun h => h.2, fun h => ⟨((tB_iff t).1 hB).1 x h, h⟩⟩
theorem tB_pos {t : List Int} (hB : tB t = true) : 0 < t.length := by
  obtain ⟨_, x, s, h⟩ := (tB_iff t).1 hB
  cases t with
  | nil => simp [trun] at h
  | cons a t => simp
theorem vs_pos {t : List Int} (hB : tB t = true) : 0 < (vsL t).length := by
  have := tB_pos hB
  exact List.length_pos_of_mem ((vs_mem_of hB).2 (List.getElem_mem this))
theorem vs_last {t : List Int} (hB : tB t = true) {N x : Int} (hx : (vsL t)[(vsL t).length - 1]? = some x) : (∀ y ∈ t, y < N) ↔ x < N := by
  constructor
  · exact fun h => h x ((vs_mem_of hB).1 (List.mem_of_getElem? hx))
  · intro h y hy
    obtain ⟨p, hp⟩ := List.mem_iff_getElem?.1 ((vs_mem_of hB).2 hy)
    obtain ⟨p0, p1⟩ := List.getElem?_eq_some_iff.1 hp
    obtain ⟨q0, q1⟩ := List.getElem?_eq_some_iff.1 hx
    by_cases e : p = (vsL t).length - 1
    · subst e
      rw [p1] at q1
      omega
    · have := List.pairwise_iff_getElem.1 (vsK_asc t 12) p ((vsL t).length - 1) p0 q0 (by omega)
      rw [show (vsK t 12)[p]'p0 = y from p1, show (vsK t 12)[(vsL t).length - 1]'q0 = x from q1] at this
      omega
theorem mn_first {t : List Int} {x : Int} (hx : (vsL t)[0]? = some x) : mnV t = x := by
  unfold mnV
  cases h : vsL t with
  | nil => rw [h] at hx; simp at hx
  | cons a l => rw [h] at hx; simp at hx; simpa using hx
end Go.Proofs.YtpfkfbmghddepaaGreat
namespace Go.Proofs.YtpfkfbmghddepaaGreat
open Go.RowKit

/-- nothing in common -/
def Apart (s t : List Int) : Prop := ∀ x ∈ s, x ∉ t
theorem Apart.symm {s t : List Int} (h : Apart s t) : Apart t s := fun x hx hs => h x hs hx
/-- how many vertices a list of tours has -/
def cnt (ts : List (List Int)) : Nat := (ts.map fun t => (vsL t).length).sum
theorem cntV_all (ts : List (List Int)) : cntV ts ts.length = cnt ts := by unfold cntV cnt; rw [List.take_length]
theorem cnt_perm {a b : List (List Int)} (h : a.Perm b) : cnt a = cnt b := (h.map _).sum_nat
/-- tours side by side, in whatever order -/
def FQ (N : Int) (ts : List (List Int)) : Prop := (∀ t ∈ ts, tB t = true ∧ ∀ x ∈ t, x < N) ∧ ts.Pairwise Apart ∧ (cnt ts : Int) = N
theorem FQ.perm {N : Int} {a b : List (List Int)} (h : FQ N a) (p : a.Perm b) : FQ N b :=
  ⟨fun t ht => h.1 t (p.mem_iff.2 ht), p.pairwise h.2.1 fun h => h.symm, by rw [← cnt_perm p]; exact h.2.2⟩
theorem cnt_le {ts : List (List Int)} (h : ∀ t ∈ ts, tB t = true) : ts.length ≤ cnt ts := by
  induction ts with
  | nil => simp [cnt]
  | cons t r ih =>
    have h1 := vs_pos (h t (by simp))
    have h2 := ih fun s hs => h s (by simp [hs])
    simp only [cnt, List.map_cons, List.sum_cons, List.length_cons] at h2 ⊢
    omega
/-- neighbours ascend: all ascend -/
theorem asc_all {f : List Int → Int} {ts : List (List Int)} (h : ∀ i t j s, ts[i]? = some t → j + 1 = i → ts[j]? = some s → f s < f t) : ts.Pairwise fun s t => f s < f t := by
  rw [List.pairwise_iff_getElem]
  intro i j hi hj hij
  obtain ⟨d, rfl⟩ : ∃ d, j = i + d + 1 := ⟨j - i - 1, by omega⟩
  clear hij
  induction d with
  | zero => exact h (i + 1) _ i _ (List.getElem?_eq_getElem hj) rfl (List.getElem?_eq_getElem hi)
  | succ d ih =>
    have h1 := ih (by omega)
    have h2 := h (i + (d + 1) + 1) _ (i + d + 1) _ (List.getElem?_eq_getElem hj) rfl (List.getElem?_eq_getElem (by omega))
    omega
theorem FP_iff (N : Int) (ts : List (List Int)) : FP N ts ↔ 1 ≤ N ∧ N ≤ 12 ∧ FQ N ts ∧ ts.Pairwise fun s t => mnV s < mnV t := by
  constructor
  · rintro ⟨h1, h2, _, h4, h5⟩
    rw [cntV_all] at h5
    refine ⟨h1, h2, ⟨fun t ht => ?_, ?_, h5⟩, asc_all fun i t j s ht hj hs => (h4 i t ht).2.2.1 j s hj hs⟩
    · obtain ⟨i, hi⟩ := List.mem_iff_getElem?.1 ht
      exact ⟨(h4 i t hi).1, (h4 i t hi).2.1⟩
    · rw [List.pairwise_iff_getElem]
      intro i j hi hj hij
      exact Apart.symm fun x hx => (h4 j _ (List.getElem?_eq_getElem hj)).2.2.2 i _ hij (List.getElem?_eq_getElem hi) x hx
  · rintro ⟨h1, h2, ⟨h3, h4, h5⟩, h6⟩
    have h7 := cnt_le fun t ht => (h3 t ht).1
    refine ⟨h1, h2, by omega, fun i t ht => ?_, by rw [cntV_all]; exact h5⟩
    obtain ⟨hi, e⟩ := List.getElem?_eq_some_iff.1 ht
    have hm := h3 t (List.mem_of_getElem? ht)
    refine ⟨hm.1, hm.2, fun j s hj hs => ?_, fun k s hk hs x hx hxs => ?_⟩
    · obtain ⟨hj2, e2⟩ := List.getElem?_eq_some_iff.1 hs
      have := List.pairwise_iff_getElem.1 h6 j i hj2 hi (by omega)
      rw [e, e2] at this
      exact this
    · obtain ⟨hk2, e2⟩ := List.getElem?_eq_some_iff.1 hs
      have := List.pairwise_iff_getElem.1 h4 k i hk2 hi hk
      rw [e, e2] at this
      exact this x hxs hx
/-- those with least vertex below k, in order -/
def srtK (l : List (List Int)) : Nat → List (List Int)
  | 0 => []
  | k + 1 => srtK l k ++ l.filter fun t => decide (mnV t = (k : Int))
theorem srtK_mem (l : List (List Int)) (k : Nat) (t : List Int) : t ∈ srtK l k ↔ t ∈ l ∧ ∃ j, j < k ∧ mnV t = ((j : Nat) : Int) := by
  induction k with
  | zero => simp [srtK]
  | succ k ih =>
    simp only [srtK, List.mem_append, ih, List.mem_filter, decide_eq_true_eq]
    constructor
    · rintro (⟨h, j, hj, e⟩ | ⟨h, e⟩)
      · exact ⟨h, j, by omega, e⟩
      · exact ⟨h, k, by omega, e⟩
    · rintro ⟨h, j, hj, e⟩
      by_cases hk : j = k
      · subst hk
        exact .inr ⟨h, e⟩
      · exact .inl ⟨h, j, by omega, e⟩
theorem srtK_cons (t : List Int) (l : List (List Int)) (k : Nat) {j : Nat} (hj : j < k) (e : mnV t = (j : Int)) : (srtK (t :: l) k).Perm (t :: srtK l k) := by
  induction k with
  | zero => omega
  | succ k ih =>
    simp only [srtK]
    by_cases hk : j = k
    · subst hk
      have h0 : srtK (t :: l) j = srtK l j := by
        have : ∀ i, i ≤ j → srtK (t :: l) i = srtK l i := by
          intro i
          induction i with
          | zero => intro _; rfl
          | succ i ih2 =>
            intro hi
            have hne : ¬ mnV t = (i : Int) := by rw [e]; omega
            simp only [srtK]
            rw [ih2 (by omega), List.filter_cons_of_neg (by simpa using hne)]
        exact this j (Nat.le_refl _)
      rw [h0, List.filter_cons_of_pos (by simpa using e)]
      exact List.perm_middle
    · have hne : ¬ mnV t = (k : Int) := by rw [e]; omega
      rw [List.filter_cons_of_neg (by simpa using hne)]
      exact (ih (by omega)).append_right _
theorem srtK_perm {l : List (List Int)} {k : Nat} (h : ∀ t ∈ l, ∃ j, j < k ∧ mnV t = ((j : Nat) : Int)) : (srtK l k).Perm l := by
  induction l with
  | nil =>
    have : ∀ i, srtK [] i = [] := by
      intro i
      induction i with
      | zero => rfl
      | succ i ih => simp [srtK, ih]
    rw [this]
  | cons t l ih =>
    obtain ⟨j, hj, e⟩ := h t (by simp)
    exact (srtK_cons t l k hj e).trans ((ih fun s hs => h s (by simp [hs])).cons t)
theorem mn_mem {t : List Int} (hB : tB t = true) : mnV t ∈ t := by
  have h := vs_pos hB
  have hx : (vsL t)[0]? = some ((vsL t)[0]'h) := List.getElem?_eq_getElem h
  rw [mn_first hx]
  exact (vs_mem_of hB).1 (List.getElem_mem h)
theorem mn_range {t : List Int} (hB : tB t = true) {N : Nat} (hx : ∀ x ∈ t, x < (N : Int)) : ∃ j, j < N ∧ mnV t = ((j : Nat) : Int) := by
  have h1 := mn_mem hB
  have h2 := hx _ h1
  have h3 := ((tB_iff t).1 hB).1 _ h1
  unfold vB at h3
  have h3 := of_decide_eq_true h3
  exact ⟨(mnV t).toNat, by omega, by omega⟩
theorem srtK_asc {l : List (List Int)} (h : l.Pairwise fun s t => mnV s ≠ mnV t) (k : Nat) : (srtK l k).Pairwise fun s t => mnV s < mnV t := by
  induction k with
  | zero => exact List.Pairwise.nil
  | succ k ih =>
    simp only [srtK]
    rw [List.pairwise_append]
    refine ⟨ih, ?_, fun s hs t ht => ?_⟩
    · have h2 : (l.filter fun t => decide (mnV t = (k : Int))).Pairwise fun s t => mnV s ≠ mnV t := h.filter _
      refine h2.imp_of_mem fun hs ht hne => ?_
      have e1 := of_decide_eq_true (List.mem_filter.1 hs).2
      have e2 := of_decide_eq_true (List.mem_filter.1 ht).2
      exact absurd (e1.trans e2.symm) hne
    · obtain ⟨_, j, hj, e⟩ := (srtK_mem l k s).1 hs
      have e2 := of_decide_eq_true (List.mem_filter.1 ht).2
      omega
theorem mn_apart {s t : List Int} (hs : tB s = true) (ht : tB t = true) (h : Apart s t) : mnV s ≠ mnV t := fun e => h _ (mn_mem hs) (e ▸ mn_mem ht)
/-- tours side by side, put in order, are a right forest -/
theorem FP_srt {N : Nat} {l : List (List Int)} (h1 : 1 ≤ N) (h2 : N ≤ 12) (h : FQ (N : Int) l) : FP (N : Int) (srtK l N) := by
  have hp : (srtK l N).Perm l := srtK_perm fun t ht => mn_range (h.1 t ht).1 (h.1 t ht).2
  refine (FP_iff _ _).2 ⟨by omega, by omega, h.perm hp.symm, srtK_asc ?_ N⟩
  exact h.2.1.imp_of_mem fun hs ht hap => mn_apart (h.1 _ hs).1 (h.1 _ ht).1 hap
/-- a right forest is in order already, and two in order with the same tours are one -/
theorem asc_uniq {a b : List (List Int)} (ha : a.Pairwise fun s t => mnV s < mnV t) (hb : b.Pairwise fun s t => mnV s < mnV t) (hp : a.Perm b) : a = b :=
  List.Perm.eq_of_pairwise (fun _ _ _ _ h1 h2 => by omega) ha hb hp
end Go.Proofs.YtpfkfbmghddepaaGreat
namespace Go.Proofs.YtpfkfbmghddepaaGreat
open Go.RowKit

theorem nd_sub {α : Type} [DecidableEq α] : ∀ {a b : List α}, a.Nodup → (∀ x ∈ a, x ∈ b) → a.length ≤ b.length
  | [], _, _, _ => by simp
  | x :: a, b, hn, h => by
    have hn' := List.nodup_cons.1 hn
    have h1 := nd_sub (b := b.erase x) hn'.2 fun y hy => by
      have hne : y ≠ x := fun e => hn'.1 (e ▸ hy)
      exact (List.mem_erase_of_ne hne).2 (h y (by simp [hy]))
    have h2 := List.length_erase_of_mem (h x (by simp))
    have h3 := List.length_pos_of_mem (h x (by simp))
    simp only [List.length_cons]
    omega
theorem vs_nodup (t : List Int) : (vsL t).Nodup := (vsK_asc t 12).imp fun h e => by omega
theorem cnt_two {a b J : List Int} (hap : Apart a b) (h : ∀ x, x ∈ J ↔ x ∈ a ∨ x ∈ b) : (vsL J).length = (vsL a).length + (vsL b).length := by
  have hn : (vsL a ++ vsL b).Nodup := by
    rw [List.nodup_append]
    exact ⟨vs_nodup a, vs_nodup b, fun x hx y hy e => hap x ((vsL_mem a x).1 hx).2 (e ▸ ((vsL_mem b y).1 hy).2)⟩
  have hm : ∀ x, x ∈ vsL J ↔ x ∈ vsL a ++ vsL b := fun x => by
    rw [List.mem_append, vsL_mem, vsL_mem, vsL_mem, h]
    constructor
    · rintro ⟨h1, h2 | h2⟩
      · exact .inl ⟨h1, h2⟩
      · exact .inr ⟨h1, h2⟩
    · rintro (⟨h1, h2⟩ | ⟨h1, h2⟩)
      · exact ⟨h1, .inl h2⟩
      · exact ⟨h1, .inr h2⟩
  have h1 := nd_sub (vs_nodup J) fun x hx => (hm x).1 hx
  have h2 := nd_sub hn fun x hx => (hm x).2 hx
  rw [List.length_append] at h1 h2
  omega

/-- two tours side by side, joined: what comes of it, and where it goes from u to v and back -/
structure JoIs (a b : List Int) (u v : Int) (J : List Int) : Prop where
  ok : tB J = true
  len : J.length = a.length + b.length + 1
  mem : ∀ x, x ∈ J ↔ x ∈ a ∨ x ∈ b
  step : ∃ k : Nat, J[k]? = some u ∧ J[k + 1]? = some v
  back : ∃ r, ReIs b v r ∧ spO J u v = (a, r, true)
theorem jo_two {a b : List Int} {u v : Int} (ha : tB a = true) (hb : tB b = true) (hap : Apart a b) (hu : u ∈ a) (hv : v ∈ b) : ∃ J, joO a u b v = some J ∧ JoIs a b u v J := by
  obtain ⟨k, hk, hkl, hkp⟩ := lst_mem hu
  obtain ⟨r, hr, HR⟩ := re_is hb hv
  obtain ⟨_, _, er⟩ := reO_some hr
  have hapr : ∀ x ∈ r, x ∉ a := fun x hx hxa => hap x hxa ((HR.mem x).1 hx)
  have hcom : comB a b = false := comB_no fun j hj => by
    rw [comP_at (List.getElem?_eq_getElem hj)]
    exact decide_eq_false fun hx => hap _ (List.getElem_mem hj) hx
  obtain ⟨j1, j2, j3⟩ := join_is ha HR.ok hapr hkp
  have hrl : 0 < r.length := tB_pos HR.ok
  have hl1 : (a.take (k + 1)).length = k + 1 := by simp; omega
  have g1 : (joT a k r)[k]? = some u := by
    unfold joT
    rw [List.getElem?_append_left (by omega), List.getElem?_take_of_lt (by omega)]
    exact hkp
  have g2 : (joT a k r)[k + 1]? = some v := by
    unfold joT
    rw [List.getElem?_append_right (by omega), hl1, Nat.sub_self, List.getElem?_append_left hrl]
    exact HR.fst
  refine ⟨joT a k r, ?_, j1, by rw [j2, HR.len], fun x => by rw [j3, HR.mem], ⟨k, g1, g2⟩, r, HR, ?_⟩
  · unfold joO
    rw [if_pos ⟨⟨ha, hb⟩, ⟨hu, hv⟩, hcom⟩, hk, ← er]
    rfl
  · have hlow : ∀ i x, i ≤ k → (joT a k r)[i]? = some x → x ∈ a := fun i x hi hx => by
      unfold joT at hx
      rw [List.getElem?_append_left (by omega)] at hx
      exact List.mem_of_mem_take (List.mem_of_getElem? hx)
    have hmid : ∀ i x, k < i → i ≤ k + r.length → (joT a k r)[i]? = some x → x ∈ r := fun i x h1 h2 hx => by
      unfold joT at hx
      rw [List.getElem?_append_right (by omega), List.getElem?_append_left (by omega)] at hx
      exact List.mem_of_getElem? hx
    have hhigh : ∀ i x, k + r.length < i → (joT a k r)[i]? = some x → x ∈ a := fun i x h1 hx => by
      unfold joT at hx
      rw [List.getElem?_append_right (by omega), List.getElem?_append_right (by omega)] at hx
      exact List.mem_of_mem_drop (List.mem_of_getElem? hx)
    have hva : v ∉ a := fun h => hap v h hv
    have hur : u ∉ r := fun h => hapr u h hu
    have hone : ∀ i, (joT a k r)[i]? = some u → (joT a k r)[i + 1]? = some v → i = k := fun i h1 h2 => by
      by_cases c1 : i < k
      · exact absurd (hlow (i + 1) v (by omega) h2) hva
      · by_cases c2 : i = k
        · exact c2
        · by_cases c3 : i ≤ k + r.length
          · exact absurd (hmid i u (by omega) c3 h1) hur
          · exact absurd (hhigh (i + 1) v (by omega) h2) hva
    have htwo : ∀ i, (joT a k r)[i]? = some v → (joT a k r)[i + 1]? = some u → i = k + r.length := fun i h1 h2 => by
      by_cases c1 : i ≤ k
      · exact absurd (hlow i v c1 h1) hva
      · by_cases c2 : i < k + r.length
        · exact absurd (hmid (i + 1) u (by omega) (by omega) h2) hur
        · by_cases c3 : i = k + r.length
          · exact c3
          · exact absurd (hhigh i v (by omega) h1) hva
    have e1 : goI (joT a k r) u v = (k : Int) := by
      rcases go_at (t := joT a k r) (u := u) (v := v) with ⟨k1, e1, _, a1, a2, _⟩ | ⟨_, hn⟩
      · rw [e1, hone k1 a1 a2]
      · have := hn k (List.getElem?_eq_some_iff.1 g2).1
        simp [goP, g1, g2] at this
    have e2 : goI (joT a k r) v u = ((k + r.length : Nat) : Int) := by
      obtain ⟨p, e2, _, _⟩ := go_both j1 e1
      rcases go_at (t := joT a k r) (u := v) (v := u) with ⟨k2, e3, _, b1, b2, _⟩ | ⟨e3, _⟩
      · rw [e3, htwo k2 b1 b2]
      · omega
    unfold spO
    rw [if_pos ⟨j1, by rw [e1]; omega⟩, e1, e2, show (min (k : Int) ((k + r.length : Nat) : Int)).toNat = k by omega, show (max (k : Int) ((k + r.length : Nat) : Int)).toNat = k + r.length by omega]
    unfold spT
    have x1 : (joT a k r).take (k + 1) = a.take (k + 1) := by
      unfold joT
      rw [List.take_append_of_le_length (by omega), List.take_take, Nat.min_self]
    have x2 : (joT a k r).drop (k + r.length + 2) = a.drop (k + 1) := by
      unfold joT
      rw [List.drop_append, hl1, List.drop_append, List.drop_of_length_le (by omega), List.drop_of_length_le (by omega), List.drop_drop, List.nil_append, List.nil_append]
      congr 1
      omega
    have x3 : ((joT a k r).take (k + r.length + 1)).drop (k + 1) = r := by
      unfold joT
      rw [List.take_append, hl1, List.take_of_length_le (by omega), show k + r.length + 1 - (k + 1) = r.length by omega, List.take_append_of_le_length (Nat.le_refl _), List.take_of_length_le (Nat.le_refl _), List.drop_append, hl1, List.drop_of_length_le (by omega)]
      simp
    rw [x1, x2, x3, List.take_append_drop]

/-- those of the first k tours whose place is not in out -/
def woK (ts : List (List Int)) (out : List Nat) : Nat → List (List Int)
  | 0 => []
  | k + 1 => woK ts out k ++ (if k ∈ out then [] else ts[k]?.toList)
theorem wo_one {ts : List (List Int)} {i : Nat} {t : List Int} (hi : ts[i]? = some t) (k : Nat) : ((if i < k then [t] else []) ++ woK ts [i] k).Perm (ts.take k) := by
  induction k with
  | zero => simp [woK]
  | succ k ih =>
    rw [List.take_add_one]
    simp only [woK, List.mem_singleton]
    by_cases e : k = i
    · subst e
      rw [if_neg (by omega), List.nil_append] at ih
      rw [if_pos (by omega), if_pos rfl, List.append_nil, hi]
      exact (List.perm_append_comm (l₁ := [t])).trans (ih.append_right [t])
    · rw [if_neg e, ← List.append_assoc]
      have e2 : (if i < k + 1 then [t] else []) = (if i < k then [t] else []) := by
        by_cases h : i < k
        · rw [if_pos h, if_pos (by omega)]
        · rw [if_neg h, if_neg (by omega)]
      rw [e2]
      exact ih.append_right _
theorem wo_two {ts : List (List Int)} {i j : Nat} {s t : List Int} (hi : ts[i]? = some s) (hj : ts[j]? = some t) (hij : i ≠ j) (k : Nat) : ((if i < k then [s] else []) ++ (if j < k then [t] else []) ++ woK ts [i, j] k).Perm (ts.take k) := by
  induction k with
  | zero => simp [woK]
  | succ k ih =>
    rw [List.take_add_one]
    simp only [woK, List.mem_cons, List.not_mem_nil, or_false]
    by_cases e : k = i
    · subst e
      rw [if_neg (by omega), List.nil_append] at ih
      have e2 : (if j < k + 1 then [t] else []) = (if j < k then [t] else []) := by
        by_cases h : j < k
        · rw [if_pos h, if_pos (by omega)]
        · rw [if_neg h, if_neg (by omega)]
      rw [if_pos (show k < k + 1 by omega), e2, if_pos (show k = k ∨ k = j from .inl rfl), List.append_nil, hi, List.append_assoc]
      exact (List.perm_append_comm (l₁ := [s])).trans (ih.append_right [s])
    · have e3 : (if i < k + 1 then [s] else []) = (if i < k then [s] else []) := by
        by_cases h : i < k
        · rw [if_pos h, if_pos (by omega)]
        · rw [if_neg h, if_neg (by omega)]
      by_cases f : k = j
      · subst f
        rw [if_neg (show ¬ k < k by omega), List.append_nil] at ih
        rw [e3, if_pos (show k < k + 1 by omega), if_pos (show k = i ∨ k = k from .inr rfl), List.append_nil, hj]
        have p1 : ((if i < k then [s] else []) ++ [t] ++ woK ts [i, k] k).Perm ((if i < k then [s] else []) ++ woK ts [i, k] k ++ [t]) := by
          rw [List.append_assoc, List.append_assoc]
          exact List.perm_append_comm.append_left _
        exact p1.trans (ih.append_right [t])
      · have e4 : (if j < k + 1 then [t] else []) = (if j < k then [t] else []) := by
          by_cases h : j < k
          · rw [if_pos h, if_pos (by omega)]
          · rw [if_neg h, if_neg (by omega)]
        rw [e3, e4, if_neg (show ¬ (k = i ∨ k = j) by omega), ← List.append_assoc]
        exact ih.append_right _
theorem wo_one_all {ts : List (List Int)} {i : Nat} {t : List Int} (hi : ts[i]? = some t) : (t :: woK ts [i] ts.length).Perm ts := by
  have h := wo_one hi ts.length
  rw [if_pos (List.getElem?_eq_some_iff.1 hi).1, List.take_length] at h
  exact h
theorem wo_two_all {ts : List (List Int)} {i j : Nat} {s t : List Int} (hi : ts[i]? = some s) (hj : ts[j]? = some t) (hij : i ≠ j) : (s :: t :: woK ts [i, j] ts.length).Perm ts := by
  have h := wo_two hi hj hij ts.length
  rw [if_pos (List.getElem?_eq_some_iff.1 hi).1, if_pos (List.getElem?_eq_some_iff.1 hj).1, List.take_length] at h
  exact h
/-- two tours in the place of which their join stands -/
theorem FQ.join {N : Int} {a b J : List Int} {W : List (List Int)} (h : FQ N (a :: b :: W)) (hJ : tB J = true) (hm : ∀ x, x ∈ J ↔ x ∈ a ∨ x ∈ b) : FQ N (W ++ [J]) := by
  obtain ⟨h1, h2, h3⟩ := h
  rw [List.pairwise_cons, List.pairwise_cons] at h2
  obtain ⟨p1, p2, p3⟩ := h2
  have hab : Apart a b := p1 b (by simp)
  refine FQ.perm (a := J :: W) ⟨fun t ht => ?_, ?_, ?_⟩ (List.perm_append_comm (l₁ := [J]))
  · rcases List.mem_cons.1 ht with rfl | ht
    · refine ⟨hJ, fun x hx => ?_⟩
      rcases (hm x).1 hx with hx | hx
      · exact (h1 a (by simp)).2 x hx
      · exact (h1 b (by simp)).2 x hx
    · exact h1 t (by simp [ht])
  · rw [List.pairwise_cons]
    refine ⟨fun t ht x hx => ?_, p3⟩
    rcases (hm x).1 hx with hx | hx
    · exact p1 t (by simp [ht]) x hx
    · exact p2 t ht x hx
  · rw [← h3]
    have := cnt_two hab hm
    simp only [cnt, List.map_cons, List.sum_cons]
    omega
/-- a tour in the place of which its two parts stand -/
theorem FQ.split {N : Int} {t a b : List Int} {p c : Int} {W : List (List Int)} (h : FQ N (t :: W)) (hs : SpIs t a b p c) : FQ N (W ++ [a, b]) := by
  obtain ⟨h1, h2, h3⟩ := h
  rw [List.pairwise_cons] at h2
  obtain ⟨p1, p2⟩ := h2
  have hab : Apart a b := Apart.symm fun x hx => hs.apart x hx
  refine FQ.perm (a := a :: b :: W) ⟨fun s hs' => ?_, ?_, ?_⟩ (List.perm_append_comm (l₁ := [a, b]))
  · rcases List.mem_cons.1 hs' with rfl | hs'
    · exact ⟨hs.oka, fun x hx => (h1 t (by simp)).2 x ((hs.mem x).2 (.inl hx))⟩
    · rcases List.mem_cons.1 hs' with rfl | hs'
      · exact ⟨hs.okb, fun x hx => (h1 t (by simp)).2 x ((hs.mem x).2 (.inr hx))⟩
      · exact h1 s (by simp [hs'])
  · rw [List.pairwise_cons, List.pairwise_cons]
    refine ⟨fun s hs' x hx => ?_, fun s hs' x hx => p1 s hs' x ((hs.mem x).2 (.inr hx)), p2⟩
    rcases List.mem_cons.1 hs' with rfl | hs'
    · exact hab x hx
    · exact p1 s hs' x ((hs.mem x).2 (.inl hx))
  · rw [← h3]
    have := cnt_two hab hs.mem
    simp only [cnt, List.map_cons, List.sum_cons]
    omega
end Go.Proofs.YtpfkfbmghddepaaGreat
