/- What a walk along all edges tells, where each edge is the only way between its ends: pure. -/
import Derived.Test.YtcpffonenhhfoabTourR
import Derived.Test.YtcpffonenhhfoabE6
namespace Go.Proofs.Ytcpffonenhhfoab

/-- the edge of two vertices -/
def mkE (v u : Int) : EdgeV := if v < u then (v, u) else (u, v)
theorem mkE_comm {v u : Int} (h : v ≠ u) : mkE v u = mkE u v := by
  unfold mkE
  by_cases h1 : v < u
  · rw [if_pos h1, if_neg (by omega)]
  · rw [if_neg h1, if_pos (by omega)]
theorem mkE_inj {v u w : Int} (h : mkE v u = mkE v w) : u = w := by
  unfold mkE at h
  split at h <;> split at h <;> simp at h <;> omega
theorem mkE_ends (v u : Int) : (mkE v u = (v, u)) ∨ (mkE v u = (u, v)) := by
  unfold mkE
  split <;> simp

/-- the vertices from n - rem on -/
def wkGo (rec : Int → Int → List Int → Option (List Int × List Int)) (es : List EdgeV) (n : Nat) (v fr : Int) : Nat → List Int → List Int → Option (List Int × List Int)
  | 0, out, seen => some (out, seen)
  | rem + 1, out, seen =>
    if ((n - (rem + 1) : Nat) : Int) = fr ∨ mkE v ((n - (rem + 1) : Nat) : Int) ∉ es then wkGo rec es n v fr rem out seen
    else if ((n - (rem + 1) : Nat) : Int) ∈ seen then none
    else match rec ((n - (rem + 1) : Nat) : Int) v seen with
      | none => none
      | some x => wkGo rec es n v fr rem (out ++ x.1 ++ [v]) x.2
/-- the walk from v, to which it came from fr -/
def wk (es : List EdgeV) (n : Nat) : Nat → Int → Int → List Int → Option (List Int × List Int)
  | 0, _, _, _ => none
  | f + 1, v, fr, seen => wkGo (wk es n f) es n v fr n [v] (v :: seen)
theorem wkGo_skip {rec : Int → Int → List Int → Option (List Int × List Int)} {es : List EdgeV} {n : Nat} {v fr : Int} {rem k : Nat} {out seen : List Int} (hk : n - (rem + 1) = k) (h : (k : Int) = fr ∨ mkE v (k : Int) ∉ es) :
    wkGo rec es n v fr (rem + 1) out seen = wkGo rec es n v fr rem out seen := by
  rw [wkGo, hk, if_pos h]
theorem wkGo_go {rec : Int → Int → List Int → Option (List Int × List Int)} {es : List EdgeV} {n : Nat} {v fr : Int} {rem k : Nat} {out seen : List Int} {x : List Int × List Int} (hk : n - (rem + 1) = k) (h1 : (k : Int) ≠ fr) (h2 : mkE v (k : Int) ∈ es)
    (h : wkGo rec es n v fr (rem + 1) out seen = some x) : (k : Int) ∉ seen ∧ ∃ p, rec (k : Int) v seen = some p ∧ wkGo rec es n v fr rem (out ++ p.1 ++ [v]) p.2 = some x := by
  rw [wkGo, hk, if_neg (by rintro (h3 | h3); exact h1 h3; exact h3 h2)] at h
  by_cases hs : (k : Int) ∈ seen
  · rw [if_pos hs] at h; simp at h
  · rw [if_neg hs] at h
    refine ⟨hs, ?_⟩
    cases hr : rec (k : Int) v seen with
    | none => rw [hr] at h; simp at h
    | some p => rw [hr] at h; exact ⟨p, rfl, h⟩

/-- each edge is the only way between its ends -/
def Bridge (es : List EdgeV) : Prop := ∀ e ∈ es, ∃ S : Int → Prop, S e.2 ∧ ¬ S e.1 ∧ ∀ d ∈ es, d ≠ e → (S d.1 ↔ S d.2)
theorem Bridge.side {es : List EdgeV} (h : Bridge es) {v u : Int} (he : mkE v u ∈ es) : ∃ S : Int → Prop, S u ∧ ¬ S v ∧ ∀ d ∈ es, d ≠ mkE v u → (S d.1 ↔ S d.2) := by
  obtain ⟨S, h1, h2, h3⟩ := h _ he
  rcases mkE_ends v u with e | e
  · rw [e] at h1 h2
    exact ⟨S, h1, h2, h3⟩
  · rw [e] at h1 h2
    exact ⟨fun x => ¬ S x, h2, fun h4 => h4 h1, fun d hd hne => not_congr (h3 d hd hne)⟩

structure WkIs (es : List EdgeV) (n : Nat) (v fr : Int) (seen t seen' : List Int) : Prop where
  head : t.head? = some v
  nodup : seen'.Nodup
  rng : ∀ x ∈ seen', 0 ≤ x ∧ x < (n : Int)
  mem : ∀ x, x ∈ seen' ↔ x ∈ seen ∨ x ∈ t
  new : ∀ x ∈ t, x ∉ seen
  run : ∀ W S : List Int, (∀ x ∈ W, x ∈ S) → (∀ x ∈ t, x ∉ S) → ∃ S', trun W S t = some (v :: W, S')
  least : ∀ C : Int → Prop, C v → (∀ e ∈ es, e ≠ mkE v fr → (C e.1 ↔ C e.2)) → ∀ x ∈ t, C x
  len : seen.length < seen'.length
/-- the vertices below k have been gone to -/
structure GoIs (es : List EdgeV) (n : Nat) (v fr : Int) (k : Nat) (seen0 out seen : List Int) : Prop where
  head : out.head? = some v
  nodup : seen.Nodup
  rng : ∀ x ∈ seen, 0 ≤ x ∧ x < (n : Int)
  mem : ∀ x, x ∈ seen ↔ x ∈ seen0 ∨ x ∈ out
  new : ∀ x ∈ out, x ∉ seen0
  run : ∀ W S : List Int, (∀ x ∈ W, x ∈ S) → (∀ x ∈ out, x ∉ S) → ∃ S', trun W S out = some (v :: W, S')
  least : ∀ C : Int → Prop, C v → (∀ e ∈ es, e ≠ mkE v fr → (∀ u : Nat, k ≤ u → u < n → e ≠ mkE v (u : Int)) → (C e.1 ↔ C e.2)) → ∀ x ∈ out, C x
  len : seen0.length < seen.length
theorem GoIs.skip {es : List EdgeV} {n : Nat} {v fr : Int} {k : Nat} {seen0 out seen : List Int} (h : GoIs es n v fr k seen0 out seen) : GoIs es n v fr (k + 1) seen0 out seen :=
  ⟨h.head, h.nodup, h.rng, h.mem, h.new, h.run, fun C hv hC => h.least C hv fun e he h1 h2 => hC e he h1 fun u hu hn => h2 u (by omega) hn, h.len⟩
theorem GoIs.go {es : List EdgeV} {n : Nat} {v fr : Int} {k : Nat} {seen0 out seen p seen' : List Int} (h : GoIs es n v fr k seen0 out seen) (hkf : (k : Int) ≠ fr) (hkv : v ≠ (k : Int)) (he : mkE v (k : Int) ∈ es) {S : Int → Prop} (hS1 : S (k : Int)) (hS2 : ¬ S v) (hS3 : ∀ d ∈ es, d ≠ mkE v (k : Int) → (S d.1 ↔ S d.2))
    (hp : WkIs es n (k : Int) v seen p seen') : GoIs es n v fr (k + 1) seen0 (out ++ p ++ [v]) seen' := by
  have hvo : v ∈ out := by
    have := h.head
    cases out with
    | nil => simp at this
    | cons a o => simp at this; simp [this]
  have hS4 : ∀ w : Int, mkE v w ∈ es → mkE v w ≠ mkE v (k : Int) → ¬ S (mkE v w).1 ∧ ¬ S (mkE v w).2 := fun w hw hne => by
    have := hS3 _ hw hne
    rcases mkE_ends v w with e | e
    · rw [e] at this ⊢; exact ⟨hS2, fun h5 => hS2 (this.2 h5)⟩
    · rw [e] at this ⊢; exact ⟨fun h5 => hS2 (this.1 h5), hS2⟩
  refine ⟨?_, hp.nodup, hp.rng, fun x => ?_, fun x hx => ?_, fun W T hW hT => ?_, fun C hv hC x hx => ?_, Nat.lt_trans h.len hp.len⟩
  · have := h.head
    cases out with
    | nil => simp at this
    | cons a o => simpa using this
  · rw [hp.mem, h.mem]
    simp only [List.mem_append, List.mem_singleton]
    constructor
    · rintro ((h1 | h1) | h1)
      · exact .inl h1
      · exact .inr (.inl (.inl h1))
      · exact .inr (.inl (.inr h1))
    · rintro (h1 | (h1 | h1) | h1)
      · exact .inl (.inl h1)
      · exact .inl (.inr h1)
      · exact .inr h1
      · exact .inl (.inr (by rw [h1]; exact hvo))
  · simp only [List.mem_append, List.mem_singleton] at hx
    rcases hx with (h1 | h1) | h1
    · exact h.new x h1
    · exact fun h2 => hp.new x h1 ((h.mem x).2 (.inl h2))
    · rw [h1]; exact h.new v hvo
  · obtain ⟨S1, h1⟩ := h.run W T hW (fun x hx => hT x (by simp [hx]))
    obtain ⟨hs, hw⟩ := trun_seen h1 hW
    obtain ⟨S2, h2⟩ := hp.run (v :: W) S1 hw (fun x hx h3 => by
      rcases (hs x).1 h3 with h4 | h4
      · exact hT x (by simp [hx]) h4
      · exact hp.new x hx ((h.mem x).2 (.inr h4)))
    refine ⟨S2, ?_⟩
    rw [trun_append, trun_append, h1, Option.bind_some, h2, Option.bind_some, trun_up (by simp [isUp])]
    rfl
  · simp only [List.mem_append, List.mem_singleton] at hx
    rcases hx with (h1 | h1) | h1
    · exact h.skip.least C hv hC x h1
    · refine (hp.least (fun y => C y ∧ S y) ⟨?_, hS1⟩ (fun e he2 hne => ?_) x h1).1
      · have h2 := hC _ he (fun e => hkf (mkE_inj e)) (fun u hu _ e => by have := mkE_inj e; omega)
        rcases mkE_ends v (k : Int) with e | e
        · rw [e] at h2; exact h2.1 hv
        · rw [e] at h2; exact h2.2 hv
      · rw [mkE_comm (fun e => hkv e.symm)] at hne
        by_cases h3 : e = mkE v fr
        · subst h3
          obtain ⟨a, b⟩ := hS4 fr he2 hne
          exact ⟨fun h4 => absurd h4.2 a, fun h4 => absurd h4.2 b⟩
        · by_cases h4 : ∃ u : Nat, k + 1 ≤ u ∧ u < n ∧ e = mkE v (u : Int)
          · obtain ⟨u, _, _, rfl⟩ := h4
            obtain ⟨a, b⟩ := hS4 _ he2 hne
            exact ⟨fun h4 => absurd h4.2 a, fun h4 => absurd h4.2 b⟩
          · exact and_congr (hC e he2 h3 (fun u h5 h6 h7 => h4 ⟨u, h5, h6, h7⟩)) (hS3 e he2 hne)
    · rw [h1]; exact hv
theorem wk_ok {es : List EdgeV} {n : Nat} (hE : ∀ e ∈ es, 0 ≤ e.1 ∧ e.1 < e.2 ∧ e.2 < (n : Int)) (hBr : Bridge es) (f : Nat) : ∀ (v fr : Int) (seen : List Int), 0 ≤ v → v < (n : Int) → seen.Nodup → (∀ x ∈ seen, 0 ≤ x ∧ x < (n : Int)) → n ≤ f + seen.length →
    (∃ C : Int → Prop, C v ∧ (∀ x ∈ seen, ¬ C x) ∧ ∀ e ∈ es, e ≠ mkE v fr → (C e.1 ↔ C e.2)) → ∃ t seen', wk es n f v fr seen = some (t, seen') ∧ WkIs es n v fr seen t seen' := by
  induction f with
  | zero =>
    intro v fr seen h0 h1 hn hr hf ⟨C, hC, hCs, _⟩
    have hv : v ∉ seen := fun h => hCs v h hC
    have := nodup_le n (v :: seen) (List.nodup_cons.2 ⟨hv, hn⟩) (fun x hx => by
      rcases List.mem_cons.1 hx with rfl | hx
      · exact ⟨h0, h1⟩
      · exact hr x hx)
    simp at this
    omega
  | succ f ih =>
    intro v fr seen0 h0 h1 hn hr hf ⟨C, hC, hCs, hCe⟩
    have hv : v ∉ seen0 := fun h => hCs v h hC
    have key : ∀ (rem k : Nat) (out seen : List Int), rem + k = n → GoIs es n v fr k seen0 out seen → ∃ t seen', wkGo (wk es n f) es n v fr rem out seen = some (t, seen') ∧ GoIs es n v fr n seen0 t seen' := by
      intro rem
      induction rem with
      | zero =>
        intro k out seen hk hg
        obtain rfl : k = n := by omega
        exact ⟨out, seen, rfl, hg⟩
      | succ rem ihr =>
        intro k out seen hk hg
        have ek : n - (rem + 1) = k := by omega
        by_cases hs : (k : Int) = fr ∨ mkE v (k : Int) ∉ es
        · rw [wkGo_skip ek hs]
          exact ihr (k + 1) out seen (by omega) hg.skip
        · have hkf : (k : Int) ≠ fr := fun e => hs (.inl e)
          have he : mkE v (k : Int) ∈ es := Classical.not_not.1 (fun e => hs (.inr e))
          have hkv : v ≠ (k : Int) := fun e => by
            have := hE _ he
            rw [← e] at this
            unfold mkE at this
            rw [if_neg (by omega)] at this
            simp at this
          obtain ⟨S, hS1, hS2, hS3⟩ := hBr.side he
          have hout : ∀ x ∈ out, ¬ S x := hg.least (fun x => ¬ S x) hS2 (fun e he2 _ h3 => not_congr (hS3 e he2 (h3 k (Nat.le_refl _) (by omega))))
          have hCk : C (k : Int) := by
            have h2 := hCe _ he (fun e => hkf (mkE_inj e))
            rcases mkE_ends v (k : Int) with e | e
            · rw [e] at h2; exact h2.1 hC
            · rw [e] at h2; exact h2.2 hC
          have hpre : ∀ x ∈ seen, ¬ (C x ∧ S x) := fun x hx h3 => by
            rcases (hg.mem x).1 hx with h4 | h4
            · exact hCs x h4 h3.1
            · exact hout x h4 h3.2
          have hks : (k : Int) ∉ seen := fun h3 => hpre _ h3 ⟨hCk, hS1⟩
          obtain ⟨p, seen', hp, hpi⟩ := ih (k : Int) v seen (by omega) (by omega) hg.nodup hg.rng (by have := hg.len; omega) ⟨fun x => C x ∧ S x, ⟨hCk, hS1⟩, hpre, fun e he2 hne => by
            rw [mkE_comm (fun e => hkv e.symm)] at hne
            by_cases h3 : e = mkE v fr
            · subst h3
              have := hS3 _ he2 hne
              rcases mkE_ends v fr with e | e
              · rw [e] at this ⊢; exact ⟨fun h5 => absurd h5.2 hS2, fun h5 => absurd (this.2 h5.2) hS2⟩
              · rw [e] at this ⊢; exact ⟨fun h5 => absurd (this.1 h5.2) hS2, fun h5 => absurd h5.2 hS2⟩
            · exact and_congr (hCe e he2 h3) (hS3 e he2 hne)⟩
          obtain ⟨t, sn, h5, h6⟩ := ihr (k + 1) (out ++ p ++ [v]) seen' (by omega) (hg.go hkf hkv he hS1 hS2 hS3 hpi)
          refine ⟨t, sn, ?_, h6⟩
          rw [wkGo, ek, if_neg hs, if_neg hks, hp]
          exact h5
    have hst : GoIs es n v fr 0 seen0 [v] (v :: seen0) := by
      refine ⟨rfl, List.nodup_cons.2 ⟨hv, hn⟩, fun x hx => ?_, fun x => by simp; exact or_comm, fun x hx => by simp at hx; rw [hx]; exact hv, fun W S hW hS => ?_, fun C hv _ x hx => by simp at hx; rw [hx]; exact hv, by simp⟩
      · rcases List.mem_cons.1 hx with rfl | hx
        · exact ⟨h0, h1⟩
        · exact hr x hx
      · have hvS : v ∉ S := hS v (by simp)
        have hup : isUp W v = false := by
          cases h : isUp W v with
          | false => rfl
          | true => exact absurd (hW _ (isUp_mem h)) hvS
        exact ⟨v :: S, by rw [trun_down hup hvS]; rfl⟩
    obtain ⟨t, sn, h2, h3⟩ := key n 0 [v] (v :: seen0) (by omega) hst
    exact ⟨t, sn, h2, h3.head, h3.nodup, h3.rng, h3.mem, h3.new, h3.run, fun C hv hCe2 => h3.least C hv fun e he hne _ => hCe2 e he hne, h3.len⟩

theorem mem_putE {es : List EdgeV} {e d : EdgeV} : d ∈ putE es e ↔ d ∈ es ∨ d = e := by
  unfold putE
  simp only [List.mem_append, List.mem_filter, List.mem_singleton]
  constructor
  · rintro ((h | h) | h)
    · exact .inl h.1
    · exact .inr h
    · exact .inl h.1
  · rintro (h | h)
    · by_cases he : d = e
      · exact .inl (.inr he)
      · cases hl : lt d e with
        | true => exact .inl (.inl ⟨h, rfl⟩)
        | false => exact .inr ⟨h, lt_total' hl he⟩
    · exact .inl (.inr h)
/-- edges of trees of the vertices below k -/
structure Forest (es : List EdgeV) (k : Nat) : Prop where
  ends : ∀ e ∈ es, 0 ≤ e.1 ∧ e.1 < e.2 ∧ e.2 < (k : Int)
  bridge : Bridge es
theorem Forest.nil (k : Nat) : Forest [] k := ⟨fun e h => by simp at h, fun e h => by simp at h⟩
theorem Forest.more {es : List EdgeV} {k : Nat} (h : Forest es k) : Forest es (k + 1) := ⟨fun e he => by have := h.ends e he; omega, h.bridge⟩
theorem Forest.put {es : List EdgeV} {k : Nat} (h : Forest es k) {x : Nat} (hx : x < k) : Forest (putE es ((x : Int), (k : Int))) (k + 1) := by
  have hnew : ((x : Int), (k : Int)) ∉ es := fun he => by have := h.ends _ he; simp at this
  refine ⟨fun e he => ?_, fun e he => ?_⟩
  · rcases mem_putE.1 he with h1 | h1
    · have := h.ends e h1; omega
    · subst h1; simp; omega
  · rcases mem_putE.1 he with h1 | h1
    · obtain ⟨S, a, b, c⟩ := h.bridge e h1
      have he1 := h.ends e h1
      refine ⟨fun y => if y = (k : Int) then S (x : Int) else S y, by simp only [if_neg (show ¬ e.2 = (k : Int) by omega)]; exact a, by simp only [if_neg (show ¬ e.1 = (k : Int) by omega)]; exact b, fun d hd hne => ?_⟩
      rcases mem_putE.1 hd with h2 | h2
      · have hd1 := h.ends d h2
        simp only [if_neg (show ¬ d.1 = (k : Int) by omega), if_neg (show ¬ d.2 = (k : Int) by omega)]
        exact c d h2 hne
      · subst h2
        simp only [if_neg (show ¬ (x : Int) = (k : Int) by omega), if_true]
    · subst h1
      refine ⟨fun y => y = (k : Int), rfl, by simp; omega, fun d hd hne => ?_⟩
      rcases mem_putE.1 hd with h2 | h2
      · have hd1 := h.ends d h2
        constructor
        · intro h3; omega
        · intro h3; omega
      · exact absurd h2 hne
/-- the tour of a tree of a forest -/
theorem forest_tour {es : List EdgeV} {n : Nat} (h : Forest es n) (hn : n ≤ 12) {r : Nat} (hr : r < n) : ∃ t sn, wk es n n (r : Int) (-1) [] = some (t, sn) ∧ tB t = true ∧ t[0]? = some (r : Int) := by
  obtain ⟨t, sn, h1, h2⟩ := wk_ok h.ends h.bridge n (r : Int) (-1) [] (by omega) (by omega) (by simp) (by simp) (by simp) ⟨fun _ => True, trivial, by simp, by simp⟩
  refine ⟨t, sn, h1, ?_, ?_⟩
  · obtain ⟨S', h3⟩ := h2.run [] [] (by simp) (by simp)
    refine (tB_iff t).2 ⟨fun x hx => ?_, (r : Int), S', h3⟩
    have := h2.rng x ((h2.mem x).2 (.inr hx))
    simp [vB]
    omega
  · rw [← List.head?_eq_getElem?]; exact h2.head
end Go.Proofs.Ytcpffonenhhfoab
