/- What a walk along all edges tells, where each edge is the only way between its ends: pure. The edges that a right tour goes along: each is the only way between its ends, they hold all of its vertices together, and the tour has twice as many steps: pure. The edges of a forest, its parts, the place of a vertex: pure. A forest linked and cut again: pure. The place of a vertex's tour: pure. What Link and Cut answer: pure. -/
import Derived.Test.YtklalfkdikjkfaaGreatKIBack
import Derived.Test.YtklalfkdikjkfaaGreatKE6
import Derived.Test.YtklalfkdikjkfaaGreatKITour
namespace Go.Proofs.YtklalfkdikjkfaaGreat

/-- the edge of two vertices -/
def mkE (v u : Int) : EdgeV := if v < u then (v, u) else (u, v)
theorem mkE_comm {v u : Int} (h : v ≠ u) : mkE v u = mkE u v := by
  unfold mkE
  by_cases h1 : v < u
  · rw [if_pos h1, if_neg (by omega)]
  · rw [if_neg h1, if_pos (by omega)]
theorem mkE_inj {v u w : Int} (h : mkE v u = mkE v w) : u = w := by
  unfold mkE at h
  split at h <;> split at h <;> simp at h <;> omega
theorem mkE_ends (v u : Int) : (mkE v u = (v, u)) ∨ (mkE v u = (u, v)) := by
  unfold mkE
  split <;> simp

/-- the vertices from n - rem on -/
def wkGo (rec : Int → Int → List Int → Option (List Int × List Int)) (es : List EdgeV) (n : Nat) (v fr : Int) : Nat → List Int → List Int → Option (List Int × List Int)
  | 0, out, seen => some (out, seen)
  | rem + 1, out, seen =>
    if ((n - (rem + 1) : Nat) : Int) = fr ∨ mkE v ((n - (rem + 1) : Nat) : Int) ∉ es then wkGo rec es n v fr rem out seen
    else if ((n - (rem + 1) : Nat) : Int) ∈ seen then none
    else match rec ((n - (rem + 1) : Nat) : Int) v seen with
      | none => none
      | some x => wkGo rec es n v fr rem (out ++ x.1 ++ [v]) x.2
/-- the walk from v, to which it came from fr -/
def wk (es : List EdgeV) (n : Nat) : Nat → Int → Int → List Int → Option (List Int × List Int)
  | 0, _, _, _ => none
  | f + 1, v, fr, seen => wkGo (wk es n f) es n v fr n [v] (v :: seen)
theorem wkGo_skip {rec : Int → Int → List Int → Option (List Int × List Int)} {es : List EdgeV} {n : Nat} {v fr : Int} {rem k : Nat} {out seen : List Int} (hk : n - (rem + 1) = k) (h : (k : Int) = fr ∨ mkE v (k : Int) ∉ es) :
    wkGo rec es n v fr (rem + 1) out seen = wkGo rec es n v fr rem out seen := by
  rw [wkGo, hk, if_pos h]
theorem wkGo_go {rec : Int → Int → List Int → Option (List Int × List Int)} {es : List EdgeV} {n : Nat} {v fr : Int} {rem k : Nat} {out seen : List Int} {x : List Int × List Int} (hk : n - (rem + 1) = k) (h1 : (k : Int) ≠ fr) (h2 : mkE v (k : Int) ∈ es)
    (h : wkGo rec es n v fr (rem + 1) out seen = some x) : (k : Int) ∉ seen ∧ ∃ p, rec (k : Int) v seen = some p ∧ wkGo rec es n v fr rem (out ++ p.1 ++ [v]) p.2 = some x := by
  rw [wkGo, hk, if_neg (by rintro (h3 | h3); exact h1 h3; exact h3 h2)] at h
  by_cases hs : (k : Int) ∈ seen
  · rw [if_pos hs] at h; simp at h
  · rw [if_neg hs] at h
    refine ⟨hs, ?_⟩
    cases hr : rec (k : Int) v seen with
    | none => rw [hr] at h; simp at h
    | some p => rw [hr] at h; exact ⟨p, rfl, h⟩

/-- each edge is the only way between its ends -/
def Bridge (es : List EdgeV) : Prop := ∀ e ∈ es, ∃ S : Int → Prop, S e.2 ∧ ¬ S e.1 ∧ ∀ d ∈ es, d ≠ e → (S d.1 ↔ S d.2)
theorem Bridge.side {es : List EdgeV} (h : Bridge es) {v u : Int} (he : mkE v u ∈ es) : ∃ S : Int → Prop, S u ∧ ¬ S v ∧ ∀ d ∈ es, d ≠ mkE v u → (S d.1 ↔ S d.2) := by
  obtain ⟨S, h1, h2, h3⟩ := h _ he
  rcases mkE_ends v u with e | e
  · rw [e] at h1 h2
    exact ⟨S, h1, h2, h3⟩
  · rw [e] at h1 h2
    exact ⟨fun x => ¬ S x, h2, fun h4 => h4 h1, fun d hd hne => not_congr (h3 d hd hne)⟩

structure WkIs (es : List EdgeV) (n : Nat) (v fr : Int) (seen t seen' : List Int) : Prop where
  head : t.head? = some v
  nodup : seen'.Nodup
  rng : ∀ x ∈ seen', 0 ≤ x ∧ x < (n : Int)
  mem : ∀ x, x ∈ seen' ↔ x ∈ seen ∨ x ∈ t
  new : ∀ x ∈ t, x ∉ seen
  run : ∀ W S : List Int, (∀ x ∈ W, x ∈ S) → (∀ x ∈ t, x ∉ S) → ∃ S', trun W S t = some (v :: W, S')
  least : ∀ C : Int → Prop, C v → (∀ e ∈ es, e ≠ mkE v fr → (C e.1 ↔ C e.2)) → ∀ x ∈ t, C x
  len : seen.length < seen'.length
/-- the vertices below k have been gone to -/
structure GoIs (es : List EdgeV) (n : Nat) (v fr : Int) (k : Nat) (seen0 out seen : List Int) : Prop where
  head : out.head? = some v
  nodup : seen.Nodup
  rng : ∀ x ∈ seen, 0 ≤ x ∧ x < (n : Int)
  mem : ∀ x, x ∈ seen ↔ x ∈ seen0 ∨ x ∈ out
  new : ∀ x ∈ out, x ∉ seen0
  run : ∀ W S : List Int, (∀ x ∈ W, x ∈ S) → (∀ x ∈ out, x ∉ S) → ∃ S', trun W S out = some (v :: W, S')
  least : ∀ C : Int → Prop, C v → (∀ e ∈ es, e ≠ mkE v fr → (∀ u : Nat, k ≤ u → u < n → e ≠ mkE v (u : Int)) → (C e.1 ↔ C e.2)) → ∀ x ∈ out, C x
  len : seen0.length < seen.length
theorem GoIs.skip {es : List EdgeV} {n : Nat} {v fr : Int} {k : Nat} {seen0 out seen : List Int} (h : GoIs es n v fr k seen0 out seen) : GoIs es n v fr (k + 1) seen0 out seen :=
  ⟨h.head, h.nodup, h.rng, h.mem, h.new, h.run, fun C hv hC => h.least C hv fun e he h1 h2 => hC e he h1 fun u hu hn => h2 u (by omega) hn, h.len⟩
theorem GoIs.go {es : List EdgeV} {n : Nat} {v fr : Int} {k : Nat} {seen0 out seen p seen' : List Int} (h : GoIs es n v fr k seen0 out seen) (hkf : (k : Int) ≠ fr) (hkv : v ≠ (k : Int)) (he : mkE v (k : Int) ∈ es) {S : Int → Prop} (hS1 : S (k : Int)) (hS2 : ¬ S v) (hS3 : ∀ d ∈ es, d ≠ mkE v (k : Int) → (S d.1 ↔ S d.2))
    (hp : WkIs es n (k : Int) v seen p seen') : GoIs es n v fr (k + 1) seen0 (out ++ p ++ [v]) seen' := by
  have hvo : v ∈ out := by
    have := h.head
    cases out with
    | nil => simp at this
    | cons a o => simp at this; simp [this]
  have hS4 : ∀ w : Int, mkE v w ∈ es → mkE v w ≠ mkE v (k : Int) → ¬ S (mkE v w).1 ∧ ¬ S (mkE v w).2 := fun w hw hne => by
    have := hS3 _ hw hne
    rcases mkE_ends v w with e | e
    · rw [e] at this ⊢; exact ⟨hS2, fun h5 => hS2 (this.2 h5)⟩
    · rw [e] at this ⊢; exact ⟨fun h5 => hS2 (this.1 h5), hS2⟩
  refine ⟨?_, hp.nodup, hp.rng, fun x => ?_, fun x hx => ?_, fun W T hW hT => ?_, fun C hv hC x hx => ?_, Nat.lt_trans h.len hp.len⟩
  · have := h.head
    cases out with
    | nil => simp at this
    | cons a o => simpa using this
  · rw [hp.mem, h.mem]
    simp only [List.mem_append, List.mem_singleton]
    constructor
    · rintro ((h1 | h1) | h1)
      · exact .inl h1
      · exact .inr (.inl (.inl h1))
      · exact .inr (.inl (.inr h1))
    · rintro (h1 | (h1 | h1) | h1)
      · exact .inl (.inl h1)
      · exact .inl (.inr h1)
      · exact .inr h1
      · exact .inl (.inr (by rw [h1]; exact hvo))
  · simp only [List.mem_append, List.mem_singleton] at hx
    rcases hx with (h1 | h1) | h1
    · exact h.new x h1
    · exact fun h2 => hp.new x h1 ((h.mem x).2 (.inl h2))
    · rw [h1]; exact h.new v hvo
  · obtain ⟨S1, h1⟩ := h.run W T hW (fun x hx => hT x (by simp [hx]))
    obtain ⟨hs, hw⟩ := trun_seen h1 hW
    obtain ⟨S2, h2⟩ := hp.run (v :: W) S1 hw (fun x hx h3 => by
      rcases (hs x).1 h3 with h4 | h4
      · exact hT x (by simp [hx]) h4
      · exact hp.new x hx ((h.mem x).2 (.inr h4)))
    refine ⟨S2, ?_⟩
    rw [trun_append, trun_append, h1, Option.bind_some, h2, Option.bind_some, trun_up (by simp [isUp])]
    rfl
  · simp only [List.mem_append, List.mem_singleton] at hx
    rcases hx with (h1 | h1) | h1
    · exact h.skip.least C hv hC x h1
    · refine (hp.least (fun y => C y ∧ S y) ⟨?_, hS1⟩ (fun e he2 hne => ?_) x h1).1
      · have h2 := hC _ he (fun e => hkf (mkE_inj e)) (fun u hu _ e => by have := mkE_inj e; omega)
        rcases mkE_ends v (k : Int) with e | e
        · rw [e] at h2; exact h2.1 hv
        · rw [e] at h2; exact h2.2 hv
      · rw [mkE_comm (fun e => hkv e.symm)] at hne
        by_cases h3 : e = mkE v fr
        · subst h3
          obtain ⟨a, b⟩ := hS4 fr he2 hne
          exact ⟨fun h4 => absurd h4.2 a, fun h4 => absurd h4.2 b⟩
        · by_cases h4 : ∃ u : Nat, k + 1 ≤ u ∧ u < n ∧ e = mkE v (u : Int)
          · obtain ⟨u, _, _, rfl⟩ := h4
            obtain ⟨a, b⟩ := hS4 _ he2 hne
            exact ⟨fun h4 => absurd h4.2 a, fun h4 => absurd h4.2 b⟩
          · exact and_congr (hC e he2 h3 (fun u h5 h6 h7 => h4 ⟨u, h5, h6, h7⟩)) (hS3 e he2 hne)
    · rw [h1]; exact hv
theorem wk_ok {es : List EdgeV} {n : Nat} (hE : ∀ e ∈ es, 0 ≤ e.1 ∧ e.1 < e.2 ∧ e.2 < (n : Int)) (hBr : Bridge es) (f : Nat) : ∀ (v fr : Int) (seen : List Int), 0 ≤ v → v < (n : Int) → seen.Nodup → (∀ x ∈ seen, 0 ≤ x ∧ x < (n : Int)) → n ≤ f + seen.length →
    (∃ C : Int → Prop, C v ∧ (∀ x ∈ seen, ¬ C x) ∧ ∀ e ∈ es, e ≠ mkE v fr → (C e.1 ↔ C e.2)) → ∃ t seen', wk es n f v fr seen = some (t, seen') ∧ WkIs es n v fr seen t seen' := by
  induction f with
  | zero =>
    intro v fr seen h0 h1 hn hr hf ⟨C, hC, hCs, _⟩
    have hv : v ∉ seen := fun h => hCs v h hC
    have := nodup_le n (v :: seen) (List.nodup_cons.2 ⟨hv, hn⟩) (fun x hx => by
      rcases List.mem_cons.1 hx with rfl | hx
      · exact ⟨h0, h1⟩
      · exact hr x hx)
    simp at this
    omega
  | succ f ih =>
    intro v fr seen0 h0 h1 hn hr hf ⟨C, hC, hCs, hCe⟩
    have hv : v ∉ seen0 := fun h => hCs v h hC
    have key : ∀ (rem k : Nat) (out seen : List Int), rem + k = n → GoIs es n v fr k seen0 out seen → ∃ t seen', wkGo (wk es n f) es n v fr rem out seen = some (t, seen') ∧ GoIs es n v fr n seen0 t seen' := by
      intro rem
      induction rem with
      | zero =>
        intro k out seen hk hg
        obtain rfl : k = n := by omega
        exact ⟨out, seen, rfl, hg⟩
      | succ rem ihr =>
        intro k out seen hk hg
        have ek : n - (rem + 1) = k := by omega
        by_cases hs : (k : Int) = fr ∨ mkE v (k : Int) ∉ es
        · rw [wkGo_skip ek hs]
          exact ihr (k + 1) out seen (by omega) hg.skip
        · have hkf : (k : Int) ≠ fr := fun e => hs (.inl e)
          have he : mkE v (k : Int) ∈ es := Classical.not_not.1 (fun e => hs (.inr e))
          have hkv : v ≠ (k : Int) := fun e => by
            have := hE _ he
            rw [← e] at this
            unfold mkE at this
            rw [if_neg (by omega)] at this
            simp at this
          obtain ⟨S, hS1, hS2, hS3⟩ := hBr.side he
          have hout : ∀ x ∈ out, ¬ S x := hg.least (fun x => ¬ S x) hS2 (fun e he2 _ h3 => not_congr (hS3 e he2 (h3 k (Nat.le_refl _) (by omega))))
          have hCk : C (k : Int) := by
            have h2 := hCe _ he (fun e => hkf (mkE_inj e))
            rcases mkE_ends v (k : Int) with e | e
            · rw [e] at h2; exact h2.1 hC
            · rw [e] at h2; exact h2.2 hC
          have hpre : ∀ x ∈ seen, ¬ (C x ∧ S x) := fun x hx h3 => by
            rcases (hg.mem x).1 hx with h4 | h4
            · exact hCs x h4 h3.1
            · exact hout x h4 h3.2
          have hks : (k : Int) ∉ seen := fun h3 => hpre _ h3 ⟨hCk, hS1⟩
          obtain ⟨p, seen', hp, hpi⟩ := ih (k : Int) v seen (by omega) (by omega) hg.nodup hg.rng (by have := hg.len; omega) ⟨fun x => C x ∧ S x, ⟨hCk, hS1⟩, hpre, fun e he2 hne => by
            rw [mkE_comm (fun e => hkv e.symm)] at hne
            by_cases h3 : e = mkE v fr
            · subst h3
              have := hS3 _ he2 hne
              rcases mkE_ends v fr with e | e
              · rw [e] at this ⊢; exact ⟨fun h5 => absurd h5.2 hS2, fun h5 => absurd (this.2 h5.2) hS2⟩
              · rw [e] at this ⊢; exact ⟨fun h5 => absurd (this.1 h5.2) hS2, fun h5 => absurd h5.2 hS2⟩
            · exact and_congr (hCe e he2 h3) (hS3 e he2 hne)⟩
          obtain ⟨t, sn, h5, h6⟩ := ihr (k + 1) (out ++ p ++ [v]) seen' (by omega) (hg.go hkf hkv he hS1 hS2 hS3 hpi)
          refine ⟨t, sn, ?_, h6⟩
          rw [wkGo, ek, if_neg hs, if_neg hks, hp]
          exact h5
    have hst : GoIs es n v fr 0 seen0 [v] (v :: seen0) := by
      refine ⟨rfl, List.nodup_cons.2 ⟨hv, hn⟩, fun x hx => ?_, fun x => by simp; exact or_comm, fun x hx => by simp at hx; rw [hx]; exact hv, fun W S hW hS => ?_, fun C hv _ x hx => by simp at hx; rw [hx]; exact hv, by simp⟩
      · rcases List.mem_cons.1 hx with rfl | hx
        · exact ⟨h0, h1⟩
        · exact hr x hx
      · have hvS : v ∉ S := hS v (by simp)
        have hup : isUp W v = false := by
          cases h : isUp W v with
          | false => rfl
          | true => exact absurd (hW _ (isUp_mem h)) hvS
        exact ⟨v :: S, by rw [trun_down hup hvS]; rfl⟩
    obtain ⟨t, sn, h2, h3⟩ := key n 0 [v] (v :: seen0) (by omega) hst
    exact ⟨t, sn, h2, h3.head, h3.nodup, h3.rng, h3.mem, h3.new, h3.run, fun C hv hCe2 => h3.least C hv fun e he hne _ => hCe2 e he hne, h3.len⟩

theorem mem_putE {es : List EdgeV} {e d : EdgeV} : d ∈ putE es e ↔ d ∈ es ∨ d = e := by
  unfold putE
  simp only [List.mem_append, List.mem_filter, List.mem_singleton]
  constructor
  · rintro ((h | h) | h)
    · exact .inl h.1
    · exact .inr h
    · exact .inl h.1
  · rintro (h | h)
    · by_cases he : d = e
      · exact .inl (.inr he)
      · cases hl : lt d e with
        | true => exact .inl (.inl ⟨h, rfl⟩)
        | false => exact .inr ⟨h, lt_total' hl he⟩
    · exact .inl (.inr h)
/-- edges of trees of the vertices below k -/
structure Forest (es : List EdgeV) (k : Nat) : Prop where
  ends : ∀ e ∈ es, 0 ≤ e.1 ∧ e.1 < e.2 ∧ e.2 < (k : Int)
  bridge : Bridge es
theorem Forest.nil (k : Nat) : Forest [] k := ⟨fun e h => by simp at h, fun e h => by simp at h⟩
theorem Forest.more {es : List EdgeV} {k : Nat} (h : Forest es k) : Forest es (k + 1) := ⟨fun e he => by have := h.ends e he; omega, h.bridge⟩
theorem Forest.put {es : List EdgeV} {k : Nat} (h : Forest es k) {x : Nat} (hx : x < k) : Forest (putE es ((x : Int), (k : Int))) (k + 1) := by
  have hnew : ((x : Int), (k : Int)) ∉ es := fun he => by have := h.ends _ he; simp at this
  refine ⟨fun e he => ?_, fun e he => ?_⟩
  · rcases mem_putE.1 he with h1 | h1
    · have := h.ends e h1; omega
    · subst h1; simp; omega
  · rcases mem_putE.1 he with h1 | h1
    · obtain ⟨S, a, b, c⟩ := h.bridge e h1
      have he1 := h.ends e h1
      refine ⟨fun y => if y = (k : Int) then S (x : Int) else S y, by simp only [if_neg (show ¬ e.2 = (k : Int) by omega)]; exact a, by simp only [if_neg (show ¬ e.1 = (k : Int) by omega)]; exact b, fun d hd hne => ?_⟩
      rcases mem_putE.1 hd with h2 | h2
      · have hd1 := h.ends d h2
        simp only [if_neg (show ¬ d.1 = (k : Int) by omega), if_neg (show ¬ d.2 = (k : Int) by omega)]
        exact c d h2 hne
      · subst h2
        simp only [if_neg (show ¬ (x : Int) = (k : Int) by omega), if_true]
    · subst h1
      refine ⟨fun y => y = (k : Int), rfl, by simp; omega, fun d hd hne => ?_⟩
      rcases mem_putE.1 hd with h2 | h2
      · have hd1 := h.ends d h2
        constructor
        · intro h3; omega
        · intro h3; omega
      · exact absurd h2 hne
/-- the tour of a tree of a forest -/
theorem forest_tour {es : List EdgeV} {n : Nat} (h : Forest es n) (hn : n ≤ 12) {r : Nat} (hr : r < n) : ∃ t sn, wk es n n (r : Int) (-1) [] = some (t, sn) ∧ tB t = true ∧ t[0]? = some (r : Int) := by
  obtain ⟨t, sn, h1, h2⟩ := wk_ok h.ends h.bridge n (r : Int) (-1) [] (by omega) (by omega) (by simp) (by simp) (by simp) ⟨fun _ => True, trivial, by simp, by simp⟩
  refine ⟨t, sn, h1, ?_, ?_⟩
  · obtain ⟨S', h3⟩ := h2.run [] [] (by simp) (by simp)
    refine (tB_iff t).2 ⟨fun x hx => ?_, (r : Int), S', h3⟩
    have := h2.rng x ((h2.mem x).2 (.inr hx))
    simp [vB]
    omega
  · rw [← List.head?_eq_getElem?]; exact h2.head
end Go.Proofs.YtklalfkdikjkfaaGreat
namespace Go.Proofs.YtklalfkdikjkfaaGreat

/-- the edges of the first k steps that go up in number, each once -/
def eK (t : List Int) : Nat → List EdgeV
  | 0 => []
  | i + 1 => match t[i]?, t[i + 1]? with
    | some a, some b => if a < b ∧ (a, b) ∉ eK t i then eK t i ++ [(a, b)] else eK t i
    | _, _ => eK t i
def tE (t : List Int) : List EdgeV := eK t (t.length - 1)
theorem eK_yes {t : List Int} {i : Nat} {a b : Int} (h1 : t[i]? = some a) (h2 : t[i + 1]? = some b) (hl : a < b) (hn : (a, b) ∉ eK t i) : eK t (i + 1) = eK t i ++ [(a, b)] := by
  rw [eK, h1, h2]; exact if_pos ⟨hl, hn⟩
theorem eK_no {t : List Int} {i : Nat} {a b : Int} (h1 : t[i]? = some a) (h2 : t[i + 1]? = some b) (hn : ¬ (a < b ∧ (a, b) ∉ eK t i)) : eK t (i + 1) = eK t i := by
  rw [eK, h1, h2]; exact if_neg hn
theorem eK_len (t : List Int) (k : Nat) : (eK t k).length ≤ k := by
  induction k with
  | zero => simp [eK]
  | succ k ih =>
    rw [eK]
    split
    · split
      · simp; omega
      · omega
    · omega
theorem eK_nodup (t : List Int) (k : Nat) : (eK t k).Nodup := by
  induction k with
  | zero => simp [eK]
  | succ k ih =>
    rw [eK]
    split
    · split
      · rename_i h
        rw [List.nodup_append]
        exact ⟨ih, by simp, fun x hx y hy => by simp at hy; subst hy; exact fun e => h.2 (e ▸ hx)⟩
      · exact ih
    · exact ih
theorem eK_mem (t : List Int) (k : Nat) (e : EdgeV) : e ∈ eK t k ↔ ∃ i, i < k ∧ t[i]? = some e.1 ∧ t[i + 1]? = some e.2 ∧ e.1 < e.2 := by
  induction k with
  | zero => simp [eK]
  | succ k ih =>
    constructor
    · intro h
      rw [eK] at h
      split at h
      · rename_i a b h1 h2
        split at h
        · rename_i hc
          rcases List.mem_append.1 h with h | h
          · obtain ⟨i, hi, h3⟩ := ih.1 h; exact ⟨i, by omega, h3⟩
          · simp at h; subst h; exact ⟨k, by omega, h1, h2, hc.1⟩
        · obtain ⟨i, hi, h3⟩ := ih.1 h; exact ⟨i, by omega, h3⟩
      · obtain ⟨i, hi, h3⟩ := ih.1 h; exact ⟨i, by omega, h3⟩
    · rintro ⟨i, hi, h1, h2, h3⟩
      by_cases hk : i = k
      · subst hk
        by_cases hm : e ∈ eK t i
        · rw [eK_no h1 h2 (fun h => h.2 hm)]; exact hm
        · rw [eK_yes h1 h2 h3 hm]; simp
      · have := ih.2 ⟨i, by omega, h1, h2, h3⟩
        rw [eK]
        split
        · split
          · simp [this]
          · exact this
        · exact this
theorem tE_mem (t : List Int) (e : EdgeV) : e ∈ tE t ↔ ∃ i, t[i]? = some e.1 ∧ t[i + 1]? = some e.2 ∧ e.1 < e.2 := by
  unfold tE
  rw [eK_mem]
  constructor
  · rintro ⟨i, _, h⟩; exact ⟨i, h⟩
  · rintro ⟨i, h1, h2, h3⟩
    have := (List.getElem?_eq_some_iff.1 h2).1
    exact ⟨i, by omega, h1, h2, h3⟩
theorem tE_step {t : List Int} (hB : tB t = true) {i : Nat} {a b : Int} (h1 : t[i]? = some a) (h2 : t[i + 1]? = some b) : mkE a b ∈ tE t := by
  unfold mkE
  by_cases h : a < b
  · rw [if_pos h]; exact (tE_mem t _).2 ⟨i, h1, h2, h⟩
  · rw [if_neg h]
    have hne : a ≠ b := fun e => by subst e; exact no_stay hB h1 h2
    obtain ⟨j, hj⟩ := go_back hB h1 h2
    simp [goP] at hj
    exact (tE_mem t _).2 ⟨j, hj.1, hj.2, by show b < a; omega⟩
theorem tE_ends {t : List Int} (hB : tB t = true) : ∀ e ∈ tE t, 0 ≤ e.1 ∧ e.1 < e.2 ∧ e.2 < ((12 : Nat) : Int) := fun e he => by
  obtain ⟨i, h1, h2, h3⟩ := (tE_mem t e).1 he
  have hv := ((tB_iff t).1 hB).1
  have a1 := hv _ (List.mem_of_getElem? h1)
  have a2 := hv _ (List.mem_of_getElem? h2)
  simp [vB] at a1 a2
  omega
theorem tE_in {t : List Int} : ∀ e ∈ tE t, e.1 ∈ t ∧ e.2 ∈ t := fun e he => by
  obtain ⟨i, h1, h2, _⟩ := (tE_mem t e).1 he
  exact ⟨List.mem_of_getElem? h1, List.mem_of_getElem? h2⟩
/-- below c, and not below c, are apart but for the one edge -/
theorem split_side {t : List Int} {p c : Int} {d q : Nat} (hB : tB t = true) (h1 : t[d]? = some p) (h2 : t[d + 1]? = some c) (h3 : t[q]? = some c) (h4 : t[q + 1]? = some p) (hdq : d < q)
    (hno : ∀ j, j < q → t[j]? = some c → t[j + 1]? = some p → False) : ∃ S : Int → Prop, S c ∧ ¬ S p ∧ ∀ (i : Nat) (a b : Int), t[i]? = some a → t[i + 1]? = some b → mkE a b ≠ mkE p c → (S a ↔ S b) := by
  have SI := split_is hB h1 h2 h4 hdq hno
  refine ⟨fun x => x ∈ (t.take (q + 1)).drop (d + 1), SI.low, fun h => SI.apart p h SI.high, fun i a b ha hb hne => ?_⟩
  have hin : ∀ (j : Nat) (x : Int), t[j]? = some x → d + 1 ≤ j → j ≤ q → x ∈ (t.take (q + 1)).drop (d + 1) := fun j x hx h5 h6 => by
    refine List.mem_of_getElem? (i := j - (d + 1)) ?_
    rw [List.getElem?_drop, show d + 1 + (j - (d + 1)) = j by omega, List.getElem?_take_of_lt (by omega)]
    exact hx
  have hout : ∀ (j : Nat) (x : Int), t[j]? = some x → (j ≤ d ∨ q + 1 ≤ j) → x ∉ (t.take (q + 1)).drop (d + 1) := fun j x hx h5 h6 => by
    refine SI.apart x h6 ?_
    rw [List.mem_append]
    rcases h5 with h5 | h5
    · left
      refine List.mem_of_getElem? (i := j) ?_
      rw [List.getElem?_take_of_lt (by omega)]
      exact hx
    · by_cases h7 : j = q + 1
      · subst h7
        rw [h4] at hx
        simp at hx
        subst hx
        left
        refine List.mem_of_getElem? (i := d) ?_
        rw [List.getElem?_take_of_lt (by omega)]
        exact h1
      · right
        refine List.mem_of_getElem? (i := j - (q + 2)) ?_
        rw [List.getElem?_drop, show q + 2 + (j - (q + 2)) = j by omega]
        exact hx
  by_cases hid : i = d
  · subst hid
    rw [h1] at ha; rw [h2] at hb
    simp at ha hb
    subst ha hb
    exact absurd rfl hne
  · by_cases hiq : i = q
    · subst hiq
      rw [h3] at ha; rw [h4] at hb
      simp at ha hb
      subst ha hb
      exact absurd (mkE_comm (fun e => by subst e; exact no_stay hB h3 h4)) hne
    · by_cases hmid : d + 1 ≤ i ∧ i < q
      · exact ⟨fun _ => hin (i + 1) b hb (by omega) (by omega), fun _ => hin i a ha (by omega) (by omega)⟩
      · exact ⟨fun h => absurd h (hout i a ha (by omega)), fun h => absurd h (hout (i + 1) b hb (by omega))⟩
theorem tE_bridge {t : List Int} (hB : tB t = true) : Bridge (tE t) := fun e he => by
  obtain ⟨i, x1, x2, hlt⟩ := (tE_mem t e).1 he
  have em : mkE e.1 e.2 = e := by unfold mkE; rw [if_pos hlt]
  have key : ∃ S : Int → Prop, ((S e.2 ∧ ¬ S e.1) ∨ (S e.1 ∧ ¬ S e.2)) ∧ ∀ (i : Nat) (a b : Int), t[i]? = some a → t[i + 1]? = some b → mkE a b ≠ e → (S a ↔ S b) := by
    rcases go_at (t := t) (u := e.1) (v := e.2) with ⟨k1, _, _, a1, a2, a3⟩ | ⟨_, hn⟩
    · rcases go_at (t := t) (u := e.2) (v := e.1) with ⟨k2, _, _, b1, b2, b3⟩ | ⟨_, hn⟩
      · have hne : k1 ≠ k2 := fun h => by
          subst h
          rw [a1] at b1
          simp at b1
          omega
        rcases Nat.lt_or_gt_of_ne hne with h | h
        · obtain ⟨S, s1, s2, s3⟩ := split_side hB a1 a2 b1 b2 h (fun j hj y1 y2 => by have := b3 j hj; simp [goP, y1, y2] at this)
          exact ⟨S, .inl ⟨s1, s2⟩, fun i a b h1 h2 h3 => s3 i a b h1 h2 (by rw [em]; exact h3)⟩
        · obtain ⟨S, s1, s2, s3⟩ := split_side hB b1 b2 a1 a2 h (fun j hj y1 y2 => by have := a3 j hj; simp [goP, y1, y2] at this)
          exact ⟨S, .inr ⟨s1, s2⟩, fun i a b h1 h2 h3 => s3 i a b h1 h2 (by rw [show mkE e.2 e.1 = e from (mkE_comm (by omega)).trans em]; exact h3)⟩
      · obtain ⟨j, hj⟩ := go_back hB x1 x2
        have hj1 : j + 1 < t.length := by
          simp [goP] at hj
          exact (List.getElem?_eq_some_iff.1 hj.2).1
        rw [hn j hj1] at hj
        simp at hj
    · have := hn i (List.getElem?_eq_some_iff.1 x2).1
      simp [goP, x1, x2] at this
  obtain ⟨S, hS, hSc⟩ := key
  have hcr : ∀ d ∈ tE t, d ≠ e → (S d.1 ↔ S d.2) := fun d hd hne => by
    obtain ⟨j, y1, y2, hl⟩ := (tE_mem t d).1 hd
    have : mkE d.1 d.2 = d := by unfold mkE; rw [if_pos hl]
    exact hSc j d.1 d.2 y1 y2 (by rw [this]; exact hne)
  rcases hS with ⟨s1, s2⟩ | ⟨s1, s2⟩
  · exact ⟨S, s1, s2, hcr⟩
  · exact ⟨fun x => ¬ S x, s2, fun h => h s1, fun d hd hne => not_congr (hcr d hd hne)⟩
/-- a set that no edge leaves has all of the vertices, or none -/
theorem tE_all {t : List Int} (hB : tB t = true) {S : Int → Prop} (hS : ∀ e ∈ tE t, (S e.1 ↔ S e.2)) {x y : Int} (hx : x ∈ t) (hy : y ∈ t) : S x ↔ S y := by
  have key : ∀ (i : Nat) (a z : Int), t[0]? = some z → t[i]? = some a → (S z ↔ S a) := fun i => by
    induction i with
    | zero => intro a z h1 h2; rw [h1] at h2; simp at h2; subst h2; exact Iff.rfl
    | succ i ih =>
      intro a z h1 h2
      have hi := (List.getElem?_eq_some_iff.1 h2).1
      obtain ⟨b, hb⟩ : ∃ b, t[i]? = some b := ⟨t[i]'(by omega), List.getElem?_eq_getElem (by omega)⟩
      have h3 := hS _ (tE_step hB hb h2)
      rw [ih b z h1 hb]
      rcases mkE_ends b a with e | e
      · rw [e] at h3; exact h3
      · rw [e] at h3; exact h3.symm
  obtain ⟨i, hi⟩ := List.mem_iff_getElem?.1 hx
  obtain ⟨j, hj⟩ := List.mem_iff_getElem?.1 hy
  have hl := tB_len hB
  have h0 : t[0]? = some (t[0]'(by omega)) := List.getElem?_eq_getElem (by omega)
  rw [← key i x _ h0 hi, key j y _ h0 hj]

theorem wk_closed {es : List EdgeV} {n : Nat} (hE : ∀ e ∈ es, 0 ≤ e.1 ∧ e.1 < e.2 ∧ e.2 < (n : Int)) (f : Nat) : ∀ (v fr : Int) (seen t sn : List Int), wk es n f v fr seen = some (t, sn) → v ∈ t ∧ ∀ e ∈ es, e ≠ mkE v fr → (e.1 ∈ t ↔ e.2 ∈ t) := by
  induction f with
  | zero => intro v fr seen t sn h; simp [wk] at h
  | succ f ih =>
    intro v fr seen t sn h
    rw [wk] at h
    have key : ∀ (rem k : Nat) (out seen : List Int), rem + k = n → v ∈ out → (∀ e ∈ es, e ≠ mkE v fr → (∀ u : Nat, k ≤ u → u < n → e ≠ mkE v (u : Int)) → (e.1 ∈ out ↔ e.2 ∈ out)) → wkGo (wk es n f) es n v fr rem out seen = some (t, sn) → v ∈ t ∧ ∀ e ∈ es, e ≠ mkE v fr → (e.1 ∈ t ↔ e.2 ∈ t) := by
      intro rem
      induction rem with
      | zero =>
        intro k out seen hk hv hc h
        simp [wkGo] at h
        rw [← h.1]
        exact ⟨hv, fun e he hne => hc e he hne (fun u h1 h2 => by omega)⟩
      | succ rem ihr =>
        intro k out seen hk hv hc h
        have ek : n - (rem + 1) = k := by omega
        by_cases hs : (k : Int) = fr ∨ mkE v (k : Int) ∉ es
        · rw [wkGo_skip ek hs] at h
          refine ihr (k + 1) out seen (by omega) hv (fun e he hne hu => hc e he hne (fun u h1 h2 => ?_)) h
          by_cases huk : u = k
          · subst huk
            rcases hs with hs | hs
            · rw [hs]; exact hne
            · exact fun e2 => hs (e2 ▸ he)
          · exact hu u (by omega) h2
        · have hkf : (k : Int) ≠ fr := fun e => hs (.inl e)
          have he : mkE v (k : Int) ∈ es := Classical.not_not.1 (fun e => hs (.inr e))
          obtain ⟨_, p, hp, hgo⟩ := wkGo_go ek hkf he h
          obtain ⟨hkp, hpc⟩ := ih (k : Int) v seen p.1 p.2 hp
          refine ihr (k + 1) _ p.2 (by omega) (by simp) (fun e he2 hne hu => ?_) hgo
          simp only [List.mem_append, List.mem_singleton]
          by_cases h5 : e = mkE v (k : Int)
          · subst h5
            rcases mkE_ends v (k : Int) with e | e
            · rw [e]; exact ⟨fun _ => .inl (.inr hkp), fun _ => .inl (.inl hv)⟩
            · rw [e]; exact ⟨fun _ => .inl (.inl hv), fun _ => .inl (.inr hkp)⟩
          · have hvk : v ≠ (k : Int) := fun e => by
              have := hE _ he
              rw [← e] at this
              unfold mkE at this
              rw [if_neg (by omega)] at this
              simp at this
            have h6 := hc e he2 hne (fun u h1 h2 => by
              by_cases huk : u = k
              · subst huk; exact h5
              · exact hu u (by omega) h2)
            have h7 := hpc e he2 (by rw [mkE_comm (fun e => hvk e.symm)]; exact h5)
            have hv1 : e.1 = v → e.1 ∈ out := fun e => e ▸ hv
            have hv2 : e.2 = v → e.2 ∈ out := fun e => e ▸ hv
            constructor
            · rintro ((h8 | h8) | h8)
              · exact .inl (.inl (h6.1 h8))
              · exact .inl (.inr (h7.1 h8))
              · exact .inl (.inl (h6.1 (hv1 h8)))
            · rintro ((h8 | h8) | h8)
              · exact .inl (.inl (h6.2 h8))
              · exact .inl (.inr (h7.2 h8))
              · exact .inl (.inl (h6.2 (hv2 h8)))
    refine key n 0 [v] (v :: seen) (by omega) (by simp) (fun e he hne hu => ?_) h
    have h1 := hE e he
    have no : ∀ w : Int, 0 ≤ w → w < (n : Int) → e ≠ mkE v w := fun w h2 h3 => by
      have := hu w.toNat (by omega) (by omega)
      rw [Int.toNat_of_nonneg h2] at this
      exact this
    have n1 : e.1 ≠ v := fun h2 => no e.2 (by omega) (by omega) (by unfold mkE; rw [← h2, if_pos h1.2.1])
    have n2 : e.2 ≠ v := fun h2 => no e.1 (by omega) (by omega) (by unfold mkE; rw [← h2, if_neg (by omega)])
    simp [n1, n2]

theorem nodup_sub {α : Type} [DecidableEq α] : ∀ {a b : List α}, a.Nodup → (∀ x ∈ a, x ∈ b) → a.length ≤ b.length
  | [], _, _, _ => by simp
  | x :: a, b, hn, hs => by
    rw [List.nodup_cons] at hn
    have h1 := nodup_sub (a := a) (b := b.erase x) hn.2 (fun y hy => (List.mem_erase_of_ne (show y ≠ x from fun e => hn.1 (by rw [← e]; exact hy))).2 (hs y (by simp [hy])))
    have h2 := List.length_erase_of_mem (hs x (by simp))
    have h3 : 0 < b.length := List.length_pos_of_mem (hs x (by simp))
    simp
    omega
theorem tour_card {t s : List Int} (ht : tB t = true) (hs : tB s = true) (h : ∀ x, x ∈ t ↔ x ∈ s) : t.length = s.length := by
  obtain ⟨_, x1, s1, r1⟩ := (tB_iff t).1 ht
  obtain ⟨_, x2, s2, r2⟩ := (tB_iff s).1 hs
  have l1 := trun_len r1
  have l2 := trun_len r2
  have n1 := trun_nodup r1 (by simp)
  have n2 := trun_nodup r2 (by simp)
  have m1 := (trun_seen r1 (by simp)).1
  have m2 := (trun_seen r2 (by simp)).1
  have a := nodup_sub n1 (b := s2) (fun y hy => (m2 y).2 (.inr ((h y).1 (by simpa using (m1 y).1 hy))))
  have b := nodup_sub n2 (b := s1) (fun y hy => (m1 y).2 (.inr ((h y).2 (by simpa using (m2 y).1 hy))))
  simp at l1 l2
  omega
/-- the edges along which a run goes down -/
def dRun : List Int → List Int → List EdgeV
  | _, [] => []
  | w, v :: r => if isUp w v = true then dRun w.tail r else (w.head?.toList.map fun p => mkE p v) ++ dRun (v :: w) r
def adjE : List Int → List EdgeV
  | a :: b :: w => mkE a b :: adjE (b :: w)
  | _ => []
theorem dRun_len {r w s w1 s1 : List Int} (h : trun w s r = some (w1, s1)) (hw : w ≠ []) : (dRun w r).length + s.length = s1.length := by
  induction r generalizing w s with
  | nil => simp [trun] at h; simp [dRun, h.2]
  | cons v r ih =>
    rcases trun_cons h with ⟨hu, h1⟩ | ⟨hu, _, h1⟩
    · rw [dRun, if_pos hu]
      obtain ⟨c, q, rfl⟩ := isUp_some hu
      exact ih h1 (by simp)
    · rw [dRun, if_neg (by rw [hu]; simp)]
      have := ih h1 (by simp)
      cases w with
      | nil => exact absurd rfl hw
      | cons p q => simp at this ⊢; omega
theorem dRun_new {r w s w1 s1 : List Int} (h : trun w s r = some (w1, s1)) : ∀ e ∈ dRun w r, e.1 ∉ s ∨ e.2 ∉ s := by
  induction r generalizing w s with
  | nil => simp [dRun]
  | cons v r ih =>
    intro e he
    rcases trun_cons h with ⟨hu, h1⟩ | ⟨hu, hv, h1⟩
    · rw [dRun, if_pos hu] at he
      exact ih h1 e he
    · rw [dRun, if_neg (by rw [hu]; simp)] at he
      rcases List.mem_append.1 he with he | he
      · cases w with
        | nil => simp at he
        | cons p q =>
          simp at he
          subst he
          rcases mkE_ends p v with e | e
          · rw [e]; exact .inr hv
          · rw [e]; exact .inl hv
      · exact (ih h1 e he).imp (fun h2 h3 => h2 (by simp [h3])) (fun h2 h3 => h2 (by simp [h3]))
theorem dRun_nodup {r w s w1 s1 : List Int} (h : trun w s r = some (w1, s1)) (hw : ∀ x ∈ w, x ∈ s) : (dRun w r).Nodup := by
  induction r generalizing w s with
  | nil => simp [dRun]
  | cons v r ih =>
    rcases trun_cons h with ⟨hu, h1⟩ | ⟨hu, hv, h1⟩
    · rw [dRun, if_pos hu]
      exact ih h1 (fun x hx => hw x (List.mem_of_mem_tail hx))
    · rw [dRun, if_neg (by rw [hu]; simp)]
      have hw2 : ∀ x ∈ v :: w, x ∈ v :: s := fun x hx => by
        rcases List.mem_cons.1 hx with rfl | hx
        · simp
        · exact List.mem_cons_of_mem _ (hw x hx)
      have h2 := ih h1 hw2
      cases w with
      | nil => simpa using h2
      | cons p q =>
        simp only [List.head?_cons, Option.toList_some, List.map_cons, List.map_nil, List.singleton_append, List.nodup_cons]
        refine ⟨fun h3 => ?_, h2⟩
        have := dRun_new h1 _ h3
        have hp := hw p (by simp)
        rcases mkE_ends p v with e | e
        · rw [e] at this; simp [hp] at this
        · rw [e] at this; simp [hp] at this
theorem dRun_steps {r w : List Int} {c : Int} (hc : w.head? = some c) : ∀ (i : Nat) (a b : Int), (c :: r)[i]? = some a → (c :: r)[i + 1]? = some b → mkE a b ∈ dRun w r ∨ mkE a b ∈ adjE w ∨ mkE b a ∈ adjE w ∨ mkE b a ∈ dRun w r := by
  induction r generalizing w c with
  | nil => intro i a b h1 h2; simp at h2
  | cons v r ih =>
    intro i a b h1 h2
    cases w with
    | nil => simp at hc
    | cons c' q =>
      simp at hc
      subst hc
      cases hu : isUp (c' :: q) v with
      | true =>
        rw [dRun, if_pos hu]
        obtain ⟨c2, z, e⟩ := isUp_some hu
        simp at e
        obtain ⟨rfl, rfl⟩ := e
        cases i with
        | zero =>
          simp at h1 h2
          subst h1 h2
          exact .inr (.inl (by simp [adjE]))
        | succ i =>
          rcases ih (w := v :: z) rfl i a b (by simpa using h1) (by simpa using h2) with h | h | h | h
          · exact .inl h
          · exact .inr (.inl (by simp [adjE, h]))
          · exact .inr (.inr (.inl (by simp [adjE, h])))
          · exact .inr (.inr (.inr h))
      | false =>
        rw [dRun, if_neg (by rw [hu]; simp)]
        cases i with
        | zero =>
          simp at h1 h2
          subst h1 h2
          exact .inl (by simp)
        | succ i =>
          rcases ih (w := v :: c' :: q) rfl i a b (by simpa using h1) (by simpa using h2) with h | h | h | h
          · exact .inl (by simp [h])
          · simp only [adjE, List.mem_cons] at h
            rcases h with h | h
            · rw [h]
              by_cases hvc : v = c'
              · subst hvc; exact .inl (by simp)
              · rw [mkE_comm hvc]; exact .inl (by simp)
            · exact .inr (.inl (by simpa [adjE] using h))
          · simp only [adjE, List.mem_cons] at h
            rcases h with h | h
            · rw [h]
              by_cases hvc : v = c'
              · subst hvc; exact .inr (.inr (.inr (by simp)))
              · rw [mkE_comm hvc]; exact .inr (.inr (.inr (by simp)))
            · exact .inr (.inr (.inl (by simpa [adjE] using h)))
          · exact .inr (.inr (.inr (by simp [h])))
theorem dRun_isStep {r w s w1 s1 : List Int} {c : Int} (h : trun w s r = some (w1, s1)) (hc : w.head? = some c) : ∀ e ∈ dRun w r, ∃ (i : Nat) (a b : Int), (c :: r)[i]? = some a ∧ (c :: r)[i + 1]? = some b ∧ e = mkE a b := by
  induction r generalizing w s c with
  | nil => simp [dRun]
  | cons v r ih =>
    intro e he
    rcases trun_cons h with ⟨hu, h1⟩ | ⟨hu, _, h1⟩
    · rw [dRun, if_pos hu] at he
      obtain ⟨c2, z, rfl⟩ := isUp_some hu
      obtain ⟨i, a, b, h2, h3, h4⟩ := ih h1 (c := v) rfl e he
      exact ⟨i + 1, a, b, by simpa using h2, by simpa using h3, h4⟩
    · rw [dRun, if_neg (by rw [hu]; simp)] at he
      rcases List.mem_append.1 he with he | he
      · rw [hc] at he
        simp at he
        exact ⟨0, c, v, rfl, rfl, he⟩
      · obtain ⟨i, a, b, h2, h3, h4⟩ := ih h1 (c := v) rfl e he
        exact ⟨i + 1, a, b, by simpa using h2, by simpa using h3, h4⟩
/-- a right tour has twice as many steps as edges -/
theorem tE_count {t : List Int} (hB : tB t = true) : t.length = 2 * (tE t).length + 1 := by
  obtain ⟨x, r, s, rfl, hr, _, _⟩ := tB_open hB
  have l1 := dRun_len hr (by simp)
  have l2 := trun_len hr
  have nd := dRun_nodup hr (by simp)
  have a := nodup_sub nd (b := tE (x :: r)) (fun e he => by
    obtain ⟨i, a, b, h1, h2, rfl⟩ := dRun_isStep hr (c := x) rfl e he
    exact tE_step hB h1 h2)
  have b := nodup_sub (eK_nodup (x :: r) ((x :: r).length - 1)) (b := dRun [x] r) (fun e he => by
    obtain ⟨i, h1, h2, h3⟩ := (tE_mem (x :: r) e).1 he
    have em : mkE e.1 e.2 = e := by unfold mkE; rw [if_pos h3]
    have em2 : mkE e.2 e.1 = e := by rw [mkE_comm (by omega)]; exact em
    have := dRun_steps (r := r) (w := [x]) (c := x) rfl i e.1 e.2 h1 h2
    rw [em, em2] at this
    simpa [adjE] using this)
  change (tE (x :: r)).length ≤ _ at b
  simp at l1 l2 ⊢
  omega
/-- the tour by its edges of a right tour -/
theorem tE_tour {t : List Int} (hB : tB t = true) {x0 : Int} (h0 : t[0]? = some x0) : ∃ s sn, wk (tE t) 12 12 x0 (-1) [] = some (s, sn) ∧ tB s = true ∧ (∀ x, x ∈ s ↔ x ∈ t) ∧ s.length = t.length ∧ 0 ≤ x0 ∧ x0 < 12 := by
  have hx : x0 ∈ t := List.mem_of_getElem? h0
  have hv := ((tB_iff t).1 hB).1 x0 hx
  simp [vB] at hv
  obtain ⟨s, sn, h1, h2⟩ := wk_ok (tE_ends hB) (tE_bridge hB) 12 x0 (-1) [] (by omega) (by omega) (by simp) (by simp) (by simp) ⟨fun _ => True, trivial, by simp, by simp⟩
  have hs : tB s = true := by
    obtain ⟨S', h3⟩ := h2.run [] [] (by simp) (by simp)
    refine (tB_iff s).2 ⟨fun y hy => ?_, x0, S', h3⟩
    have := h2.rng y ((h2.mem y).2 (.inr hy))
    simp [vB]
    omega
  have hm : ∀ x, x ∈ s ↔ x ∈ t := fun x => by
    constructor
    · exact h2.least (fun y => y ∈ t) hx (fun e he _ => ⟨fun _ => (tE_in e he).2, fun _ => (tE_in e he).1⟩) x
    · intro hxt
      obtain ⟨hxs, hcl⟩ := wk_closed (tE_ends hB) 12 x0 (-1) [] s sn h1
      refine (tE_all hB (S := fun y => y ∈ s) (fun e he => hcl e he ?_) hx hxt).1 hxs
      intro e2
      have := tE_ends hB e he
      rw [e2] at this
      rcases mkE_ends x0 (-1) with e3 | e3
      · rw [e3] at this; simp at this; omega
      · rw [e3] at this; simp at this
  exact ⟨s, sn, h1, hs, hm, tour_card hs hB hm, by omega, by omega⟩
/-- two vertices that no edge joins, where there are two edges and more -/
theorem tE_gap {t : List Int} (hB : tB t = true) (h2 : 2 ≤ (tE t).length) : ∃ a b, a ∈ t ∧ b ∈ t ∧ a < b ∧ (a, b) ∉ tE t := by
  refine Classical.byContradiction fun hno => ?_
  have hall : ∀ a b, a ∈ t → b ∈ t → a < b → (a, b) ∈ tE t := fun a b ha hb hl => Classical.byContradiction fun h => hno ⟨a, b, ha, hb, hl, h⟩
  have tri : ∀ a b c, a ∈ t → b ∈ t → c ∈ t → a < b → b < c → False := fun a b c ha hb hc h1 h3 => by
    have e1 := hall a c ha hc (by omega)
    have e2 := hall a b ha hb h1
    have e3 := hall b c hb hc h3
    obtain ⟨S, s1, s2, s3⟩ := tE_bridge hB _ e1
    have i1 := s3 _ e2 (by simp; omega)
    have i2 := s3 _ e3 (by simp; omega)
    simp at s1 s2 i1 i2
    exact s2 (i1.2 (i2.2 s1))
  obtain ⟨d, hd⟩ : ∃ d, (tE t)[0]? = some d := ⟨(tE t)[0]'(by omega), List.getElem?_eq_getElem (by omega)⟩
  obtain ⟨e, he⟩ : ∃ e, (tE t)[1]? = some e := ⟨(tE t)[1]'(by omega), List.getElem?_eq_getElem (by omega)⟩
  have hde : d ≠ e := fun h => by
    have hn := eK_nodup t (t.length - 1)
    obtain ⟨q0, q1⟩ := List.getElem?_eq_some_iff.1 (show (eK t (t.length - 1))[0]? = some d from hd)
    obtain ⟨q2, q3⟩ := List.getElem?_eq_some_iff.1 (show (eK t (t.length - 1))[1]? = some e from he)
    exact List.pairwise_iff_getElem.1 hn 0 1 q0 q2 (by omega) (by rw [q1, q3, h])
  have d1 := tE_in d (List.mem_of_getElem? hd)
  have e1 := tE_in e (List.mem_of_getElem? he)
  have d2 := tE_ends hB d (List.mem_of_getElem? hd)
  have e2 := tE_ends hB e (List.mem_of_getElem? he)
  by_cases h11 : d.1 = e.1
  · have : d.2 ≠ e.2 := fun h => hde (Prod.ext h11 h)
    rcases Nat.lt_or_ge 0 1 with _ | _
    · by_cases hl : d.2 < e.2
      · exact tri d.1 d.2 e.2 d1.1 d1.2 e1.2 (by omega) hl
      · exact tri e.1 e.2 d.2 e1.1 e1.2 d1.2 (by omega) (by omega)
    · omega
  · by_cases hl : d.1 < e.1
    · exact tri d.1 e.1 e.2 d1.1 e1.1 e1.2 hl (by omega)
    · exact tri e.1 d.1 d.2 e1.1 d1.1 d1.2 (by omega) (by omega)
end Go.Proofs.YtklalfkdikjkfaaGreat
namespace Go.Proofs.YtklalfkdikjkfaaGreat
open Go.RowKit

/-- the edges of all tours -/
def allE (ts : List (List Int)) : List EdgeV := ts.flatMap tE
theorem allE_mem (ts : List (List Int)) (e : EdgeV) : e ∈ allE ts ↔ ∃ t ∈ ts, e ∈ tE t := by simp [allE]
theorem allE_nodup {ts : List (List Int)} (h : ts.Pairwise Apart) : (allE ts).Nodup := by
  induction ts with
  | nil => simp [allE]
  | cons t r ih =>
    rw [List.pairwise_cons] at h
    show (tE t ++ allE r).Nodup
    rw [List.nodup_append]
    refine ⟨eK_nodup t _, ih h.2, fun e he f hf hef => ?_⟩
    subst hef
    obtain ⟨s, hs, hes⟩ := (allE_mem r e).1 hf
    exact h.1 s hs e.1 (tE_in e he).1 (tE_in e hes).1
theorem allE_len {ts : List (List Int)} (h : ∀ t ∈ ts, tB t = true) : 2 * (allE ts).length + ts.length = (ts.map List.length).sum := by
  induction ts with
  | nil => simp [allE]
  | cons t r ih =>
    have h1 := tE_count (h t (by simp))
    have h2 := ih fun s hs => h s (by simp [hs])
    have h3 : (allE (t :: r)).length = (tE t).length + (allE r).length := by
      show (tE t ++ allE r).length = _
      rw [List.length_append]
    simp only [List.map_cons, List.sum_cons, List.length_cons]
    omega
/-- two lists of the same edges, each told once, are of one length -/
theorem len_same {a b : List EdgeV} (ha : a.Nodup) (hb : b.Nodup) (h : ∀ e, e ∈ a ↔ e ∈ b) : a.length = b.length := by
  have h1 := nd_sub ha fun e he => (h e).1 he
  have h2 := nd_sub hb fun e he => (h e).2 he
  omega
/-- one edge more where two tours are joined -/
theorem allE_join {a b J : List Int} {u v : Int} {W : List (List Int)} (ha : tB a = true) (hb : tB b = true) (hW : ∀ t ∈ W, tB t = true) (hJ : JoIs a b u v J) : (allE (W ++ [J])).length = (allE (a :: b :: W)).length + 1 := by
  have h1 := allE_len (ts := a :: b :: W) fun t ht => by
    simp only [List.mem_cons] at ht
    rcases ht with rfl | rfl | ht
    · exact ha
    · exact hb
    · exact hW t ht
  have h2 := allE_len (ts := W ++ [J]) fun t ht => by
    simp only [List.mem_append, List.mem_singleton] at ht
    rcases ht with ht | rfl
    · exact hW t ht
    · exact hJ.ok
  have h3 := hJ.len
  simp only [List.map_cons, List.sum_cons, List.length_cons, List.map_append, List.sum_append, List.length_append, List.map_nil, List.sum_nil, List.length_nil] at h1 h2
  omega
theorem jo_edge {a b J : List Int} {u v : Int} (hJ : JoIs a b u v J) (hl : u < v) : (u, v) ∈ tE J := by
  obtain ⟨k, h1, h2⟩ := hJ.step
  exact (tE_mem J (u, v)).2 ⟨k, h1, h2, hl⟩

/-- a vertex is in one tour alone -/
theorem FQ.place {N : Int} {ts : List (List Int)} (h : FQ N ts) {i j : Nat} {s t : List Int} {x : Int} (hi : ts[i]? = some s) (hj : ts[j]? = some t) (hs : x ∈ s) (ht : x ∈ t) : i = j := by
  obtain ⟨i0, i1⟩ := List.getElem?_eq_some_iff.1 hi
  obtain ⟨j0, j1⟩ := List.getElem?_eq_some_iff.1 hj
  rcases Nat.lt_trichotomy i j with hlt | hlt | hlt
  · have := List.pairwise_iff_getElem.1 h.2.1 i j i0 j0 hlt
    rw [i1, j1] at this
    exact absurd ht (this x hs)
  · exact hlt
  · have := List.pairwise_iff_getElem.1 h.2.1 j i j0 i0 hlt
    rw [i1, j1] at this
    exact absurd hs (this x ht)
theorem FQ.one {N : Int} {ts : List (List Int)} (h : FQ N ts) {s t : List Int} {x : Int} (hs : s ∈ ts) (ht : t ∈ ts) (h1 : x ∈ s) (h2 : x ∈ t) : s = t := by
  obtain ⟨i, hi⟩ := List.mem_iff_getElem?.1 hs
  obtain ⟨j, hj⟩ := List.mem_iff_getElem?.1 ht
  have := h.place hi hj h1 h2
  subst this
  rw [hi] at hj
  exact Option.some.inj hj
theorem vs_alike {a b : List Int} (h : ∀ x, x ∈ a ↔ x ∈ b) : vsL a = vsL b := asc_ext (vsK_asc a 12) (vsK_asc b 12) fun x => by
  show x ∈ vsL a ↔ x ∈ vsL b
  rw [vsL_mem, vsL_mem, h]
theorem mn_alike {a b : List Int} (h : ∀ x, x ∈ a ↔ x ∈ b) : mnV a = mnV b := by unfold mnV; rw [vs_alike h]
/-- every vertex below N is in a tour -/
theorem FQ.cover {N : Nat} {ts : List (List Int)} (h : FQ (N : Int) ts) {x : Int} (h0 : 0 ≤ x) (h1 : x < (N : Int)) : ∃ t ∈ ts, x ∈ t := by
  have hall : ∀ (l : List (List Int)), (l.flatMap vsL).length = cnt l := fun l => by
    induction l with
    | nil => simp [cnt]
    | cons t r ih =>
      simp only [List.flatMap_cons, List.length_append, ih]
      simp [cnt]
  have hnd : ∀ (l : List (List Int)), l.Pairwise Apart → (l.flatMap vsL).Nodup := fun l hl => by
    induction l with
    | nil => simp
    | cons t r ih =>
      rw [List.pairwise_cons] at hl
      rw [List.flatMap_cons, List.nodup_append]
      refine ⟨vs_nodup t, ih hl.2, fun y hy z hz e => ?_⟩
      subst e
      obtain ⟨s, hs, hys⟩ := List.mem_flatMap.1 hz
      exact hl.1 s hs y ((vsL_mem t y).1 hy).2 ((vsL_mem s y).1 hys).2
  by_cases hx : x ∈ ts.flatMap vsL
  · obtain ⟨t, ht, hxt⟩ := List.mem_flatMap.1 hx
    exact ⟨t, ht, ((vsL_mem t x).1 hxt).2⟩
  · exfalso
    have h2 : (x :: ts.flatMap vsL).Nodup := List.nodup_cons.2 ⟨hx, hnd ts h.2.1⟩
    have h3 := nd_sub (b := (List.range N).map fun j : Nat => (j : Int)) h2 fun y hy => by
      have hy2 : 0 ≤ y ∧ y < (N : Int) := by
        rcases List.mem_cons.1 hy with rfl | hy
        · exact ⟨h0, h1⟩
        · obtain ⟨t, ht, hyt⟩ := List.mem_flatMap.1 hy
          obtain ⟨v1, v2⟩ := (vsL_mem t y).1 hyt
          have v1 := of_decide_eq_true (show decide (0 ≤ y ∧ y < 12) = true from v1)
          exact ⟨v1.1, (h.1 t ht).2 y v2⟩
      exact List.mem_map.2 ⟨y.toNat, List.mem_range.2 (by omega), by omega⟩
    have h4 := h.2.2
    rw [List.length_cons, hall, List.length_map, List.length_range] at h3
    omega
/-- the least vertex of the tree of x -/
def Prt (ts : List (List Int)) (x m : Int) : Prop := ∃ t ∈ ts, x ∈ t ∧ m = mnV t
theorem Prt.uniq {N : Int} {ts : List (List Int)} (h : FQ N ts) {x m m' : Int} (h1 : Prt ts x m) (h2 : Prt ts x m') : m = m' := by
  obtain ⟨s, a1, a2, rfl⟩ := h1
  obtain ⟨t, b1, b2, rfl⟩ := h2
  rw [h.one a1 b1 a2 b2]
theorem Prt.like {a b : List (List Int)} (h : ∀ t ∈ a, ∃ s ∈ b, ∀ x, x ∈ t ↔ x ∈ s) {x m : Int} (hp : Prt a x m) : Prt b x m := by
  obtain ⟨t, h1, h2, rfl⟩ := hp
  obtain ⟨s, h3, h4⟩ := h t h1
  exact ⟨s, h3, (h4 x).1 h2, mn_alike h4⟩
end Go.Proofs.YtklalfkdikjkfaaGreat
namespace Go.Proofs.YtklalfkdikjkfaaGreat
open Go.RowKit

theorem FP.q {N : Int} {ts : List (List Int)} (h : FP N ts) : FQ N ts := ((FP_iff N ts).1 h).2.2.1
theorem srt_perm {N : Nat} {l : List (List Int)} (h : FQ (N : Int) l) : (srtK l N).Perm l := srtK_perm fun t ht => mn_range (h.1 t ht).1 (h.1 t ht).2
/-- two trees linked by an edge -/
structure LkIs (N : Nat) (ts : List (List Int)) (i j : Nat) (a b : List Int) (u v : Int) (J : List Int) (g : List (List Int)) : Prop where
  jo : JoIs a b u v J
  eq : g = srtK (woK ts [i, j] ts.length ++ [J]) N
  ok : FP (N : Int) g
  len : g.length + 1 = ts.length
  perm : g.Perm (woK ts [i, j] ts.length ++ [J])
  old : ts.Perm (a :: b :: woK ts [i, j] ts.length)
  there : ∃ k : Nat, g[k]? = some J
theorem lk_is {N : Nat} {ts : List (List Int)} (h : FP (N : Int) ts) {i j : Nat} {a b : List Int} {u v : Int} (hi : ts[i]? = some a) (hj : ts[j]? = some b) (hij : i ≠ j) (hu : u ∈ a) (hv : v ∈ b) :
    ∃ J, joO a u b v = some J ∧ LkIs N ts i j a b u v J (srtK (woK ts [i, j] ts.length ++ [J]) N) := by
  have hq := h.q
  have hp := wo_two_all hi hj hij
  have hq2 := hq.perm hp.symm
  have ha := hq.1 a (List.mem_of_getElem? hi)
  have hb := hq.1 b (List.mem_of_getElem? hj)
  have hap : Apart a b := (List.pairwise_cons.1 hq2.2.1).1 b (by simp)
  obtain ⟨J, e, hJ⟩ := jo_two ha.1 hb.1 hap hu hv
  have hq3 := hq2.join hJ.ok hJ.mem
  have hps := srt_perm hq3
  refine ⟨J, e, hJ, rfl, FP_srt (by have := h.1; omega) (by have := h.2.1; omega) hq3, ?_, hps, hp.symm, ?_⟩
  · have h1 := hps.length_eq
    have h2 := hp.length_eq
    simp only [List.length_cons, List.length_append, List.length_nil] at h1 h2
    omega
  · exact List.mem_iff_getElem?.1 (hps.mem_iff.2 (by simp))
/-- and cut again there -/
theorem lk_cut {N : Nat} {ts : List (List Int)} {i j : Nat} {a b : List Int} {u v : Int} {J : List Int} {g : List (List Int)} (h : FP (N : Int) ts) (L : LkIs N ts i j a b u v J g) {k : Nat} (hk : g[k]? = some J) :
    ∃ r, spO J u v = (a, r, true) ∧ FP (N : Int) (srtK (woK g [k] g.length ++ [a, r]) N) ∧ ∀ x m, Prt (srtK (woK g [k] g.length ++ [a, r]) N) x m ↔ Prt ts x m := by
  obtain ⟨r, HR, hs⟩ := L.jo.back
  have hq := h.q
  have hqg := L.ok.q
  have hp1 := wo_one_all hk
  have hW : (woK g [k] g.length).Perm (woK ts [i, j] ts.length) := by
    have h2 : (J :: woK g [k] g.length).Perm (J :: woK ts [i, j] ts.length) := (hp1.trans L.perm).trans (List.perm_append_comm (l₂ := [J]))
    exact h2.cons_inv
  have hqo := hq.perm L.old
  have hap : Apart a b := (List.pairwise_cons.1 hqo.2.1).1 b (by simp)
  have hlike : ∀ x, x ∈ r ↔ x ∈ b := HR.mem
  have hq2 : FQ (N : Int) (woK g [k] g.length ++ [a, r]) := by
    obtain ⟨h1, h2, h3⟩ := hqo
    have hq3 : FQ (N : Int) (a :: r :: woK ts [i, j] ts.length) := by
      rw [List.pairwise_cons, List.pairwise_cons] at h2
      refine ⟨fun t ht => ?_, ?_, ?_⟩
      · simp only [List.mem_cons] at ht
        rcases ht with rfl | rfl | ht
        · exact h1 t (by simp)
        · exact ⟨HR.ok, fun x hx => (h1 b (by simp)).2 x ((hlike x).1 hx)⟩
        · exact h1 t (by simp [ht])
      · rw [List.pairwise_cons, List.pairwise_cons]
        refine ⟨fun t ht x hx hxt => ?_, fun t ht x hx => h2.2.1 t ht x ((hlike x).1 hx), h2.2.2⟩
        rcases List.mem_cons.1 ht with rfl | ht
        · exact hap x hx ((hlike x).1 hxt)
        · exact h2.1 t (by simp [ht]) x hx hxt
      · rw [← h3]
        simp only [cnt, List.map_cons, List.sum_cons]
        rw [vs_alike hlike]
    exact hq3.perm ((hW.symm.append_left [a, r]).trans List.perm_append_comm)
  refine ⟨r, hs, FP_srt (by have := h.1; omega) (by have := h.2.1; omega) hq2, fun x m => ?_⟩
  have hps := srt_perm hq2
  constructor
  · refine Prt.like fun t ht => ?_
    have ht2 := hps.mem_iff.1 ht
    simp only [List.mem_append, List.mem_cons, List.not_mem_nil, or_false] at ht2
    rcases ht2 with ht2 | rfl | rfl
    · exact ⟨t, L.old.mem_iff.2 (by simp [hW.mem_iff.1 ht2]), fun _ => Iff.rfl⟩
    · exact ⟨t, L.old.mem_iff.2 (by simp), fun _ => Iff.rfl⟩
    · exact ⟨b, L.old.mem_iff.2 (by simp), hlike⟩
  · refine Prt.like fun t ht => ?_
    have ht2 := L.old.mem_iff.1 ht
    simp only [List.mem_cons] at ht2
    rcases ht2 with rfl | rfl | ht2
    · exact ⟨t, hps.mem_iff.2 (by simp), fun _ => Iff.rfl⟩
    · exact ⟨r, hps.mem_iff.2 (by simp), fun x => (hlike x).symm⟩
    · exact ⟨t, hps.mem_iff.2 (by simp [hW.mem_iff.2 ht2]), fun _ => Iff.rfl⟩
end Go.Proofs.YtklalfkdikjkfaaGreat
namespace Go.Proofs.YtklalfkdikjkfaaGreat
open Go.RowKit

def trP (ts : List (List Int)) (v : Int) (k : Nat) : Bool := match ts[k]? with | some t => decide (v ∈ t) | none => false
theorem trP_at {ts : List (List Int)} {v : Int} {k : Nat} {t : List Int} (h : ts[k]? = some t) : trP ts v k = decide (v ∈ t) := by simp [trP, h]
/-- the first place of a tour that v is in, or -1 -/
def trI (ts : List (List Int)) (v : Int) : Int := firstN (trP ts v) ts.length
theorem trI_cases (ts : List (List Int)) (v : Int) : (∃ (k : Nat) (t : List Int), ts[k]? = some t ∧ v ∈ t ∧ trI ts v = (k : Int)) ∨ ((∀ t ∈ ts, v ∉ t) ∧ trI ts v = -1) := by
  rcases firstN_cases (trP ts v) ts.length with ⟨k, hk, h, _, e⟩ | ⟨h, e⟩
  · refine .inl ⟨k, ts[k], List.getElem?_eq_getElem hk, ?_, e⟩
    rw [trP_at (List.getElem?_eq_getElem hk)] at h
    exact of_decide_eq_true h
  · refine .inr ⟨fun t ht hv => ?_, e⟩
    obtain ⟨k, hk⟩ := List.mem_iff_getElem?.1 ht
    have := h k (List.getElem?_eq_some_iff.1 hk).1
    rw [trP_at hk, decide_eq_true hv] at this
    cases this
theorem trI_of {N : Int} {ts : List (List Int)} (h : FQ N ts) {v : Int} {k : Nat} {t : List Int} (hk : ts[k]? = some t) (hv : v ∈ t) : trI ts v = (k : Int) := by
  rcases trI_cases ts v with ⟨j, s, hj, hs, e⟩ | ⟨hn, _⟩
  · rw [e, h.place hj hk hs hv]
  · exact absurd hv (hn t (List.mem_of_getElem? hk))
/-- what TreeOf answers -/
noncomputable def treeO (N : Int) (ts : List (List Int)) (v : Int) : Int := @ite _ (FP N ts) (Classical.propDecidable _) (trI ts v) (-1)
theorem treeO_yes {N : Int} {ts : List (List Int)} (h : FP N ts) (v : Int) : treeO N ts v = trI ts v := by unfold treeO; rw [if_pos h]
theorem treeO_no {N : Int} {ts : List (List Int)} (h : ¬ FP N ts) (v : Int) : treeO N ts v = -1 := by unfold treeO; rw [if_neg h]
theorem treeO_cases (N : Int) (ts : List (List Int)) (v : Int) : (∃ (k : Nat) (t : List Int), FP N ts ∧ ts[k]? = some t ∧ v ∈ t ∧ treeO N ts v = (k : Int)) ∨ ((FP N ts → ∀ t ∈ ts, v ∉ t) ∧ treeO N ts v = -1) := by
  by_cases h : FP N ts
  · rw [treeO_yes h]
    rcases trI_cases ts v with ⟨k, t, h1, h2, h3⟩ | ⟨h1, h2⟩
    · exact .inl ⟨k, t, h, h1, h2, h3⟩
    · exact .inr ⟨fun _ => h1, h2⟩
  · exact .inr ⟨fun h2 => absurd h2 h, treeO_no h v⟩
/-- what SizeOf answers -/
noncomputable def sizeO (N : Int) (ts : List (List Int)) (v : Int) : Int := if treeO N ts v < 0 then 0 else ((vsL ((ts[(treeO N ts v).toNat]?).getD [])).length : Int)
theorem sizeO_yes {N : Int} {ts : List (List Int)} {v : Int} {k : Nat} {t : List Int} (h : treeO N ts v = (k : Int)) (ht : ts[k]? = some t) : sizeO N ts v = ((vsL t).length : Int) := by
  unfold sizeO
  rw [h, if_neg (by omega), Int.toNat_natCast, ht]
  rfl
theorem sizeO_no {N : Int} {ts : List (List Int)} {v : Int} (h : treeO N ts v = -1) : sizeO N ts v = 0 := by
  unfold sizeO
  rw [h, if_pos (by omega)]
end Go.Proofs.YtklalfkdikjkfaaGreat
namespace Go.Proofs.YtklalfkdikjkfaaGreat
open Go.RowKit

def tat (ts : List (List Int)) (i : Int) : List Int := (ts[i.toNat]?).getD []
theorem tat_at {ts : List (List Int)} {k : Nat} {t : List Int} (h : ts[k]? = some t) : tat ts (k : Int) = t := by
  unfold tat
  rw [Int.toNat_natCast, h]
  rfl
/-- what Link answers -/
noncomputable def linkO (N : Int) (ts : List (List Int)) (e : EdgeV) : Option (List (List Int)) :=
  @ite _ (FP N ts ∧ eB N e = true ∧ trI ts e.1 ≠ trI ts e.2) (Classical.propDecidable _)
    (some (srtK (woK ts [(trI ts e.1).toNat, (trI ts e.2).toNat] ts.length ++ [(joO (tat ts (trI ts e.1)) e.1 (tat ts (trI ts e.2)) e.2).getD []]) N.toNat)) none
/-- what Cut answers -/
noncomputable def cutO (N : Int) (ts : List (List Int)) (e : EdgeV) : Option (List (List Int)) :=
  @ite _ (FP N ts ∧ eB N e = true ∧ (spO (tat ts (trI ts e.1)) e.1 e.2).2.2 = true) (Classical.propDecidable _)
    (some (srtK (woK ts [(trI ts e.1).toNat] ts.length ++ [(spO (tat ts (trI ts e.1)) e.1 e.2).1, (spO (tat ts (trI ts e.1)) e.1 e.2).2.1]) N.toNat)) none
theorem linkO_yes {N : Nat} {ts : List (List Int)} {e : EdgeV} (hP : FP (N : Int) ts) (hE : eB (N : Int) e = true) {i j : Nat} {a b J : List Int} (hi : ts[i]? = some a) (hj : ts[j]? = some b) (hu : e.1 ∈ a) (hv : e.2 ∈ b) (hij : i ≠ j) (hJ : joO a e.1 b e.2 = some J) :
    linkO (N : Int) ts e = some (srtK (woK ts [i, j] ts.length ++ [J]) N) := by
  have e1 := trI_of hP.q hi hu
  have e2 := trI_of hP.q hj hv
  unfold linkO
  rw [if_pos ⟨hP, hE, by rw [e1, e2]; omega⟩, e1, e2, tat_at hi, tat_at hj, hJ]
  simp
theorem linkO_no {N : Int} {ts : List (List Int)} {e : EdgeV} (h : ¬ (FP N ts ∧ eB N e = true ∧ trI ts e.1 ≠ trI ts e.2)) : linkO N ts e = none := by unfold linkO; rw [if_neg h]
theorem cutO_yes {N : Nat} {ts : List (List Int)} {e : EdgeV} (hP : FP (N : Int) ts) (hE : eB (N : Int) e = true) {i : Nat} {t a b : List Int} (hi : ts[i]? = some t) (hu : e.1 ∈ t) (hS : spO t e.1 e.2 = (a, b, true)) :
    cutO (N : Int) ts e = some (srtK (woK ts [i] ts.length ++ [a, b]) N) := by
  have e1 := trI_of hP.q hi hu
  unfold cutO
  rw [if_pos ⟨hP, hE, by rw [e1, tat_at hi, hS]⟩, e1, tat_at hi, hS]
  simp
theorem cutO_no {N : Int} {ts : List (List Int)} {e : EdgeV} (h : ¬ (FP N ts ∧ eB N e = true ∧ (spO (tat ts (trI ts e.1)) e.1 e.2).2.2 = true)) : cutO N ts e = none := by unfold cutO; rw [if_neg h]
theorem eB_range {N : Int} {e : EdgeV} (h : eB N e = true) : 0 ≤ e.1 ∧ e.1 < e.2 ∧ e.2 < N := by
  unfold eB at h
  have := of_decide_eq_true h
  omega
/-- both ends of a right edge are in trees -/
theorem edge_at {N : Nat} {ts : List (List Int)} {e : EdgeV} (hP : FP (N : Int) ts) (hE : eB (N : Int) e = true) : ∃ (i j : Nat) (a b : List Int), ts[i]? = some a ∧ ts[j]? = some b ∧ e.1 ∈ a ∧ e.2 ∈ b := by
  have hr := eB_range hE
  obtain ⟨a, ha, hu⟩ := hP.q.cover (x := e.1) (by omega) (by omega)
  obtain ⟨b, hb, hv⟩ := hP.q.cover (x := e.2) (by omega) (by omega)
  obtain ⟨i, hi⟩ := List.mem_iff_getElem?.1 ha
  obtain ⟨j, hj⟩ := List.mem_iff_getElem?.1 hb
  exact ⟨i, j, a, b, hi, hj, hu, hv⟩
theorem FP_nat {N : Int} {ts : List (List Int)} (h : FP N ts) : ∃ M : Nat, N = (M : Int) ∧ 1 ≤ M ∧ M ≤ 12 := ⟨N.toNat, by have := h.1; omega, by have := h.1; omega, by have := h.2.1; omega⟩
/-- the tours whose places are left out are those that a test tells -/
theorem wo_filter {ts : List (List Int)} {outs : List Nat} {p : List Int → Bool} (h : ∀ k t, ts[k]? = some t → (k ∈ outs ↔ p t = false)) (k : Nat) : woK ts outs k = (ts.take k).filter p := by
  induction k with
  | zero => simp [woK]
  | succ k ih =>
    simp only [woK]
    cases hk : ts[k]? with
    | none =>
      have : ts.take (k + 1) = ts.take k := by rw [List.take_add_one, hk]; simp
      rw [this, ih]
      simp
    | some t =>
      rw [take_snocF ts k t hk, List.filter_append, ih]
      by_cases hm : k ∈ outs
      · rw [if_pos hm, List.append_nil]
        simp [(h k t hk).1 hm]
      · rw [if_neg hm]
        have : p t = true := by
          cases hp : p t with
          | true => rfl
          | false => exact absurd ((h k t hk).2 hp) hm
        simp [this]
theorem wo_stay {N : Int} {ts : List (List Int)} (hQ : FQ N ts) {i j : Nat} {a b : List Int} {u v : Int} (hi : ts[i]? = some a) (hj : ts[j]? = some b) (hu : u ∈ a) (hv : v ∈ b) : woK ts [i, j] ts.length = ts.filter fun t => !(t.any fun x => decide (x ∈ [u, v])) := by
  rw [wo_filter (p := fun t => !(t.any fun x => decide (x ∈ [u, v]))) (fun k t ht => ?_), List.take_length]
  simp only [Bool.not_eq_false', List.any_eq_true, decide_eq_true_eq, List.mem_cons, List.not_mem_nil, or_false]
  constructor
  · rintro (rfl | rfl)
    · rw [hi] at ht
      cases ht
      exact ⟨u, hu, .inl rfl⟩
    · rw [hj] at ht
      cases ht
      exact ⟨v, hv, .inr rfl⟩
  · rintro ⟨x, hx, rfl | rfl⟩
    · exact .inl (hQ.place ht hi hx hu)
    · exact .inr (hQ.place ht hj hx hv)
theorem wo_stay1 {N : Int} {ts : List (List Int)} (hQ : FQ N ts) {i : Nat} {a : List Int} {u v : Int} (hi : ts[i]? = some a) (hu : u ∈ a) (hv : v ∈ a) : woK ts [i] ts.length = ts.filter fun t => !(t.any fun x => decide (x ∈ [u, v])) := by
  rw [← wo_stay hQ hi hi hu hv]
  have : ∀ k, woK ts [i] k = woK ts [i, i] k := fun k => by
    induction k with
    | zero => rfl
    | succ k ih => simp only [woK, ih]; simp
  exact this _
/-- linked: the tours side by side, and what it comes to in order -/
theorem link_fq {N : Nat} {ts : List (List Int)} (hP : FP (N : Int) ts) {i j : Nat} {a b J : List Int} {u v : Int} (hi : ts[i]? = some a) (hj : ts[j]? = some b) (hu : u ∈ a) (hv : v ∈ b) (hij : i ≠ j) (hJ : joO a u b v = some J) : FQ (N : Int) (woK ts [i, j] ts.length ++ [J]) := by
  obtain ⟨J', e, L⟩ := lk_is hP hi hj hij hu hv
  rw [hJ] at e
  obtain rfl := Option.some.inj e
  exact L.ok.q.perm L.perm
theorem cut_in {t a b : List Int} {u v : Int} (h : spO t u v = (a, b, true)) : tB t = true ∧ ∃ k : Nat, t[k]? = some u ∧ t[k + 1]? = some v := by
  unfold spO at h
  by_cases hc : tB t = true ∧ 0 ≤ goI t u v
  · refine ⟨hc.1, ?_⟩
    rcases go_at (t := t) (u := u) (v := v) with ⟨k1, e1, _, a1, a2, _⟩ | ⟨e1, _⟩
    · exact ⟨k1, a1, a2⟩
    · have := hc.2; omega
  · rw [if_neg hc] at h
    simp at h
end Go.Proofs.YtklalfkdikjkfaaGreat
