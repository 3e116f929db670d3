/- Bridges, and edges that close no ring: pure. What a walk that closed no ring has gone along: pure. The trees of a list of edges, each walked from its least vertex: pure. The place of a vertex's tour: pure. Webs as lists of edges with their levels: pure. What a right web's ground tells: labels, together, height: pure. -/
import Derived.Test.YtkkplppcgnikoaaGreatKITrees
import Derived.Test.YtkkplppcgnikoaaGreatKBx7
import Derived.Test.YtkkplppcgnikoaaGreatKIVerts
import Derived.Test.YtkkplppcgnikoaaGreatKLk7
import Derived.Test.YtkkplppcgnikoaaGreatKFB7
import Derived.Test.YtkkplppcgnikoaaGreatKSPl9
import Derived.Test.YtkkplppcgnikoaaGreatKCon9
namespace Go.Proofs.YtkkplppcgnikoaaGreat
open Go.RowKit

theorem Bridge.sub {es fs : List EdgeV} (h : Bridge es) (hs : ∀ e ∈ fs, e ∈ es) : Bridge fs := fun e he => by
  obtain ⟨S, a, b, c⟩ := h e (hs e he)
  exact ⟨S, a, b, fun d hd => c d (hs d hd)⟩
theorem flip_iff {a b c d : Prop} (h1 : ¬ (a ↔ b)) (h2 : ¬ (c ↔ d)) : (a ↔ ¬ c) ↔ (b ↔ ¬ d) := by
  by_cases ha : a <;> by_cases hb : b <;> by_cases hc : c <;> by_cases hd : d <;> simp_all
theorem flip_same {a b c d : Prop} (h1 : a ↔ b) (h2 : c ↔ d) : (a ↔ ¬ c) ↔ (b ↔ ¬ d) := by rw [h1, h2]
/-- one more edge, between what does not hang together -/
theorem Bridge.add {es : List EdgeV} (h : Bridge es) {f : EdgeV} (hf : ¬ Conn es f.1 f.2) {fs : List EdgeV} (hs : ∀ e ∈ fs, e ∈ es ∨ e = f) : Bridge fs := by
  intro e he
  by_cases hef : e = f
  · subst hef
    refine ⟨fun x => ¬ Conn es e.1 x, hf, fun h => h (Conn.refl _ _), fun d hd hne => ?_⟩
    rcases hs d hd with h1 | h1
    · exact not_congr ⟨fun h2 => h2.trans (Conn.edge h1), fun h2 => h2.trans (Conn.edge h1).symm⟩
    · exact absurd h1 hne
  · have he1 : e ∈ es := (hs e he).resolve_right hef
    obtain ⟨S, a, b, c⟩ := h e he1
    by_cases hS : S f.1 ↔ S f.2
    · refine ⟨S, a, b, fun d hd hne => ?_⟩
      rcases hs d hd with h1 | h1
      · exact c d h1 hne
      · subst h1; exact hS
    · have key : ∀ g : Int, ¬ Conn es g e.1 → ¬ (Conn es g f.1 ↔ Conn es g f.2) → ∃ S : Int → Prop, S e.2 ∧ ¬ S e.1 ∧ ∀ d ∈ fs, d ≠ e → (S d.1 ↔ S d.2) := fun g hg hC => by
        have hg2 : ¬ Conn es g e.2 := fun h2 => hg (h2.trans (Conn.edge he1).symm)
        refine ⟨fun x => S x ↔ ¬ Conn es g x, ⟨fun _ => hg2, fun _ => a⟩, fun h2 => b (h2.2 hg), fun d hd hne => ?_⟩
        rcases hs d hd with h1 | h1
        · exact flip_same (c d h1 hne) ⟨fun h2 => h2.trans (Conn.edge h1), fun h2 => h2.trans (Conn.edge h1).symm⟩
        · subst h1; exact flip_iff hS hC
      by_cases hC : Conn es f.1 e.1
      · exact key f.2 (fun h2 => hf (hC.trans h2.symm)) (fun h2 => hf (h2.2 (Conn.refl _ _)).symm)
      · exact key f.1 hC (fun h2 => hf (h2.1 (Conn.refl _ _)))
theorem TreeP.bridge {es : List EdgeV} (h : TreeP es) : Bridge es := by
  have key : ∀ k, Bridge (es.take k) := by
    intro k
    induction k with
    | zero => intro e he; simp at he
    | succ k ih =>
      cases hk : es[k]? with
      | none =>
        rw [List.take_add_one, hk]
        simpa using ih
      | some f =>
        refine ih.add (h k f hk) fun e he => ?_
        rw [List.take_add_one, hk] at he
        simpa using he
  have := key es.length
  rwa [List.take_length] at this
theorem Bridge.tree {es : List EdgeV} (h : Bridge es) (hn : es.Nodup) : TreeP es := fun q f hf hc => by
  obtain ⟨S, a, b, c⟩ := h f (List.mem_of_getElem? hf)
  have hq := (List.getElem?_eq_some_iff.1 hf).1
  refine hc (fun x => ¬ S x) (fun e he => not_congr (c e (List.mem_of_mem_take he) fun e2 => ?_)) b a
  subst e2
  obtain ⟨i, hi⟩ := List.mem_iff_getElem?.1 he
  have hi1 := (List.getElem?_eq_some_iff.1 hi).1
  rw [List.length_take] at hi1
  rw [List.getElem?_take_of_lt (by omega)] at hi
  obtain ⟨_, e3⟩ := List.getElem?_eq_some_iff.1 hi
  obtain ⟨_, e4⟩ := List.getElem?_eq_some_iff.1 hf
  have := (List.pairwise_iff_getElem.1 hn) i q (by omega) hq (by omega)
  rw [e3, e4] at this
  exact this rfl
theorem treeP_iff {es : List EdgeV} (hn : es.Nodup) : TreeP es ↔ Bridge es := ⟨fun h => h.bridge, fun h => h.tree hn⟩
end Go.Proofs.YtkkplppcgnikoaaGreat
namespace Go.Proofs.YtkkplppcgnikoaaGreat
open Go.RowKit

/-- the list goes from the one to the other, or back -/
def Stp (t : List Int) (x y : Int) : Prop := ∃ i : Nat, (t[i]? = some x ∧ t[i + 1]? = some y) ∨ (t[i]? = some y ∧ t[i + 1]? = some x)
theorem Stp.left {t : List Int} {x y : Int} (h : Stp t x y) (s : List Int) : Stp (t ++ s) x y := by
  obtain ⟨i, h⟩ := h
  refine ⟨i, ?_⟩
  rcases h with ⟨h1, h2⟩ | ⟨h1, h2⟩
  · exact .inl ⟨by rw [List.getElem?_append_left (List.getElem?_eq_some_iff.1 h1).1]; exact h1, by rw [List.getElem?_append_left (List.getElem?_eq_some_iff.1 h2).1]; exact h2⟩
  · exact .inr ⟨by rw [List.getElem?_append_left (List.getElem?_eq_some_iff.1 h1).1]; exact h1, by rw [List.getElem?_append_left (List.getElem?_eq_some_iff.1 h2).1]; exact h2⟩
theorem Stp.right {t : List Int} {x y : Int} (h : Stp t x y) (s : List Int) : Stp (s ++ t) x y := by
  obtain ⟨i, h⟩ := h
  refine ⟨s.length + i, ?_⟩
  have e : ∀ j, (s ++ t)[s.length + j]? = t[j]? := fun j => by rw [List.getElem?_append_right (by omega)]; congr 1; omega
  rw [show s.length + i + 1 = s.length + (i + 1) by omega, e, e]
  exact h
theorem Stp.comm {t : List Int} {x y : Int} (h : Stp t x y) : Stp t y x := by
  obtain ⟨i, h⟩ := h
  exact ⟨i, h.symm⟩
theorem stp_mid {a b : List Int} {x y : Int} (ha : a.getLast? = some x) (hb : b.head? = some y) : Stp (a ++ b) x y := by
  cases a with
  | nil => simp at ha
  | cons c a =>
    refine ⟨a.length, .inl ⟨?_, ?_⟩⟩
    · rw [List.getElem?_append_left (by simp)]
      rw [List.getLast?_eq_getElem?] at ha
      simpa using ha
    · rw [List.getElem?_append_right (by simp)]
      rw [List.head?_eq_getElem?] at hb
      simpa using hb
structure Wr (es : List EdgeV) (v fr : Int) (seen t seen' : List Int) : Prop where
  head : t.head? = some v
  last : t.getLast? = some v
  mem : ∀ x, x ∈ seen' ↔ x ∈ seen ∨ x ∈ t
  new : ∀ x ∈ t, x ∉ seen
  run : ∀ W S : List Int, (∀ x ∈ W, x ∈ S) → (∀ x ∈ t, x ∉ S) → ∃ S', trun W S t = some (v :: W, S')
  all : ∀ x ∈ t, ∀ y, mkE x y ∈ es → (x = v → y ≠ fr) → Stp t x y
structure Gr (es : List EdgeV) (v fr : Int) (k : Nat) (seen0 out seen : List Int) : Prop where
  head : out.head? = some v
  last : out.getLast? = some v
  mem : ∀ x, x ∈ seen ↔ x ∈ seen0 ∨ x ∈ out
  new : ∀ x ∈ out, x ∉ seen0
  run : ∀ W S : List Int, (∀ x ∈ W, x ∈ S) → (∀ x ∈ out, x ∉ S) → ∃ S', trun W S out = some (v :: W, S')
  all : ∀ x ∈ out, ∀ y, mkE x y ∈ es → (x = v → y ≠ fr ∧ y < (k : Int)) → Stp out x y
theorem Gr.go {es : List EdgeV} {v fr : Int} {k : Nat} {seen0 out seen p seen' : List Int} (h : Gr es v fr k seen0 out seen) (hp : Wr es (k : Int) v seen p seen') : Gr es v fr (k + 1) seen0 (out ++ p ++ [v]) seen' := by
  have hvo : v ∈ out := List.mem_of_getLast? h.last
  have hpk : p.head? = some (k : Int) := hp.head
  have hvp : v ∉ p := fun h2 => hp.new v h2 ((h.mem v).2 (.inr hvo))
  refine ⟨?_, by simp, fun x => ?_, fun x hx => ?_, fun W T hW hT => ?_, fun x hx y he hy => ?_⟩
  · have := h.head
    cases out with
    | nil => simp at this
    | cons a o => simpa using this
  · rw [hp.mem, h.mem]
    simp only [List.mem_append, List.mem_singleton]
    constructor
    · rintro ((h1 | h1) | h1)
      · exact .inl h1
      · exact .inr (.inl (.inl h1))
      · exact .inr (.inl (.inr h1))
    · rintro (h1 | (h1 | h1) | h1)
      · exact .inl (.inl h1)
      · exact .inl (.inr h1)
      · exact .inr h1
      · exact .inl (.inr (by rw [h1]; exact hvo))
  · simp only [List.mem_append, List.mem_singleton] at hx
    rcases hx with (h1 | h1) | h1
    · exact h.new x h1
    · exact fun h2 => hp.new x h1 ((h.mem x).2 (.inl h2))
    · rw [h1]; exact h.new v hvo
  · obtain ⟨S1, h1⟩ := h.run W T hW (fun x hx => hT x (by simp [hx]))
    obtain ⟨hs, hw⟩ := trun_seen h1 hW
    obtain ⟨S2, h2⟩ := hp.run (v :: W) S1 hw (fun x hx h3 => by
      rcases (hs x).1 h3 with h4 | h4
      · exact hT x (by simp [hx]) h4
      · exact hp.new x hx ((h.mem x).2 (.inr h4)))
    refine ⟨S2, ?_⟩
    rw [trun_append, trun_append, h1, Option.bind_some, h2, Option.bind_some, trun_up (by simp [isUp])]
    rfl
  · have hstep : Stp (out ++ p ++ [v]) v (k : Int) := (stp_mid h.last hpk).left [v]
    have hin : x ∈ out → Stp (out ++ p ++ [v]) x y := fun h1 => by
      by_cases hxv : x = v
      · obtain ⟨h2, h3⟩ := hy hxv
        by_cases hyk : y = (k : Int)
        · rw [hxv, hyk]; exact hstep
        · exact ((h.all x h1 y he fun _ => ⟨h2, by omega⟩).left p).left [v]
      · exact ((h.all x h1 y he fun h2 => absurd h2 hxv).left p).left [v]
    simp only [List.mem_append, List.mem_singleton] at hx
    rcases hx with (h1 | h1) | h1
    · exact hin h1
    · by_cases h2 : x = (k : Int) ∧ y = v
      · rw [h2.1, h2.2]; exact hstep.comm
      · exact ((hp.all x h1 y he fun h3 h4 => h2 ⟨h3, h4⟩).right out).left [v]
    · exact hin (h1 ▸ hvo)
theorem wk_wr {es : List EdgeV} {n : Nat} (hE : ∀ e ∈ es, 0 ≤ e.1 ∧ e.1 < e.2 ∧ e.2 < (n : Int)) (f : Nat) : ∀ (v fr : Int) (seen t sn : List Int), v ∉ seen → wk es n f v fr seen = some (t, sn) → Wr es v fr seen t sn := by
  induction f with
  | zero => intro v fr seen t sn _ h; simp [wk] at h
  | succ f ih =>
    intro v fr seen0 t sn hv h
    rw [wk] at h
    have key : ∀ (rem k : Nat) (out seen : List Int), rem + k = n → Gr es v fr k seen0 out seen → wkGo (wk es n f) es n v fr rem out seen = some (t, sn) → Gr es v fr n seen0 t sn := by
      intro rem
      induction rem with
      | zero =>
        intro k out seen hk hg h
        simp [wkGo] at h
        obtain ⟨rfl, rfl⟩ := h
        obtain rfl : k = n := by omega
        exact hg
      | succ rem ihr =>
        intro k out seen hk hg h
        have ek : n - (rem + 1) = k := by omega
        by_cases hs : (k : Int) = fr ∨ mkE v (k : Int) ∉ es
        · rw [wkGo_skip ek hs] at h
          refine ihr (k + 1) out seen (by omega) ⟨hg.head, hg.last, hg.mem, hg.new, hg.run, fun x hx y he hy => hg.all x hx y he fun h1 => ?_⟩ h
          obtain ⟨h2, h3⟩ := hy h1
          refine ⟨h2, ?_⟩
          by_cases hyk : y = (k : Int)
          · rcases hs with hs | hs
            · exact absurd (hyk.trans hs) h2
            · rw [h1, hyk] at he; exact absurd he hs
          · omega
        · have hkf : (k : Int) ≠ fr := fun e => hs (.inl e)
          have he : mkE v (k : Int) ∈ es := Classical.not_not.1 (fun e => hs (.inr e))
          obtain ⟨hks, p, hp, hgo⟩ := wkGo_go ek hkf he h
          exact ihr (k + 1) _ p.2 (by omega) (hg.go (ih (k : Int) v seen p.1 p.2 hks hp)) hgo
    have h3 := key n 0 [v] (v :: seen0) (by omega) ⟨rfl, rfl, fun x => by simp; exact or_comm, fun x hx => by simp at hx; rw [hx]; exact hv, fun W S hW hS => by
      have hvS : v ∉ S := hS v (by simp)
      have hup : isUp W v = false := by
        cases h : isUp W v with
        | false => rfl
        | true => exact absurd (hW _ (isUp_mem h)) hvS
      exact ⟨v :: S, by rw [trun_down hup hvS]; rfl⟩, fun x hx y he hy => by
      simp at hx
      subst hx
      have h1 := hy rfl
      have h2 := hE _ he
      rcases mkE_ends x y with e | e
      · rw [e] at h2; simp at h2; omega
      · rw [e] at h2; simp at h2; omega⟩ h
    refine ⟨h3.head, h3.last, h3.mem, h3.new, h3.run, fun x hx y he hy => h3.all x hx y he fun h1 => ⟨hy h1, ?_⟩⟩
    have h2 := hE _ he
    rcases mkE_ends x y with e | e
    · rw [e] at h2; simp at h2; omega
    · rw [e] at h2; simp at h2; omega
theorem step_split {a b : List Int} {i : Nat} {x y : Int} (h1 : (a ++ b)[i]? = some x) (h2 : (a ++ b)[i + 1]? = some y) :
    (a[i]? = some x ∧ a[i + 1]? = some y) ∨ (a.getLast? = some x ∧ b.head? = some y) ∨ ∃ j, b[j]? = some x ∧ b[j + 1]? = some y := by
  by_cases ha : i + 1 < a.length
  · rw [List.getElem?_append_left (by omega)] at h1 h2
    exact .inl ⟨h1, h2⟩
  · by_cases hb : i < a.length
    · rw [List.getElem?_append_left (by omega)] at h1
      rw [List.getElem?_append_right (by omega)] at h2
      refine .inr (.inl ⟨?_, ?_⟩)
      · rw [List.getLast?_eq_getElem?, show a.length - 1 = i by omega]; exact h1
      · rw [List.head?_eq_getElem?, ← show i + 1 - a.length = 0 by omega]; exact h2
    · rw [List.getElem?_append_right (by omega)] at h1 h2
      exact .inr (.inr ⟨i - a.length, h1, by rw [show i - a.length + 1 = i + 1 - a.length by omega]; exact h2⟩)
theorem wk_steps {es : List EdgeV} {n : Nat} (hE : ∀ e ∈ es, 0 ≤ e.1 ∧ e.1 < e.2 ∧ e.2 < (n : Int)) (f : Nat) : ∀ (v fr : Int) (seen t sn : List Int), wk es n f v fr seen = some (t, sn) →
    t.head? = some v ∧ t.getLast? = some v ∧ ∀ i x y, t[i]? = some x → t[i + 1]? = some y → mkE x y ∈ es := by
  induction f with
  | zero => intro v fr seen t sn h; simp [wk] at h
  | succ f ih =>
    intro v fr seen0 t sn h
    rw [wk] at h
    have key : ∀ (rem k : Nat) (out seen : List Int), rem + k = n → (out.head? = some v ∧ out.getLast? = some v ∧ ∀ i x y, out[i]? = some x → out[i + 1]? = some y → mkE x y ∈ es) → wkGo (wk es n f) es n v fr rem out seen = some (t, sn) →
        t.head? = some v ∧ t.getLast? = some v ∧ ∀ i x y, t[i]? = some x → t[i + 1]? = some y → mkE x y ∈ es := by
      intro rem
      induction rem with
      | zero =>
        intro k out seen hk hg h
        simp [wkGo] at h
        obtain ⟨rfl, rfl⟩ := h
        exact hg
      | succ rem ihr =>
        intro k out seen hk hg h
        have ek : n - (rem + 1) = k := by omega
        by_cases hs : (k : Int) = fr ∨ mkE v (k : Int) ∉ es
        · rw [wkGo_skip ek hs] at h
          exact ihr (k + 1) out seen (by omega) hg h
        · have hkf : (k : Int) ≠ fr := fun e => hs (.inl e)
          have he : mkE v (k : Int) ∈ es := Classical.not_not.1 (fun e => hs (.inr e))
          have hkv : v ≠ (k : Int) := fun e => by
            have := hE _ he
            rw [← e] at this
            unfold mkE at this
            rw [if_neg (by omega)] at this
            simp at this
          obtain ⟨_, p, hp, hgo⟩ := wkGo_go ek hkf he h
          obtain ⟨p1, p2, p3⟩ := ih (k : Int) v seen p.1 p.2 hp
          refine ihr (k + 1) _ p.2 (by omega) ⟨?_, by simp, fun i x y h1 h2 => ?_⟩ hgo
          · have := hg.1
            cases out with
            | nil => simp at this
            | cons a o => simpa using this
          · rcases step_split h1 h2 with ⟨h3, h4⟩ | ⟨h3, h4⟩ | ⟨j, h3, h4⟩
            · rcases step_split h3 h4 with ⟨h5, h6⟩ | ⟨h5, h6⟩ | ⟨j, h5, h6⟩
              · exact hg.2.2 i x y h5 h6
              · rw [hg.2.1] at h5
                rw [p1] at h6
                obtain rfl := Option.some.inj h5
                obtain rfl := Option.some.inj h6
                exact he
              · exact p3 j x y h5 h6
            · have h5 : (k : Int) = x := by
                rw [List.getLast?_append, p2] at h3
                simpa using h3
              simp at h4
              rw [← h5, ← h4, mkE_comm (fun e => hkv e.symm)]
              exact he
            · rcases j with _ | j
              · simp at h4
              · simp at h3
    exact key n 0 [v] (v :: seen0) (by omega) ⟨rfl, rfl, fun i x y h1 h2 => by
      rcases i with _ | i
      · simp at h2
      · simp at h1⟩ h
theorem wk_along {es : List EdgeV} {n : Nat} (hE : ∀ e ∈ es, 0 ≤ e.1 ∧ e.1 < e.2 ∧ e.2 < (n : Int)) (f : Nat) (v fr : Int) (seen t sn : List Int) (h : wk es n f v fr seen = some (t, sn)) : ∀ e ∈ tE t, e ∈ es := fun e he => by
  obtain ⟨i, h1, h2, h3⟩ := (tE_mem t e).1 he
  have := (wk_steps hE f v fr seen t sn h).2.2 i _ _ h1 h2
  unfold mkE at this
  rw [if_pos h3] at this
  exact this
/-- what such a walk tells of the tree that it went around -/
theorem wk_tree {es : List EdgeV} {n : Nat} (hE : ∀ e ∈ es, 0 ≤ e.1 ∧ e.1 < e.2 ∧ e.2 < (n : Int)) (hn : n ≤ 12) {r : Int} (hr0 : 0 ≤ r) (hr : r < (n : Int)) {t sn : List Int} (h : wk es n n r (-1) [] = some (t, sn)) :
    tB t = true ∧ t.head? = some r ∧ (∀ x ∈ t, 0 ≤ x ∧ x < (n : Int)) ∧ (∀ e ∈ es, (e.1 ∈ t ↔ e.2 ∈ t)) ∧ (∀ e ∈ es, e.1 ∈ t → e ∈ tE t) := by
  have hw := wk_wr hE n r (-1) [] t sn (by simp) h
  have hc := (wk_closed hE n r (-1) [] t sn h).2
  have hcl : ∀ e ∈ es, (e.1 ∈ t ↔ e.2 ∈ t) := fun e he => hc e he fun e2 => by
    have := hE e he
    rw [e2] at this
    rcases mkE_ends r (-1) with e | e
    · rw [e] at this; simp at this; omega
    · rw [e] at this; simp at this
  have hrt : r ∈ t := by
    have := hw.head
    cases t with
    | nil => simp at this
    | cons a t => simp at this; simp [this]
  have hrng : ∀ x ∈ t, 0 ≤ x ∧ x < (n : Int) := by
    -- the walk goes along edges alone
    have hs : ∀ x ∈ sn, 0 ≤ x ∧ x < (n : Int) := by
      have key : ∀ (f : Nat) (v fr : Int) (seen t sn : List Int), 0 ≤ v → v < (n : Int) → (∀ x ∈ seen, 0 ≤ x ∧ x < (n : Int)) → wk es n f v fr seen = some (t, sn) → ∀ x ∈ sn, 0 ≤ x ∧ x < (n : Int) := by
        intro f
        induction f with
        | zero => intro v fr seen t sn _ _ _ h; simp [wk] at h
        | succ f ih =>
          intro v fr seen t sn h0 h1 hs h
          rw [wk] at h
          have key : ∀ (rem k : Nat) (out seen : List Int), rem + k = n → (∀ x ∈ seen, 0 ≤ x ∧ x < (n : Int)) → wkGo (wk es n f) es n v fr rem out seen = some (t, sn) → ∀ x ∈ sn, 0 ≤ x ∧ x < (n : Int) := by
            intro rem
            induction rem with
            | zero =>
              intro k out seen hk hs h
              simp [wkGo] at h
              rw [← h.2]
              exact hs
            | succ rem ihr =>
              intro k out seen hk hs h
              have ek : n - (rem + 1) = k := by omega
              by_cases hc : (k : Int) = fr ∨ mkE v (k : Int) ∉ es
              · rw [wkGo_skip ek hc] at h
                exact ihr (k + 1) out seen (by omega) hs h
              · obtain ⟨_, p, hp, hgo⟩ := wkGo_go ek (fun e => hc (.inl e)) (Classical.not_not.1 (fun e => hc (.inr e))) h
                exact ihr (k + 1) _ p.2 (by omega) (ih (k : Int) v seen p.1 p.2 (by omega) (by omega) hs hp) hgo
          exact key n 0 [v] (v :: seen) (by omega) (fun x hx => by
            rcases List.mem_cons.1 hx with rfl | hx
            · exact ⟨h0, h1⟩
            · exact hs x hx) h
      exact key n r (-1) [] t sn hr0 hr (by simp) h
    exact fun x hx => hs x ((hw.mem x).2 (.inr hx))
  have hB : tB t = true := by
    obtain ⟨S', h3⟩ := hw.run [] [] (by simp) (by simp)
    refine (tB_iff t).2 ⟨fun x hx => ?_, r, S', h3⟩
    have := hrng x hx
    simp [vB]
    omega
  refine ⟨hB, hw.head, hrng, hcl, fun e he h1 => ?_⟩
  have hee := hE e he
  have hm : mkE e.1 e.2 = e := by unfold mkE; rw [if_pos hee.2.1]
  obtain ⟨i, hi⟩ := hw.all e.1 h1 e.2 (by rw [hm]; exact he) (fun _ => by omega)
  rcases hi with ⟨a, b⟩ | ⟨a, b⟩
  · have := tE_step hB a b
    rwa [hm] at this
  · have := tE_step hB a b
    rwa [mkE_comm (by omega), hm] at this
end Go.Proofs.YtkkplppcgnikoaaGreat
namespace Go.Proofs.YtkkplppcgnikoaaGreat
open Go.RowKit

def ftK (es : List EdgeV) (n : Nat) : Nat → Option (List (List Int))
  | 0 => some []
  | k + 1 => match ftK es n k with
    | none => none
    | some ts => if (k : Int) ∈ ts.flatten then some ts else match wk es n n (k : Int) (-1) [] with
      | none => none
      | some p => some (ts ++ [p.1])
theorem ftK_there {es : List EdgeV} {n k : Nat} {ts : List (List Int)} (h : ftK es n k = some ts) (hk : (k : Int) ∈ ts.flatten) : ftK es n (k + 1) = some ts := by simp only [ftK, h]; rw [if_pos hk]
theorem ftK_new {es : List EdgeV} {n k : Nat} {ts : List (List Int)} {t sn : List Int} (h : ftK es n k = some ts) (hk : (k : Int) ∉ ts.flatten) (hw : wk es n n (k : Int) (-1) [] = some (t, sn)) : ftK es n (k + 1) = some (ts ++ [t]) := by simp only [ftK, h]; rw [if_neg hk, hw]
theorem ftK_ring {es : List EdgeV} {n k : Nat} {ts : List (List Int)} (h : ftK es n k = some ts) (hk : (k : Int) ∉ ts.flatten) (hw : wk es n n (k : Int) (-1) [] = none) : ftK es n (k + 1) = none := by simp only [ftK, h]; rw [if_neg hk, hw]
theorem ftK_none {es : List EdgeV} {n k : Nat} (h : ftK es n k = none) (m : Nat) (hm : k ≤ m) : ftK es n m = none := by
  induction m with
  | zero => obtain rfl : k = 0 := by omega
            exact h
  | succ m ih =>
    by_cases e : k = m + 1
    · subst e; exact h
    · simp only [ftK, ih (by omega)]
theorem ftK_back {es : List EdgeV} {n k : Nat} {ts : List (List Int)} (h : ftK es n (k + 1) = some ts) : ∃ ts', ftK es n k = some ts' := by
  cases h2 : ftK es n k with
  | none => rw [ftK_none h2 (k + 1) (by omega)] at h; cases h
  | some ts' => exact ⟨ts', rfl⟩

structure FtIs (es : List EdgeV) (n k : Nat) (ts : List (List Int)) : Prop where
  tour : ∀ t ∈ ts, ∃ r : Nat, r < k ∧ (∃ sn, wk es n n (r : Int) (-1) [] = some (t, sn)) ∧ t.head? = some (r : Int) ∧ (∀ x ∈ t, (r : Int) ≤ x)
  cov : ∀ v : Nat, v < k → (v : Int) ∈ ts.flatten
  asc : ts.Pairwise fun s t => s.headD 0 < t.headD 0
  apart : ts.Pairwise Apart
theorem ft_any {es : List EdgeV} {n : Nat} (hE : ∀ e ∈ es, 0 ≤ e.1 ∧ e.1 < e.2 ∧ e.2 < (n : Int)) (hn : n ≤ 12) (k : Nat) (hk : k ≤ n) : ∀ {ts : List (List Int)}, ftK es n k = some ts → FtIs es n k ts := by
  induction k with
  | zero =>
    intro ts h
    simp only [ftK, Option.some.injEq] at h
    subst h
    exact ⟨by simp, by omega, List.Pairwise.nil, List.Pairwise.nil⟩
  | succ k ih =>
    intro ts h
    obtain ⟨ts', h'⟩ := ftK_back h
    have hi := ih (by omega) h'
    by_cases hm : (k : Int) ∈ ts'.flatten
    · rw [ftK_there h' hm] at h
      obtain rfl := Option.some.inj h
      refine ⟨fun t ht => ?_, fun v hv => ?_, hi.asc, hi.apart⟩
      · obtain ⟨r, h1, h2⟩ := hi.tour t ht
        exact ⟨r, by omega, h2⟩
      · by_cases e : v = k
        · subst e; exact hm
        · exact hi.cov v (by omega)
    · cases hw : wk es n n (k : Int) (-1) [] with
      | none => rw [ftK_ring h' hm hw] at h; cases h
      | some p =>
        obtain ⟨t, sn⟩ := p
        rw [ftK_new h' hm hw] at h
        obtain rfl := Option.some.inj h
        obtain ⟨hB, hh, hr, hcl, _⟩ := wk_tree hE hn (by omega) (by omega) hw
        have hkt : (k : Int) ∈ t := by
          cases t with
          | nil => simp at hh
          | cons a t => simp at hh; simp [hh]
        have hap : ∀ s ∈ ts', Apart s t := fun s hs x hx hxt => by
          obtain ⟨r, h1, ⟨sn2, h2⟩, h3, h4⟩ := hi.tour s hs
          obtain ⟨hB2, hh2, hr2, hcl2, _⟩ := wk_tree hE hn (by omega) (by omega) h2
          have h5 : (x ∈ s ↔ (k : Int) ∈ s) := by
            have hst := fun e (he : e ∈ tE t) => (show e.1 ∈ s ↔ e.2 ∈ s from by
              exact hcl2 e (wk_along hE n (k : Int) (-1) [] t sn hw e he))
            exact tE_all hB hst hxt hkt
          exact hm (List.mem_flatten.2 ⟨s, hs, h5.1 hx⟩)
        have hlow : ∀ x ∈ t, (k : Int) ≤ x := fun x hx => Classical.byContradiction fun hlt => by
          have hx0 := hr x hx
          have := hi.cov x.toNat (by omega)
          rw [Int.toNat_of_nonneg hx0.1] at this
          obtain ⟨s, hs, hxs⟩ := List.mem_flatten.1 this
          exact hap s hs x hxs hx
        refine ⟨fun s hs => ?_, fun v hv => ?_, ?_, ?_⟩
        · rcases List.mem_append.1 hs with hs | hs
          · obtain ⟨r, h1, h2⟩ := hi.tour s hs
            exact ⟨r, by omega, h2⟩
          · simp at hs
            subst hs
            exact ⟨k, by omega, ⟨sn, hw⟩, hh, hlow⟩
        · by_cases e : v = k
          · subst e; simp [hkt]
          · have := hi.cov v (by omega)
            simp [List.mem_flatten.1 this]
        · rw [List.pairwise_append]
          refine ⟨hi.asc, by simp, fun s hs u hu => ?_⟩
          simp at hu
          subst hu
          obtain ⟨r, h1, _, h3, _⟩ := hi.tour s hs
          cases s with
          | nil => simp at h3
          | cons a s => cases u with
            | nil => simp at hh
            | cons b u => simp at h3 hh ⊢; omega
        · rw [List.pairwise_append]
          refine ⟨hi.apart, by simp, fun s hs u hu => ?_⟩
          simp at hu
          subst hu
          exact hap s hs
theorem ft_some {es : List EdgeV} {n : Nat} (hE : ∀ e ∈ es, 0 ≤ e.1 ∧ e.1 < e.2 ∧ e.2 < (n : Int)) (hBr : Bridge es) (k : Nat) (hk : k ≤ n) : ∃ ts, ftK es n k = some ts := by
  induction k with
  | zero => exact ⟨[], rfl⟩
  | succ k ih =>
    obtain ⟨ts, h⟩ := ih (by omega)
    by_cases hm : (k : Int) ∈ ts.flatten
    · exact ⟨ts, ftK_there h hm⟩
    · obtain ⟨t, sn, h1, _⟩ := wk_ok hE hBr n (k : Int) (-1) [] (by omega) (by omega) (by simp) (by simp) (by simp) ⟨fun _ => True, trivial, by simp, by simp⟩
      exact ⟨_, ftK_new h hm h1⟩
/-- the tours of trees: what they tell -/
structure FtAll (es : List EdgeV) (n : Nat) (ts : List (List Int)) : Prop where
  fp : FP (n : Int) ts
  mn : ∀ t ∈ ts, t.head? = some (mnV t)
  conn : ∀ t ∈ ts, ∀ x ∈ t, ∀ y : Int, y ∈ t ↔ Conn es x y
  cov : ∀ v : Int, 0 ≤ v → v < (n : Int) → ∃ t ∈ ts, v ∈ t
  edge : ∀ e ∈ es, ∀ t ∈ ts, e.1 ∈ t → e ∈ tE t
theorem mn_leF {t : List Int} (hB : tB t = true) {x : Int} (hx : x ∈ t) : mnV t ≤ x := by
  have h := vs_pos hB
  have h0 : (vsL t)[0]? = some ((vsL t)[0]'h) := List.getElem?_eq_getElem h
  rw [mn_first h0]
  obtain ⟨p, hp, e⟩ := List.getElem_of_mem ((vs_mem_of hB).2 hx)
  by_cases e0 : p = 0
  · subst e0; omega
  · have := List.pairwise_iff_getElem.1 (vsK_asc t 12) 0 p h hp (by omega)
    rw [show (vsK t 12)[p]'hp = x from e] at this
    exact Int.le_of_lt this
theorem cnt_all {n : Nat} {ts : List (List Int)} (hn : n ≤ 12) (hap : ts.Pairwise Apart) (hr : ∀ t ∈ ts, ∀ x ∈ t, 0 ≤ x ∧ x < (n : Int)) (hc : ∀ v : Nat, v < n → (v : Int) ∈ ts.flatten) : cnt ts = n := by
  have e : cnt ts = (ts.map vsL).flatten.length := by rw [List.length_flatten, List.map_map]; rfl
  have hvs : ∀ t ∈ ts, ∀ x, x ∈ vsL t ↔ x ∈ t := fun t ht x => by
    rw [vsL_mem]
    exact ⟨fun h => h.2, fun h => ⟨by have := hr t ht x h; simp [vB]; omega, h⟩⟩
  have hnd : (ts.map vsL).flatten.Nodup := by
    unfold List.Nodup
    rw [List.pairwise_flatten]
    refine ⟨fun l hl => ?_, ?_⟩
    · obtain ⟨t, ht, rfl⟩ := List.mem_map.1 hl
      exact vs_nodup t
    · rw [List.pairwise_map]
      refine hap.imp_of_mem fun hs ht h x hx y hy e => ?_
      subst e
      exact h x ((hvs _ hs x).1 hx) ((hvs _ ht x).1 hy)
  have hm : ∀ x, x ∈ (ts.map vsL).flatten ↔ x ∈ (List.range n).map fun j : Nat => (j : Int) := fun x => by
    rw [List.mem_flatten, List.mem_map]
    constructor
    · rintro ⟨l, hl, hx⟩
      obtain ⟨t, ht, rfl⟩ := List.mem_map.1 hl
      have := hr t ht x ((hvs t ht x).1 hx)
      exact ⟨x.toNat, List.mem_range.2 (by omega), by omega⟩
    · rintro ⟨j, hj, rfl⟩
      obtain ⟨t, ht, hx⟩ := List.mem_flatten.1 (hc j (List.mem_range.1 hj))
      exact ⟨vsL t, List.mem_map.2 ⟨t, ht, rfl⟩, (hvs t ht _).2 hx⟩
  have hrn : ((List.range n).map fun j : Nat => (j : Int)).Nodup := by
    unfold List.Nodup
    rw [List.pairwise_map]
    exact (List.nodup_range (n := n)).imp fun h e => h (by omega)
  have h1 := nodup_sub hnd fun x hx => (hm x).1 hx
  have h2 := nodup_sub hrn fun x hx => (hm x).2 hx
  rw [e]
  simp at h1 h2
  simp
  omega
theorem ft_all {es : List EdgeV} {n : Nat} (hE : ∀ e ∈ es, 0 ≤ e.1 ∧ e.1 < e.2 ∧ e.2 < (n : Int)) (hn1 : 1 ≤ n) (hn : n ≤ 12) {ts : List (List Int)} (h : ftK es n n = some ts) : FtAll es n ts := by
  have hi := ft_any hE hn n (Nat.le_refl _) h
  have htr : ∀ t ∈ ts, tB t = true ∧ t.head? = some (mnV t) ∧ (∀ x ∈ t, 0 ≤ x ∧ x < (n : Int)) ∧ (∀ x ∈ t, ∀ y : Int, y ∈ t ↔ Conn es x y) ∧ (∀ e ∈ es, e.1 ∈ t → e ∈ tE t) := fun t ht => by
    obtain ⟨r, h1, ⟨sn, h2⟩, h3, h4⟩ := hi.tour t ht
    obtain ⟨hB, hh, hr, hcl, hal⟩ := wk_tree hE hn (by omega) (by omega) h2
    have hrt : (r : Int) ∈ t := by
      cases t with
      | nil => simp at hh
      | cons a t => simp at hh; simp [hh]
    have hmn : mnV t = (r : Int) := by
      have a := mn_leF hB hrt
      have b := h4 _ (mn_mem hB)
      omega
    refine ⟨hB, by rw [hmn]; exact hh, hr, fun x hx y => ⟨fun hy => ?_, fun hc => hc (fun z => z ∈ t) hcl hx⟩, hal⟩
    exact fun S hS hSx => (tE_all hB (S := S) (fun e he => hS e (wk_along hE n (r : Int) (-1) [] t sn h2 e he)) hx hy).1 hSx
  have hcnt := cnt_all hn hi.apart (fun t ht => (htr t ht).2.2.1) hi.cov
  refine ⟨(FP_iff _ _).2 ⟨by omega, by omega, ⟨fun t ht => ⟨(htr t ht).1, fun x hx => ((htr t ht).2.2.1 x hx).2⟩, hi.apart, by omega⟩, ?_⟩, fun t ht => (htr t ht).2.1, fun t ht => (htr t ht).2.2.2.1, fun v h0 h1 => ?_, fun e he t ht => (htr t ht).2.2.2.2 e he⟩
  · refine hi.asc.imp_of_mem fun {s t} hs ht hlt => ?_
    have e1 := (htr s hs).2.1
    have e2 := (htr t ht).2.1
    cases s with
    | nil => simp at e1
    | cons a s => cases t with
      | nil => simp at e2
      | cons b t => simp at e1 e2 hlt; omega
  · have := hi.cov v.toNat (by omega)
    rw [Int.toNat_of_nonneg h0] at this
    obtain ⟨t, ht, hv⟩ := List.mem_flatten.1 this
    exact ⟨t, ht, hv⟩
/-- no walk met a ring: there is none -/
theorem ft_bridge {es : List EdgeV} {n : Nat} (hE : ∀ e ∈ es, 0 ≤ e.1 ∧ e.1 < e.2 ∧ e.2 < (n : Int)) (hn1 : 1 ≤ n) (hn : n ≤ 12) {ts : List (List Int)} (h : ftK es n n = some ts) : Bridge es := fun e he => by
  have ha := ft_all hE hn1 hn h
  have hee := hE e he
  obtain ⟨t, ht, h1⟩ := ha.cov e.1 (by omega) (by omega)
  have hB : tB t = true := ((FP_iff _ _).1 ha.fp).2.2.1.1 t ht |>.1
  obtain ⟨S, a, b, c⟩ := tE_bridge hB e (ha.edge e he t ht h1)
  have h2 : e.2 ∈ t := (ha.conn t ht e.1 h1 e.2).2 (Conn.edge he)
  refine ⟨fun x => S x ∧ x ∈ t, ⟨a, h2⟩, fun h => b h.1, fun d hd hne => ?_⟩
  by_cases hdt : d.1 ∈ t
  · have hd2 : d.2 ∈ t := (ha.conn t ht d.1 hdt d.2).2 (Conn.edge hd)
    have := c d (ha.edge d hd t ht hdt) hne
    exact ⟨fun h => ⟨this.1 h.1, hd2⟩, fun h => ⟨this.2 h.1, hdt⟩⟩
  · have hd2 : d.2 ∉ t := fun h3 => hdt ((ha.conn t ht d.2 h3 d.1).2 (Conn.edge hd).symm)
    exact ⟨fun h => absurd h.2 hdt, fun h => absurd h.2 hd2⟩
theorem ft_iff {es : List EdgeV} {n : Nat} (hE : ∀ e ∈ es, 0 ≤ e.1 ∧ e.1 < e.2 ∧ e.2 < (n : Int)) (hn1 : 1 ≤ n) (hn : n ≤ 12) : (∃ ts, ftK es n n = some ts) ↔ Bridge es :=
  ⟨fun ⟨_, h⟩ => ft_bridge hE hn1 hn h, fun h => ft_some hE h n (Nat.le_refl _)⟩
end Go.Proofs.YtkkplppcgnikoaaGreat
namespace Go.Proofs.YtkkplppcgnikoaaGreat
open Go.RowKit

def trP (ts : List (List Int)) (v : Int) (k : Nat) : Bool := match ts[k]? with | some t => decide (v ∈ t) | none => false
theorem trP_at {ts : List (List Int)} {v : Int} {k : Nat} {t : List Int} (h : ts[k]? = some t) : trP ts v k = decide (v ∈ t) := by simp [trP, h]
/-- the first place of a tour that v is in, or -1 -/
def trI (ts : List (List Int)) (v : Int) : Int := firstN (trP ts v) ts.length
theorem trI_cases (ts : List (List Int)) (v : Int) : (∃ (k : Nat) (t : List Int), ts[k]? = some t ∧ v ∈ t ∧ trI ts v = (k : Int)) ∨ ((∀ t ∈ ts, v ∉ t) ∧ trI ts v = -1) := by
  rcases firstN_cases (trP ts v) ts.length with ⟨k, hk, h, _, e⟩ | ⟨h, e⟩
  · refine .inl ⟨k, ts[k], List.getElem?_eq_getElem hk, ?_, e⟩
    rw [trP_at (List.getElem?_eq_getElem hk)] at h
    exact of_decide_eq_true h
  · refine .inr ⟨fun t ht hv => ?_, e⟩
    obtain ⟨k, hk⟩ := List.mem_iff_getElem?.1 ht
    have := h k (List.getElem?_eq_some_iff.1 hk).1
    rw [trP_at hk, decide_eq_true hv] at this
    cases this
theorem trI_of {N : Int} {ts : List (List Int)} (h : FQ N ts) {v : Int} {k : Nat} {t : List Int} (hk : ts[k]? = some t) (hv : v ∈ t) : trI ts v = (k : Int) := by
  rcases trI_cases ts v with ⟨j, s, hj, hs, e⟩ | ⟨hn, _⟩
  · rw [e, h.place hj hk hs hv]
  · exact absurd hv (hn t (List.mem_of_getElem? hk))
/-- what TreeOf answers -/
noncomputable def treeO (N : Int) (ts : List (List Int)) (v : Int) : Int := @ite _ (FP N ts) (Classical.propDecidable _) (trI ts v) (-1)
theorem treeO_yes {N : Int} {ts : List (List Int)} (h : FP N ts) (v : Int) : treeO N ts v = trI ts v := by unfold treeO; rw [if_pos h]
theorem treeO_no {N : Int} {ts : List (List Int)} (h : ¬ FP N ts) (v : Int) : treeO N ts v = -1 := by unfold treeO; rw [if_neg h]
theorem treeO_cases (N : Int) (ts : List (List Int)) (v : Int) : (∃ (k : Nat) (t : List Int), FP N ts ∧ ts[k]? = some t ∧ v ∈ t ∧ treeO N ts v = (k : Int)) ∨ ((FP N ts → ∀ t ∈ ts, v ∉ t) ∧ treeO N ts v = -1) := by
  by_cases h : FP N ts
  · rw [treeO_yes h]
    rcases trI_cases ts v with ⟨k, t, h1, h2, h3⟩ | ⟨h1, h2⟩
    · exact .inl ⟨k, t, h, h1, h2, h3⟩
    · exact .inr ⟨fun _ => h1, h2⟩
  · exact .inr ⟨fun h2 => absurd h2 h, treeO_no h v⟩
/-- what SizeOf answers -/
noncomputable def sizeO (N : Int) (ts : List (List Int)) (v : Int) : Int := if treeO N ts v < 0 then 0 else ((vsL ((ts[(treeO N ts v).toNat]?).getD [])).length : Int)
theorem sizeO_yes {N : Int} {ts : List (List Int)} {v : Int} {k : Nat} {t : List Int} (h : treeO N ts v = (k : Int)) (ht : ts[k]? = some t) : sizeO N ts v = ((vsL t).length : Int) := by
  unfold sizeO
  rw [h, if_neg (by omega), Int.toNat_natCast, ht]
  rfl
theorem sizeO_no {N : Int} {ts : List (List Int)} {v : Int} (h : treeO N ts v = -1) : sizeO N ts v = 0 := by
  unfold sizeO
  rw [h, if_pos (by omega)]
end Go.Proofs.YtkkplppcgnikoaaGreat
namespace Go.Proofs.YtkkplppcgnikoaaGreat
open Go.RowKit

/-- a right graph's edges: their ends, each once -/
theorem gB_ends {n : Nat} {es : List EdgeV} (h : gB (n : Int) es = true) : ∀ e ∈ es, 0 ≤ e.1 ∧ e.1 < e.2 ∧ e.2 < (n : Int) := fun e he => by
  have := chk_eB (gB_chk h).2.1 he
  unfold eB at this
  have := of_decide_eq_true this
  omega
theorem gB_nodup {N : Int} {es : List EdgeV} (h : gB N es = true) : es.Nodup := by
  rw [List.Nodup, List.pairwise_iff_getElem]
  intro i j hi hj hij e
  have := asc_of_chk (gB_chk h).2.1 i j _ _ hij (List.getElem?_eq_getElem hi) (List.getElem?_eq_getElem hj)
  rw [e, lt_irrefl'] at this
  cases this
theorem gB_n {N : Int} {es : List EdgeV} (h : gB N es = true) : ∃ n : Nat, N = (n : Int) ∧ 1 ≤ n ∧ n ≤ 12 := by
  have := (gB_chk h).1
  exact ⟨N.toNat, by omega, by omega, by omega⟩
theorem fE_nodup {ls : List Ld} (h : (gE ls).Nodup) (i : Int) : (fE ls i).Nodup := by
  unfold fE
  exact h.sublist ((List.filter_sublist).map _)
theorem fE_ends {n : Nat} {ls : List Ld} (h : gB (n : Int) (gE ls) = true) (i : Int) : ∀ e ∈ fE ls i, 0 ≤ e.1 ∧ e.1 < e.2 ∧ e.2 < (n : Int) := fun e he => gB_ends h e (fE_g he)
/-- all of the forest is of F(0) where no level is below 0 -/
theorem fE_all {ls : List Ld} (h : ∀ x ∈ ls, 0 ≤ x.l) {i : Int} (hi : i ≤ 0) : fE ls i = fE ls 0 := by
  unfold fE
  congr 1
  apply List.filter_congr
  intro x hx
  have := h x hx
  unfold fP
  rw [decide_eq_true (show i ≤ x.l by omega), decide_eq_true this]
/-- level i of a web is right -/
def LvOk (n : Nat) (ls : List Ld) (i : Nat) : Prop := ∃ ts, ftK (fE ls (i : Int)) n n = some ts ∧ (∀ t ∈ ts, 1 < (vsL t).length → (vsL t).length ≤ n / 2 ^ i) ∧ ∀ x ∈ ls, x.t = false → x.l = (i : Int) → trI ts x.a = trI ts x.b
/-- the web is right -/
def WOk (N : Int) (ls : List Ld) : Prop := gB N (gE ls) = true ∧ (∀ x ∈ ls, 0 ≤ x.l ∧ x.l ≤ 4) ∧ ∀ i, i < 5 → LvOk N.toNat ls i
noncomputable def wB (N : Int) (ls : List Ld) : Bool := @decide (WOk N ls) (Classical.propDecidable _)
theorem wB_yes {N : Int} {ls : List Ld} (h : WOk N ls) : wB N ls = true := by unfold wB; exact @decide_eq_true _ (Classical.propDecidable _) h
theorem wB_no {N : Int} {ls : List Ld} (h : ¬ WOk N ls) : wB N ls = false := by unfold wB; exact @decide_eq_false _ (Classical.propDecidable _) h
theorem WOk.bridge {n : Nat} {ls : List Ld} (h : WOk (n : Int) ls) : Bridge (fE ls 0) := by
  obtain ⟨ts, h1, _⟩ := h.2.2 0 (by omega)
  have hg := (gB_chk h.1).1
  rw [Int.toNat_natCast] at h1
  exact ft_bridge (fE_ends h.1 0) (by omega) (by omega) h1
/-- two vertices are in one tour, or not -/
theorem tr_same {es : List EdgeV} {n : Nat} {ts : List (List Int)} (h : FtAll es n ts) {u v : Int} (hu : 0 ≤ u ∧ u < (n : Int)) (hv : 0 ≤ v ∧ v < (n : Int)) : trI ts u = trI ts v ↔ Conn es u v := by
  have hq := h.fp.q
  obtain ⟨t, ht, hut⟩ := h.cov u hu.1 hu.2
  obtain ⟨s, hs, hvs⟩ := h.cov v hv.1 hv.2
  obtain ⟨i, hi⟩ := List.mem_iff_getElem?.1 ht
  obtain ⟨j, hj⟩ := List.mem_iff_getElem?.1 hs
  rw [trI_of hq hi hut, trI_of hq hj hvs]
  constructor
  · intro e
    obtain rfl : i = j := by omega
    rw [hi] at hj
    obtain rfl := Option.some.inj hj
    exact (h.conn t ht u hut v).1 hvs
  · intro hc
    have hvt := (h.conn t ht u hut v).2 hc
    have := trI_of hq hi hvt
    rw [trI_of hq hj hvs] at this
    omega
end Go.Proofs.YtkkplppcgnikoaaGreat
namespace Go.Proofs.YtkkplppcgnikoaaGreat
open Go.RowKit

/-- the least vertex of each vertex's tour -/
def labW (ts : List (List Int)) (nn : Nat) : List Int := (List.range nn).map fun v : Nat => mnV ((ts[(trI ts (v : Int)).toNat]?).getD [])
theorem labW_len (ts : List (List Int)) (nn : Nat) : (labW ts nn).length = nn := by simp [labW]
theorem labW_at {es : List EdgeV} {nn : Nat} {ts : List (List Int)} (h : FtAll es nn ts) {v : Nat} (hv : v < nn) {t : List Int} (ht : t ∈ ts) (hvt : (v : Int) ∈ t) : (labW ts nn)[v]? = some (mnV t) := by
  obtain ⟨k, hk⟩ := List.mem_iff_getElem?.1 ht
  have e := trI_of h.fp.q hk hvt
  simp [labW, hv, e, hk]
/-- a list that tells each tour's first number for each of its vertices is that of the labels -/
theorem labW_of {es : List EdgeV} {nn : Nat} {ts : List (List Int)} (h : FtAll es nn ts) {L : List Int} (hl : L.length = nn) (hL : ∀ t ∈ ts, ∀ v : Nat, (v : Int) ∈ t → L[v]? = t[0]?) : L = labW ts nn := by
  apply List.ext_getElem?
  intro v
  by_cases hv : v < nn
  · obtain ⟨t, ht, hvt⟩ := h.cov (v : Int) (by omega) (by omega)
    rw [hL t ht v hvt, labW_at h hv ht hvt, ← List.head?_eq_getElem?]
    exact h.mn t ht
  · rw [List.getElem?_eq_none (by omega), List.getElem?_eq_none (by rw [labW_len]; omega)]
/-- the ground's trees -/
def gndT (N : Int) (ls : List Ld) : List (List Int) := (ftK (fE ls 0) N.toNat N.toNat).getD []
noncomputable def lbO (N : Int) (ls : List Ld) : List Int := @ite _ (WOk N ls) (Classical.propDecidable _) (labW (gndT N ls) N.toNat) []
theorem lbO_yes {nn : Nat} {ls : List Ld} (h : WOk (nn : Int) ls) {ts : List (List Int)} (hts : ftK (fE ls 0) nn nn = some ts) : lbO (nn : Int) ls = labW ts nn := by
  unfold lbO gndT; rw [if_pos h, Int.toNat_natCast, hts]; rfl
theorem lbO_no {N : Int} {ls : List Ld} (h : ¬ WOk N ls) : lbO N ls = [] := by unfold lbO; rw [if_neg h]
theorem lbO_len (N : Int) (ls : List Ld) : (lbO N ls).length ≤ 12 := by
  by_cases h : WOk N ls
  · obtain ⟨nn, rfl, _, h12⟩ := gB_n h.1
    unfold lbO
    rw [if_pos h, labW_len, Int.toNat_natCast]
    exact h12
  · rw [lbO_no h]; simp
/-- both are in one tree -/
noncomputable def tgB (N : Int) (ls : List Ld) (x y : Int) : Bool := @decide (WOk N ls ∧ (0 ≤ x ∧ x < N) ∧ (0 ≤ y ∧ y < N) ∧ trI (gndT N ls) x = trI (gndT N ls) y) (Classical.propDecidable _)
theorem tgB_iff {N : Int} {ls : List Ld} {x y : Int} : tgB N ls x y = true ↔ (WOk N ls ∧ (0 ≤ x ∧ x < N) ∧ (0 ≤ y ∧ y < N) ∧ trI (gndT N ls) x = trI (gndT N ls) y) := by
  unfold tgB; exact @decide_eq_true_iff _ (Classical.propDecidable _)
theorem tgB_is {N : Int} {ls : List Ld} {x y : Int} {b : Bool} (h : b = true ↔ (WOk N ls ∧ (0 ≤ x ∧ x < N) ∧ (0 ≤ y ∧ y < N) ∧ trI (gndT N ls) x = trI (gndT N ls) y)) : b = tgB N ls x y := by
  rw [Bool.eq_iff_iff, h, tgB_iff]
theorem gndT_is {nn : Nat} {ls : List Ld} {ts : List (List Int)} (hts : ftK (fE ls 0) nn nn = some ts) : gndT (nn : Int) ls = ts := by unfold gndT; rw [Int.toNat_natCast, hts]; rfl
/-- a right web's trees -/
theorem WOk.trees {nn : Nat} {ls : List Ld} (h : WOk (nn : Int) ls) (i : Nat) (hi : i < 5) : ∃ ts, ftK (fE ls (i : Int)) nn nn = some ts ∧ FtAll (fE ls (i : Int)) nn ts := by
  obtain ⟨ts, h1, _⟩ := h.2.2 i hi
  rw [Int.toNat_natCast] at h1
  have hg := (gB_chk h.1).1
  exact ⟨ts, h1, ft_all (fE_ends h.1 _) (by omega) (by omega) h1⟩
end Go.Proofs.YtkkplppcgnikoaaGreat
