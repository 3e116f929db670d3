/- A list of edges to which one is put that is not there. -/
import Derived.Test.YtcppbgkocipnlaaFnTou
import Derived.Test.YtcppbgkocipnlaaTourE
import Derived.Test.YtcppbgkocipnlaaITourOf
import Derived.Test.YtcppbgkocipnlaaHas6
namespace Go.Proofs.Ytcppbgkocipnlaa
open Go.RowKit

theorem tE_tree {t : List Int} (hB : tB t = true) : TreeP (tE t) := fun q f hf hc => by
  obtain ⟨S, s1, s2, s3⟩ := tE_bridge hB f (List.mem_of_getElem? hf)
  refine s2 (Conn.symm hc S (fun e he => s3 e (List.mem_of_mem_take he) fun e2 => ?_) s1)
  subst e2
  obtain ⟨k, hk⟩ := List.mem_iff_getElem?.1 he
  have hkq : k < q := by have := (List.getElem?_eq_some_iff.1 hk).1; rw [List.length_take] at this; omega
  rw [List.getElem?_take_of_lt hkq] at hk
  obtain ⟨q0, q1⟩ := List.getElem?_eq_some_iff.1 (show (eK t (t.length - 1))[k]? = some e from hk)
  obtain ⟨q2, q3⟩ := List.getElem?_eq_some_iff.1 (show (eK t (t.length - 1))[q]? = some e from hf)
  exact List.pairwise_iff_getElem.1 (eK_nodup t (t.length - 1)) k q q0 q2 hkq (by rw [q1, q3])
theorem tE_ring {t : List Int} (hB : tB t = true) {e : EdgeV} (h1 : e.1 ∈ t) (h2 : e.2 ∈ t) : ¬ TreeP (tE t ++ [e]) := fun h => by
  refine h (tE t).length e (by simp) ?_
  rw [List.take_append_of_le_length (Nat.le_refl _), List.take_of_length_le (Nat.le_refl _)]
  exact fun S hS hs => (tE_all hB hS h1 h2).1 hs
theorem tE_eB {t : List Int} (hB : tB t = true) : ∀ e ∈ tE t, eB 12 e = true := fun e he => by
  have := tE_ends hB e he
  unfold eB
  exact decide_eq_true (by omega)

/-- the pairs of the rows before row i, and of row i those before k, are edges of the tour -/
def Seen (t vs : List Int) (i k : Nat) : Prop := ∀ (p q : Nat) (x y : Int), p < q → vs[p]? = some x → vs[q]? = some y → (p < i ∨ p = i ∧ q < k) → (x, y) ∈ tE t
/-- the ring so far -/
def RP (t vs : List Int) (es : List EdgeV) (i k : Nat) : Prop := (es = tE t ∧ Seen t vs i k) ∨ ∃ e0 : EdgeV, es = tE t ++ [e0] ∧ e0.1 ∈ t ∧ e0.2 ∈ t ∧ e0.1 < e0.2
theorem RP.zero (t vs : List Int) : RP t vs (tE t) 0 1 := .inl ⟨rfl, fun p q x y h _ _ h2 => by omega⟩
theorem RP.row {t vs : List Int} {es : List EdgeV} {i k : Nat} (h : RP t vs es i k) (hk : vs.length ≤ k) : RP t vs es (i + 1) (i + 2) := by
  refine h.imp (fun ⟨h1, h2⟩ => ⟨h1, fun p q x y hpq hx hy hc => ?_⟩) id
  have hq := (List.getElem?_eq_some_iff.1 hy).1
  exact h2 p q x y hpq hx hy (by omega)
theorem RP.no {t vs : List Int} {es : List EdgeV} {i k : Nat} {x y : Int} (h : RP t vs es i k) (hx : vs[i]? = some x) (hy : vs[k]? = some y) (hm : es = tE t → (x, y) ∈ tE t) : RP t vs es i (k + 1) := by
  refine h.imp (fun ⟨h1, h2⟩ => ⟨h1, fun p q x' y' hpq hx' hy' hc => ?_⟩) id
  by_cases hc2 : p = i ∧ q = k
  · obtain ⟨rfl, rfl⟩ := hc2
    rw [hx] at hx'
    rw [hy] at hy'
    cases hx'
    cases hy'
    exact hm h1
  · exact h2 p q x' y' hpq hx' hy' (by omega)
theorem RP.len {t vs : List Int} {es : List EdgeV} {i k : Nat} (h : RP t vs es i k) : es.length ≤ (tE t).length + 1 := by
  rcases h with ⟨rfl, _⟩ | ⟨e0, rfl, _⟩ <;> simp
theorem RP.same {t vs : List Int} {es : List EdgeV} {i k : Nat} (h : RP t vs es i k) (hl : es.length = (tE t).length) : es = tE t := by
  rcases h with ⟨rfl, _⟩ | ⟨e0, rfl, _⟩
  · rfl
  · simp at hl
theorem RP.put {t vs : List Int} {i k j : Nat} {es : List EdgeV} {x y : Int} (h : RP t vs es i k) (hl : es.length = (tE t).length) (hv : vs = vsL t) (hik : i < k) (hx : vs[i]? = some x) (hy : vs[k]? = some y) : RP t vs (es ++ [(x, y)]) i j := by
  have := h.same hl
  subst this hv
  refine .inr ⟨_, rfl, ((vsL_mem t x).1 (List.mem_of_getElem? hx)).2, ((vsL_mem t y).1 (List.mem_of_getElem? hy)).2, ?_⟩
  obtain ⟨q0, q1⟩ := List.getElem?_eq_some_iff.1 hx
  obtain ⟨q2, q3⟩ := List.getElem?_eq_some_iff.1 hy
  have h := List.pairwise_iff_getElem.1 (vsK_asc t 12) i k q0 q2 hik
  show x < y
  rw [← q1, ← q3]
  exact h
theorem RP.all {t : List Int} (hB : tB t = true) (h2 : 2 ≤ (tE t).length) {es : List EdgeV} {i k : Nat} (h : RP t (vsL t) es i k) (hi : (vsL t).length ≤ i) : ∃ e0 : EdgeV, es = tE t ++ [e0] ∧ e0.1 ∈ t ∧ e0.2 ∈ t ∧ e0.1 < e0.2 := by
  rcases h with ⟨rfl, hs⟩ | h
  · exfalso
    obtain ⟨a, b, ha, hb, hab, hn⟩ := tE_gap hB h2
    have hv := ((tB_iff t).1 hB).1
    obtain ⟨p, hp⟩ := List.mem_iff_getElem?.1 ((vsL_mem t a).2 ⟨hv a ha, ha⟩)
    obtain ⟨q, hq⟩ := List.mem_iff_getElem?.1 ((vsL_mem t b).2 ⟨hv b hb, hb⟩)
    obtain ⟨p0, p1⟩ := List.getElem?_eq_some_iff.1 hp
    obtain ⟨q0, q1⟩ := List.getElem?_eq_some_iff.1 hq
    refine hn (hs p q a b ?_ hp hq (by omega))
    rcases Nat.lt_trichotomy p q with h | h | h
    · exact h
    · subst h
      rw [p1] at q1
      omega
    · have h := List.pairwise_iff_getElem.1 (vsK_asc t 12) q p q0 p0 h
      rw [show (vsK t 12)[q]'q0 = b from q1, show (vsK t 12)[p]'p0 = a from p1] at h
      omega
  · exact h
theorem RP.eB {t : List Int} (hB : tB t = true) {e0 : EdgeV} (h1 : e0.1 ∈ t) (h2 : e0.2 ∈ t) (h3 : e0.1 < e0.2) : ∀ e ∈ tE t ++ [e0], Go.Proofs.Ytcppbgkocipnlaa.eB 12 e = true := fun e he => by
  rcases List.mem_append.1 he with h | h
  · exact tE_eB hB e h
  · simp at h
    subst h
    have v1 := ((tB_iff t).1 hB).1 _ h1
    have v2 := ((tB_iff t).1 hB).1 _ h2
    unfold vB at v1 v2
    have v1 := of_decide_eq_true v1
    have v2 := of_decide_eq_true v2
    unfold Go.Proofs.Ytcppbgkocipnlaa.eB
    exact decide_eq_true (by omega)

theorem Es.newsR {w : World} {B b off n : Nat} {es : List EdgeV} (h : Es w B (some ⟨b, off, none⟩) n es) : ∀ j u, (ecells es)[j]? = some u → w.cell? ((⟨b, off, none⟩ : Addr).add j) = some u := by
  intro j u hj
  have hl : j < es.length * 2 := by have := (List.getElem?_eq_some_iff.1 hj).1; rw [ecells_length] at this; exact this
  have hn := h.1
  rcases h.2 with h0 | ⟨b', off', hb, _, hc⟩
  · omega
  · simp at hb
    obtain ⟨rfl, rfl⟩ := hb
    obtain ⟨f, hf⟩ : ∃ f, es[j / 2]? = some f := ⟨es[j / 2]'(by omega), List.getElem?_eq_getElem (by omega)⟩
    obtain ⟨c0, c1⟩ := hc _ f hf
    obtain ⟨d0, d1⟩ := ecells_at es _ f hf
    rw [show ((⟨b, off, none⟩ : Addr).add j) = ⟨b, off + j, none⟩ by by_cases h0 : j = 0 <;> simp [Addr.add, h0]]
    rcases (show j = j / 2 * 2 ∨ j = j / 2 * 2 + 1 by omega) with e | e
    · rw [← e] at d0 c0
      rw [d0] at hj
      rw [c0]
      exact hj
    · rw [← e] at d1
      rw [Nat.add_assoc, ← e] at c1
      rw [d1] at hj
      rw [c1]
      exact hj
theorem ecells_oneR {es : List EdgeV} : ∀ u ∈ ecells es, u.oneCell' = true := by
  intro u hu
  simp only [ecells, List.mem_flatMap] at hu
  obtain ⟨e, _, he⟩ := hu
  simp [ecell] at he
  rcases he with rfl | rfl <;> rfl

/-- the drawn tour, its vertices, and a list of edges stand -/
structure TRg (w : World) (B g m : Nat) (t : List Int) (gv nv : Nat) (vs : List Int) (a : Option Addr) (ne c : Nat) (es : List EdgeV) (u : World) : Prop where
  good : Good w u
  it : Is u u.heap.size (some ⟨g, 0, none⟩) m t
  low : g < B
  iv : Is u u.heap.size (some ⟨gv, 0, none⟩) nv vs
  vlow : gv < B
  base : w.heap.size ≤ B
  own : u.ownsRow B 40 2 (.slice a ne c) ne (ecells es)
  high : B ≤ u.heap.size
theorem TRg.up {w : World} {B g m : Nat} {t : List Int} {gv nv : Nat} {vs : List Int} {a : Option Addr} {ne c : Nat} {es : List EdgeV} {u v : World} (h : TRg w B g m t gv nv vs a ne c es u) (hb : Below u.heap.size u v) : TRg w B g m t gv nv vs a ne c es v :=
  ⟨h.good.up hb, h.it.up hb, h.low, h.iv.up hb, h.vlow, h.base, own_up h.own hb, Nat.le_trans h.high hb.size⟩
theorem TRg.len {w : World} {B g m : Nat} {t : List Int} {gv nv : Nat} {vs : List Int} {a : Option Addr} {ne c : Nat} {es : List EdgeV} {u : World} (h : TRg w B g m t gv nv vs a ne c es u) : es.length = ne := by have := h.own.1; rw [ecells_length] at this; omega
theorem TRg.es {w : World} {B g m : Nat} {t : List Int} {gv nv : Nat} {vs : List Int} {a : Option Addr} {ne c : Nat} {es : List EdgeV} {u : World} (h : TRg w B g m t gv nv vs a ne c es u) : Es u u.heap.size a ne es := Es_of_own h.own
theorem is_grown {u u' : World} {B g m : Nat} {t : List Int} (h : Is u u.heap.size (some ⟨g, 0, none⟩) m t) (hb : Below B u u') (hg : g < B) (hs : u.heap.size ≤ u'.heap.size) : Is u' u'.heap.size (some ⟨g, 0, none⟩) m t := by
  refine ⟨h.1, h.2.imp id ?_⟩
  rintro ⟨b, off, h1, h2, h3⟩
  simp at h1
  obtain ⟨rfl, rfl⟩ := h1
  exact ⟨g, 0, rfl, by omega, fun q y hy => by rw [hb.cell (p := ⟨g, _, none⟩) hg]; exact h3 q y hy⟩
theorem TRg.app {w : World} {B g m : Nat} {t : List Int} {gv nv : Nat} {vs : List Int} {a : Option Addr} {ne c : Nat} {es : List EdgeV} {u : World} (h : TRg w B g m t gv nv vs a ne c es u) {xs : List EdgeV} {a' : Option Addr} {cap k2 : Nat} {u' : World}
    (ho : u'.ownsRow B 40 2 (.slice a' k2 cap) k2 (ecells es ++ ecells xs)) (hg : u.grownBy u' (Value.slice a ne c).ownBlock) : TRg w B g m t gv nv vs a' k2 cap (es ++ xs) u' := by
  have hb : Below B u u' := (Below.refl _ u).grown hg h.high (fun j hj => (h.own.lt j hj).1)
  exact ⟨Below.trans h.good (hb.mono h.base), is_grown h.it hb h.low hg.size, h.low, is_grown h.iv hb h.vlow hg.size, h.vlow, h.base, by rw [ecells_append]; exact ho, Nat.le_trans h.high hg.size⟩
end Go.Proofs.Ytcppbgkocipnlaa
