/- What hangs together by edges; parents of members: pure. -/
import Derived.Test.YtcppbgkocipnlaaE6
namespace Go.Proofs.Ytcppbgkocipnlaa
open Go.RowKit

/-- edges between n vertices -/
def EsIn (es : List EdgeV) (n : Nat) : Prop := ∀ e ∈ es, 0 ≤ e.1 ∧ e.1 < e.2 ∧ e.2 < (n : Int)

/-- they hang together -/
def Conn (es : List EdgeV) (u v : Int) : Prop := ∀ S : Int → Prop, (∀ e ∈ es, S e.1 ↔ S e.2) → S u → S v

theorem Conn.refl (es : List EdgeV) (u : Int) : Conn es u u := fun _ _ h => h

theorem Conn.trans {es : List EdgeV} {u v x : Int} (h : Conn es u v) (k : Conn es v x) : Conn es u x := fun S hS hu => k S hS (h S hS hu)

theorem Conn.symm {es : List EdgeV} {u v : Int} (h : Conn es u v) : Conn es v u := fun S hS hv => Classical.byContradiction fun hu =>
  h (fun x => ¬ S x) (fun e he => not_congr (hS e he)) hu hv

theorem Conn.edge {es : List EdgeV} {e : EdgeV} (h : e ∈ es) : Conn es e.1 e.2 := fun _ hS h1 => (hS e h).1 h1

theorem Conn.more {es fs : List EdgeV} {u v : Int} (h : Conn es u v) (hs : ∀ e ∈ es, e ∈ fs) : Conn fs u v := fun S hS hu => h S (fun e he => hS e (hs e he)) hu

/-- parents, and where they end -/
structure Uf (es : List EdgeV) (n : Nat) (P : Nat → Option Nat) (R : Nat → Nat) : Prop where
  root : ∀ i, i < n → P i = none → R i = i
  par : ∀ i j, i < n → P i = some j → j < i ∧ R i = R j
  le : ∀ i, i < n → R i ≤ i
  idem : ∀ i, i < n → R (R i) = R i
  conn : ∀ i, i < n → Conn es (i : Int) (R i : Int)
  same : ∀ e ∈ es, R e.1.toNat = R e.2.toNat

theorem Uf.start (n : Nat) : Uf [] n (fun _ => none) (fun i => i) :=
  { root := fun _ _ _ => rfl
    par := fun _ _ _ h => nomatch h
    le := fun _ _ => Nat.le_refl _
    idem := fun _ _ => rfl
    conn := fun _ _ => Conn.refl _ _
    same := fun _ h => absurd h List.not_mem_nil }

/-- the root b gets the parent a -/
def updP (P : Nat → Option Nat) (b a : Nat) : Nat → Option Nat := fun i => if i = b then some a else P i

def updR (R : Nat → Nat) (b a : Nat) : Nat → Nat := fun i => if R i = b then a else R i

theorem Uf.same_more {es : List EdgeV} {n : Nat} {P : Nat → Option Nat} {R : Nat → Nat} (h : Uf es n P R) {e : EdgeV} (he : R e.1.toNat = R e.2.toNat) : Uf (es ++ [e]) n P R :=
  ⟨h.root, h.par, h.le, h.idem, fun i hi => (h.conn i hi).more fun d hd => by simp [hd], fun d hd => by
    rcases List.mem_append.1 hd with h1 | h1
    · exact h.same d h1
    · simp at h1; subst h1; exact he⟩

theorem Uf.join {es : List EdgeV} {n : Nat} {P : Nat → Option Nat} {R : Nat → Nat} (h : Uf es n P R) {e : EdgeV} (hi : 0 ≤ e.1 ∧ e.1 < e.2 ∧ e.2 < (n : Int)) {a b : Nat} (hab : a < b)
    (hx : (R e.1.toNat = a ∧ R e.2.toNat = b) ∨ (R e.1.toNat = b ∧ R e.2.toNat = a)) : Uf (es ++ [e]) n (updP P b a) (updR R b a) := by
  have hbn : b < n := by
    rcases hx with ⟨_, h2⟩ | ⟨h2, _⟩
    · have := h.le e.2.toNat (by omega); omega
    · have := h.le e.1.toNat (by omega); omega
  have ra : R a = a := by
    rcases hx with ⟨h1, _⟩ | ⟨_, h1⟩
    · rw [← h1]; exact h.idem _ (by omega)
    · rw [← h1]; exact h.idem _ (by omega)
  have rb : R b = b := by
    rcases hx with ⟨_, h1⟩ | ⟨h1, _⟩
    · rw [← h1]; exact h.idem _ (by omega)
    · rw [← h1]; exact h.idem _ (by omega)
  have hmore : ∀ {u v : Int}, Conn es u v → Conn (es ++ [e]) u v := fun hc => hc.more fun d hd => by simp [hd]
  have hcab : Conn (es ++ [e]) (b : Int) (a : Int) := by
    have hee : Conn (es ++ [e]) e.1 e.2 := Conn.edge (by simp)
    have c1 := hmore (h.conn e.1.toNat (by omega))
    have c2 := hmore (h.conn e.2.toNat (by omega))
    rw [show ((e.1.toNat : Nat) : Int) = e.1 by omega] at c1
    rw [show ((e.2.toNat : Nat) : Int) = e.2 by omega] at c2
    rcases hx with ⟨h1, h2⟩ | ⟨h1, h2⟩
    · rw [h1] at c1; rw [h2] at c2; exact c2.symm.trans (hee.symm.trans c1)
    · rw [h1] at c1; rw [h2] at c2; exact c1.symm.trans (hee.trans c2)
  refine ⟨?_, ?_, ?_, ?_, ?_, ?_⟩
  · intro i hi hp
    unfold updP at hp
    split at hp
    · cases hp
    · rename_i hib
      have := h.root i hi hp
      unfold updR
      rw [this, if_neg hib]
  · intro i j hi hp
    unfold updP at hp
    split at hp
    · rename_i hib
      simp at hp
      subst hib hp
      refine ⟨hab, ?_⟩
      unfold updR
      rw [rb, if_pos rfl, ra, if_neg (by omega)]
    · have := h.par i j hi hp
      refine ⟨this.1, ?_⟩
      unfold updR
      rw [this.2]
  · intro i hi
    have := h.le i hi
    unfold updR
    split
    · omega
    · exact this
  · intro i hi
    unfold updR
    by_cases h1 : R i = b
    · rw [if_pos h1, ra, if_neg (by omega)]
    · rw [if_neg h1, h.idem i hi, if_neg h1]
  · intro i hi
    have hc := hmore (h.conn i hi)
    unfold updR
    split
    · rename_i h1
      rw [h1] at hc
      exact hc.trans hcab
    · exact hc
  · intro d hd
    unfold updR
    rcases List.mem_append.1 hd with h1 | h1
    · rw [h.same d h1]
    · simp at h1
      subst h1
      rcases hx with ⟨h2, h3⟩ | ⟨h2, h3⟩
      · rw [h2, h3, if_pos rfl, if_neg (by omega)]
      · rw [h2, h3, if_pos rfl, if_neg (by omega)]

end Go.Proofs.Ytcppbgkocipnlaa
