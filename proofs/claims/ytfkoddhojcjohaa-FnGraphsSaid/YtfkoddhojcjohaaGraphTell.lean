/- An edge that comes and goes. (sameEdges; the rest is no walk.) -/
import Derived.Test.YtfkoddhojcjohaaDrawR
import Derived.Test.YtfkoddhojcjohaaITake
import Derived.Test.YtfkoddhojcjohaaSAdd
namespace Go.Proofs.Ytfkoddhojcjohaa
open Go.RowKit

theorem asc_ext : ∀ {l1 l2 : List EdgeV}, (l1.Pairwise fun d e => lt d e = true) → (l2.Pairwise fun d e => lt d e = true) → (∀ x, x ∈ l1 ↔ x ∈ l2) → l1 = l2 := by
  intro l1
  induction l1 with
  | nil =>
    intro l2 _ _ h
    cases l2 with
    | nil => rfl
    | cons y l2 => exact absurd ((h y).2 (by simp)) (by simp)
  | cons x l1 ih =>
    intro l2 h1 h2 h
    cases l2 with
    | nil => exact absurd ((h x).1 (by simp)) (by simp)
    | cons y l2 =>
      obtain ⟨a1, b1⟩ := List.pairwise_cons.1 h1
      obtain ⟨a2, b2⟩ := List.pairwise_cons.1 h2
      have ne1 : ∀ z ∈ l1, z ≠ x := fun z hz e => by subst e; have := a1 z hz; rw [lt_irrefl'] at this; cases this
      have ne2 : ∀ z ∈ l2, z ≠ y := fun z hz e => by subst e; have := a2 z hz; rw [lt_irrefl'] at this; cases this
      have hxy : x = y := by
        have hx := (h x).1 (by simp)
        have hy := (h y).2 (by simp)
        rcases List.mem_cons.1 hx with e | hx
        · exact e
        · rcases List.mem_cons.1 hy with e | hy
          · exact e.symm
          · have h3 := a2 x hx
            have h4 := a1 y hy
            rw [lt_asymm' h3] at h4
            cases h4
      subst hxy
      rw [ih b1 b2 fun z => ?_]
      constructor
      · intro hz
        rcases List.mem_cons.1 ((h z).1 (by simp [hz])) with e | hz'
        · exact absurd e (ne1 z hz)
        · exact hz'
      · intro hz
        rcases List.mem_cons.1 ((h z).2 (by simp [hz])) with e | hz'
        · exact absurd e (ne2 z hz)
        · exact hz'
theorem mem_put (es : List EdgeV) (e d : EdgeV) : d ∈ putE es e ↔ d = e ∨ (d ∈ es ∧ d ≠ e) := by
  unfold putE
  rw [List.mem_append, List.mem_append, List.mem_filter, List.mem_filter]
  simp only [List.mem_cons, List.not_mem_nil, or_false]
  constructor
  · rintro ((⟨h1, h2⟩ | h) | ⟨h1, h2⟩)
    · exact .inr ⟨h1, fun h => by subst h; rw [lt_irrefl'] at h2; cases h2⟩
    · exact .inl h
    · exact .inr ⟨h1, fun h => by subst h; rw [lt_irrefl'] at h2; cases h2⟩
  · rintro (h | ⟨h1, h2⟩)
    · exact .inl (.inr h)
    · cases h3 : lt d e with
      | true => exact .inl (.inl ⟨h1, rfl⟩)
      | false => exact .inr ⟨h1, lt_total' h3 h2⟩
theorem mem_out (es : List EdgeV) (e d : EdgeV) : d ∈ outE es e ↔ d ∈ es ∧ d ≠ e := by
  unfold outE
  rw [List.mem_filter, decide_eq_true_eq]
theorem asc_out {es : List EdgeV} {e : EdgeV} (h : Asc es) : Asc (outE es e) := asc_of_pairwise ((pairwise_asc' h).filter _)
theorem put_out {es : List EdgeV} {e : EdgeV} (h : Asc es) (he : e ∈ es) : putE (outE es e) e = es := by
  refine asc_ext (pairwise_asc' (asc_put (asc_out h))) (pairwise_asc' h) fun d => ?_
  rw [mem_put, mem_out]
  constructor
  · rintro (rfl | ⟨⟨h1, _⟩, _⟩)
    · exact he
    · exact h1
  · intro hd
    by_cases hde : d = e
    · exact .inl hde
    · exact .inr ⟨⟨hd, hde⟩, hde⟩
theorem out_put {es : List EdgeV} {e : EdgeV} (h : Asc es) (he : e ∉ es) : outE (putE es e) e = es := by
  refine asc_ext (pairwise_asc' (asc_out (asc_put h))) (pairwise_asc' h) fun d => ?_
  rw [mem_out, mem_put]
  constructor
  · rintro ⟨h1 | h1, h2⟩
    · exact absurd h1 h2
    · exact h1.1
  · intro hd
    have hde : d ≠ e := fun hh => he (hh ▸ hd)
    exact ⟨.inr ⟨hd, hde⟩, hde⟩
theorem GR.out {nn : Nat} {es : List EdgeV} {k : Nat} (h : GR nn es k) (e : EdgeV) : GR nn (outE es e) k :=
  ⟨h.n2, h.n12, chk_of (fun d hd => chk_eB h.ok ((mem_out es e d).1 hd).1) (asc_out (asc_of_chk h.ok)), Nat.le_trans (outE_length es e) h.len⟩
theorem has_put (es : List EdgeV) (e : EdgeV) : hasB (putE es e) e = true := decide_eq_true ((mem_put es e e).2 (.inl rfl))
theorem has_out (es : List EdgeV) (e : EdgeV) : hasB (outE es e) e = false := decide_eq_false fun h => ((mem_out es e e).1 h).2 rfl

theorem Sl_of_own {w : World} {B e s m c : Nat} {a : Option Addr} {xs : List Value} (h : w.ownsRow B e s (.slice a m c) m xs) : Sl a m c := by
  rcases h.2 with ⟨hv, h0⟩ | ⟨g, cap', cur, hv, _, _, h1, h2, _, _⟩
  · simp at hv
    obtain ⟨rfl, rfl, rfl⟩ := hv
    exact ⟨Nat.le_refl _, by unfold maxLen; omega, .inl ⟨rfl, rfl, rfl⟩⟩
  · simp at hv
    obtain ⟨rfl, rfl⟩ := hv
    exact ⟨h1, h2, .inr ⟨g, 0, rfl⟩⟩

set_option maxHeartbeats 1000000 in
theorem sameEdges_same (fs : List EdgeV) (n : Nat) (a a' : Option Addr) (c c' : Nat) (hn : n ≤ 1048576) (w : World) (h : Es w w.heap.size a n fs) (h' : Es w w.heap.size a' n fs) :
    Calls Try.prog 16 #[.slice a n c, .slice a' n c'] w fun e w' => e = .returned (.bool true) ∧ Below w.heap.size w w' := by
  obtain ⟨hlen, hrow⟩ := h
  obtain ⟨_, hrow'⟩ := h'
  have HR := hideIt hrow
  have HR' := hideIt hrow'
  clear hrow hrow'
  have dn : ((n : Int) != (n : Int)) = false := by simp
  go_enter Try.func16, Try.ntmps16
  go_wp2
  go_loopw [5] (fun i wr => ∃ k : Nat, k ≤ n ∧ i = .int .i64 (k : Int) ∧ Below w.heap.size w wr) (fun i _ => n - (intOf i).toNat)
  case atStart => exact ⟨0, by omega, rfl, Below.refl _ _⟩
  case round =>
    obtain ⟨k, hk, rfl, hb⟩ := hrel
    by_cases hlt : k < n
    · rcases HR.out with hz | ⟨b, off, rfl, hbl, hc⟩
      · omega
      · rcases HR'.out with hz | ⟨b', off', rfl, hbl', hc'⟩
        · omega
        · obtain ⟨f, hf⟩ : ∃ f, fs[k]? = some f := ⟨fs[k]'(by omega), List.getElem?_eq_getElem (by omega)⟩
          obtain ⟨c0, c1⟩ := hc k f hf
          obtain ⟨d0, d1⟩ := hc' k f hf
          have e0 : wr.cell? ⟨b, off + k * 2, none⟩ = some (.int .i64 f.1) := by rw [hb.cell hbl]; exact c0
          have e1 : wr.cell? ⟨b, off + k * 2 + 1, none⟩ = some (.int .i64 f.2) := by rw [hb.cell hbl]; exact c1
          have e3 : wr.cell? ⟨b', off' + k * 2, none⟩ = some (.int .i64 f.1) := by rw [hb.cell hbl']; exact d0
          have e4 : wr.cell? ⟨b', off' + k * 2 + 1, none⟩ = some (.int .i64 f.2) := by rw [hb.cell hbl']; exact d1
          have b1 : (0 : Int) ≤ (k : Int) := by omega
          have b2 : (k : Int) < (n : Int) := by omega
          clear c0 c1 d0 d1 hc hc' hf
          go_wp2
          go_quiet (fail)
          go_wp2
          exact ⟨⟨k + 1, by omega, by go_num, below_drewN hb _⟩, by simp [intOf]; omega⟩
    · go_wp2
      go_ret
      exact ⟨rfl, hb⟩

/-- a graph in a box, below -/
structure BG (u : World) (X : Nat) (M : Int) (a : Option Addr) (m c : Nat) (es : List EdgeV) : Prop where
  c0 : u.cell? ⟨X, 0, none⟩ = some (.int .i64 M)
  c1 : u.cell? ⟨X, 1, none⟩ = some (.slice a m c)
  row : Es u u.heap.size a m es
  sl : Sl a m c
  lt : X < u.heap.size
theorem BG.up {u v : World} {X : Nat} {M : Int} {a : Option Addr} {m c : Nat} {es : List EdgeV} (h : BG u X M a m c es) (hb : Below u.heap.size u v) : BG v X M a m c es :=
  ⟨by rw [hb.cell h.lt]; exact h.c0, by rw [hb.cell h.lt]; exact h.c1, h.row.up hb, h.sl, Nat.lt_of_lt_of_le h.lt hb.size⟩
theorem BG.laid {u : World} {B : Nat} {M : Int} {a : Option Addr} {m c : Nat} {es : List EdgeV} (ho : u.ownsRow B 28 2 (.slice a m c) m (ecells es)) : BG (u.alloc (.cells #[.int .i64 M, .slice a m c] 26)) u.heap.size M a m c es :=
  ⟨by simp, by simp, (Es_of_own ho).up ((Below.refl _ _).alloc (Nat.le_refl _) _), Sl_of_own ho, by simp⟩
end Go.Proofs.Ytfkoddhojcjohaa
