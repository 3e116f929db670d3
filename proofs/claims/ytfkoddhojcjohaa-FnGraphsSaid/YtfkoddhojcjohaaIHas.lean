/- The library's Index and Contains over edges; the program's HasEdge. -/
import Derived.Test.YtfkoddhojcjohaaSHas
namespace Go.Proofs.Ytfkoddhojcjohaa
open Go.RowKit

theorem idxOf_le {es : List EdgeV} {e : EdgeV} {k : Nat} (h : es[k]? = some e) : es.idxOf e ≤ k := by
  induction es generalizing k with
  | nil => simp at h
  | cons x es ih =>
    rw [List.idxOf_cons]
    by_cases hx : x = e
    · simp [hx]
    · cases k with
      | zero => simp at h; exact absurd h hx
      | succ k =>
        have h1 := ih (k := k) (by simpa using h)
        have h2 : (x == e) = false := by simpa using hx
        rw [h2]
        simp
        omega

/-- the place of an edge -/
def idxE (es : List EdgeV) (e : EdgeV) : Int := if e ∈ es then (es.idxOf e : Int) else -1
theorem idxE_yes {es : List EdgeV} {e : EdgeV} {k : Nat} (h : es[k]? = some e) (hn : ∀ j, j < k → es[j]? ≠ some e) : idxE es e = (k : Int) := by
  have hm : e ∈ es := List.mem_of_getElem? h
  unfold idxE
  rw [if_pos hm]
  have h1 := List.idxOf_lt_length_iff.2 hm
  have h2 : es[es.idxOf e]? = some e := by rw [List.getElem?_eq_getElem h1, List.getElem_idxOf h1]
  have h3 : ¬ es.idxOf e < k := fun h4 => hn _ h4 h2
  have h5 : es.idxOf e ≤ k := idxOf_le h
  omega
theorem idxE_no {es : List EdgeV} {e : EdgeV} (h : ∀ j, j < es.length → es[j]? ≠ some e) : idxE es e = -1 := by
  unfold idxE
  rw [if_neg]
  intro hm
  obtain ⟨j, hj, rfl⟩ := List.getElem_of_mem hm
  exact h j hj (List.getElem?_eq_getElem hj)
theorem idxE_has (es : List EdgeV) (e : EdgeV) : decide (0 ≤ idxE es e) = hasB es e := by
  unfold idxE hasB
  by_cases h : e ∈ es
  · rw [if_pos h]; simp [h]
  · rw [if_neg h]; simp [h]

set_option maxHeartbeats 1000000 in
theorem Index_any (es : List EdgeV) (e : EdgeV) (n : Nat) (a : Option Addr) (c : Nat) (hn : n ≤ 1048576) (w : World) (h : Es w w.heap.size a n es) :
    Calls Try.prog 41 #[.slice a n c, .agg #[.int .i64 e.1, .int .i64 e.2]] w fun x w' => x = .returned (.int .i64 (idxE es e)) ∧ Below w.heap.size w w' := by
  obtain ⟨hlen, hrow⟩ := h
  have HR := hideIt hrow
  clear hrow
  go_enter Try.func41, Try.ntmps41
  go_wp2
  go_loopw [8] (fun i wr => ∃ k : Nat, k ≤ n ∧ i = .int .i64 (k : Int) ∧ Hid (∀ j, j < k → es[j]? ≠ some e) ∧ Below w.heap.size w wr ∧ wr.cell? ⟨w.heap.size, 0, none⟩ = some (.int .i64 e.1) ∧ wr.cell? ⟨w.heap.size, 1, none⟩ = some (.int .i64 e.2)) (fun i _ => n - (intOf i).toNat)
  case atStart => exact ⟨0, by omega, rfl, fun j hj => by omega, (Below.refl _ _).alloc (Nat.le_refl _) _, by simp, by simp⟩
  case round =>
    obtain ⟨k, hk, rfl, hck, hb, x0, x1⟩ := hrel
    by_cases hlt : k < n
    · rcases HR.out with hz | ⟨b, off, rfl, hbl, hc⟩
      · omega
      · obtain ⟨f, hf⟩ : ∃ f, es[k]? = some f := ⟨es[k]'(by omega), List.getElem?_eq_getElem (by omega)⟩
        obtain ⟨c0, c1⟩ := hc k f hf
        have e0 : wr.cell? ⟨b, off + k * 2, none⟩ = some (.int .i64 f.1) := by rw [hb.cell hbl]; exact c0
        have e1 : wr.cell? ⟨b, off + k * 2 + 1, none⟩ = some (.int .i64 f.2) := by rw [hb.cell hbl]; exact c1
        have b1 : (0 : Int) ≤ (k : Int) := by omega
        have b2 : (k : Int) < (n : Int) := by omega
        by_cases hfe : f = e
        · subst hfe
          have HY := hideIt (idxE_yes hf hck.out)
          clear hf hc c0 c1 hck
          go_wp2
          go_quiet (fail)
          go_wp2
          go_ret
          exact ⟨by rw [HY.out]; rfl, below_drewN hb _⟩
        · have HN : Hid (∀ j, j < k + 1 → es[j]? ≠ some e) := fun j hj => by
            by_cases hjk : j = k
            · subst hjk; rw [hf]; exact fun hh => hfe (Option.some.inj hh)
            · exact hck.out j (by omega)
          clear hf hc c0 c1 hck
          by_cases h1 : e.1 = f.1
          · have h2 : ¬ e.2 = f.2 := fun h2 => hfe (Prod.ext h1.symm h2.symm)
            rw [← h1] at e0
            have d2 : (e.2 == f.2) = false := by simpa using h2
            clear hfe
            go_wp2
            go_quiet (fail)
            go_wp2
            exact ⟨⟨k + 1, by omega, by go_num, HN, below_drewN hb _, x0, x1⟩, by simp [intOf]; omega⟩
          · have d1 : (e.1 == f.1) = false := by simpa using h1
            clear hfe
            go_wp2
            go_quiet (fail)
            go_wp2
            exact ⟨⟨k + 1, by omega, by go_num, HN, below_drewN hb _, x0, x1⟩, by simp [intOf]; omega⟩
    · have HN := hideIt (idxE_no (es := es) (e := e) (fun j hj => hck.out j (by omega)))
      clear hck
      go_wp2
      go_ret
      exact ⟨by rw [HN.out]; rfl, hb⟩

theorem Contains_any (es : List EdgeV) (e : EdgeV) (n : Nat) (a : Option Addr) (c : Nat) (hn : n ≤ 1048576) (w : World) (h : Es w w.heap.size a n es) :
    Calls Try.prog 38 #[.slice a n c, .agg #[.int .i64 e.1, .int .i64 e.2]] w fun x w' => x = .returned (.bool (hasB es e)) ∧ Below w.heap.size w w' := by
  have HT := hideIt (Index_any es e n a c hn (w.alloc (.cells #[.int .i64 e.1, .int .i64 e.2] 28)) ((h.alloc (Nat.le_refl _) _).mono (by simp)))
  have HI := idxE_has es e
  clear h
  generalize idxE es e = r at HT HI
  generalize hasB es e = q at HI
  go_enter Try.func38, Try.ntmps38
  go_wp2_with (go_at_call 41; refine HT.out.mono ?_; rintro e w1 ⟨rfl, hb1⟩)
  go_ret
  exact ⟨rfl, ((Below.refl _ _).alloc (Nat.le_refl _) _).trans (hb1.mono (by simp))⟩

theorem iHasEdge_any (N : Int) (es : List EdgeV) (e : EdgeV) (n : Nat) (a : Option Addr) (c : Nat) (hn : n ≤ 1048576) (w : World) (h : Es w w.heap.size a n es) :
    Calls Try.prog 12 #[.agg #[.int .i64 N, .slice a n c], .agg #[.int .i64 e.1, .int .i64 e.2]] w fun x w' => x = .returned (.bool (hasB es e)) ∧ Below w.heap.size w w' := by
  have HT := hideIt (Contains_any es e n a c hn ((w.alloc (.cells #[.int .i64 N, .slice a n c] 26)).alloc (.cells #[.int .i64 e.1, .int .i64 e.2] 28)) (((h.alloc (Nat.le_refl _) _).alloc (by simp) _).mono (by simp; omega)))
  clear h
  go_enter Try.func12, Try.ntmps12
  go_wp2_with (go_at_call 38; refine HT.out.mono ?_; rintro e w1 ⟨rfl, hb1⟩)
  go_ret
  exact ⟨rfl, (((Below.refl _ _).alloc (Nat.le_refl _) _).alloc (by simp) _).trans (hb1.mono (by simp; omega))⟩
end Go.Proofs.Ytfkoddhojcjohaa
