/- The specification's SplitTour. -/
import Derived.Test.YtcppbgkocipnlabSRer
import Derived.Test.YtcppbgkocipnlabSplit
import Derived.Maps.AppendAt
namespace Go.Proofs.Ytcppbgkocipnlab
open Go.RowKit

/-- a row that is ours is lengthened by a list that stands elsewhere -/
theorem app_row {x : World} {base gr m c : Nat} {ls xs : List Int} {ad : Addr} {k cc : Nat} (hown : x.ownsRow base 3 1 (.slice (some ⟨gr, 0, none⟩) m c) m (ic ls)) (hl : xs.length = k) (hnews : ∀ j u, (ic xs)[j]? = some u → x.cell? (ad.add j) = some u) (hm : m + k ≤ 5000000) (hb : base ≤ x.heap.size) :
    ∃ g cap y, (Builtin.append_ #[22, 22] 22 #[.slice (some ⟨gr, 0, none⟩) m c, .slice (some ad) k cc]).run Try.prog x = .ok (.slice (some ⟨g, 0, none⟩) (m + k) cap) y ∧ y.ownsRow base 3 1 (.slice (some ⟨g, 0, none⟩) (m + k) cap) (m + k) (ic (ls ++ xs)) ∧ x.grownBy y (some gr) ∧ (g = gr ∨ g = x.heap.size) := by
  obtain ⟨i0, hi, hz0, hz1, hz2⟩ := info_parts info3i
  obtain ⟨v', y, hr, h2, h3, h4, h5⟩ := run_append_own_at (P := Try.prog) x base 22 22 3 i0 _ 1 8 Try.underlying22 hi hz0 hz1 hz2 rfl (by decide) _ m _ hown ad k cc (ic xs) (by rw [ic_len]; omega) hnews ic_one (by unfold maxLen; omega) (by omega) hb
  rw [← ic_append] at h2
  rcases h2.2 with ⟨h6, _⟩ | ⟨g, cap, cur, h6, _⟩
  · exact absurd (h4.1 h6).1 (by simp)
  · subst h6
    refine ⟨g, cap, y, hr, h2, h3, ?_⟩
    rcases h5 with h5 | h5
    · simp [Value.ownBlock] at h5; exact .inl h5
    · simp [Value.ownBlock] at h5; exact .inr h5
/-- an append, at a step of a region that draws its order: as its run says -/
theorem step_app {P : Program} {ops : Array Oper} {o : Oper} {a : Go.Act} {w : World} {K : Go.Act → World → Prop} {Q : Exit → Go.Act → World → Prop} {E : Prop} (hgd : o.guard = none) (s x : Operand) (t : TypeId)
    (ho : o.op = .call { callee := .builtin .append, args := #[s, x], argTypes := #[t, t] }) {v v2 v' : Value} {w' : World} (hs : a.eval s = v) (hx : a.eval x = v2) (hr : (Builtin.append_ #[t, t] o.type #[v, v2]).run P w = .ok v' w') (hK : K (a.put o.dst v') w') :
    if Region.wanted o (yielded ops a.tmps) = true then Oper.wp P o a w K Q else E := by
  have hw : Region.wanted o (yielded ops a.tmps) = true := by simp [Region.wanted, hgd]
  rw [if_pos hw]
  unfold Oper.wp
  simp [execOp, ho, resolve, invoke, builtin, hs, hx, hr, Result.andThen]
  exact hK
theorem s2_no {w u : World} {o : List Int × List Int × Bool} (ho : o = ([], [], false)) {g : Nat} (hown : u.ownsRow w.heap.size 3 1 (.slice (some ⟨g, 0, none⟩) 0 0) 0 (ic [])) (h : Below w.heap.size w u) : S2Ans w o (.returned (.tuple #[.slice (some ⟨g, 0, none⟩) 0 0, .slice (some ⟨g, 0, none⟩) 0 0, .bool false])) u := by
  subst ho
  exact ⟨_, 0, 0, _, 0, 0, rfl, RBox.laid hown, RBox.laid hown, h⟩
theorem s2_yes {w u : World} {o : List Int × List Int × Bool} {t : List Int} {d q : Nat} (ho : o = spT t d q) {g m c g' m' c' : Nat} (h1 : u.ownsRow w.heap.size 3 1 (.slice (some ⟨g, 0, none⟩) m c) m (ic (t.take (d + 1) ++ t.drop (q + 2)))) (h2 : u.ownsRow w.heap.size 3 1 (.slice (some ⟨g', 0, none⟩) m' c') m' (ic ((t.take (q + 1)).drop (d + 1)))) (h : Below w.heap.size w u) :
    S2Ans w o (.returned (.tuple #[.slice (some ⟨g, 0, none⟩) m c, .slice (some ⟨g', 0, none⟩) m' c', .bool true])) u := by
  subst ho
  exact ⟨_, m, c, _, m', c', rfl, RBox.laid h1, RBox.laid h2, h⟩
theorem own_grown {x y : World} {B g m c gr : Nat} {xs : List Value} (h : x.ownsRow B 3 1 (.slice (some ⟨g, 0, none⟩) m c) m xs) (hg : x.grownBy y (some gr)) (hne : g ≠ gr) : y.ownsRow B 3 1 (.slice (some ⟨g, 0, none⟩) m c) m xs :=
  World.ownsRow.kept h hg (.inr (by simp [Value.ownBlock]; exact fun e => hne e))
theorem own_empty (x : World) (B : Nat) (h : B ≤ x.heap.size) : (x.alloc (.cells #[] 3)).ownsRow B 3 1 (.slice (some ⟨x.heap.size, 0, none⟩) 0 0) 0 (ic []) := by
  have h0 := World.ownsRow_lit (base := B) (e := 3) (size := 1) x #[] 0 h (by unfold maxLen; omega) (by simp)
  simpa [ic] using h0
/-- two rows, the one lengthened, the other made of nothing, in the three orders -/
theorem app_two {w x : World} {gr m c : Nat} {ls xs ys : List Int} {ad1 ad2 : Addr} {k1 cc1 k2 cc2 : Nat} (hB : Below w.heap.size w x) (hown : x.ownsRow w.heap.size 3 1 (.slice (some ⟨gr, 0, none⟩) m c) m (ic ls))
    (h1 : Is w w.heap.size (some ad1) k1 xs) (h2 : Is w w.heap.size (some ad2) k2 ys) (ha1 : ad1.spot = none) (ha2 : ad2.spot = none) (hs : m + k1 + k2 ≤ 4000000) :
    (∃ g cap y g' cap' z, (Builtin.append_ #[22, 22] 22 #[.slice (some ⟨gr, 0, none⟩) m c, .slice (some ad1) k1 cc1]).run Try.prog x = .ok (.slice (some ⟨g, 0, none⟩) (m + k1) cap) y ∧
      (Builtin.append_ #[22, 22] 22 #[.slice (some ⟨y.heap.size, 0, none⟩) 0 0, .slice (some ad2) k2 cc2]).run Try.prog (y.alloc (.cells #[] 3)) = .ok (.slice (some ⟨g', 0, none⟩) k2 cap') z ∧
      z.ownsRow w.heap.size 3 1 (.slice (some ⟨g, 0, none⟩) (m + k1) cap) (m + k1) (ic (ls ++ xs)) ∧ z.ownsRow w.heap.size 3 1 (.slice (some ⟨g', 0, none⟩) k2 cap') k2 (ic ys) ∧ Below w.heap.size w z) ∧
    (∃ g cap y g' cap' z, (Builtin.append_ #[22, 22] 22 #[.slice (some ⟨gr, 0, none⟩) m c, .slice (some ad1) k1 cc1]).run Try.prog (x.alloc (.cells #[] 3)) = .ok (.slice (some ⟨g, 0, none⟩) (m + k1) cap) y ∧
      (Builtin.append_ #[22, 22] 22 #[.slice (some ⟨x.heap.size, 0, none⟩) 0 0, .slice (some ad2) k2 cc2]).run Try.prog y = .ok (.slice (some ⟨g', 0, none⟩) k2 cap') z ∧
      z.ownsRow w.heap.size 3 1 (.slice (some ⟨g, 0, none⟩) (m + k1) cap) (m + k1) (ic (ls ++ xs)) ∧ z.ownsRow w.heap.size 3 1 (.slice (some ⟨g', 0, none⟩) k2 cap') k2 (ic ys) ∧ Below w.heap.size w z) ∧
    (∃ g cap y g' cap' z, (Builtin.append_ #[22, 22] 22 #[.slice (some ⟨x.heap.size, 0, none⟩) 0 0, .slice (some ad2) k2 cc2]).run Try.prog (x.alloc (.cells #[] 3)) = .ok (.slice (some ⟨g', 0, none⟩) k2 cap') y ∧
      (Builtin.append_ #[22, 22] 22 #[.slice (some ⟨gr, 0, none⟩) m c, .slice (some ad1) k1 cc1]).run Try.prog y = .ok (.slice (some ⟨g, 0, none⟩) (m + k1) cap) z ∧
      z.ownsRow w.heap.size 3 1 (.slice (some ⟨g, 0, none⟩) (m + k1) cap) (m + k1) (ic (ls ++ xs)) ∧ z.ownsRow w.heap.size 3 1 (.slice (some ⟨g', 0, none⟩) k2 cap') k2 (ic ys) ∧ Below w.heap.size w z) := by
  obtain ⟨b1, o1, s1⟩ := ad1
  obtain ⟨b2, o2, s2⟩ := ad2
  dsimp only at ha1 ha2
  subst ha1 ha2
  have hz := hB.size
  have hgr := hown.lt gr rfl
  have n1 : ∀ u, Below w.heap.size w u → ∀ j v, (ic xs)[j]? = some v → u.cell? ((⟨b1, o1, none⟩ : Addr).add j) = some v := fun u hu => (h1.up hu).news
  have n2 : ∀ u, Below w.heap.size w u → ∀ j v, (ic ys)[j]? = some v → u.cell? ((⟨b2, o2, none⟩ : Addr).add j) = some v := fun u hu => (h2.up hu).news
  have hxa : Below w.heap.size w (x.alloc (.cells #[] 3)) := hB.alloc hz _
  have hsa : (x.alloc (.cells #[] 3)).heap.size = x.heap.size + 1 := by simp
  refine ⟨?_, ?_, ?_⟩
  · obtain ⟨g, cap, y, r1, w1, g1, p1⟩ := app_row (cc := cc1) hown h1.1 (n1 x hB) (by omega) hz
    have hy : Below w.heap.size w y := hB.grown g1 hz (fun j hj => by simp at hj; omega)
    have hgl := (w1.lt g rfl).2
    have hya : Below w.heap.size w (y.alloc (.cells #[] 3)) := hy.alloc hy.size _
    obtain ⟨g', cap', z, r2, w2, g2, p2⟩ := app_row (cc := cc2) (own_empty y w.heap.size hy.size) h2.1 (n2 _ hya) (by omega) hya.size
    rw [Nat.zero_add, List.nil_append] at w2
    rw [Nat.zero_add] at r2
    exact ⟨g, cap, y, g', cap', z, r1, r2, own_grown (w1.alloc _) g2 (by omega), w2, hya.grown g2 hya.size (fun j hj => by simp at hj; rw [← hj]; exact hy.size)⟩
  · obtain ⟨g, cap, y, r1, w1, g1, p1⟩ := app_row (cc := cc1) (hown.alloc (.cells #[] 3)) h1.1 (n1 _ hxa) (by omega) hxa.size
    have hy : Below w.heap.size w y := hxa.grown g1 hxa.size (fun j hj => by simp at hj; omega)
    have he := own_grown (own_empty x w.heap.size hz) g1 (by omega)
    obtain ⟨g', cap', z, r2, w2, g2, p2⟩ := app_row (cc := cc2) he h2.1 (n2 _ hy) (by omega) hy.size
    rw [Nat.zero_add, List.nil_append] at w2
    rw [Nat.zero_add] at r2
    exact ⟨g, cap, y, g', cap', z, r1, r2, own_grown w1 g2 (by rcases p1 with p1 | p1 <;> omega), w2, hy.grown g2 hy.size (fun j hj => by simp at hj; omega)⟩
  · obtain ⟨g', cap', y, r2, w2, g2, p2⟩ := app_row (cc := cc2) (own_empty x w.heap.size hz) h2.1 (n2 _ hxa) (by omega) hxa.size
    rw [Nat.zero_add, List.nil_append] at w2
    rw [Nat.zero_add] at r2
    have hy : Below w.heap.size w y := hxa.grown g2 hxa.size (fun j hj => by simp at hj; omega)
    have hr := own_grown (hown.alloc (.cells #[] 3)) g2 (by omega)
    obtain ⟨g, cap, z, r1, w1, g1, p1⟩ := app_row (cc := cc1) hr h1.1 (n1 _ hy) (by omega) hy.size
    exact ⟨g, cap, y, g', cap', z, r2, r1, w1, own_grown w2 g1 (by rcases p2 with p2 | p2 <;> omega), hy.grown g1 hy.size (fun j hj => by simp at hj; omega)⟩

end Go.Proofs.Ytcppbgkocipnlab
