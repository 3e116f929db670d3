/- A tour from another vertex on, as a list; answers that are a list of ints and a word. Places in a list of ints: the last one of a number, the first step from one number to another. A tour that is split at an edge, as lists. The program's Reroot. slices.Backward over ints: it yields each place with its number, the last one first; the program's lastPlace, which ranges over it. The program's haveCommon. -/
import Derived.Test.YtgjnlhdgekfieaaGreatKLaid
import Derived.RangeFuncNested
import Derived.RangeFuncBound
import Derived.RangeFuncCalls
import Derived.RangeFuncLeaves
import Derived.RangeFuncBox
import Derived.Shelf.Abstract
import Derived.Shelf.RegionOpen
import Derived.WalkKit
import Derived.OwnWalkIn
import Derived.TacticsInMore
import Derived.LoopNIn
import Derived.LoopIn
import Derived.Maps.AppendAt
namespace Go.Proofs.YtgjnlhdgekfieaaGreat
open Go.RowKit

/-- what stands from the place k on up to the last but one, what stands ahead, and v -/
def reT (t : List Int) (k : Nat) (v : Int) : List Int := (t.take (t.length - 1)).drop k ++ (t.take k ++ [v])
/-- the tour from v on -/
def reO (t : List Int) (v : Int) : Option (List Int) := if tB t = true ∧ v ∈ t then some (reT t (fstI t v).toNat v) else none

/-- the answer: a list of its own, and whether there is one -/
def TAns (w : World) (o : Option (List Int)) (e : Ending) (w' : World) : Prop :=
  ∃ a m c, e = .returned (.tuple #[.slice a m c, .bool o.isSome]) ∧ w'.ownsRow w.heap.size 3 1 (.slice a m c) m (ic (o.getD [])) ∧ Below w.heap.size w w'
theorem tans_no {w u : World} {o : Option (List Int)} (ho : o = none) (h : Below w.heap.size w u) : TAns w o (.returned (.tuple #[.slice none 0 0, .bool false])) u := by
  subst ho
  exact ⟨none, 0, 0, rfl, World.ownsRow_nil _ _ _ _, h⟩
theorem tans_yes {w u : World} {o : Option (List Int)} {ls : List Int} (ho : o = some ls) {B : Nat} {a : Option Addr} {m c : Nat} (hB : w.heap.size ≤ B) (hown : u.ownsRow B 3 1 (.slice a m c) m (ic ls)) (h : Below w.heap.size w u) : TAns w o (.returned (.tuple #[.slice a m c, .bool true])) u := by
  subst ho
  exact ⟨a, m, c, rfl, own_mono hown hB, h⟩
/-- the first place of a number of the list -/
theorem fst_at {t : List Int} {v : Int} (h : v ∈ t) : ∃ k : Nat, fstI t v = (k : Int) ∧ k < t.length ∧ t[k]? = some v ∧ ∀ j, j < k → atP t v j = false := by
  rcases firstN_cases (atP t v) t.length with ⟨k, h1, h2, h3, h4⟩ | ⟨h1, _⟩
  · exact ⟨k, h4, h1, by simpa [atP] using h2, h3⟩
  · exact absurd h (mem_of_atP rfl h1)
theorem fst_no {t : List Int} {v : Int} (h : v ∉ t) : fstI t v = -1 := by
  rcases firstN_cases (atP t v) t.length with ⟨k, h1, h2, h3, h4⟩ | ⟨_, h2⟩
  · exact absurd (List.mem_of_getElem? (by simpa [atP] using h2 : t[k]? = some v)) h
  · exact h2
/-- the first place of a vertex of a tour of two and more lies ahead of the last one -/
theorem fst_lt {t : List Int} {v : Int} {k : Nat} (hB : tB t = true) (hk : k < t.length) (hv : t[k]? = some v) (hf : ∀ j, j < k → atP t v j = false) : k < t.length - 1 ∨ (k = 0 ∧ t.length = 1) := by
  obtain ⟨x, r, s, rfl, _, _, hr⟩ := tB_open hB
  rcases hr with rfl | ⟨q, rfl⟩
  · simp at hk; right; simp [hk]
  · left
    simp at hk ⊢
    by_cases h : k = q.length + 1
    · subst h
      have : v = x := by simpa using hv.symm
      subst this
      have := hf 0 (by omega)
      simp [atP] at this
    · omega
theorem Is.take {w : World} {B : Nat} {a : Option Addr} {n : Nat} {ls : List Int} (h : Is w B a n ls) {k : Nat} (hk : k ≤ n) : Is w B a k (ls.take k) := by
  refine ⟨by rw [List.length_take, h.1]; omega, ?_⟩
  rcases h.2 with h0 | ⟨b, off, h1, h2, h3⟩
  · exact .inl (by omega)
  · refine .inr ⟨b, off, h1, h2, fun j x hx => h3 j x ?_⟩
    have hj : j < k := by have := (List.getElem?_eq_some_iff.1 hx).1; rw [List.length_take] at this; omega
    rw [List.getElem?_take_of_lt hj] at hx
    exact hx
theorem Is.drop {w : World} {B b off : Nat} {n : Nat} {ls : List Int} (h : Is w B (some ⟨b, off, none⟩) n ls) {k : Nat} (hk : k ≤ n) : Is w B (some ⟨b, off + k, none⟩) (n - k) (ls.drop k) := by
  refine ⟨by rw [List.length_drop, h.1], ?_⟩
  rcases h.2 with h0 | ⟨b', off', h1, h2, h3⟩
  · exact .inl (by omega)
  · simp at h1
    obtain ⟨rfl, rfl⟩ := h1
    refine .inr ⟨b, off + k, rfl, h2, fun j x hx => ?_⟩
    rw [List.getElem?_drop] at hx
    have := h3 (k + j) x hx
    rw [Nat.add_assoc]
    exact this
theorem Is.none_of {w : World} {B : Nat} {a : Option Addr} {ls : List Int} (h : ls.length = 0) : Is w B a 0 ls := ⟨h, .inl rfl⟩
theorem Is.single (w : World) (f : Int) : Is (w.alloc (.cells #[.int .i64 f] 3)) (w.alloc (.cells #[.int .i64 f] 3)).heap.size (some ⟨w.heap.size, 0, none⟩) 1 [f] := by
  refine ⟨rfl, .inr ⟨w.heap.size, 0, rfl, by simp, fun j x hx => ?_⟩⟩
  rcases j with _ | j
  · simp at hx; subst hx; simp
  · simp at hx
theorem Is.cut {w : World} {B b off : Nat} {n : Nat} {ls : List Int} (h : Is w B (some ⟨b, off, none⟩) n ls) {k m : Nat} (hk : k ≤ m) (hm : m ≤ n) : Is w B (if m = k then some ⟨b, off, none⟩ else some ⟨b, off + k, none⟩) (m - k) ((ls.take m).drop k) := by
  by_cases h0 : m = k
  · rw [if_pos h0]
    subst h0
    rw [Nat.sub_self]
    exact Is.none_of (by simp)
  · rw [if_neg h0]
    exact (h.take hm).drop hk
/-- pieces that are laid into a block -/
theorem parts3 {u : World} {p1 p2 p3 : PartI} (h1 : Is u u.heap.size p1.a p1.m p1.ls) (h2 : Is u u.heap.size p2.a p2.m p2.ls) (h3 : Is u u.heap.size p3.a p3.m p3.ls) :
    PartsI (u.alloc (.cells #[.slice p1.a p1.m p1.c, .slice p2.a p2.m p2.c, .slice p3.a p3.m p3.c] 44)).drew u.heap.size [p1, p2, p3] := by
  have hb : Below u.heap.size u (u.alloc (.cells #[.slice p1.a p1.m p1.c, .slice p2.a p2.m p2.c, .slice p3.a p3.m p3.c] 44)).drew := ((Below.refl _ _).alloc (Nat.le_refl _) _).drew
  refine ⟨by simp, fun j q hq => ?_⟩
  rcases j with _ | _ | _ | j
  · simp at hq; subst hq
    exact ⟨by simp [go_sem], h1.up hb⟩
  · simp at hq; subst hq
    exact ⟨by simp [go_sem], h2.up hb⟩
  · simp at hq; subst hq
    exact ⟨by simp [go_sem], h3.up hb⟩
  · simp at hq
theorem parts2 {u : World} {p1 p2 : PartI} (h1 : Is u u.heap.size p1.a p1.m p1.ls) (h2 : Is u u.heap.size p2.a p2.m p2.ls) :
    PartsI (u.alloc (.cells #[.slice p1.a p1.m p1.c, .slice p2.a p2.m p2.c] 44)).drew u.heap.size [p1, p2] := by
  have hb : Below u.heap.size u (u.alloc (.cells #[.slice p1.a p1.m p1.c, .slice p2.a p2.m p2.c] 44)).drew := ((Below.refl _ _).alloc (Nat.le_refl _) _).drew
  refine ⟨by simp, fun j q hq => ?_⟩
  rcases j with _ | _ | j
  · simp at hq; subst hq
    exact ⟨by simp [go_sem], h1.up hb⟩
  · simp at hq; subst hq
    exact ⟨by simp [go_sem], h2.up hb⟩
  · simp at hq
theorem parts1 {u : World} {p1 : PartI} (h1 : Is u u.heap.size p1.a p1.m p1.ls) :
    PartsI (u.alloc (.cells #[.slice p1.a p1.m p1.c] 44)).drew u.heap.size [p1] := by
  have hb : Below u.heap.size u (u.alloc (.cells #[.slice p1.a p1.m p1.c] 44)).drew := ((Below.refl _ _).alloc (Nat.le_refl _) _).drew
  refine ⟨by simp, fun j q hq => ?_⟩
  rcases j with _ | j
  · simp at hq; subst hq
    exact ⟨by simp [go_sem], h1.up hb⟩
  · simp at hq
end Go.Proofs.YtgjnlhdgekfieaaGreat
namespace Go.Proofs.YtgjnlhdgekfieaaGreat
open Go.RowKit

theorem goP_at {ls : List Int} {u v f g : Int} {k : Nat} (hf : ls[k]? = some f) (hg : ls[k + 1]? = some g) : goP ls u v k = (f == u && g == v) := by simp [goP, hf, hg]

end Go.Proofs.YtgjnlhdgekfieaaGreat
namespace Go.Proofs.YtgjnlhdgekfieaaGreat
open Go.RowKit

/-- a place of a step that is there -/
theorem go_at {t : List Int} {u v : Int} : (∃ k : Nat, goI t u v = (k : Int) ∧ k + 1 < t.length ∧ t[k]? = some u ∧ t[k + 1]? = some v ∧ ∀ j, j < k → goP t u v j = false) ∨ (goI t u v = -1 ∧ ∀ j, j + 1 < t.length → goP t u v j = false) := by
  rcases firstN_cases (goP t u v) (t.length - 1) with ⟨k, h1, h2, h3, h4⟩ | ⟨h1, h2⟩
  · refine .inl ⟨k, h4, by omega, ?_, ?_, h3⟩
    · simp [goP] at h2; exact h2.1
    · simp [goP] at h2; exact h2.2
  · exact .inr ⟨h2, fun j hj => h1 j (by omega)⟩

/-- the step from u to v is in the list -/
theorem goP_append_right {a b : List Int} {u v : Int} {j : Nat} (h : goP b u v j = true) : goP (a ++ b) u v (a.length + j) = true := by
  simp [goP] at h ⊢
  exact ⟨by rw [List.getElem?_append_right (by omega)]; simpa using h.1, by rw [List.getElem?_append_right (by omega)]; simpa [show a.length + j + 1 - a.length = j + 1 by omega] using h.2⟩

/-- a way that has the step from p up to q, or on whose way down q stands right above p, sees the step p to q: a walk that has gone down from q to p and comes to its end at the root goes back from p to q -/
theorem up_there {r : List Int} {w s w' s' : List Int} {p q : Int} {A B : List Int} (h : trun w s r = some (w', s')) (hw : w = A ++ p :: q :: B) (hl : w'.length ≤ B.length + 1) (x : List Int) (hx : w.head? = (x.getLast?)) :
    ∃ j, goP (x ++ r) p q j = true := by
  induction r generalizing w s A x with
  | nil =>
    simp [trun] at h
    rw [← h.1, hw] at hl
    simp at hl
    omega
  | cons v r ih =>
    have hxv : (x ++ [v]).getLast? = some v := by simp
    rcases trun_cons h with ⟨hu, h1⟩ | ⟨hu, hs, h1⟩
    · obtain ⟨c, z, e⟩ := isUp_some hu
      cases A with
      | nil =>
        rw [hw] at e
        simp at e
        obtain ⟨rfl, rfl, _⟩ := e
        -- the step is here
        rw [hw] at hx
        simp at hx
        rcases List.eq_nil_or_concat x with rfl | ⟨y, z2, e2⟩
        · simp at hx
        · rw [List.concat_eq_append] at e2
          subst e2
          simp at hx
          subst hx
          refine ⟨y.length, ?_⟩
          simp [goP]
      | cons d A =>
        have hw2 : w.tail = A ++ p :: q :: B := by rw [hw]; rfl
        have hh : w.tail.head? = some v := by rw [e]; rfl
        obtain ⟨j, hj⟩ := ih h1 hw2 (x ++ [v]) (by rw [hh, hxv])
        rw [List.append_assoc] at hj
        exact ⟨j, hj⟩
    · obtain ⟨j, hj⟩ := ih h1 (A := v :: A) (by rw [hw]; rfl) (x ++ [v]) (by rw [hxv]; rfl)
      rw [List.append_assoc] at hj
      exact ⟨j, hj⟩

theorem goP_append_left {a b : List Int} {u v : Int} {j : Nat} (h : goP a u v j = true) : goP (a ++ b) u v j = true := by
  simp [goP] at h ⊢
  have h1 := (List.getElem?_eq_some_iff.1 h.1).1
  have h2 := (List.getElem?_eq_some_iff.1 h.2).1
  exact ⟨by rw [List.getElem?_append_left h1]; exact h.1, by rw [List.getElem?_append_left h2]; exact h.2⟩
/-- where c stands right above p on the way, the list x has gone from p to c -/
def Adj (w x : List Int) : Prop := ∀ A c p B, w = A ++ c :: p :: B → ∃ j, goP x p c j = true
theorem adj_run {r : List Int} {w s w' s' x : List Int} (h : trun w s r = some (w', s')) (hA : Adj w x) (hx : w.head? = x.getLast?) : Adj w' (x ++ r) := by
  induction r generalizing w s x with
  | nil =>
    simp [trun] at h
    rw [← h.1, List.append_nil]
    exact hA
  | cons v r ih =>
    have hxv : (x ++ [v]).getLast? = some v := by simp
    rcases trun_cons h with ⟨hu, h1⟩ | ⟨hu, hs, h1⟩
    · obtain ⟨c, z, e⟩ := isUp_some hu
      have h2 : Adj w.tail (x ++ [v]) := fun A c2 p B e2 => by
        obtain ⟨j, hj⟩ := hA (c :: A) c2 p B (by rw [e] at e2 ⊢; simp at e2; rw [e2]; rfl)
        exact ⟨j, goP_append_left hj⟩
      have := ih h1 h2 (by rw [hxv, e]; rfl)
      rw [List.append_assoc] at this
      exact this
    · have h2 : Adj (v :: w) (x ++ [v]) := fun A c2 p B e2 => by
        cases A with
        | nil =>
          simp at e2
          obtain ⟨rfl, e2⟩ := e2
          rw [e2] at hx
          simp at hx
          rcases List.eq_nil_or_concat x with rfl | ⟨y, z2, e3⟩
          · simp at hx
          · rw [List.concat_eq_append] at e3
            subst e3
            simp at hx
            subst hx
            exact ⟨y.length, by simp [goP]⟩
        | cons d A =>
          simp at e2
          obtain ⟨j, hj⟩ := hA A c2 p B e2.2
          exact ⟨j, goP_append_left hj⟩
      have := ih h1 h2 (by rw [hxv]; rfl)
      rw [List.append_assoc] at this
      exact this
/-- a right tour that goes along an edge goes back, too -/
theorem go_back {t : List Int} {u v : Int} (hB : tB t = true) {k : Nat} (h1 : t[k]? = some u) (h2 : t[k + 1]? = some v) : ∃ j, goP t v u j = true := by
  obtain ⟨_, x0, s0, hrun⟩ := (tB_iff t).1 hB
  have hk1 := (List.getElem?_eq_some_iff.1 h2).1
  obtain ⟨Y, hY⟩ : ∃ Y, Y = t.drop (k + 2) := ⟨_, rfl⟩
  have e1 : t = t.take (k + 1) ++ (v :: Y) := by
    rw [hY]
    have := List.take_append_drop (k + 1) t
    rw [List.drop_eq_getElem_cons hk1] at this
    have e : t[k + 1] = v := by rw [List.getElem?_eq_getElem hk1] at h2; simpa using h2
    rw [e] at this
    exact this.symm
  have e2 : t.take (k + 1) = t.take k ++ [u] := take_snocF t k u h1
  have hr := hrun
  rw [e1, trun_append] at hr
  cases hq : trun [] [] (t.take (k + 1)) with
  | none => rw [hq] at hr; simp at hr
  | some z =>
    obtain ⟨w, s⟩ := z
    rw [hq] at hr
    simp only [Option.bind_some] at hr
    have htop : w.head? = some u := by rw [e2] at hq; exact trun_top hq
    have hlast : (t.take (k + 1)).getLast? = some u := by rw [e2]; simp
    rcases trun_cons hr with ⟨hu, h3⟩ | ⟨hu, hs, h3⟩
    · obtain ⟨c, z, e⟩ := isUp_some hu
      rw [e] at htop
      simp at htop
      subst htop
      have hadj := adj_run (x := []) hq (fun A c p B e => by simp at e) rfl
      rw [List.nil_append] at hadj
      obtain ⟨j, hj⟩ := hadj [] c v z (by rw [e]; rfl)
      rw [e1]
      exact ⟨j, goP_append_left hj⟩
    · cases w with
      | nil => simp at htop
      | cons c B =>
        simp at htop
        subst htop
        obtain ⟨j, hj⟩ := up_there (A := []) (p := v) (q := c) (B := B) h3 rfl (by simp) [v] rfl
        refine ⟨(t.take (k + 1)).length + j, ?_⟩
        have := goP_append_right (a := t.take (k + 1)) hj
        rw [show t.take (k + 1) ++ ([v] ++ Y) = t from e1.symm] at this
        exact this
theorem go_both {t : List Int} {u v : Int} (hB : tB t = true) {k : Nat} (hk : goI t u v = (k : Int)) : ∃ p : Nat, goI t v u = (p : Int) ∧ p + 1 < t.length ∧ k + 1 < t.length := by
  rcases go_at (t := t) (u := u) (v := v) with ⟨k2, e, hkl, h1, h2, _⟩ | ⟨e, _⟩
  · have hkk : k = k2 := by omega
    subst hkk
    obtain ⟨j, hj⟩ := go_back hB h1 h2
    rcases go_at (t := t) (u := v) (v := u) with ⟨p, e2, hp, _⟩ | ⟨_, hn⟩
    · exact ⟨p, e2, hp, hkl⟩
    · have hj1 : j + 1 < t.length := by
        simp [goP] at hj
        exact (List.getElem?_eq_some_iff.1 hj.2).1
      rw [hn j hj1] at hj
      simp at hj
  · omega

/-- the part with the root, and the other one -/
def spT (t : List Int) (d p : Nat) : List Int × List Int × Bool := (t.take (d + 1) ++ t.drop (p + 2), (t.take (p + 1)).drop (d + 1), true)
/-- a tour, split at the edge of u and v -/
def spO (t : List Int) (u v : Int) : List Int × List Int × Bool :=
  if tB t = true ∧ 0 ≤ goI t u v then spT t (min (goI t u v) (goI t v u)).toNat (max (goI t u v) (goI t v u)).toNat else ([], [], false)
theorem spO_len (t : List Int) (u v : Int) : (spO t u v).1.length ≤ 200 ∧ (spO t u v).2.1.length ≤ 200 := by
  unfold spO
  by_cases h : tB t = true ∧ 0 ≤ goI t u v
  · rw [if_pos h]
    have := tB_len h.1
    simp [spT]
    omega
  · rw [if_neg h]; simp

/-- the answer: two lists, each of its own, and whether there are any -/
def T2Ans (w : World) (o : List Int × List Int × Bool) (e : Ending) (w' : World) : Prop :=
  ∃ a m c a' m' c' mid, e = .returned (.tuple #[.slice a m c, .slice a' m' c', .bool o.2.2]) ∧ w.heap.size ≤ mid ∧ RBox w' w.heap.size mid a m c o.1 ∧ RBox w' mid w'.heap.size a' m' c' o.2.1 ∧ Below w.heap.size w w'
/-- the same, where both may lie at one place -/
def S2Ans (w : World) (o : List Int × List Int × Bool) (e : Ending) (w' : World) : Prop :=
  ∃ a m c a' m' c', e = .returned (.tuple #[.slice a m c, .slice a' m' c', .bool o.2.2]) ∧ RBox w' w.heap.size w'.heap.size a m c o.1 ∧ RBox w' w.heap.size w'.heap.size a' m' c' o.2.1 ∧ Below w.heap.size w w'
theorem t2_no {w u : World} {o : List Int × List Int × Bool} (ho : o = ([], [], false)) (h : Below w.heap.size w u) : T2Ans w o (.returned (.tuple #[.slice none 0 0, .slice none 0 0, .bool false])) u := by
  subst ho
  exact ⟨none, 0, 0, none, 0, 0, w.heap.size, rfl, Nat.le_refl _, ⟨World.ownsRow_nil _ _ _ _, fun g hg => by simp [Value.ownBlock] at hg, h.size⟩, ⟨World.ownsRow_nil _ _ _ _, fun g hg => by simp [Value.ownBlock] at hg, Nat.le_refl _⟩, h⟩
end Go.Proofs.YtgjnlhdgekfieaaGreat
namespace Go.Proofs.YtgjnlhdgekfieaaGreat
open Go.RowKit

end Go.Proofs.YtgjnlhdgekfieaaGreat
namespace Go.Proofs.YtgjnlhdgekfieaaGreat
open Go.RowKit Go.Shelf
attribute [local go_sem] Oper.semAt_some

/-- a place and what stands there, as yield takes it -/
abbrev plV (x : Int × Int) : Array Value := #[.int .i64 x.1, .int .i64 x.2]
/-- what has come: the places from the last one down -/
def Bw (ls : List Int) (pre : List (Int × Int)) : Prop := pre.length ≤ ls.length ∧ ∀ (j : Nat) (x : Int × Int), pre[j]? = some x → x.1 = (ls.length : Int) - 1 - (j : Int) ∧ ls[ls.length - 1 - j]? = some x.2
theorem Bw.nil (ls : List Int) : Bw ls [] := ⟨by simp, fun j x h => by simp at h⟩
theorem Bw.snoc {ls : List Int} {pre : List (Int × Int)} (h : Bw ls pre) {k : Nat} {f : Int} (hk : pre.length + (k + 1) = ls.length) (hf : ls[k]? = some f) : Bw ls (pre ++ [((k : Int), f)]) := by
  refine ⟨by simp; omega, fun j x hx => ?_⟩
  by_cases hj : j < pre.length
  · rw [List.getElem?_append_left hj] at hx
    exact h.2 j x hx
  · rw [List.getElem?_append_right (by omega)] at hx
    have h0 : j - pre.length = 0 := by
      have := (List.getElem?_eq_some_iff.1 hx).1
      simp at this
      omega
    rw [h0] at hx
    simp at hx
    subst hx
    refine ⟨by show (k : Int) = _; omega, ?_⟩
    rw [show ls.length - 1 - j = k by omega]
    exact hf

theorem lst_at {ls : List Int} {v : Int} {p : Nat} (hp : ls[p]? = some v) (hn : ∀ j, p < j → j < ls.length → ls[j]? ≠ some v) : lstI ls v = (p : Int) := by
  rcases lastN_cases (atP ls v) ls.length with ⟨k, h1, h2, h3, h4⟩ | ⟨h1, _⟩
  · have hk : ls[k]? = some v := by simpa [atP] using h2
    have hpl := (List.getElem?_eq_some_iff.1 hp).1
    rcases Nat.lt_trichotomy k p with h | h | h
    · have := h3 p h hpl
      rw [atP_yes hp] at this
      simp at this
    · rw [← h]; exact h4
    · exact absurd hk (hn k h h1)
  · have := h1 p (List.getElem?_eq_some_iff.1 hp).1
    rw [atP_yes hp] at this
    simp at this
theorem lst_none {ls : List Int} {v : Int} (hn : ∀ j, j < ls.length → ls[j]? ≠ some v) : lstI ls v = -1 := by
  rcases lastN_cases (atP ls v) ls.length with ⟨k, h1, h2, h3, h4⟩ | ⟨_, h2⟩
  · exact absurd (by simpa [atP] using h2) (hn k h1)
  · exact h2
theorem bw_stop {ls : List Int} {v : Int} {pre : List (Int × Int)} {x : Int × Int} (h : Bw ls (pre ++ [x])) (hx : x.2 = v) (hn : ∀ y ∈ pre, y.2 ≠ v) : lstI ls v = x.1 := by
  have hl := h.1
  simp at hl
  obtain ⟨h1, h2⟩ := h.2 pre.length x (by simp)
  rw [h1, show (ls.length : Int) - 1 - (pre.length : Int) = ((ls.length - 1 - pre.length : Nat) : Int) by omega]
  refine lst_at (by rw [h2, hx]) fun j hj hjl e => ?_
  obtain ⟨y, hy⟩ : ∃ y, pre[ls.length - 1 - j]? = some y := ⟨pre[ls.length - 1 - j]'(by omega), List.getElem?_eq_getElem (by omega)⟩
  obtain ⟨_, h4⟩ := h.2 (ls.length - 1 - j) y (by rw [List.getElem?_append_left (by omega)]; exact hy)
  rw [show ls.length - 1 - (ls.length - 1 - j) = j by omega, e] at h4
  exact hn y (List.mem_of_getElem? hy) (by simpa using h4.symm)
theorem bw_done {ls : List Int} {v : Int} {pre : List (Int × Int)} (h : Bw ls pre) (hl : pre.length = ls.length) (hn : ∀ y ∈ pre, y.2 ≠ v) : lstI ls v = -1 := by
  refine lst_none fun j hj e => ?_
  obtain ⟨y, hy⟩ : ∃ y, pre[ls.length - 1 - j]? = some y := ⟨pre[ls.length - 1 - j]'(by omega), List.getElem?_eq_getElem (by omega)⟩
  obtain ⟨_, h4⟩ := h.2 (ls.length - 1 - j) y hy
  rw [show ls.length - 1 - (ls.length - 1 - j) = j by omega, e] at h4
  exact hn y (List.mem_of_getElem? hy) (by simpa using h4.symm)

end Go.Proofs.YtgjnlhdgekfieaaGreat
namespace Go.Proofs.YtgjnlhdgekfieaaGreat
open Go.RowKit

/-- a number of the one list is in the other -/
def comB (us vs : List Int) : Bool := us.any fun x => decide (x ∈ vs)
def comP (us vs : List Int) (k : Nat) : Bool := match us[k]? with | some x => decide (x ∈ vs) | none => false
theorem comP_at {us vs : List Int} {k : Nat} {f : Int} (h : us[k]? = some f) : comP us vs k = decide (f ∈ vs) := by simp [comP, h]
theorem comB_yes {us vs : List Int} {k : Nat} (hc : comP us vs k = true) : comB us vs = true := by
  unfold comP at hc
  cases h : us[k]? with
  | none => rw [h] at hc; simp at hc
  | some x =>
    rw [h] at hc
    unfold comB
    rw [List.any_eq_true]
    exact ⟨x, List.mem_of_getElem? h, hc⟩
theorem comB_no {us vs : List Int} (hc : ∀ j, j < us.length → comP us vs j = false) : comB us vs = false := by
  unfold comB
  rw [List.any_eq_false]
  intro x hx
  obtain ⟨k, hk⟩ := List.mem_iff_getElem?.1 hx
  have := hc k (List.getElem?_eq_some_iff.1 hk).1
  rw [comP_at hk] at this
  simpa using this
theorem com_first (us vs : List Int) : decide (0 ≤ firstN (comP us vs) us.length) = comB us vs := by
  rcases firstN_cases (comP us vs) us.length with ⟨k, _, h, _, e⟩ | ⟨h, e⟩
  · rw [e, comB_yes h]; simp
  · rw [e, comB_no h]; rfl

theorem comIt_any (vs : List Int) (x : Int) (B n : Nat) (a : Option Addr) (c : Nat) (hn : n ≤ 3000000) (w : World) (hB : w.cell? ⟨B, 0, none⟩ = some (.slice a n c)) (h : Is w w.heap.size a n vs) :
    Calls Tryz.prog 200 #[.int .i64 x, .pointer (some ⟨B, 0, none⟩)] w fun e w' => e = .returned (.bool (decide (x ∈ vs))) ∧ w' = w := by
  have HC := hideIt (conI_any vs x n a c hn w h)
  clear h
  go_enter Tryz.func200, Tryz.ntmps200
  go_wp2_with (go_at_call 191; refine HC.out.mono ?_; rintro e w1 ⟨rfl, rfl⟩)
  go_ret
  exact ⟨rfl, rfl⟩

set_option maxHeartbeats 1000000 in
theorem idxF_any (us vs : List Int) (n : Nat) (a : Option Addr) (c : Nat) (hn : n ≤ 3000000) (B nb : Nat) (b : Option Addr) (cb : Nat) (hnb : nb ≤ 3000000) (w : World) (h : Is w w.heap.size a n us) (hB : w.cell? ⟨B, 0, none⟩ = some (.slice b nb cb)) (hb : Is w w.heap.size b nb vs) :
    Calls Tryz.prog 203 #[.slice a n c, .func (.func 200) #[] #[.pointer (some ⟨B, 0, none⟩)]] w fun e w' => e = .returned (.int .i64 (firstN (comP us vs) us.length)) ∧ w' = w := by
  have HC := hideIt (fun x => comIt_any vs x B nb b cb hnb w hB hb)
  obtain ⟨hlen, hrow⟩ := h
  have HR := hideIt hrow
  clear hrow hb hB
  go_enter Tryz.func203, Tryz.ntmps203
  go_wp2
  go_loopw [8] (fun i wr => ∃ (k : Nat), k ≤ n ∧ i = .int .i64 (k : Int) ∧ Hid (∀ j, j < k → comP us vs j = false) ∧ wr = w) (fun i _ => n - (intOf i).toNat)
  case atStart => exact ⟨0, by omega, rfl, fun j hj => by omega, rfl⟩
  case round =>
    obtain ⟨k, hk, rfl, HF, hw⟩ := hrel
    have hw' := hw.symm
    subst hw'
    clear hw
    by_cases hlt : k < n
    · rcases HR.out with hz | ⟨b1, off, rfl, hbl, hc⟩
      · omega
      · obtain ⟨f, hf⟩ : ∃ f, us[k]? = some f := ⟨us[k]'(by omega), List.getElem?_eq_getElem (by omega)⟩
        have e0 := hc k f hf
        have b1 : (0 : Int) ≤ (k : Int) := by omega
        have b2 : (k : Int) < (n : Int) := by omega
        have HC1 := hideIt (HC.out f)
        have hcf := comP_at (vs := vs) hf
        cases hv : decide (f ∈ vs) with
        | true =>
          rw [hv] at HC1 hcf
          have hm := hideIt (show firstN (comP us vs) us.length = (k : Int) from firstN_yes (by omega) hcf HF.out)
          clear hc hf hv HF hcf
          go_wp2_with (go_at_call 200; refine HC1.out.mono ?_; rintro e w1 ⟨rfl, hw⟩; have hw' := hw.symm; subst hw'; clear hw)
          go_ret
          exact ⟨retI hm.out, rfl⟩
        | false =>
          rw [hv] at HC1 hcf
          have HF2 := hideIt (all_step HF.out hcf)
          clear hc hf hv HF hcf
          go_wp2_with (go_at_call 200; refine HC1.out.mono ?_; rintro e w1 ⟨rfl, hw⟩; have hw' := hw.symm; subst hw'; clear hw)
          exact ⟨⟨k + 1, by omega, by go_num, HF2, by first | trivial | rfl⟩, by simp [intOf]; omega⟩
    · obtain rfl : k = n := by omega
      have hm := hideIt (show firstN (comP us vs) us.length = -1 from firstN_no (by rw [hlen]; exact HF.out))
      clear HF
      go_wp2
      go_ret
      exact ⟨retI hm.out, rfl⟩

theorem conF_any (us vs : List Int) (n : Nat) (a : Option Addr) (c : Nat) (hn : n ≤ 3000000) (B nb : Nat) (b : Option Addr) (cb : Nat) (hnb : nb ≤ 3000000) (w : World) (h : Is w w.heap.size a n us) (hB : w.cell? ⟨B, 0, none⟩ = some (.slice b nb cb)) (hb : Is w w.heap.size b nb vs) :
    Calls Tryz.prog 199 #[.slice a n c, .func (.func 200) #[] #[.pointer (some ⟨B, 0, none⟩)]] w fun e w' => e = .returned (.bool (comB us vs)) ∧ w' = w := by
  have HI := hideIt (idxF_any us vs n a c hn B nb b cb hnb w h hB hb)
  have HM := hideIt (com_first us vs)
  clear h hB hb
  generalize firstN (comP us vs) us.length = x at *
  go_enter Tryz.func199, Tryz.ntmps199
  go_wp2_with (go_at_call 203; refine HI.out.mono ?_; rintro e w1 ⟨rfl, rfl⟩)
  go_ret
  exact ⟨by rw [← HM.out]; rfl, rfl⟩

theorem haveCommon_any (us vs : List Int) (n : Nat) (a : Option Addr) (c : Nat) (hn : n ≤ 3000000) (nb : Nat) (b : Option Addr) (cb : Nat) (hnb : nb ≤ 3000000) (w : World) (h : Is w w.heap.size a n us) (hb : Is w w.heap.size b nb vs) :
    Calls Tryz.prog 158 #[.slice a n c, .slice b nb cb] w fun e w' => e = .returned (.bool (comB us vs)) ∧ Below w.heap.size w w' := by
  have hbl : Below w.heap.size w (w.alloc (.cells #[.slice b nb cb] 44)) := (Below.refl _ _).alloc (Nat.le_refl _) _
  have HI := hideIt (conF_any us vs n a c hn w.heap.size nb b cb hnb (w.alloc (.cells #[.slice b nb cb] 44)) (h.up hbl) (by simp) (hb.up hbl))
  clear h hb
  go_enter Tryz.func158, Tryz.ntmps158
  go_wp2_with (go_at_call 199; refine HI.out.mono ?_; rintro e w1 ⟨rfl, rfl⟩)
  go_ret
  exact ⟨rfl, hbl⟩
end Go.Proofs.YtgjnlhdgekfieaaGreat
