/- Places in a list of ints: the last one of a number, the first step from one number to another. A tour that is split at an edge, as lists. The program's Reroot. slices.Backward over ints: it yields each place with its number, the last one first; the program's lastPlace, which ranges over it. The program's haveCommon. The program's JoinTours. -/
import Derived.Test.YtcpffonenhhfoaaKVerts
import Derived.Test.YtcpffonenhhfoaaKRer
import Derived.RangeFuncNested
import Derived.RangeFuncBound
import Derived.RangeFuncCalls
import Derived.RangeFuncLeaves
import Derived.RangeFuncBox
import Derived.Shelf.Abstract
import Derived.Shelf.RegionOpen
import Derived.WalkKit
import Derived.OwnWalkIn
import Derived.TacticsInMore
import Derived.LoopNIn
import Derived.LoopIn
import Derived.Maps.AppendAt
namespace Go.Proofs.Ytcpffonenhhfoaa
open Go.RowKit

set_option maxHeartbeats 1000000 in
theorem l06Last_any (ls : List Int) (v : Int) (n : Nat) (a : Option Addr) (c : Nat) (hn : n ≤ 3000000) (w : World) (h : Is w w.heap.size a n ls) :
    Calls Try.prog 76 #[.slice a n c, .int .i64 v] w fun e w' => e = .returned (.int .i64 (lstI ls v)) ∧ w' = w := by
  obtain ⟨hlen, hrow⟩ := h
  have HR := hideIt hrow
  clear hrow
  go_enter Try.func76, Try.ntmps76
  go_wp2
  go_loopw [5] (fun i wr => ∃ (k : Nat), k ≤ n ∧ i = .int .i64 ((k : Int) - 1) ∧ Hid (lstI ls v = lastN (atP ls v) k) ∧ wr = w) (fun i _ => (intOf i + 1).toNat)
  case atStart => exact ⟨n, by omega, rfl, by show _ = _; unfold lstI; rw [hlen], rfl⟩
  case round =>
    obtain ⟨k, hk, rfl, HF, hw⟩ := hrel
    have hw' := hw.symm
    subst hw'
    clear hw
    rcases k with _ | k
    · have hm := hideIt (show lstI ls v = -1 from HF.out)
      have d0 : decide ((0 : Int) ≤ ((0 : Nat) : Int) - 1) = false := decide_eq_false (by omega)
      clear HF
      go_wp2
      go_ret
      exact ⟨retI hm.out, rfl⟩
    · rcases HR.out with hz | ⟨b, off, rfl, hbl, hc⟩
      · omega
      · obtain ⟨f, hf⟩ : ∃ f, ls[k]? = some f := ⟨ls[k]'(by omega), List.getElem?_eq_getElem (by omega)⟩
        have e0 := hc k f hf
        have ek : ((k + 1 : Nat) : Int) - 1 = (k : Int) := by omega
        rw [ek]
        have b1 : (0 : Int) ≤ (k : Int) := by omega
        have b2 : (k : Int) < (n : Int) := by omega
        have d0 : decide ((0 : Int) ≤ (k : Int)) = true := decide_eq_true (by omega)
        by_cases hv : f = v
        · have d1 : (f == v) = true := by simpa using hv
          have hm := hideIt (show lstI ls v = (k : Int) from lastN_hit HF.out (atP_yes (hv ▸ hf)))
          clear hc hf hv HF ek
          go_wp2
          go_ret
          exact ⟨retI hm.out, rfl⟩
        · have d1 : (f == v) = false := by simpa using hv
          have HF2 := hideIt (lastN_step HF.out (atP_no hf hv))
          clear hc hf hv HF ek
          go_wp2
          exact ⟨⟨k, by omega, by go_num, HF2, by first | trivial | rfl⟩, by simp [intOf]⟩

theorem goP_at {ls : List Int} {u v f g : Int} {k : Nat} (hf : ls[k]? = some f) (hg : ls[k + 1]? = some g) : goP ls u v k = (f == u && g == v) := by simp [goP, hf, hg]

end Go.Proofs.Ytcpffonenhhfoaa
namespace Go.Proofs.Ytcpffonenhhfoaa
open Go.RowKit

/-- a place of a step that is there -/
theorem go_at {t : List Int} {u v : Int} : (∃ k : Nat, goI t u v = (k : Int) ∧ k + 1 < t.length ∧ t[k]? = some u ∧ t[k + 1]? = some v ∧ ∀ j, j < k → goP t u v j = false) ∨ (goI t u v = -1 ∧ ∀ j, j + 1 < t.length → goP t u v j = false) := by
  rcases firstN_cases (goP t u v) (t.length - 1) with ⟨k, h1, h2, h3, h4⟩ | ⟨h1, h2⟩
  · refine .inl ⟨k, h4, by omega, ?_, ?_, h3⟩
    · simp [goP] at h2; exact h2.1
    · simp [goP] at h2; exact h2.2
  · exact .inr ⟨h2, fun j hj => h1 j (by omega)⟩

/-- the step from u to v is in the list -/
theorem goP_append_right {a b : List Int} {u v : Int} {j : Nat} (h : goP b u v j = true) : goP (a ++ b) u v (a.length + j) = true := by
  simp [goP] at h ⊢
  exact ⟨by rw [List.getElem?_append_right (by omega)]; simpa using h.1, by rw [List.getElem?_append_right (by omega)]; simpa [show a.length + j + 1 - a.length = j + 1 by omega] using h.2⟩

/-- a way that has the step from p up to q, or on whose way down q stands right above p, sees the step p to q: a walk that has gone down from q to p and comes to its end at the root goes back from p to q -/
theorem up_there {r : List Int} {w s w' s' : List Int} {p q : Int} {A B : List Int} (h : trun w s r = some (w', s')) (hw : w = A ++ p :: q :: B) (hl : w'.length ≤ B.length + 1) (x : List Int) (hx : w.head? = (x.getLast?)) :
    ∃ j, goP (x ++ r) p q j = true := by
  induction r generalizing w s A x with
  | nil =>
    simp [trun] at h
    rw [← h.1, hw] at hl
    simp at hl
    omega
  | cons v r ih =>
    have hxv : (x ++ [v]).getLast? = some v := by simp
    rcases trun_cons h with ⟨hu, h1⟩ | ⟨hu, hs, h1⟩
    · obtain ⟨c, z, e⟩ := isUp_some hu
      cases A with
      | nil =>
        rw [hw] at e
        simp at e
        obtain ⟨rfl, rfl, _⟩ := e
        -- the step is here
        rw [hw] at hx
        simp at hx
        rcases List.eq_nil_or_concat x with rfl | ⟨y, z2, e2⟩
        · simp at hx
        · rw [List.concat_eq_append] at e2
          subst e2
          simp at hx
          subst hx
          refine ⟨y.length, ?_⟩
          simp [goP]
      | cons d A =>
        have hw2 : w.tail = A ++ p :: q :: B := by rw [hw]; rfl
        have hh : w.tail.head? = some v := by rw [e]; rfl
        obtain ⟨j, hj⟩ := ih h1 hw2 (x ++ [v]) (by rw [hh, hxv])
        rw [List.append_assoc] at hj
        exact ⟨j, hj⟩
    · obtain ⟨j, hj⟩ := ih h1 (A := v :: A) (by rw [hw]; rfl) (x ++ [v]) (by rw [hxv]; rfl)
      rw [List.append_assoc] at hj
      exact ⟨j, hj⟩

theorem goP_append_left {a b : List Int} {u v : Int} {j : Nat} (h : goP a u v j = true) : goP (a ++ b) u v j = true := by
  simp [goP] at h ⊢
  have h1 := (List.getElem?_eq_some_iff.1 h.1).1
  have h2 := (List.getElem?_eq_some_iff.1 h.2).1
  exact ⟨by rw [List.getElem?_append_left h1]; exact h.1, by rw [List.getElem?_append_left h2]; exact h.2⟩
/-- where c stands right above p on the way, the list x has gone from p to c -/
def Adj (w x : List Int) : Prop := ∀ A c p B, w = A ++ c :: p :: B → ∃ j, goP x p c j = true
theorem adj_run {r : List Int} {w s w' s' x : List Int} (h : trun w s r = some (w', s')) (hA : Adj w x) (hx : w.head? = x.getLast?) : Adj w' (x ++ r) := by
  induction r generalizing w s x with
  | nil =>
    simp [trun] at h
    rw [← h.1, List.append_nil]
    exact hA
  | cons v r ih =>
    have hxv : (x ++ [v]).getLast? = some v := by simp
    rcases trun_cons h with ⟨hu, h1⟩ | ⟨hu, hs, h1⟩
    · obtain ⟨c, z, e⟩ := isUp_some hu
      have h2 : Adj w.tail (x ++ [v]) := fun A c2 p B e2 => by
        obtain ⟨j, hj⟩ := hA (c :: A) c2 p B (by rw [e] at e2 ⊢; simp at e2; rw [e2]; rfl)
        exact ⟨j, goP_append_left hj⟩
      have := ih h1 h2 (by rw [hxv, e]; rfl)
      rw [List.append_assoc] at this
      exact this
    · have h2 : Adj (v :: w) (x ++ [v]) := fun A c2 p B e2 => by
        cases A with
        | nil =>
          simp at e2
          obtain ⟨rfl, e2⟩ := e2
          rw [e2] at hx
          simp at hx
          rcases List.eq_nil_or_concat x with rfl | ⟨y, z2, e3⟩
          · simp at hx
          · rw [List.concat_eq_append] at e3
            subst e3
            simp at hx
            subst hx
            exact ⟨y.length, by simp [goP]⟩
        | cons d A =>
          simp at e2
          obtain ⟨j, hj⟩ := hA A c2 p B e2.2
          exact ⟨j, goP_append_left hj⟩
      have := ih h1 h2 (by rw [hxv]; rfl)
      rw [List.append_assoc] at this
      exact this
/-- a right tour that goes along an edge goes back, too -/
theorem go_back {t : List Int} {u v : Int} (hB : tB t = true) {k : Nat} (h1 : t[k]? = some u) (h2 : t[k + 1]? = some v) : ∃ j, goP t v u j = true := by
  obtain ⟨_, x0, s0, hrun⟩ := (tB_iff t).1 hB
  have hk1 := (List.getElem?_eq_some_iff.1 h2).1
  obtain ⟨Y, hY⟩ : ∃ Y, Y = t.drop (k + 2) := ⟨_, rfl⟩
  have e1 : t = t.take (k + 1) ++ (v :: Y) := by
    rw [hY]
    have := List.take_append_drop (k + 1) t
    rw [List.drop_eq_getElem_cons hk1] at this
    have e : t[k + 1] = v := by rw [List.getElem?_eq_getElem hk1] at h2; simpa using h2
    rw [e] at this
    exact this.symm
  have e2 : t.take (k + 1) = t.take k ++ [u] := take_snocF t k u h1
  have hr := hrun
  rw [e1, trun_append] at hr
  cases hq : trun [] [] (t.take (k + 1)) with
  | none => rw [hq] at hr; simp at hr
  | some z =>
    obtain ⟨w, s⟩ := z
    rw [hq] at hr
    simp only [Option.bind_some] at hr
    have htop : w.head? = some u := by rw [e2] at hq; exact trun_top hq
    have hlast : (t.take (k + 1)).getLast? = some u := by rw [e2]; simp
    rcases trun_cons hr with ⟨hu, h3⟩ | ⟨hu, hs, h3⟩
    · obtain ⟨c, z, e⟩ := isUp_some hu
      rw [e] at htop
      simp at htop
      subst htop
      have hadj := adj_run (x := []) hq (fun A c p B e => by simp at e) rfl
      rw [List.nil_append] at hadj
      obtain ⟨j, hj⟩ := hadj [] c v z (by rw [e]; rfl)
      rw [e1]
      exact ⟨j, goP_append_left hj⟩
    · cases w with
      | nil => simp at htop
      | cons c B =>
        simp at htop
        subst htop
        obtain ⟨j, hj⟩ := up_there (A := []) (p := v) (q := c) (B := B) h3 rfl (by simp) [v] rfl
        refine ⟨(t.take (k + 1)).length + j, ?_⟩
        have := goP_append_right (a := t.take (k + 1)) hj
        rw [show t.take (k + 1) ++ ([v] ++ Y) = t from e1.symm] at this
        exact this
theorem go_both {t : List Int} {u v : Int} (hB : tB t = true) {k : Nat} (hk : goI t u v = (k : Int)) : ∃ p : Nat, goI t v u = (p : Int) ∧ p + 1 < t.length ∧ k + 1 < t.length := by
  rcases go_at (t := t) (u := u) (v := v) with ⟨k2, e, hkl, h1, h2, _⟩ | ⟨e, _⟩
  · have hkk : k = k2 := by omega
    subst hkk
    obtain ⟨j, hj⟩ := go_back hB h1 h2
    rcases go_at (t := t) (u := v) (v := u) with ⟨p, e2, hp, _⟩ | ⟨_, hn⟩
    · exact ⟨p, e2, hp, hkl⟩
    · have hj1 : j + 1 < t.length := by
        simp [goP] at hj
        exact (List.getElem?_eq_some_iff.1 hj.2).1
      rw [hn j hj1] at hj
      simp at hj
  · omega

/-- the part with the root, and the other one -/
def spT (t : List Int) (d p : Nat) : List Int × List Int × Bool := (t.take (d + 1) ++ t.drop (p + 2), (t.take (p + 1)).drop (d + 1), true)
/-- a tour, split at the edge of u and v -/
def spO (t : List Int) (u v : Int) : List Int × List Int × Bool :=
  if tB t = true ∧ 0 ≤ goI t u v then spT t (min (goI t u v) (goI t v u)).toNat (max (goI t u v) (goI t v u)).toNat else ([], [], false)
theorem spO_len (t : List Int) (u v : Int) : (spO t u v).1.length ≤ 200 ∧ (spO t u v).2.1.length ≤ 200 := by
  unfold spO
  by_cases h : tB t = true ∧ 0 ≤ goI t u v
  · rw [if_pos h]
    have := tB_len h.1
    simp [spT]
    omega
  · rw [if_neg h]; simp

/-- the answer: two lists, each of its own, and whether there are any -/
def T2Ans (w : World) (o : List Int × List Int × Bool) (e : Ending) (w' : World) : Prop :=
  ∃ a m c a' m' c' mid, e = .returned (.tuple #[.slice a m c, .slice a' m' c', .bool o.2.2]) ∧ w.heap.size ≤ mid ∧ RBox w' w.heap.size mid a m c o.1 ∧ RBox w' mid w'.heap.size a' m' c' o.2.1 ∧ Below w.heap.size w w'
/-- the same, where both may lie at one place -/
def S2Ans (w : World) (o : List Int × List Int × Bool) (e : Ending) (w' : World) : Prop :=
  ∃ a m c a' m' c', e = .returned (.tuple #[.slice a m c, .slice a' m' c', .bool o.2.2]) ∧ RBox w' w.heap.size w'.heap.size a m c o.1 ∧ RBox w' w.heap.size w'.heap.size a' m' c' o.2.1 ∧ Below w.heap.size w w'
theorem t2_no {w u : World} {o : List Int × List Int × Bool} (ho : o = ([], [], false)) (h : Below w.heap.size w u) : T2Ans w o (.returned (.tuple #[.slice none 0 0, .slice none 0 0, .bool false])) u := by
  subst ho
  exact ⟨none, 0, 0, none, 0, 0, w.heap.size, rfl, Nat.le_refl _, ⟨World.ownsRow_nil _ _ _ _, fun g hg => by simp [Value.ownBlock] at hg, h.size⟩, ⟨World.ownsRow_nil _ _ _ _, fun g hg => by simp [Value.ownBlock] at hg, Nat.le_refl _⟩, h⟩
end Go.Proofs.Ytcpffonenhhfoaa
namespace Go.Proofs.Ytcpffonenhhfoaa
open Go.RowKit

set_option maxRecDepth 100000 in
set_option maxHeartbeats 4000000 in
theorem iReroot_any (t : List Int) (v : Int) (n : Nat) (a : Option Addr) (c : Nat) (hn : n ≤ 3000000) (hc : n ≤ c) (w : World) (h : Is w w.heap.size a n t) :
    Calls Try.prog 78 #[.slice a n c, .int .i64 v] w fun e w' => TAns w (reO t v) e w' := by
  have HX := hideIt (idxI_any t v n a c hn w h)
  have HT := hideIt (iTourOk_any t n a c hn w h)
  cases hT : tB t with
  | false =>
    rw [hT] at HT
    have HO := hideIt (show reO t v = none by unfold reO; rw [hT, if_neg (by simp)])
    clear hT h
    go_enter Try.func78, Try.ntmps78
    go_wp2_with (first | (go_at_call 102; refine HX.out.mono ?_; rintro e w1 ⟨rfl, hw⟩; have hw' := hw.symm; subst hw'; clear hw) | (go_at_call 71; refine HT.out.mono ?_; rintro e w2 ⟨rfl, hb2⟩))
    go_ret2
    exact tans_no HO.out hb2
  | true =>
    rw [hT] at HT
    by_cases hm : v ∈ t
    · obtain ⟨k, hk, hkn, hkv, hkf⟩ := fst_at hm
      have hlt := fst_lt hT hkn hkv hkf
      have HO := hideIt (show reO t v = some (reT t k v) by unfold reO; rw [hT, if_pos ⟨rfl, hm⟩, hk]; rfl)
      rw [hk] at HX
      have hlen := h.1
      rw [hlen] at hkn hlt
      have HI := hideIt h
      have d1 : decide ((k : Int) < 0) = false := decide_eq_false (by omega)
      obtain ⟨b, off, rfl⟩ : ∃ b off, a = some ⟨b, off, none⟩ := by
        rcases h.2 with hz | ⟨b, off, h1, _⟩
        · omega
        · exact ⟨b, off, h1⟩
      clear hT h hm hkv hkf hk
      go_enter Try.func78, Try.ntmps78
      go_wp2_with (first | (go_at_call 102; refine HX.out.mono ?_; rintro e w1 ⟨rfl, hw⟩; have hw' := hw.symm; subst hw'; clear hw) | (go_at_call 71; refine HT.out.mono ?_; rintro e w2 ⟨rfl, hb2⟩; refine Hid.out ?_))
      refine (show ∀ {p : Prop}, p → Hid p from fun h => h) ?_
      have HI2 := hideIt (HI.out.up hb2)
      have e1 : ((n : Int) - 1).toNat = n - 1 := by omega
      have b1 : (0 : Int) ≤ (k : Int) := by omega
      have b2 : (k : Int) ≤ (n : Int) - 1 := by omega
      have b3 : (n : Int) - 1 ≤ (c : Int) := by omega
      have b4 : (k : Int) ≤ (c : Int) := by omega
      have HL : Hid (Calls Try.prog 79 #[.slice (some ⟨w2.heap.size + 1, 0, none⟩) 3 3] ((w2.alloc (.cells #[.int .i64 v] 3)).alloc (.cells #[.slice (if n - 1 = k then some ⟨b, off, none⟩ else some ⟨b, off + k, none⟩) (n - 1 - k) (n - 1 - k), .slice (some ⟨b, off, none⟩) k k, .slice (some ⟨w2.heap.size, 0, none⟩) 1 1] 50)).drew
          fun e u => ∃ g m, e = .returned (.slice (some ⟨g, 0, none⟩) m m) ∧ u.ownsRow w2.heap.size 3 1 (.slice (some ⟨g, 0, none⟩) m m) m (ic (reT t k v)) ∧ Below w2.heap.size w2 u) := by
        have hb0 : Below w2.heap.size w2 (w2.alloc (.cells #[.int .i64 v] 3)) := (Below.refl _ _).alloc (Nat.le_refl _) _
        have hi2 := HI2.out.up hb0
        have hP := parts3 (p1 := ⟨if n - 1 = k then some ⟨b, off, none⟩ else some ⟨b, off + k, none⟩, n - 1 - k, n - 1 - k, (t.take (n - 1)).drop k⟩) (p2 := ⟨some ⟨b, off, none⟩, k, k, t.take k⟩) (p3 := ⟨some ⟨w2.heap.size, 0, none⟩, 1, 1, [v]⟩) (hi2.cut (by omega) (by omega)) (hi2.take (by show k ≤ n; omega)) (Is.single w2 v)
        have hs : (w2.alloc (.cells #[.int .i64 v] 3)).heap.size = w2.heap.size + 1 := by simp
        rw [hs] at hP
        refine (laid_any _ _ 3 rfl (by omega) _ hP (by simp [qLen]; omega)).mono fun e u ⟨g, m, he, ho, hb⟩ => ⟨g, m, he, ?_, ?_⟩
        · have hq : qAll [⟨if n - 1 = k then some ⟨b, off, none⟩ else some ⟨b, off + k, none⟩, n - 1 - k, n - 1 - k, (t.take (n - 1)).drop k⟩, ⟨some ⟨b, off, none⟩, k, k, t.take k⟩, ⟨some ⟨w2.heap.size, 0, none⟩, 1, 1, [v]⟩] = reT t k v := by
            simp [qAll, reT, hlen]
          rw [hq] at ho
          exact own_mono ho (by simp; omega)
        · exact ((hb0.alloc (by simp) _).drew).trans (hb.mono (by simp; omega))
      clear HI2 HI
      rcases hlt with hlt | ⟨rfl, rfl⟩
      · have hne : ¬ (n - 1 = k) := by omega
        rw [if_neg hne] at HL
        go_wp2
        go_region_held3 (fun _ => True) (trivial) ((go_at_call 79; refine HL.out.mono ?_; rintro e w3 ⟨g, m, rfl, ho3, hb3⟩))
        all_goals
          go_wp2
          go_ret2
          exact tans_yes HO.out hb2.size ho3 (hb2.trans (hb3.mono hb2.size))
      · rw [if_pos (by omega), show 1 - 1 - 0 = 0 from rfl] at HL
        go_wp2
        go_region_held3 (fun _ => True) (trivial) ((go_at_call 79; refine HL.out.mono ?_; rintro e w3 ⟨g, m, rfl, ho3, hb3⟩))
        all_goals
          go_wp2
          go_ret2
          exact tans_yes HO.out hb2.size ho3 (hb2.trans (hb3.mono hb2.size))
    · have HO := hideIt (show reO t v = none by unfold reO; rw [if_neg (by simp [hm])])
      rw [fst_no hm] at HX
      clear hT h hm
      go_enter Try.func78, Try.ntmps78
      go_wp2_with (first | (go_at_call 102; refine HX.out.mono ?_; rintro e w1 ⟨rfl, hw⟩; have hw' := hw.symm; subst hw'; clear hw) | (go_at_call 71; refine HT.out.mono ?_; rintro e w2 ⟨rfl, hb2⟩))
      go_ret2
      exact tans_no HO.out hb2
end Go.Proofs.Ytcpffonenhhfoaa
namespace Go.Proofs.Ytcpffonenhhfoaa
open Go.RowKit Go.Shelf
attribute [local go_sem] Oper.semAt_some

/-- a place and what stands there, as yield takes it -/
abbrev plV (x : Int × Int) : Array Value := #[.int .i64 x.1, .int .i64 x.2]
/-- what has come: the places from the last one down -/
def Bw (ls : List Int) (pre : List (Int × Int)) : Prop := pre.length ≤ ls.length ∧ ∀ (j : Nat) (x : Int × Int), pre[j]? = some x → x.1 = (ls.length : Int) - 1 - (j : Int) ∧ ls[ls.length - 1 - j]? = some x.2
theorem Bw.nil (ls : List Int) : Bw ls [] := ⟨by simp, fun j x h => by simp at h⟩
theorem Bw.snoc {ls : List Int} {pre : List (Int × Int)} (h : Bw ls pre) {k : Nat} {f : Int} (hk : pre.length + (k + 1) = ls.length) (hf : ls[k]? = some f) : Bw ls (pre ++ [((k : Int), f)]) := by
  refine ⟨by simp; omega, fun j x hx => ?_⟩
  by_cases hj : j < pre.length
  · rw [List.getElem?_append_left hj] at hx
    exact h.2 j x hx
  · rw [List.getElem?_append_right (by omega)] at hx
    have h0 : j - pre.length = 0 := by
      have := (List.getElem?_eq_some_iff.1 hx).1
      simp at this
      omega
    rw [h0] at hx
    simp at hx
    subst hx
    refine ⟨by show (k : Int) = _; omega, ?_⟩
    rw [show ls.length - 1 - j = k by omega]
    exact hf

set_option maxRecDepth 100000 in
set_option maxHeartbeats 2000000 in
theorem backIt_in (n l B n0 : Nat) (hn : 1 ≤ n) (ls : List Int) (m : Nat) (a : Option Addr) (c : Nat) (hm : m ≤ 3000000) (hB : B < n0) (J Jx : List (Int × Int) → World → Prop)
    (hY : ∀ pre x W1, J pre W1 → pre.length < m → YieldAt Fence.wide (n - 1) Try.prog l (plV x) W1 fun e W' =>
      (e = .returned (.bool true) ∧ J (pre ++ [x]) W' ∧ Below n0 W1 W') ∨ (e = .returned (.bool false) ∧ Jx (pre ++ [x]) W'))
    (W : World) (hBc : W.cell? ⟨B, 0, none⟩ = some (.slice a m c)) (hI : Is W n0 a m ls) (h0 : J [] W) :
    CallsIn Fence.wide n Try.prog 119 #[.func (.yield l) #[] #[], .pointer (some ⟨B, 0, none⟩)] W fun e W' => (∃ v, e = .returned v) ∧
      ((∃ ys, (Bw ls ys ∧ ys.length = m) ∧ J ys W') ∨ (∃ pre, Bw ls pre ∧ Jx pre W')) := by
  obtain ⟨hlen, hrow⟩ := hI
  have HR := hideIt hrow
  clear hrow
  refine callsIn_of_wp Try.func119 rfl trivial ?_ rfl
  simp only [Try.ntmps119, List.size_toArray, List.length_cons, List.length_nil, Nat.reduceAdd, Nat.reduceSub, Array.replicate_succ, Array.replicate_zero, List.push_toArray, List.append_toArray, List.nil_append, List.cons_append]
  gi_wp2
  gi_loopw [3] (fun i wr => ∃ (k : Nat) (pre : List (Int × Int)), k ≤ m ∧ i = .int .i64 ((k : Int) - 1) ∧ pre.length + k = m ∧ Hid (Bw ls pre) ∧ Below n0 W wr ∧ J pre wr)
    (fun i _ => (intOf i + 1).toNat)
  case atStart => exact ⟨m, [], by omega, rfl, by simp, Bw.nil ls, Below.refl _ _, h0⟩
  case round =>
    obtain ⟨k, pre, hk, rfl, hpk, HBw, hb, hJ⟩ := hrel
    rcases k with _ | k
    · have d0 : decide ((0 : Int) ≤ ((0 : Nat) : Int) - 1) = false := decide_eq_false (by omega)
      gi_wp2
      go_end0
      exact ⟨⟨_, rfl⟩, .inl ⟨pre, ⟨HBw.out, by omega⟩, hJ⟩⟩
    · rcases HR.out with hz | ⟨b, off, rfl, hbl, hc⟩
      · omega
      · obtain ⟨f, hf⟩ : ∃ f, ls[k]? = some f := ⟨ls[k]'(by omega), List.getElem?_eq_getElem (by omega)⟩
        have e0 : wr.cell? ⟨b, off + k, none⟩ = some (.int .i64 f) := by rw [hb.cell hbl]; exact hc k f hf
        have eB : wr.cell? ⟨B, 0, none⟩ = some (.slice (some ⟨b, off, none⟩) m c) := by rw [hb.cell hB]; exact hBc
        have ek : ((k + 1 : Nat) : Int) - 1 = (k : Int) := by omega
        rw [ek]
        have b1 : (0 : Int) ≤ (k : Int) := by omega
        have b2 : (k : Int) < (m : Int) := by omega
        have d0 : decide ((0 : Int) ≤ (k : Int)) = true := decide_eq_true (by omega)
        have HB2 := hideIt (HBw.out.snoc (by omega) hf)
        obtain ⟨fn, tmps, assign, body, hy, hR⟩ := hY pre ((k : Int), f) wr hJ (by omega)
        dsimp only [plV] at hy
        clear hc hf ek HBw
        gi_wp2
        refine hR.mono ?_
        rintro e W3 (⟨rfl, hJ3, hk3⟩ | ⟨rfl, hJx3⟩)
        · gi_wp2
          exact ⟨⟨k, pre ++ [((k : Int), f)], by omega, rfl, by simp; omega, HB2, hb.trans hk3, hJ3⟩, by simp [intOf]⟩
        · gi_wp2
          (try simp only [Exit.inBlock, Exit.then])
          refine bodyPost_ret (v := .tuple #[]) (results_none rfl _ _ _) rfl ?_
          exact ⟨⟨_, rfl⟩, .inr ⟨_, HB2.out, hJx3⟩⟩

theorem back_stops (n B n0 : Nat) (hn : 1 ≤ n) (ls : List Int) (m : Nat) (a : Option Addr) (c : Nat) (hm : m ≤ 3000000) (hB : B < n0) (w1 : World) (hn0 : n0 ≤ w1.heap.size) (hBc : w1.cell? ⟨B, 0, none⟩ = some (.slice a m c)) (hI : Is w1 n0 a m ls) :
    SeqStopsK Fence.wide n Try.prog 119 #[.pointer (some ⟨B, 0, none⟩)] plV (Below n0) (fun ys => Bw ls ys ∧ ys.length = m) (fun pre => Bw ls pre) m w1 := fun l J Jx W hW _ _ hY h0 =>
  backIt_in n l B n0 hn ls m a c hm hB J Jx hY W ((hW.cell (p := ⟨B, 0, none⟩) (by show B < _; omega)).trans hBc) (hI.below hW hn0) h0

theorem backI_in (n : Nat) (a : Option Addr) (m c : Nat) (w : World) :
    CallsIn Fence.wide n Try.prog 101 #[.slice a m c] w fun e w' => e = .returned (.func (.func 119) #[] #[.pointer (some ⟨w.heap.size, 0, none⟩)]) ∧ w' = w.alloc (.cells #[.slice a m c] 50) := by
  refine callsIn_of_wp Try.func101 rfl trivial ?_ rfl
  simp only [Try.ntmps101, List.size_toArray, List.length_cons, List.length_nil, Nat.reduceAdd, Nat.reduceSub, Array.replicate_succ, Array.replicate_zero, List.push_toArray, List.append_toArray, List.nil_append, List.cons_append]
  gi_wp2
  go_ret
  exact ⟨rfl, rfl⟩

theorem lst_at {ls : List Int} {v : Int} {p : Nat} (hp : ls[p]? = some v) (hn : ∀ j, p < j → j < ls.length → ls[j]? ≠ some v) : lstI ls v = (p : Int) := by
  rcases lastN_cases (atP ls v) ls.length with ⟨k, h1, h2, h3, h4⟩ | ⟨h1, _⟩
  · have hk : ls[k]? = some v := by simpa [atP] using h2
    have hpl := (List.getElem?_eq_some_iff.1 hp).1
    rcases Nat.lt_trichotomy k p with h | h | h
    · have := h3 p h hpl
      rw [atP_yes hp] at this
      simp at this
    · rw [← h]; exact h4
    · exact absurd hk (hn k h h1)
  · have := h1 p (List.getElem?_eq_some_iff.1 hp).1
    rw [atP_yes hp] at this
    simp at this
theorem lst_none {ls : List Int} {v : Int} (hn : ∀ j, j < ls.length → ls[j]? ≠ some v) : lstI ls v = -1 := by
  rcases lastN_cases (atP ls v) ls.length with ⟨k, h1, h2, h3, h4⟩ | ⟨_, h2⟩
  · exact absurd (by simpa [atP] using h2) (hn k h1)
  · exact h2
theorem bw_stop {ls : List Int} {v : Int} {pre : List (Int × Int)} {x : Int × Int} (h : Bw ls (pre ++ [x])) (hx : x.2 = v) (hn : ∀ y ∈ pre, y.2 ≠ v) : lstI ls v = x.1 := by
  have hl := h.1
  simp at hl
  obtain ⟨h1, h2⟩ := h.2 pre.length x (by simp)
  rw [h1, show (ls.length : Int) - 1 - (pre.length : Int) = ((ls.length - 1 - pre.length : Nat) : Int) by omega]
  refine lst_at (by rw [h2, hx]) fun j hj hjl e => ?_
  obtain ⟨y, hy⟩ : ∃ y, pre[ls.length - 1 - j]? = some y := ⟨pre[ls.length - 1 - j]'(by omega), List.getElem?_eq_getElem (by omega)⟩
  obtain ⟨_, h4⟩ := h.2 (ls.length - 1 - j) y (by rw [List.getElem?_append_left (by omega)]; exact hy)
  rw [show ls.length - 1 - (ls.length - 1 - j) = j by omega, e] at h4
  exact hn y (List.mem_of_getElem? hy) (by simpa using h4.symm)
theorem bw_done {ls : List Int} {v : Int} {pre : List (Int × Int)} (h : Bw ls pre) (hl : pre.length = ls.length) (hn : ∀ y ∈ pre, y.2 ≠ v) : lstI ls v = -1 := by
  refine lst_none fun j hj e => ?_
  obtain ⟨y, hy⟩ : ∃ y, pre[ls.length - 1 - j]? = some y := ⟨pre[ls.length - 1 - j]'(by omega), List.getElem?_eq_getElem (by omega)⟩
  obtain ⟨_, h4⟩ := h.2 (ls.length - 1 - j) y hy
  rw [show ls.length - 1 - (ls.length - 1 - j) = j by omega, e] at h4
  exact hn y (List.mem_of_getElem? hy) (by simpa using h4.symm)

set_option maxRecDepth 100000 in
set_option maxHeartbeats 2000000 in
theorem lastPlace_any (ls : List Int) (v : Int) (m : Nat) (a : Option Addr) (c : Nat) (hm : m ≤ 3000000) (w : World) (h : Is w w.heap.size a m ls) :
    Calls Try.prog 77 #[.slice a m c, .int .i64 v] w fun e w' => e = .returned (.int .i64 (lstI ls v)) ∧ Below w.heap.size w w' := by
  refine (callsIn_wide (n := 6)).1 ?_
  refine callsIn_of_wp_marks Try.func77 rfl trivial ?_ rfl
  simp only [Try.ntmps77, List.size_toArray, List.length_cons, List.length_nil, Nat.reduceAdd, Nat.reduceSub, Array.replicate_succ, Array.replicate_zero, List.push_toArray, List.append_toArray, List.nil_append, List.cons_append]
  gi_wp2_with (refine ⟨trivial, ?_⟩; gi_at_call 101; refine (backI_in _ _ _ _ _).mono ?_; rintro e w' ⟨rfl, rfl⟩)
  have bV0 := Boxed.new w 3 (.int .i64 v)
  have bR0 := Boxed.new (w.alloc (.cells #[.int .i64 v] 3)) 3 (.int .i64 0)
  rw [World.size_alloc] at bR0
  have bS := Boxed.new ((w.alloc (.cells #[.int .i64 v] 3)).alloc (.cells #[.int .i64 0] 3)) 50 (.slice a m c)
  rw [World.size_alloc, World.size_alloc] at bS
  have bR := bR0.alloc (.cells #[.slice a m c] 50)
  have bV := (bV0.alloc (.cells #[.int .i64 0] 3)).alloc (.cells #[.slice a m c] 50)
  have hB0 : Below w.heap.size w (((w.alloc (.cells #[.int .i64 v] 3)).alloc (.cells #[.int .i64 0] 3)).alloc (.cells #[.slice a m c] 50)) := (((Below.refl _ w).alloc (Nat.le_refl _) _).alloc (by simp) _).alloc (by simp; omega) _
  have hlen := h.1
  have hI0 := (h.up hB0)
  simp only [World.size_alloc] at hI0
  refine wpIn_rangeFunc_ownF rfl (by omega) (gf := 119) (lb := #[.pointer (some ⟨w.heap.size + 1 + 1, 0, none⟩)]) rfl trivial (enters_of Try.func119 (by kernel_rfl) rfl)
    (back_stops 5 (w.heap.size + 1 + 1) (w.heap.size + 1 + 1 + 1) (by omega) ls m a c hm (by omega) _ (by simp) bS.cell hI0) belowK_t (belowK_b (by simp)) (Below.refl _ _) (fun _ => rfl)
    (fun pre W => ((Boxed W w.heap.size 3 (.int .i64 v) ∧ Boxed W (w.heap.size + 1) 3 (.int .i64 0)) ∧ Below w.heap.size w W) ∧ ∀ y ∈ pre, y.2 ≠ v)
    (fun cc pre W => ((∃ x, Boxed W (w.heap.size + 1) 3 (.int .i64 x) ∧ (Bw ls pre → lstI ls v = x)) ∧ Below w.heap.size w W) ∧ cc = .ret)
    ?hI ?hIx ⟨⟨⟨bV, bR⟩, hB0⟩, by simp⟩
    (fun x => { tmps := #[.slice a m c, .int .i64 v, undef, .pointer (some ⟨w.heap.size, 0, none⟩), .pointer (some ⟨w.heap.size + 1, 0, none⟩), .int .i64 x.1, .int .i64 x.2, .slice a m c, .func (.func 119) #[] #[.pointer (some ⟨w.heap.size + 1 + 1, 0, none⟩)], .int .i64 x.1, .int .i64 x.2, undef, undef, undef, undef], defers := [] }) ?assign ?body ?done ?stop
  case hI => exact OwnFrom.and (OwnFrom.and (OwnFrom.and (Own.from (boxed_own _ _ _) _) (Own.from (boxed_own _ _ _) _)) (ownFrom_below (Nat.le_refl _) (by simp; omega))) (fun _ _ _ _ hs _ _ => hs)
  case hIx =>
    intro cc
    refine OwnFrom.and (OwnFrom.and ?_ (ownFrom_below (Nat.le_refl _) (by simp; omega))) (fun _ _ _ _ hs _ _ => hs)
    rintro s X Y row ⟨x, hb, hx⟩ hg hr
    exact ⟨x, hb.kept hg (fun e' => by obtain ⟨_, o, ho, hc⟩ := hr _ e'.symm; rw [show X.heap[_]? = _ from hb] at ho; cases ho; cases hc), hx⟩
  case assign =>
    intro l x W K hK
    gi_wp2
    exact hK
  case body =>
    rintro l pre x W ⟨⟨⟨hV, hR⟩, hB⟩, hn⟩ hlt
    have hc := hV.cell
    have hf := hR.frozen
    have hc2 := hR.cell
    by_cases hx : x.2 = v
    · have d1 : (x.2 == v) = true := by simpa using hx
      gi_wp2
      exact ⟨KeepsOthers.setCell _ _ _, ⟨⟨x.1, hR.set _, fun h => bw_stop h hx hn⟩, hB.setCell (p := ⟨w.heap.size + 1, 0, none⟩) (by show w.heap.size ≤ w.heap.size + 1; omega) _⟩, rfl⟩
    · have d1 : (x.2 == v) = false := by simpa using hx
      gi_wp2
      refine ⟨KeepsOthers.refl _, Below.refl _ _, ⟨⟨hV, hR⟩, hB⟩, fun y hy => ?_⟩
      rcases List.mem_append.1 hy with h | h
      · exact hn y h
      · simp at h; rw [h]; exact hx
  case done =>
    rintro D ys W hD ⟨hbw, hl⟩ ⟨⟨⟨hV, hR⟩, hB⟩, hn⟩ hK
    have hc2 := hR.cell
    have hf := hR.frozen
    have hlst := hideIt (bw_done hbw (by omega) hn)
    have HRb := hideIt (hR.set (.int .i64 (-1)))
    have HBb := hideIt (hB.setCell (p := ⟨w.heap.size + 1, 0, none⟩) (by show w.heap.size ≤ w.heap.size + 1; omega) (.int .i64 (-1)))
    clear hn hbw
    gi_wp2
    have hK2 := (KeepsOthers.setCell W ⟨w.heap.size + 1, 0, none⟩ (.int .i64 (-1))).same D _ hK rfl
    refine ⟨by simp, .inl ⟨_, _, rfl, run_takeDeferred hK2, ?_⟩⟩
    simp only [World.size_alloc] at hD
    have hc3 := (HRb.out.kept (grownBy_putObj' _ D (.deferred none)) (fun e => by simp at e; omega)).cell
    refine ⟨.int .i64 (-1), by simp [results, Try.results77, go_sem, hc3], by rw [hlst.out], ?_⟩
    exact HBb.out.trans (belowK_b (w := w) (Nat.le_refl _) _ D _ _ (by omega) hK2 rfl rfl)
  case stop =>
    rintro D cc pre W hD hbw ⟨⟨⟨x, hR, hx⟩, hB⟩, rfl⟩ hK
    have hlst := hideIt (hx hbw)
    clear hx hbw
    gi_wp2
    refine ⟨by simp, .inl ⟨_, _, rfl, run_takeDeferred hK, ?_⟩⟩
    simp only [World.size_alloc] at hD
    have hc3 := (hR.kept (grownBy_putObj' _ D (.deferred none)) (fun e => by simp at e; omega)).cell
    refine ⟨.int .i64 x, by simp [results, Try.results77, go_sem, hc3], by rw [hlst.out], ?_⟩
    exact hB.trans (belowK_b (w := w) (Nat.le_refl _) _ D _ _ (by omega) hK rfl rfl)
end Go.Proofs.Ytcpffonenhhfoaa
namespace Go.Proofs.Ytcpffonenhhfoaa
open Go.RowKit

/-- a number of the one list is in the other -/
def comB (us vs : List Int) : Bool := us.any fun x => decide (x ∈ vs)
def comP (us vs : List Int) (k : Nat) : Bool := match us[k]? with | some x => decide (x ∈ vs) | none => false
theorem comP_at {us vs : List Int} {k : Nat} {f : Int} (h : us[k]? = some f) : comP us vs k = decide (f ∈ vs) := by simp [comP, h]
theorem comB_yes {us vs : List Int} {k : Nat} (hc : comP us vs k = true) : comB us vs = true := by
  unfold comP at hc
  cases h : us[k]? with
  | none => rw [h] at hc; simp at hc
  | some x =>
    rw [h] at hc
    unfold comB
    rw [List.any_eq_true]
    exact ⟨x, List.mem_of_getElem? h, hc⟩
theorem comB_no {us vs : List Int} (hc : ∀ j, j < us.length → comP us vs j = false) : comB us vs = false := by
  unfold comB
  rw [List.any_eq_false]
  intro x hx
  obtain ⟨k, hk⟩ := List.mem_iff_getElem?.1 hx
  have := hc k (List.getElem?_eq_some_iff.1 hk).1
  rw [comP_at hk] at this
  simpa using this
theorem com_first (us vs : List Int) : decide (0 ≤ firstN (comP us vs) us.length) = comB us vs := by
  rcases firstN_cases (comP us vs) us.length with ⟨k, _, h, _, e⟩ | ⟨h, e⟩
  · rw [e, comB_yes h]; simp
  · rw [e, comB_no h]; rfl

theorem comIt_any (vs : List Int) (x : Int) (B n : Nat) (a : Option Addr) (c : Nat) (hn : n ≤ 3000000) (w : World) (hB : w.cell? ⟨B, 0, none⟩ = some (.slice a n c)) (h : Is w w.heap.size a n vs) :
    Calls Try.prog 83 #[.int .i64 x, .pointer (some ⟨B, 0, none⟩)] w fun e w' => e = .returned (.bool (decide (x ∈ vs))) ∧ w' = w := by
  have HC := hideIt (conI_any vs x n a c hn w h)
  clear h
  go_enter Try.func83, Try.ntmps83
  go_wp2_with (go_at_call 84; refine HC.out.mono ?_; rintro e w1 ⟨rfl, rfl⟩)
  go_ret
  exact ⟨rfl, rfl⟩

set_option maxHeartbeats 1000000 in
theorem idxF_any (us vs : List Int) (n : Nat) (a : Option Addr) (c : Nat) (hn : n ≤ 3000000) (B nb : Nat) (b : Option Addr) (cb : Nat) (hnb : nb ≤ 3000000) (w : World) (h : Is w w.heap.size a n us) (hB : w.cell? ⟨B, 0, none⟩ = some (.slice b nb cb)) (hb : Is w w.heap.size b nb vs) :
    Calls Try.prog 85 #[.slice a n c, .func (.func 83) #[] #[.pointer (some ⟨B, 0, none⟩)]] w fun e w' => e = .returned (.int .i64 (firstN (comP us vs) us.length)) ∧ w' = w := by
  have HC := hideIt (fun x => comIt_any vs x B nb b cb hnb w hB hb)
  obtain ⟨hlen, hrow⟩ := h
  have HR := hideIt hrow
  clear hrow hb hB
  go_enter Try.func85, Try.ntmps85
  go_wp2
  go_loopw [8] (fun i wr => ∃ (k : Nat), k ≤ n ∧ i = .int .i64 (k : Int) ∧ Hid (∀ j, j < k → comP us vs j = false) ∧ wr = w) (fun i _ => n - (intOf i).toNat)
  case atStart => exact ⟨0, by omega, rfl, fun j hj => by omega, rfl⟩
  case round =>
    obtain ⟨k, hk, rfl, HF, hw⟩ := hrel
    have hw' := hw.symm
    subst hw'
    clear hw
    by_cases hlt : k < n
    · rcases HR.out with hz | ⟨b1, off, rfl, hbl, hc⟩
      · omega
      · obtain ⟨f, hf⟩ : ∃ f, us[k]? = some f := ⟨us[k]'(by omega), List.getElem?_eq_getElem (by omega)⟩
        have e0 := hc k f hf
        have b1 : (0 : Int) ≤ (k : Int) := by omega
        have b2 : (k : Int) < (n : Int) := by omega
        have HC1 := hideIt (HC.out f)
        have hcf := comP_at (vs := vs) hf
        cases hv : decide (f ∈ vs) with
        | true =>
          rw [hv] at HC1 hcf
          have hm := hideIt (show firstN (comP us vs) us.length = (k : Int) from firstN_yes (by omega) hcf HF.out)
          clear hc hf hv HF hcf
          go_wp2_with (go_at_call 83; refine HC1.out.mono ?_; rintro e w1 ⟨rfl, hw⟩; have hw' := hw.symm; subst hw'; clear hw)
          go_ret
          exact ⟨retI hm.out, rfl⟩
        | false =>
          rw [hv] at HC1 hcf
          have HF2 := hideIt (all_step HF.out hcf)
          clear hc hf hv HF hcf
          go_wp2_with (go_at_call 83; refine HC1.out.mono ?_; rintro e w1 ⟨rfl, hw⟩; have hw' := hw.symm; subst hw'; clear hw)
          exact ⟨⟨k + 1, by omega, by go_num, HF2, by first | trivial | rfl⟩, by simp [intOf]; omega⟩
    · obtain rfl : k = n := by omega
      have hm := hideIt (show firstN (comP us vs) us.length = -1 from firstN_no (by rw [hlen]; exact HF.out))
      clear HF
      go_wp2
      go_ret
      exact ⟨retI hm.out, rfl⟩

theorem conF_any (us vs : List Int) (n : Nat) (a : Option Addr) (c : Nat) (hn : n ≤ 3000000) (B nb : Nat) (b : Option Addr) (cb : Nat) (hnb : nb ≤ 3000000) (w : World) (h : Is w w.heap.size a n us) (hB : w.cell? ⟨B, 0, none⟩ = some (.slice b nb cb)) (hb : Is w w.heap.size b nb vs) :
    Calls Try.prog 82 #[.slice a n c, .func (.func 83) #[] #[.pointer (some ⟨B, 0, none⟩)]] w fun e w' => e = .returned (.bool (comB us vs)) ∧ w' = w := by
  have HI := hideIt (idxF_any us vs n a c hn B nb b cb hnb w h hB hb)
  have HM := hideIt (com_first us vs)
  clear h hB hb
  generalize firstN (comP us vs) us.length = x at *
  go_enter Try.func82, Try.ntmps82
  go_wp2_with (go_at_call 85; refine HI.out.mono ?_; rintro e w1 ⟨rfl, rfl⟩)
  go_ret
  exact ⟨by rw [← HM.out]; rfl, rfl⟩

theorem haveCommon_any (us vs : List Int) (n : Nat) (a : Option Addr) (c : Nat) (hn : n ≤ 3000000) (nb : Nat) (b : Option Addr) (cb : Nat) (hnb : nb ≤ 3000000) (w : World) (h : Is w w.heap.size a n us) (hb : Is w w.heap.size b nb vs) :
    Calls Try.prog 55 #[.slice a n c, .slice b nb cb] w fun e w' => e = .returned (.bool (comB us vs)) ∧ Below w.heap.size w w' := by
  have hbl : Below w.heap.size w (w.alloc (.cells #[.slice b nb cb] 50)) := (Below.refl _ _).alloc (Nat.le_refl _) _
  have HI := hideIt (conF_any us vs n a c hn w.heap.size nb b cb hnb (w.alloc (.cells #[.slice b nb cb] 50)) (h.up hbl) (by simp) (hb.up hbl))
  clear h hb
  go_enter Try.func55, Try.ntmps55
  go_wp2_with (go_at_call 82; refine HI.out.mono ?_; rintro e w1 ⟨rfl, rfl⟩)
  go_ret
  exact ⟨rfl, hbl⟩
end Go.Proofs.Ytcpffonenhhfoaa
namespace Go.Proofs.Ytcpffonenhhfoaa
open Go.RowKit

/-- a up to the place k, r, and a from that place on -/
def joT (t : List Int) (k : Nat) (r : List Int) : List Int := t.take (k + 1) ++ (r ++ t.drop k)
/-- two tours, joined -/
def joO (ta : List Int) (u : Int) (tb : List Int) (v : Int) : Option (List Int) :=
  if (tB ta = true ∧ tB tb = true) ∧ (u ∈ ta ∧ v ∈ tb) ∧ comB ta tb = false then some (joT ta (lstI ta u).toNat (reT tb (fstI tb v).toNat v)) else none
theorem reO_none {t : List Int} {v : Int} (h : reO t v = none) : ¬ (tB t = true ∧ v ∈ t) := by
  unfold reO at h
  by_cases hc : tB t = true ∧ v ∈ t
  · rw [if_pos hc] at h; simp at h
  · exact hc
theorem reO_some {t r : List Int} {v : Int} (h : reO t v = some r) : tB t = true ∧ v ∈ t ∧ r = reT t (fstI t v).toNat v := by
  unfold reO at h
  by_cases hc : tB t = true ∧ v ∈ t
  · rw [if_pos hc] at h; simp at h; exact ⟨hc.1, hc.2, h.symm⟩
  · rw [if_neg hc] at h; simp at h
theorem lst_mem {t : List Int} {v : Int} (h : v ∈ t) : ∃ k : Nat, lstI t v = (k : Int) ∧ k < t.length ∧ t[k]? = some v := by
  rcases lastN_cases (atP t v) t.length with ⟨k, h1, h2, _, h4⟩ | ⟨h1, _⟩
  · exact ⟨k, h4, h1, by simpa [atP] using h2⟩
  · exact absurd h (mem_of_atP rfl h1)
theorem lst_no {t : List Int} {v : Int} (h : v ∉ t) : lstI t v = -1 := by
  rcases lastN_cases (atP t v) t.length with ⟨k, h1, h2, _, h4⟩ | ⟨_, h2⟩
  · exact absurd (List.mem_of_getElem? (by simpa [atP] using h2 : t[k]? = some v)) h
  · exact h2
theorem reT_len {t : List Int} {v : Int} (hB : tB t = true) (k : Nat) : (reT t k v).length ≤ 50 := by
  have := tB_len hB
  simp [reT]
  omega

set_option maxRecDepth 100000 in
set_option maxHeartbeats 4000000 in
theorem iJoinTours_any (ta : List Int) (u : Int) (tb : List Int) (v : Int) (n : Nat) (a : Option Addr) (c : Nat) (hn : n ≤ 1048576) (hc : n ≤ c) (nb : Nat) (b : Option Addr) (cb : Nat) (hnb : nb ≤ 1048576) (hcb : nb ≤ cb) (w : World) (h : Is w w.heap.size a n ta) (hb : Is w w.heap.size b nb tb) :
    Calls Try.prog 50 #[.slice a n c, .int .i64 u, .slice b nb cb, .int .i64 v] w fun e w' => TAns w (joO ta u tb v) e w' := by
  have HL := hideIt (lastPlace_any ta u n a c (by omega) w h)
  have HR := hideIt (fun x (hx : Below w.heap.size w x) => iReroot_any tb v nb b cb (by omega) hcb x (hb.up hx))
  have HT := hideIt (fun x (hx : Below w.heap.size w x) => iTourOk_any ta n a c (by omega) x (h.up hx))
  have HC := hideIt (fun x (hx : Below w.heap.size w x) => haveCommon_any ta tb n a c (by omega) nb b cb (by omega) x (h.up hx) (hb.up hx))
  have HI := hideIt h
  have hlen := h.1
  cases hR : reO tb v with
  | none =>
    have HO := hideIt (show joO ta u tb v = none by unfold joO; rw [if_neg (fun hh => reO_none hR ⟨hh.1.2, hh.2.1.2⟩)])
    rw [hR] at HR
    clear hR h hb HC HT
    go_enter Try.func50, Try.ntmps50
    go_wp2_with (go_at_call 77; refine HL.out.mono ?_; rintro e w1 ⟨rfl, hb1⟩; refine Hid.out ?_)
    refine (show ∀ {p : Prop}, p → Hid p from fun h => h) ?_
    have HR1 := hideIt (HR.out w1 hb1)
    go_wp2_with (go_at_call 78; refine HR1.out.mono ?_; rintro e w2 ⟨ai, mi, ci, rfl, hoi, hb2⟩; refine Hid.out ?_)
    refine (show ∀ {p : Prop}, p → Hid p from fun h => h) ?_
    clear HR1
    have B2 := hb1.trans (hb2.mono hb1.size)
    clear hoi
    go_wp2
    go_ret2
    exact tans_no HO.out B2
  | some r =>
    obtain ⟨hTb, hvb, hr⟩ := reO_some hR
    have hrl := reT_len (v := v) hTb (fstI tb v).toNat
    rw [← hr] at hrl
    rw [hR] at HR
    cases hT : tB ta with
    | false =>
      have HO := hideIt (show joO ta u tb v = none by unfold joO; rw [if_neg (fun hh => by have := hh.1.1; rw [hT] at this; simp at this)])
      rw [hT] at HT
      clear hR h hb HC hT
      go_enter Try.func50, Try.ntmps50
      go_wp2_with (go_at_call 77; refine HL.out.mono ?_; rintro e w1 ⟨rfl, hb1⟩; refine Hid.out ?_)
      refine (show ∀ {p : Prop}, p → Hid p from fun h => h) ?_
      have HR1 := hideIt (HR.out w1 hb1)
      go_wp2_with (go_at_call 78; refine HR1.out.mono ?_; rintro e w2 ⟨ai, mi, ci, rfl, hoi, hb2⟩; refine Hid.out ?_)
      refine (show ∀ {p : Prop}, p → Hid p from fun h => h) ?_
      clear HR1
      have B2 := hb1.trans (hb2.mono hb1.size)
      have HT2 := hideIt (HT.out w2 B2)
      clear hoi
      go_wp2_with (go_at_call 71; refine HT2.out.mono ?_; rintro e w3 ⟨rfl, hb3⟩)
      go_ret2
      exact tans_no HO.out (B2.trans (hb3.mono B2.size))
    | true =>
      rw [hT] at HT
      by_cases hu : u ∈ ta
      · obtain ⟨k, hk, hkn, _⟩ := lst_mem hu
        rw [hk] at HL
        rw [hlen] at hkn
        have d1 : decide ((k : Int) < 0) = false := decide_eq_false (by omega)
        cases hC : comB ta tb with
        | true =>
          have HO := hideIt (show joO ta u tb v = none by unfold joO; rw [if_neg (fun hh => by have := hh.2.2; rw [hC] at this; simp at this)])
          rw [hC] at HC
          clear hR h hb hT hC hk hu
          go_enter Try.func50, Try.ntmps50
          go_wp2_with (go_at_call 77; refine HL.out.mono ?_; rintro e w1 ⟨rfl, hb1⟩; refine Hid.out ?_)
          refine (show ∀ {p : Prop}, p → Hid p from fun h => h) ?_
          have HR1 := hideIt (HR.out w1 hb1)
          go_wp2_with (go_at_call 78; refine HR1.out.mono ?_; rintro e w2 ⟨ai, mi, ci, rfl, hoi, hb2⟩; refine Hid.out ?_)
          refine (show ∀ {p : Prop}, p → Hid p from fun h => h) ?_
          clear HR1
          have B2 := hb1.trans (hb2.mono hb1.size)
          have HT2 := hideIt (HT.out w2 B2)
          clear hoi
          go_wp2_with (go_at_call 71; refine HT2.out.mono ?_; rintro e w3 ⟨rfl, hb3⟩; refine Hid.out ?_)
          refine (show ∀ {p : Prop}, p → Hid p from fun h => h) ?_
          have B3 := B2.trans (hb3.mono B2.size)
          have HC3 := hideIt (HC.out w3 B3)
          go_wp2_with (go_at_call 55; refine HC3.out.mono ?_; rintro e w4 ⟨rfl, hb4⟩)
          go_ret2
          exact tans_no HO.out (B3.trans (hb4.mono B3.size))
        | false =>
          have HO := hideIt (show joO ta u tb v = some (joT ta k r) by unfold joO; rw [if_pos ⟨⟨hT, hTb⟩, ⟨hu, hvb⟩, hC⟩, hk, hr]; rfl)
          rw [hC] at HC
          obtain ⟨b1, off, rfl⟩ : ∃ b1 off, a = some ⟨b1, off, none⟩ := by
            rcases h.2 with hz | ⟨b1, off, h1, _⟩
            · omega
            · exact ⟨b1, off, h1⟩
          clear hR h hb hT hC hk hu hr
          go_enter Try.func50, Try.ntmps50
          go_wp2_with (go_at_call 77; refine HL.out.mono ?_; rintro e w1 ⟨rfl, hb1⟩; refine Hid.out ?_)
          refine (show ∀ {p : Prop}, p → Hid p from fun h => h) ?_
          have HR1 := hideIt (HR.out w1 hb1)
          go_wp2_with (go_at_call 78; refine HR1.out.mono ?_; rintro e w2 ⟨ai, mi, ci, rfl, hoi, hb2⟩; refine Hid.out ?_)
          refine (show ∀ {p : Prop}, p → Hid p from fun h => h) ?_
          clear HR1
          have B2 := hb1.trans (hb2.mono hb1.size)
          have HT2 := hideIt (HT.out w2 B2)
          have RI := RBox.laid hoi
          clear hoi
          rw [Option.getD_some] at RI
          have hmi : mi ≤ 50 := by rw [← RI.len]; exact hrl
          go_wp2_with (go_at_call 71; refine HT2.out.mono ?_; rintro e w3 ⟨rfl, hb3⟩; refine Hid.out ?_)
          refine (show ∀ {p : Prop}, p → Hid p from fun h => h) ?_
          have B3 := B2.trans (hb3.mono B2.size)
          have RI3 := RI.up hb3
          have HC3 := hideIt (HC.out w3 B3)
          clear HT2 RI
          go_wp2_with (go_at_call 55; refine HC3.out.mono ?_; rintro e w4 ⟨rfl, hb4⟩; refine Hid.out ?_)
          refine (show ∀ {p : Prop}, p → Hid p from fun h => h) ?_
          have B4 := B3.trans (hb4.mono B3.size)
          have RI4 := RI3.up hb4
          clear HC3 RI3 HR HT HC HL
          have e1 : ((k : Int) + 1).toNat = k + 1 := by omega
          have p1 : (0 : Int) ≤ (k : Int) := by omega
          have p2 : (k : Int) ≤ (n : Int) := by omega
          have p3 : (n : Int) ≤ (c : Int) := by omega
          have p4 : (0 : Int) ≤ (k : Int) + 1 := by omega
          have p5 : (k : Int) + 1 ≤ (c : Int) := by omega
          have hne : ¬ (n = k) := by omega
          have pw : IntKind.i64.wrap ((k : Int) + 1) = (k : Int) + 1 := by rw [IntKind.wrap_i64]; omega
          have HLd : Hid (Calls Try.prog 79 #[.slice (some ⟨w4.heap.size, 0, none⟩) 3 3] (w4.alloc (.cells #[.slice (some ⟨b1, off, none⟩) (k + 1) (k + 1), .slice ai mi ci, .slice (some ⟨b1, off + k, none⟩) (n - k) (n - k)] 50)).drew
              fun e x => ∃ g m, e = .returned (.slice (some ⟨g, 0, none⟩) m m) ∧ x.ownsRow w4.heap.size 3 1 (.slice (some ⟨g, 0, none⟩) m m) m (ic (joT ta k r)) ∧ Below w4.heap.size w4 x) := by
            have hi4 := HI.out.up B4
            have hP := parts3 (p1 := ⟨some ⟨b1, off, none⟩, k + 1, k + 1, ta.take (k + 1)⟩) (p2 := ⟨ai, mi, ci, r⟩) (p3 := ⟨some ⟨b1, off + k, none⟩, n - k, n - k, ta.drop k⟩) (hi4.take (by show k + 1 ≤ n; omega)) RI4.is (hi4.drop (by show k ≤ n; omega))
            refine (laid_any _ _ 3 rfl (by omega) _ hP (by simp [qLen]; omega)).mono fun e x ⟨g, m, he, ho, hb⟩ => ⟨g, m, he, ?_, ?_⟩
            · have hq : qAll [⟨some ⟨b1, off, none⟩, k + 1, k + 1, ta.take (k + 1)⟩, ⟨ai, mi, ci, r⟩, ⟨some ⟨b1, off + k, none⟩, n - k, n - k, ta.drop k⟩] = joT ta k r := by
                simp [qAll, joT]
              rw [hq] at ho
              exact own_mono ho (by simp)
            · exact (((Below.refl w4.heap.size w4).alloc (Nat.le_refl _) _).drew).trans (hb.mono (by simp))
          clear HI RI4
          go_wp2
          go_region_held3 (fun _ => True) (trivial) ((go_at_call 79; refine HLd.out.mono ?_; rintro e w5 ⟨g, m, rfl, ho5, hb5⟩))
          all_goals
            go_wp2
            go_ret2
            exact tans_yes HO.out B4.size ho5 (B4.trans (hb5.mono B4.size))
      · have HO := hideIt (show joO ta u tb v = none by unfold joO; rw [if_neg (fun hh => hu hh.2.1.1)])
        rw [lst_no hu] at HL
        clear hR h hb HC hT hu
        go_enter Try.func50, Try.ntmps50
        go_wp2_with (go_at_call 77; refine HL.out.mono ?_; rintro e w1 ⟨rfl, hb1⟩; refine Hid.out ?_)
        refine (show ∀ {p : Prop}, p → Hid p from fun h => h) ?_
        have HR1 := hideIt (HR.out w1 hb1)
        go_wp2_with (go_at_call 78; refine HR1.out.mono ?_; rintro e w2 ⟨ai, mi, ci, rfl, hoi, hb2⟩; refine Hid.out ?_)
        refine (show ∀ {p : Prop}, p → Hid p from fun h => h) ?_
        clear HR1
        have B2 := hb1.trans (hb2.mono hb1.size)
        have HT2 := hideIt (HT.out w2 B2)
        clear hoi
        go_wp2_with (go_at_call 71; refine HT2.out.mono ?_; rintro e w3 ⟨rfl, hb3⟩)
        go_ret2
        exact tans_no HO.out (B2.trans (hb3.mono B2.size))
end Go.Proofs.Ytcpffonenhhfoaa
