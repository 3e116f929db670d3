/- Answers held against each other, marked and looked at again. The specification's AnswerText. The program's AnswerText. The walk of FnExactAnswerText. An order and an answer that come in, as the walks want them. -/
import Derived.Test.YtkhhagjcmbbdpaaKLawA10
import Derived.Test.YtkhhagjcmbbdpaaKSOu10
import Derived.Test.YtkhhagjcmbbdpaaKMem
import Derived.ChangeSlices
import Derived.WalkKit
import Derived.ProofKit
import Derived.OpenShut
import Derived.ChangeOld
import Derived.ChangeArms
import Derived.Below
namespace Go.Proofs.Ytkhhagjcmbbdpaa
open Go.RowKit Vt

theorem eqAnswer_same (num : Int) (ok : Bool) (fs : List EdgeV) (ls : List Int) (n : Nat) (a b : Option Addr) (c d : Nat) (hn : n ≤ 1048576) (m : Nat) (a' b' : Option Addr) (c' d' : Nat) (hm : m ≤ 1048576) (w : World)
    (h1 : Es w w.heap.size a n fs) (h2 : Es w w.heap.size b n fs) (h3 : Is w w.heap.size a' m ls) (h4 : Is w w.heap.size b' m ls) :
    Calls Try.prog 32 #[ansV num ok a n c a' m c', ansV num ok b n d b' m d'] w fun e w' => e = .returned (.bool true) ∧ Below w.heap.size w w' := by
  unfold ansV
  have B2 : Below w.heap.size w ((w.alloc (.cells #[.int .i64 num, .bool ok, .slice a n c, .slice a' m c'] 37)).alloc (.cells #[.int .i64 num, .bool ok, .slice b n d, .slice b' m d'] 37)) := (bel1 _ _).alloc (by simp) _
  have HT := hideIt (eqEdgeS_same fs n a b c d hn _ (h1.up B2) (h2.up B2))
  have HI : Hid (∀ W, Below w.heap.size w W → Calls Try.prog 74 #[.slice a' m c', .slice b' m d'] W fun e w' => e = .returned (.bool true) ∧ Below W.heap.size W w') := fun W hW => eqIntS_same ls m a' b' c' d' hm W (h3.up hW) (h4.up hW)
  have HB2 := hideIt B2
  have dr : (ok != ok) = false := by simp
  clear h1 h2 h3 h4 B2
  go_enter Try.func32, Try.ntmps32
  go_wp2_with (go_at_call 71; refine HT.out.mono ?_; rintro e w1 ⟨rfl, hb1⟩; refine Hid.out ?_)
  refine (show ∀ {p : Prop}, p → Hid p from fun h => h) ?_
  obtain ⟨hc, hf⟩ := bcell hb1
  have HB := hideIt (HB2.out.trans (hb1.mono (by simp; omega)))
  have q0 : w1.cell? ⟨w.heap.size, 3, none⟩ = some (.slice a' m c') := by rw [hc _ _ (by simp; omega)]; simp
  have q1 : w1.cell? ⟨w.heap.size + 1, 3, none⟩ = some (.slice b' m d') := by rw [hc _ _ (by simp)]; simp
  clear hc hf hb1 HT
  go_wp2_with (go_at_call 74; refine (HI.out _ HB.out).mono ?_; rintro e w2 ⟨rfl, hb2⟩)
  go_ret
  exact ⟨rfl, HB.out.trans (hb2.mono HB.out.size)⟩

/-- rows of different sorts lie in different blocks -/
theorem rows_ne {w : World} {B B' S S' n n' : Nat} {e e' : TypeId} {v v' : Value} {xs xs' : List Value} (h : w.ownsRow B e S v n xs) (h' : w.ownsRow B' e' S' v' n' xs') (hne : e ≠ e') (g : Nat) (hg : v.ownBlock = some g) : v'.ownBlock ≠ some g := by
  intro hg'
  rcases h.2 with ⟨rfl, _⟩ | ⟨q, cap, cur, rfl, _, hc, _⟩
  · simp [Value.ownBlock] at hg
  · rcases h'.2 with ⟨rfl, _⟩ | ⟨q', cap', cur', rfl, _, hc', _⟩
    · simp [Value.ownBlock] at hg'
    · simp [Value.ownBlock] at hg hg'
      subst hg hg'
      rw [hc] at hc'
      simp at hc'
      exact hne hc'.2

/-- edges are marked, or there are none -/
theorem markE_any {w : World} {base n c k0 : Nat} {a : Option Addr} {fs : List EdgeV} (hn : n ≤ 1048576) (hk : k0 ≤ 10000000) (h : w.ownsRow base 78 2 (.slice a n c) n (ecells fs)) :
    Calls Try.prog 78 #[.slice a n c, .int .i64 (k0 : Int)] w fun e w' => e = .returned (.int .i64 ((k0 : Int) + (n : Int) * 2)) ∧ w'.ownsRow base 78 2 (.slice a n c) n (ecells (marks k0 n)) ∧ w.grownBy w' ((Value.slice a n c).ownBlock) := by
  by_cases h0 : n = 0
  · subst h0
    refine (markEdgeS_zero a c k0 w).mono ?_
    rintro e v ⟨rfl, rfl⟩
    refine ⟨by simp, ?_, gr_refl _ _⟩
    have hl := h.1
    rw [ecells_length] at hl
    have : fs = [] := List.length_eq_zero_iff.1 (by omega)
    subst this
    exact h
  · rcases h.2 with ⟨_, h3⟩ | ⟨g, cap, cur, hv, hg, _⟩
    · omega
    · simp at hv
      obtain ⟨rfl, rfl⟩ := hv
      exact markEdgeS_any base g c n k0 fs hn hk w h
theorem markI_any {w : World} {base n c k0 : Nat} {a : Option Addr} {ls : List Int} (hn : n ≤ 1048576) (hk : k0 ≤ 10000000) (h : w.ownsRow base 3 1 (.slice a n c) n (ic ls)) :
    Calls Try.prog 81 #[.slice a n c, .int .i64 (k0 : Int)] w fun e w' => e = .returned (.int .i64 ((k0 : Int) + (n : Int))) ∧ w'.ownsRow base 3 1 (.slice a n c) n (ic (imarks k0 n)) ∧ w.grownBy w' ((Value.slice a n c).ownBlock) := by
  by_cases h0 : n = 0
  · subst h0
    refine (markIntS_zero a c k0 w).mono ?_
    rintro e v ⟨rfl, rfl⟩
    refine ⟨by simp, ?_, gr_refl _ _⟩
    have hl := h.1
    rw [ic_len] at hl
    have : ls = [] := List.length_eq_zero_iff.1 (by omega)
    subst this
    exact h
  · rcases h.2 with ⟨_, h3⟩ | ⟨g, cap, cur, hv, hg, _⟩
    · omega
    · simp at hv
      obtain ⟨rfl, rfl⟩ := hv
      exact markIntS_any base g c n k0 _ hn hk w h

/-- an answer that is ours: its box, its edges and its labels lie in blocks lo .. hi -/
structure ABox (u : World) (lo hi b : Nat) (num : Int) (ok : Bool) (a : Option Addr) (m c : Nat) (a' : Option Addr) (m' c' : Nat) (gs : List EdgeV) (ls : List Int) : Prop where
  box : u.heap[b]? = some (.cells (ac num ok a m c a' m' c') 37 (0, 0))
  own : u.ownsRow lo 78 2 (.slice a m c) m (ecells gs)
  own2 : u.ownsRow lo 3 1 (.slice a' m' c') m' (ic ls)
  least : lo ≤ b
  most : b < hi
  row : ∀ g, (Value.slice a m c).ownBlock = some g → g < b
  row2 : ∀ g, (Value.slice a' m' c').ownBlock = some g → g < b
  there : hi ≤ u.heap.size

section
variable {u v : World} {lo hi b l2 h2 : Nat} {num : Int} {ok : Bool} {a : Option Addr} {m c : Nat} {a' : Option Addr} {m' c' : Nat} {gs : List EdgeV} {ls : List Int}
theorem ABox.len (h : ABox u lo hi b num ok a m c a' m' c' gs ls) : gs.length = m ∧ ls.length = m' := by
  have h1 := h.own.1; have h3 := h.own2.1; rw [ecells_length] at h1; rw [ic_len] at h3; omega
theorem ABox.es (h : ABox u lo hi b num ok a m c a' m' c' gs ls) : Es u u.heap.size a m gs := Es_of_own h.own
theorem ABox.is (h : ABox u lo hi b num ok a m c a' m' c' gs ls) : Is u u.heap.size a' m' ls := Is_of_own h.own2
theorem ABox.rng (h : ABox u lo hi b num ok a m c a' m' c' gs ls) (hr : Rng l2 h2 u v) (ho : hi ≤ l2 ∨ h2 ≤ lo) : ABox v lo hi b num ok a m c a' m' c' gs ls := by
  have hth := h.there
  have hb := h.least
  have hb' := h.most
  have g1 : ∀ k, lo ≤ k → k < hi → v.heap[k]? = u.heap[k]? := fun k h3 h4 => hr.block k (by omega) (by omega)
  refine ⟨?_, ?_, ?_, hb, hb', h.row, h.row2, Nat.le_trans hth hr.size⟩
  · rw [g1 b hb hb']; exact h.box
  · refine ⟨h.own.1, ?_⟩
    rcases h.own.2 with h3 | ⟨g, cap, cur, hv, hg, hcur, hrest⟩
    · exact .inl h3
    · refine .inr ⟨g, cap, cur, hv, hg, ?_, hrest⟩
      rw [g1 g hg (by have := h.row g (by rw [hv]; rfl); omega)]
      exact hcur
  · refine ⟨h.own2.1, ?_⟩
    rcases h.own2.2 with h3 | ⟨g, cap, cur, hv, hg, hcur, hrest⟩
    · exact .inl h3
    · refine .inr ⟨g, cap, cur, hv, hg, ?_, hrest⟩
      rw [g1 g hg (by have := h.row2 g (by rw [hv]; rfl); omega)]
      exact hcur
theorem ABox.up (h : ABox u lo hi b num ok a m c a' m' c' gs ls) (hb : Below u.heap.size u v) : ABox v lo hi b num ok a m c a' m' c' gs ls :=
  h.rng (l2 := hi) (h2 := hi) (Rng.of_below hb) (.inl (Nat.le_refl _))
theorem ABox.cells (h : ABox u lo hi b num ok a m c a' m' c' gs ls) : u.cell? ⟨b, 0, none⟩ = some (.int .i64 num) ∧ u.cell? ⟨b, 1, none⟩ = some (.bool ok) ∧ u.cell? ⟨b, 2, none⟩ = some (.slice a m c) ∧ u.cell? ⟨b, 3, none⟩ = some (.slice a' m' c') :=
  ⟨by rw [cell_of_row u b 0 _ _ _ h.box]; rfl, by rw [cell_of_row u b 1 _ _ _ h.box]; rfl, by rw [cell_of_row u b 2 _ _ _ h.box]; rfl, by rw [cell_of_row u b 3 _ _ _ h.box]; rfl⟩
theorem ABox.laid (hl : lo ≤ u.heap.size) (ho : u.ownsRow lo 78 2 (.slice a m c) m (ecells gs)) (ho2 : u.ownsRow lo 3 1 (.slice a' m' c') m' (ic ls)) :
    ABox (u.alloc (.cells (ac num ok a m c a' m' c') 37)) lo (u.heap.size + 1) u.heap.size num ok a m c a' m' c' gs ls :=
  ⟨heap_alloc_new u _, ho.alloc _, ho2.alloc _, hl, by omega, fun g hg => (ho.lt g hg).2, fun g hg => (ho2.lt g hg).2, by simp⟩

theorem gr_rng {w w' : World} {row : Option Nat} {lo b : Nat} (h : w.grownBy w' row) (h1 : ∀ g, row = some g → lo ≤ g ∧ g < b) : Rng lo b w w' :=
  ⟨h.os, h.tape, h.output, h.size, fun k hk ho => h.block k hk (fun e => by have := h1 k e.symm; omega)⟩
theorem Rng.trans {u v x : World} {lo b : Nat} (h : Rng lo b u v) (k : Rng lo b v x) : Rng lo b u x :=
  ⟨k.os.trans h.os, k.tape.trans h.tape, k.output.trans h.output, Nat.le_trans h.size k.size, fun i hi ho => (k.block i (Nat.lt_of_lt_of_le hi h.size) ho).trans (h.block i hi ho)⟩

theorem own_kept {w w' : World} {B e s n : Nat} {v : Value} {xs : List Value} {row : Option Nat} (h : w.ownsRow B e s v n xs) (hg : w.grownBy w' row) (hne : ∀ g, row = some g → v.ownBlock ≠ some g) : w'.ownsRow B e s v n xs :=
  h.kept hg (by
    cases row with
    | none => cases hv : v.ownBlock <;> simp
    | some g => exact .inr (hne g rfl))

set_option maxHeartbeats 1000000 in
/-- it is marked -/
theorem ABox.mark (h : ABox u lo hi b num ok a m c a' m' c' gs ls) (k0 : Nat) (hm : m ≤ 100000) (hm' : m' ≤ 100000) (h1 : k0 ≤ 100000) :
    Calls Try.prog 37 #[ansV num ok a m c a' m' c', .int .i64 (k0 : Int)] u fun e v => e = .returned (.int .i64 ((k0 : Int) + (m : Int) * 2 + (m' : Int))) ∧ ABox v lo hi b num ok a m c a' m' c' (marks k0 m) (imarks (k0 + m * 2) m') ∧ Rng lo b u v := by
  unfold ansV
  have hth := h.there
  have hbm := h.most
  have HE := hideIt (markE_any (by omega) (by omega) (h.own.alloc (.cells #[.int .i64 num, .bool ok, .slice a m c, .slice a' m' c'] 37)) (k0 := k0))
  have HI : Hid (∀ W : World, W.ownsRow lo 3 1 (.slice a' m' c') m' (ic ls) → Calls Try.prog 81 #[.slice a' m' c', .int .i64 ((k0 : Int) + (m : Int) * 2)] W fun e w' => e = .returned (.int .i64 ((k0 : Int) + (m : Int) * 2 + (m' : Int))) ∧ w'.ownsRow lo 3 1 (.slice a' m' c') m' (ic (imarks (k0 + m * 2) m')) ∧ W.grownBy w' ((Value.slice a' m' c').ownBlock)) := fun W hW => by
    have := markI_any (k0 := k0 + m * 2) (by omega) (by omega) hW
    simpa using this
  have HA := hideIt h
  clear h
  go_enter Try.func37, Try.ntmps37
  go_wp2_with (go_at_call 78; refine HE.out.mono ?_; rintro e w1 ⟨rfl, o1, g1⟩; refine Hid.out ?_)
  refine (show ∀ {p : Prop}, p → Hid p from fun h => h) ?_
  have hq : w1.heap[u.heap.size]? = some (.cells #[.int .i64 num, .bool ok, .slice a m c, .slice a' m' c'] 37 (0, 0)) := by
    rw [g1.block _ (by simp) (fun e => by have := HA.out.row _ e.symm; omega)]
    exact heap_alloc_new u _
  have q3 : w1.cell? ⟨u.heap.size, 3, none⟩ = some (.slice a' m' c') := by rw [cell_of_row w1 _ 3 _ _ _ hq]; rfl
  have o2 : w1.ownsRow lo 3 1 (.slice a' m' c') m' (ic ls) := own_kept (HA.out.own2.alloc _) g1 (fun g hg => rows_ne HA.out.own HA.out.own2 (by decide) g hg)
  have HO1 := hideIt o1
  have HO2 := hideIt o2
  have HG1 := hideIt (gr_trans (World.grownBy_alloc u (.cells #[.int .i64 num, .bool ok, .slice a m c, .slice a' m' c'] 37) _) g1)
  clear o1 o2 g1 hq HE
  go_wp2_with (go_at_call 81; refine (HI.out _ HO2.out).mono ?_; rintro e w2 ⟨rfl, o3, g2⟩)
  go_ret
  refine ⟨rfl, ⟨?_, ?_, o3, HA.out.least, hbm, HA.out.row, HA.out.row2, Nat.le_trans hth (Nat.le_trans HG1.out.size g2.size)⟩, ?_⟩
  · rw [g2.block b (by have := HG1.out.size; omega) (fun e => by have := HA.out.row2 _ e.symm; omega), HG1.out.block b (by omega) (fun e => by have := HA.out.row _ e.symm; omega)]
    exact HA.out.box
  · exact own_kept HO1.out g2 (fun g hg => rows_ne HO2.out HO1.out (by decide) g hg)
  · refine (gr_rng HG1.out (fun g hg => ⟨(HA.out.own.lt g hg).1, HA.out.row g hg⟩)).trans (gr_rng g2 (fun g hg => ⟨(HA.out.own2.lt g hg).1, HA.out.row2 g hg⟩))

theorem ABox.held (k0 : Nat) (h : ABox u lo hi b num ok a m c a' m' c' (marks k0 m) (imarks (k0 + m * 2) m')) (hm : m ≤ 100000) (hm' : m' ≤ 100000) (h1 : k0 ≤ 100000) :
    Calls Try.prog 38 #[ansV num ok a m c a' m' c', .int .i64 (k0 : Int)] u fun e v => e = .returned (.int .i64 ((k0 : Int) + (m : Int) * 2 + (m' : Int))) ∧ Below u.heap.size u v := by
  unfold ansV
  have HE := hideIt (heldEdgeS_any m k0 a c (by omega) (by omega) (u.alloc (.cells #[.int .i64 num, .bool ok, .slice a m c, .slice a' m' c'] 37)) (h.es.up (bel1 _ _)))
  have HI := hideIt (heldIntS_any m' (k0 + m * 2) a' c' (by omega) (by omega) (u.alloc (.cells #[.int .i64 num, .bool ok, .slice a m c, .slice a' m' c'] 37)) (h.is.up (bel1 _ _)))
  have ek : ((k0 + m * 2 : Nat) : Int) = (k0 : Int) + (m : Int) * 2 := by omega
  rw [ek] at HI
  have d1 : decide ((k0 : Int) + (m : Int) * 2 < 0) = false := decide_eq_false (by omega)
  have d2 : decide ((k0 : Int) + (m : Int) * 2 + (m' : Int) < 0) = false := decide_eq_false (by omega)
  clear h ek
  go_enter Try.func38, Try.ntmps38
  go_wp2_with (first | (go_at_call 79; refine HE.out.mono ?_; rintro e w1 ⟨rfl, rfl⟩) | (go_at_call 82; refine HI.out.mono ?_; rintro e w1 ⟨rfl, rfl⟩))
  go_ret
  exact ⟨rfl, bel1 _ _⟩
theorem ABox.eq {lo' hi' b' : Nat} {d : Option Addr} {n e : Nat} {d' : Option Addr} {n' e' : Nat} (h : ABox u lo hi b num ok a m c a' m' c' gs ls) (h' : ABox u lo' hi' b' num ok d n e d' n' e' gs ls) (hm : m ≤ 1048576) (hm' : m' ≤ 1048576) :
    Calls Try.prog 32 #[ansV num ok a m c a' m' c', ansV num ok d n e d' n' e'] u fun e v => e = .returned (.bool true) ∧ Below u.heap.size u v := by
  have e1 : n = m := by rw [← h.len.1, ← h'.len.1]
  have e2 : n' = m' := by rw [← h.len.2, ← h'.len.2]
  subst e1 e2
  exact eqAnswer_same num ok gs ls n a d c e hm n' a' d' c' e' hm' u h.es h'.es h.is h'.is
end
end Go.Proofs.Ytkhhagjcmbbdpaa
namespace Go.Proofs.Ytkhhagjcmbbdpaa
open Go.RowKit Vt

/-- an answer's text, or none -/
def atV (n : Int) (o : AnsV) : Value := if aB n o then .tuple #[.string (str (aText o)), .bool true] else .tuple #[.string ⟨#[]⟩, .bool false]
theorem atV_yes {n : Int} {o : AnsV} (h : aB n o = true) : atV n o = .tuple #[.string (str (aText o)), .bool true] := by unfold atV; rw [h]; rfl
theorem atV_no {n : Int} {o : AnsV} (h : aB n o = false) : atV n o = .tuple #[.string ⟨#[]⟩, .bool false] := by unfold atV; rw [h]; rfl

theorem l09Flag_any (b : Bool) (w : World) : Calls Try.prog 80 #[.bool b] w fun e w' => e = .returned (.string (str [okb b])) ∧ w' = w := by
  cases b
  · go_enter Try.func80, Try.ntmps80
    go_wp2
    go_ret
    exact ⟨rfl, rfl⟩
  · go_enter Try.func80, Try.ntmps80
    go_wp2
    go_ret
    exact ⟨rfl, rfl⟩

theorem et_len {es : List EdgeV} (h : es.length ≤ 100) : (et es).length ≤ 205 := by
  unfold et
  rw [List.length_append, eb_length]
  have := vt_le5 es.length (by omega)
  omega

set_option maxRecDepth 100000 in
set_option maxHeartbeats 4000000 in
theorem sAnswerText_no (n num : Int) (ok : Bool) (es : List EdgeV) (ls : List Int) (k : Nat) (a : Option Addr) (c : Nat) (hk : k ≤ 1048576) (k' : Nat) (a' : Option Addr) (c' : Nat) (hk' : k' ≤ 1048576) (w : World) (h : Es w w.heap.size a k es) (h' : Is w w.heap.size a' k' ls) (hB : aB n ⟨num, ok, es, ls⟩ = false) :
    Calls Try.prog 36 #[.int .i64 n, ansV num ok a k c a' k' c'] w fun e w' => e = .returned (.tuple #[.string ⟨#[]⟩, .bool false]) ∧ Below w.heap.size w w' := by
  have HO := hideIt (sAnswerOk_any n num ok es ls k a c hk k' a' c' hk' (w.alloc (.cells #[.int .i64 num, .bool ok, .slice a k c, .slice a' k' c'] 37)) ((h.alloc (Nat.le_refl _) _).mono (by simp)) (h'.alloc _))
  rw [hB] at HO
  unfold ansV at HO ⊢
  clear h h' hB
  go_enter Try.func36, Try.ntmps36
  go_wp2_with (go_at_call 20; refine HO.out.mono ?_; rintro e w1 ⟨rfl, hb⟩)
  go_ret2
  exact ⟨rfl, (bel1 _ _).trans (hb.mono (by simp))⟩

set_option maxRecDepth 100000 in
set_option maxHeartbeats 4000000 in
theorem sAnswerText_yes (n num : Int) (ok : Bool) (es : List EdgeV) (ls : List Int) (k : Nat) (a : Option Addr) (c : Nat) (hk : k ≤ 1048576) (k' : Nat) (a' : Option Addr) (c' : Nat) (hk' : k' ≤ 1048576) (w : World) (h : Es w w.heap.size a k es) (h' : Is w w.heap.size a' k' ls) (hB : aB n ⟨num, ok, es, ls⟩ = true) :
    Calls Try.prog 36 #[.int .i64 n, ansV num ok a k c a' k' c'] w fun e w' => e = .returned (.tuple #[.string (str (aText ⟨num, ok, es, ls⟩)), .bool true]) ∧ Below w.heap.size w w' := by
  obtain ⟨p0, p1, p2, p3⟩ := aB_parts hB
  dsimp only at p1 p2 p3
  obtain ⟨p4, p5⟩ := lB_bytes p0.2 p3
  have hk3 : (k' : Int) = n := by rw [← h'.1]; exact p4
  have HO : Hid (Calls Try.prog 20 #[.int .i64 n, ansV num ok a k c a' k' c'] (w.alloc (.cells #[.int .i64 num, .bool ok, .slice a k c, .slice a' k' c'] 37)) fun e w' => e = .returned (.bool true) ∧ Below w.heap.size w w' ∧
      w'.cell? ⟨w.heap.size, 0, none⟩ = some (.int .i64 num) ∧ w'.cell? ⟨w.heap.size, 1, none⟩ = some (.bool ok) ∧ w'.cell? ⟨w.heap.size, 2, none⟩ = some (.slice a k c) ∧ w'.cell? ⟨w.heap.size, 3, none⟩ = some (.slice a' k' c') ∧ w.heap.size < w'.heap.size) :=
    (sAnswerOk_any n num ok es ls k a c hk k' a' c' hk' (w.alloc (.cells #[.int .i64 num, .bool ok, .slice a k c, .slice a' k' c'] 37)) ((h.alloc (Nat.le_refl _) _).mono (by simp)) (h'.alloc _)).mono fun _ _ ⟨he, hb⟩ =>
      ⟨by rw [he, hB], (bel1 _ _).trans (hb.mono (by simp)), by rw [hb.cell (by simp)]; simp, by rw [hb.cell (by simp)]; simp, by rw [hb.cell (by simp)]; simp, by rw [hb.cell (by simp)]; simp, by have := hb.size; simp at this; omega⟩
  have HN := hideIt (l01Var_str num (by omega) (by omega))
  have HF := hideIt (l09Flag_any ok)
  have HE : Hid (∀ W, Below w.heap.size w W → Calls Try.prog 77 #[.slice a k c] W fun e w' => e = .returned (.string (str (et es))) ∧ Below W.heap.size W w') := fun W hW => l09Edges_any es k a c (by have := h.1; omega) p2.1 W (h.up hW)
  have hl1 := vt_le5 num.toNat (by omega)
  have hl3 := et_len (es := es) (by omega)
  have A1 : ∀ wx, (Op.stringOp .add (str (vt num.toNat)) (str [okb ok])).run Try.prog wx = .ok (.string (str (vt num.toNat ++ [okb ok]))) wx := str_add _ _ (by simp; omega)
  have A2 : ∀ wx, (Op.stringOp .add (str (vt num.toNat ++ [okb ok])) (str (et es))).run Try.prog wx = .ok (.string (str (vt num.toNat ++ [okb ok] ++ et es))) wx := str_add _ _ (by simp; omega)
  have HFN : Hid (vt num.toNat ++ [okb ok] ++ et es ++ ls.map ob = aText ⟨num, ok, es, ls⟩) := by show _ = _; unfold aText; simp [okb]
  have HLn : Hid ((vt num.toNat ++ [okb ok] ++ et es).length ≤ 220) := by show _ ≤ _; simp; omega
  generalize hT : vt num.toNat ++ [okb ok] ++ et es = T0 at A2 HFN HLn
  generalize str (vt num.toNat ++ [okb ok]) = s1 at A1 A2
  have H' := hideIt h'
  have HP5 := hideIt p5
  unfold ansV at HO ⊢
  subst hk3
  clear h h' hB hl1 hl3 p2 hT p3 p4 p5
  go_enter Try.func36, Try.ntmps36
  go_wp2_with (go_at_call 20; refine HO.out.mono ?_; rintro e w1 ⟨rfl, hb1, q0, q1, q2, q3, z1⟩; refine Hid.out ?_)
  refine (show ∀ {p : Prop}, p → Hid p from fun h => h) ?_
  have KC : Hid (∀ W, Below w1.heap.size w1 W → (W.cell? ⟨w.heap.size, 0, none⟩ = some (.int .i64 num) ∧ W.cell? ⟨w.heap.size, 1, none⟩ = some (.bool ok) ∧ W.cell? ⟨w.heap.size, 2, none⟩ = some (.slice a k c) ∧ W.cell? ⟨w.heap.size, 3, none⟩ = some (.slice a' k' c'))) := fun W hW =>
    ⟨by rw [hW.cell z1]; exact q0, by rw [hW.cell z1]; exact q1, by rw [hW.cell z1]; exact q2, by rw [hW.cell z1]; exact q3⟩
  have Z1 : Hid (∀ W, Below w1.heap.size w1 W → Below w.heap.size w W) := fun W hW => hb1.trans (hW.mono hb1.size)
  have B0 : Below w1.heap.size w1 w1.drew := (Below.refl _ _).drew
  clear HO
  go_wp2
  go_region_held3 (fun u => Below w1.heap.size w1 u ∧ (u.cell? ⟨w.heap.size, 0, none⟩ = some (.int .i64 num) ∧ u.cell? ⟨w.heap.size, 1, none⟩ = some (.bool ok) ∧ u.cell? ⟨w.heap.size, 2, none⟩ = some (.slice a k c) ∧ u.cell? ⟨w.heap.size, 3, none⟩ = some (.slice a' k' c')))
    (first | exact ⟨B2, KC.out _ B2⟩ | exact ⟨B1, KC.out _ B1⟩ | exact ⟨B0, KC.out _ B0⟩)
    (first
    | (go_at_call 77; refine (HE.out _ (Z1.out _ B1)).mono ?_; rintro e w5 ⟨rfl, hb5⟩; have B2 := B1.trans (hb5.mono B1.size))
    | (go_at_call 80; refine (HF.out _).mono ?_; rintro e w3 ⟨rfl, rfl⟩)
    | (go_at_call 75; refine (HN.out _).mono ?_; rintro e w2 ⟨rfl, hb2⟩; have B1 := B0.trans (hb2.mono B0.size)))
  go_wp2
  go_loopw [6, 7] (fun t i wr => ∃ (j : Nat) (L : List UInt8), j ≤ k' ∧ i = .int .i64 (j : Int) ∧ t = .string (str L) ∧ Hid (L = T0 ++ (ls.take j).map ob) ∧ Below w1.heap.size w1 wr) (fun _ i _ => k' - (intOf i).toNat)
  case atStart => exact ⟨0, T0, by omega, rfl, rfl, by show _ = _; simp, B2⟩
  case round =>
    obtain ⟨j, L, hj, rfl, rfl, hL, hb⟩ := hrel
    by_cases hlt : j < k'
    · have h9 := H'.out
      rcases h9.2 with hz | ⟨b, off, rfl, hbl, hc⟩
      · omega
      · obtain ⟨x, hx⟩ : ∃ x, ls[j]? = some x := ⟨ls[j]'(by have := h9.1; omega), List.getElem?_eq_getElem (by have := h9.1; omega)⟩
        have c0 : wr.cell? ⟨b, off + j, none⟩ = some (.int .i64 x) := by rw [(Z1.out _ hb).cell hbl]; exact hc j x hx
        obtain ⟨x1, x2⟩ := HP5.out x (List.mem_of_getElem? hx)
        obtain ⟨k0, k1, k2, k3⟩ := KC.out _ hb
        have b1 : (0 : Int) ≤ (j : Int) := by omega
        have b2 : (j : Int) < (k' : Int) := by omega
        have hle : L.length ≤ 300 := by rw [hL.out, List.length_append]; have := HLn.out; simp; omega
        have A5 : ∀ wx, (Op.stringOp .add (str L) (str [ob x])).run Try.prog wx = .ok (.string (str (L ++ [ob x]))) wx := str_add _ _ (by simp; omega)
        have HL1 : Hid (L ++ [ob x] = T0 ++ (ls.take (j + 1)).map ob) := by show _ = _; rw [take_snocF ls j x hx, hL.out]; simp
        have HY := hideIt (l09Byte_any x x1 x2)
        clear hc hx h9 hL hle
        go_wp2_with (go_at_call 76; refine (HY.out _).mono ?_; rintro e w6 ⟨rfl, hb6⟩)
        refine ⟨⟨j + 1, _, by omega, by go_num, rfl, HL1, hb.trans (hb6.mono hb.size)⟩, by simp [intOf]; omega⟩
    · have hz : Hid (L = aText ⟨num, ok, es, ls⟩) := by
        show _ = _
        rw [hL.out, List.take_of_length_le (by have := H'.out.1; omega), HFN.out]
      clear hL
      go_wp2
      go_ret2
      exact ⟨by rw [← hz.out]; rfl, Z1.out _ hb⟩

theorem sAnswerText_any (n num : Int) (ok : Bool) (es : List EdgeV) (ls : List Int) (k : Nat) (a : Option Addr) (c : Nat) (hk : k ≤ 1048576) (k' : Nat) (a' : Option Addr) (c' : Nat) (hk' : k' ≤ 1048576) (w : World) (h : Es w w.heap.size a k es) (h' : Is w w.heap.size a' k' ls) :
    Calls Try.prog 36 #[.int .i64 n, ansV num ok a k c a' k' c'] w fun e w' => e = .returned (atV n ⟨num, ok, es, ls⟩) ∧ Below w.heap.size w w' := by
  cases hB : aB n ⟨num, ok, es, ls⟩ with
  | false => rw [atV_no hB]; exact sAnswerText_no n num ok es ls k a c hk k' a' c' hk' w h h' hB
  | true => rw [atV_yes hB]; exact sAnswerText_yes n num ok es ls k a c hk k' a' c' hk' w h h' hB
end Go.Proofs.Ytkhhagjcmbbdpaa
namespace Go.Proofs.Ytkhhagjcmbbdpaa
open Go.RowKit Vt

theorem new_here (w : World) (x : Value) : (w.alloc (.cells #[x] 5)).cell? ⟨w.heap.size, 0, none⟩ = some x ∧ w.heap.size < (w.alloc (.cells #[x] 5)).heap.size := ⟨by simp, by simp⟩

set_option maxRecDepth 100000 in
set_option maxHeartbeats 4000000 in
theorem iAnswerText_no (n num : Int) (ok : Bool) (es : List EdgeV) (ls : List Int) (k : Nat) (a : Option Addr) (c : Nat) (hk : k ≤ 1048576) (k' : Nat) (a' : Option Addr) (c' : Nat) (hk' : k' ≤ 1048576) (w : World) (h : Es w w.heap.size a k es) (h' : Is w w.heap.size a' k' ls) (hB : aB n ⟨num, ok, es, ls⟩ = false) :
    Calls Try.prog 18 #[.int .i64 n, ansV num ok a k c a' k' c'] w fun e w' => e = .returned (.tuple #[.string ⟨#[]⟩, .bool false]) ∧ Below w.heap.size w w' := by
  have HO := hideIt (iAnswerOk_any n num ok es ls k a c hk k' a' c' hk' (w.alloc (.cells #[.int .i64 num, .bool ok, .slice a k c, .slice a' k' c'] 37)) ((h.alloc (Nat.le_refl _) _).mono (by simp)) (h'.alloc _))
  rw [hB] at HO
  unfold ansV at HO ⊢
  clear h h' hB
  go_enter Try.func18, Try.ntmps18
  go_wp2_with (go_at_call 21; refine HO.out.mono ?_; rintro e w1 ⟨rfl, hb⟩)
  go_ret2
  exact ⟨rfl, (bel1 _ _).trans (hb.mono (by simp))⟩

set_option maxRecDepth 100000 in
set_option maxHeartbeats 8000000 in
theorem iAnswerText_yes (n num : Int) (ok : Bool) (es : List EdgeV) (ls : List Int) (k : Nat) (a : Option Addr) (c : Nat) (hk : k ≤ 1048576) (k' : Nat) (a' : Option Addr) (c' : Nat) (hk' : k' ≤ 1048576) (w : World) (h : Es w w.heap.size a k es) (h' : Is w w.heap.size a' k' ls) (hB : aB n ⟨num, ok, es, ls⟩ = true) :
    Calls Try.prog 18 #[.int .i64 n, ansV num ok a k c a' k' c'] w fun e w' => e = .returned (.tuple #[.string (str (aText ⟨num, ok, es, ls⟩)), .bool true]) ∧ Below w.heap.size w w' := by
  obtain ⟨i0, hi, hz0, hz1, hz2⟩ := info_parts info5
  obtain ⟨p0, p1, p2, p3⟩ := aB_parts hB
  dsimp only at p1 p2 p3
  obtain ⟨p4, p5⟩ := lB_bytes p0.2 p3
  have hk3 : (k' : Int) = n := by rw [← h'.1]; exact p4
  have HO : Hid (Calls Try.prog 21 #[.int .i64 n, ansV num ok a k c a' k' c'] (w.alloc (.cells #[.int .i64 num, .bool ok, .slice a k c, .slice a' k' c'] 37)) fun e w' => e = .returned (.bool true) ∧ Below w.heap.size w w' ∧
      w'.cell? ⟨w.heap.size, 0, none⟩ = some (.int .i64 num) ∧ w'.cell? ⟨w.heap.size, 1, none⟩ = some (.bool ok) ∧ w'.cell? ⟨w.heap.size, 2, none⟩ = some (.slice a k c) ∧ w'.cell? ⟨w.heap.size, 3, none⟩ = some (.slice a' k' c') ∧ w.heap.size < w'.heap.size) :=
    (iAnswerOk_any n num ok es ls k a c hk k' a' c' hk' (w.alloc (.cells #[.int .i64 num, .bool ok, .slice a k c, .slice a' k' c'] 37)) ((h.alloc (Nat.le_refl _) _).mono (by simp)) (h'.alloc _)).mono fun _ _ ⟨he, hb⟩ =>
      ⟨by rw [he, hB], (bel1 _ _).trans (hb.mono (by simp)), by rw [hb.cell (by simp)]; simp, by rw [hb.cell (by simp)]; simp, by rw [hb.cell (by simp)]; simp, by rw [hb.cell (by simp)]; simp, by have := hb.size; simp at this; omega⟩
  have HN := hideIt (numberText_any num num.toNat (by omega) (by omega))
  have HE : Hid (∀ W, Below w.heap.size w W → Calls Try.prog 52 #[.slice a k c] W fun e w' => e = .returned (.string (str (et es))) ∧ Below W.heap.size W w') := fun W hW => edgesText_any es k a c (by have := h.1; omega) p2.1 W (h.up hW)
  have hl1 := vt_le5 num.toNat (by omega)
  have hl3 := et_len (es := es) (by omega)
  have hl4 : ls.length ≤ 12 := by omega
  have A1 : ∀ wx, (Op.stringOp .add (str (vt num.toNat)) (str [okb ok])).run Try.prog wx = .ok (.string (str (vt num.toNat ++ [okb ok]))) wx := str_add _ _ (by simp; omega)
  have A2 : ∀ wx, (Op.stringOp .add (str (vt num.toNat ++ [okb ok])) (str (et es))).run Try.prog wx = .ok (.string (str (vt num.toNat ++ [okb ok] ++ et es))) wx := str_add _ _ (by simp; omega)
  have A3 : ∀ wx, (Op.stringOp .add (str (vt num.toNat ++ [okb ok] ++ et es)) (str (ls.map ob))).run Try.prog wx = .ok (.string (str (vt num.toNat ++ [okb ok] ++ et es ++ ls.map ob))) wx := str_add _ _ (by simp; omega)
  have FN : Hid (str (vt num.toNat ++ [okb ok] ++ et es ++ ls.map ob) = str (aText ⟨num, ok, es, ls⟩)) := by show _ = _; unfold aText; simp [okb]
  generalize str (vt num.toNat ++ [okb ok] ++ et es ++ ls.map ob) = s3 at A3 FN
  generalize str (vt num.toNat ++ [okb ok] ++ et es) = s2 at A2 A3
  generalize str (vt num.toNat ++ [okb ok]) = s1 at A1 A2
  generalize hsL : str (ls.map ob) = sL at A3
  obtain ⟨sd, hsd⟩ : ∃ sd : Int, Hid (((okb ok).toNat : Int) = sd) := ⟨_, rfl⟩
  have CV : ∀ (g : Nat) (W : World), W.cell? ⟨g, 0, none⟩ = some (.int .u8 sd) → (convert 22 9 (.slice (some ⟨g, 0, none⟩) 1 1)).run Try.prog W = .ok (.string (str [okb ok])) W := fun g W hW => conv_g g (okb ok) sd hsd.out W hW
  have H' := hideIt h'
  have HP5 := hideIt p5
  have HSL := hideIt hsL
  unfold ansV at HO ⊢
  subst hk3
  generalize str [okb ok] = sB at A1 CV
  clear h h' hB hl1 hl3 p2 p3 p4 p5 hsL
  cases ok with
  | false =>
    obtain rfl : sd = 0 := hsd.out.symm
    go_enter Try.func18, Try.ntmps18
    go_wp2_with (go_at_call 21; refine HO.out.mono ?_; rintro e w1 ⟨rfl, hb1, q0, q1, q2, q3, z1⟩; refine Hid.out ?_)
    refine (show ∀ {p : Prop}, p → Hid p from fun h => h) ?_
    have KC : Hid (∀ W, Below w1.heap.size w1 W → (W.cell? ⟨w.heap.size, 0, none⟩ = some (.int .i64 num) ∧ W.cell? ⟨w.heap.size, 1, none⟩ = some (.bool false) ∧ W.cell? ⟨w.heap.size, 2, none⟩ = some (.slice a k c) ∧ W.cell? ⟨w.heap.size, 3, none⟩ = some (.slice a' k' c'))) := fun W hW =>
      ⟨by rw [hW.cell z1]; exact q0, by rw [hW.cell z1]; exact q1, by rw [hW.cell z1]; exact q2, by rw [hW.cell z1]; exact q3⟩
    have Z1 : Hid (∀ W, Below w1.heap.size w1 W → Below w.heap.size w W) := fun W hW => hb1.trans (hW.mono hb1.size)
    clear HO
    go_wp2
    go_loopw [7, 20] (fun v i wr => ∃ (j : Nat), j ≤ k' ∧ i = .int .i64 (j : Int) ∧ Hid (¬ v = .slice none 0 0) ∧ Hid (wr.ownsRow w1.heap.size 5 1 v j (bv ((ls.take j).map ob))) ∧ Below w1.heap.size w1 wr) (fun _ i _ => k' - (intOf i).toNat)
    case atStart =>
      exact ⟨0, by omega, rfl, by show ¬ _; simp, World.ownsRow_made (base := w1.heap.size) w1 #[] 0 (Nat.le_refl _) (by unfold maxLen; omega) rfl, (Below.refl _ _).alloc (Nat.le_refl _) _⟩
    case round =>
      obtain ⟨j, hj, rfl, hv, hO, hb⟩ := hrel
      by_cases hlt : j < k'
      · have h9 := H'.out
        rcases h9.2 with hz | ⟨b, off, rfl, hbl, hc⟩
        · omega
        · obtain ⟨x, hx⟩ : ∃ x, ls[j]? = some x := ⟨ls[j]'(by have := h9.1; omega), List.getElem?_eq_getElem (by have := h9.1; omega)⟩
          have c0 : wr.cell? ⟨b, off + j, none⟩ = some (.int .i64 x) := by rw [(Z1.out _ hb).cell hbl]; exact hc j x hx
          obtain ⟨x1, x2⟩ := HP5.out x (List.mem_of_getElem? hx)
          obtain ⟨k0, k1, k2, k3⟩ := KC.out _ hb
          have b1 : (0 : Int) ≤ (j : Int) := by omega
          have b2 : (j : Int) < (k' : Int) := by omega
          have HTk := hideIt (take_snocF ls j x hx)
          have hsz := hb.size
          clear hc hx h9
          go_wp2_with (at_builtin; refine wpList_append_own _ rfl _ _ 22 rfl w1.heap.size 5 i0 (.int .u8 0) 1 1 Try.underlying22 hi hz0 hz1 hz2 rfl (by decide) _ _ _ rfl (hO.out.alloc _) ⟨wr.heap.size, 0, none⟩ 1 1 [Value.int .u8 x] rfl rfl (one_new _ _ _) (by intro u hu; simp at hu; subst hu; rfl) (by unfold maxLen; omega) (by omega) (by simp; omega) ?_)
          intro v1 w2 hown1 hg1 hn1
          have hb1' := below_app hb (Nat.le_refl _) hO.out hg1
          have HO1 : Hid (w2.ownsRow w1.heap.size 5 1 v1 (j + 1) (bv ((ls.take (j + 1)).map ob))) := by
            show World.ownsRow _ _ _ _ _ _ _
            rw [HTk.out, List.map_append, List.map_cons, List.map_nil, ← bv_snoc _ _ x (ob_back ⟨x1, x2⟩), List.map_take]
            exact hown1
          have HN1 : Hid (¬ v1 = .slice none 0 0) := hn1
          clear hown1 hg1 hO hn1
          go_wp2
          go_roundw
          case rel => exact ⟨j + 1, by omega, by go_num, HN1, HO1, hb1'⟩
          case measure => simp [intOf]; omega
      · have hO1 := hO.out
        rw [List.take_of_length_le (by have := H'.out.1; omega)] at hO1
        obtain ⟨g, cap, rfl, _⟩ := conv_own hO1 hv.out
        have hjl : (ls.map ob).length = j := by have := hO1.1; rw [bv_len] at this; omega
        rw [hjl] at hO1
        generalize hv1 : Value.slice (some ⟨g, 0, none⟩) (ls.map ob).length cap = v1 at *
        have HKS : Hid (∀ u, Below wr.heap.size wr u → ((u.cell? ⟨w.heap.size, 0, none⟩ = some (.int .i64 num) ∧ u.cell? ⟨w.heap.size, 1, none⟩ = some (.bool false) ∧ u.cell? ⟨w.heap.size, 2, none⟩ = some (.slice a k c) ∧ u.cell? ⟨w.heap.size, 3, none⟩ = some (.slice a' k' c')) ∧ (convert 22 9 v1).run Try.prog u = .ok (.string sL) u)) := fun u hu =>
          ⟨KC.out _ (hb.trans (hu.mono hb.size)), by
            rw [← hv1, ← HSL.out]
            have h8 := World.ownsRow.kept hO1 (grown_of_below hu none) (.inr (by simp [Value.ownBlock]))
            rw [hjl]
            exact conv_at h8⟩
        have Z2 : Hid (∀ W, Below wr.heap.size wr W → Below w.heap.size w W) := fun W hW => Z1.out _ (hb.trans (hW.mono hb.size))
        have B0 : Below wr.heap.size wr wr.drew := (Below.refl _ _).drew
        clear hO hO1 hv hv1 hjl
        go_wp2
        refine wp_region_held_drew (S := (fun u => Below wr.heap.size wr u ∧ ((u.cell? ⟨w.heap.size, 0, none⟩ = some (.int .i64 num) ∧ u.cell? ⟨w.heap.size, 1, none⟩ = some (.bool false) ∧ u.cell? ⟨w.heap.size, 2, none⟩ = some (.slice a k c) ∧ u.cell? ⟨w.heap.size, 3, none⟩ = some (.slice a' k' c')) ∧ (convert 22 9 v1).run Try.prog u = .ok (.string sL) u))) (by kernel_rfl) ⟨B0, HKS.out _ B0⟩ (fun hHeld => ?_)
        refine wpAnyH_take (i := 0) (v := ?_) rfl (by kernel_rfl) (by kernel_rfl) (by kernel_rfl) (fun _ _ _ h => h) (Or.inl ⟨by kernel_rfl, ?_⟩) (by assumption) ?_
        rotate_left
        · intro w hSw; (try dsimp only at hSw); go_simp; try with_reducible rfl
        try simp only [Act.put, List.getElem_toArray, List.getElem_cons_zero, List.setIfInBounds_toArray, List.set_cons_zero, List.set_cons_succ]
        refine wpAnyH_take (i := 1) (v := ?_) rfl (by kernel_rfl) (by kernel_rfl) (by kernel_rfl) (fun _ _ _ h => h) (Or.inl ⟨by kernel_rfl, ?_⟩) (by assumption) ?_
        rotate_left
        · intro w hSw; (try dsimp only at hSw); go_simp; try with_reducible rfl
        try simp only [Act.put, List.getElem_toArray, List.getElem_cons_succ, List.getElem_cons_zero, List.setIfInBounds_toArray, List.set_cons_zero, List.set_cons_succ]
        refine wpAnyH_take (i := 3) (v := ?_) rfl (by kernel_rfl) (by kernel_rfl) (by kernel_rfl) (fun _ _ _ h => h) (Or.inl ⟨by kernel_rfl, ?_⟩) (by assumption) ?_
        rotate_left
        · intro w hSw; (try dsimp only at hSw); go_simp; try with_reducible rfl
        try simp only [Act.put, List.getElem_toArray, List.getElem_cons_succ, List.getElem_cons_zero, List.setIfInBounds_toArray, List.set_cons_zero, List.set_cons_succ]
        refine wpAnyH_take (i := 7) (v := ?_) rfl (by kernel_rfl) (by kernel_rfl) (by kernel_rfl) (fun _ _ _ h => h) (Or.inl ⟨by kernel_rfl, ?_⟩) (by assumption) ?_
        rotate_left
        · intro w hSw; (try dsimp only at hSw); go_simp; try with_reducible rfl
        try simp only [Act.put, List.getElem_toArray, List.getElem_cons_succ, List.getElem_cons_zero, List.setIfInBounds_toArray, List.set_cons_zero, List.set_cons_succ]
        refine wpAnyH_take (i := 8) (v := ?_) rfl (by kernel_rfl) (by kernel_rfl) (by kernel_rfl) (fun _ _ _ h => h) (Or.inl ⟨by kernel_rfl, ?_⟩) (by assumption) ?_
        rotate_left
        · intro w hSw; (try dsimp only at hSw); go_simp; try with_reducible rfl
        try simp only [Act.put, List.getElem_toArray, List.getElem_cons_succ, List.getElem_cons_zero, List.setIfInBounds_toArray, List.set_cons_zero, List.set_cons_succ]
        refine wpAnyH_take (i := 11) (v := ?_) rfl (by kernel_rfl) (by kernel_rfl) (by kernel_rfl) (fun _ _ _ h => h) (Or.inl ⟨by kernel_rfl, ?_⟩) (by assumption) ?_
        rotate_left
        · intro w hSw; (try dsimp only at hSw); go_simp; try with_reducible rfl
        try simp only [Act.put, List.getElem_toArray, List.getElem_cons_succ, List.getElem_cons_zero, List.setIfInBounds_toArray, List.set_cons_zero, List.set_cons_succ]
        refine wpAnyH_take (i := 12) (v := ?_) rfl (by kernel_rfl) (by kernel_rfl) (by kernel_rfl) (fun _ _ _ h => h) (Or.inl ⟨by kernel_rfl, ?_⟩) (by assumption) ?_
        rotate_left
        · intro w hSw; (try dsimp only at hSw); go_simp; try with_reducible rfl
        try simp only [Act.put, List.getElem_toArray, List.getElem_cons_succ, List.getElem_cons_zero, List.setIfInBounds_toArray, List.set_cons_zero, List.set_cons_succ]
        refine wpAnyH_ready (rs := [2, 4]) (by kernel_rfl) (by simp) ?_
        refine AllReadyH.cons rfl (fun K hK => ?_) (AllReadyH.cons rfl (fun K hK => ?_) AllReadyH.nil)
        · rw [if_pos]
          rotate_left
          · kernel_rfl
          go_wp2_with (go_at_call 40; refine (HN.out _).mono ?_; rintro e wa ⟨rfl, hba⟩; have Ba := B0.trans (hba.mono B0.size); refine Hid.out ?_)
          refine (show ∀ {p : Prop}, p → Hid p from fun h => h) ?_
          refine hK.out _ _ ⟨Ba, HKS.out _ Ba⟩ (fun hHeld => ?_)
          clear hK K
          try simp only [Act.put, List.getElem_toArray, List.getElem_cons_succ, List.getElem_cons_zero, List.setIfInBounds_toArray, List.set_cons_zero, List.set_cons_succ]
          refine wpAnyH_ready (rs := [4, 9]) (by kernel_rfl) (by simp) ?_
          refine AllReadyH.cons rfl (fun K hK => ?_) (AllReadyH.cons rfl (fun K hK => ?_) AllReadyH.nil)
          · go_simp
            have Bn1 := Ba.alloc Ba.size (.cells #[.int .u8 0] 5)
            have qn := new_here wa (.int .u8 0)
            refine hK.out _ _ ⟨Bn1, HKS.out _ Bn1⟩ (fun hHeld => ?_)
            clear hK K
            try simp only [Act.put, List.getElem_toArray, List.getElem_cons_succ, List.getElem_cons_zero, List.setIfInBounds_toArray, List.set_cons_zero, List.set_cons_succ]
            refine wpAnyH_ready (rs := [5, 9]) (by kernel_rfl) (by simp) ?_
            refine AllReadyH.cons rfl (fun K hK => ?_) (AllReadyH.cons rfl (fun K hK => ?_) AllReadyH.nil)
            · have qn1 := qn.1
              have cvn := CV _ _ qn1
              go_simp
              refine hK.out _ _ (by assumption) (fun hHeld => ?_)
              clear hK K
              try simp only [Act.put, List.getElem_toArray, List.getElem_cons_succ, List.getElem_cons_zero, List.setIfInBounds_toArray, List.set_cons_zero, List.set_cons_succ]
              refine wpAnyH_take (i := 6) (v := ?_) rfl (by kernel_rfl) (by kernel_rfl) (by kernel_rfl) (fun _ _ _ h => h) (Or.inl ⟨by kernel_rfl, ?_⟩) (by assumption) ?_
              rotate_left
              · intro w hSw; (try dsimp only at hSw); go_simp; try with_reducible rfl
              try simp only [Act.put, List.getElem_toArray, List.getElem_cons_succ, List.getElem_cons_zero, List.setIfInBounds_toArray, List.set_cons_zero, List.set_cons_succ]
              refine wpAnyH_ready (rs := [9]) (by kernel_rfl) (by simp) ?_
              refine AllReadyH.cons rfl (fun K hK => ?_) AllReadyH.nil
              rw [if_pos]
              rotate_left
              · kernel_rfl
              go_wp2_with (go_at_call 52; refine (HE.out _ (Z2.out _ Bn1)).mono ?_; rintro e wb ⟨rfl, hbb⟩; have Bb := Bn1.trans (hbb.mono Bn1.size); refine Hid.out ?_)
              refine (show ∀ {p : Prop}, p → Hid p from fun h => h) ?_
              refine hK.out _ _ ⟨Bb, HKS.out _ Bb⟩ (fun hHeld => ?_)
              clear hK K
              try simp only [Act.put, List.getElem_toArray, List.getElem_cons_succ, List.getElem_cons_zero, List.setIfInBounds_toArray, List.set_cons_zero, List.set_cons_succ]
              refine wpAnyH_take (i := 10) (v := ?_) rfl (by kernel_rfl) (by kernel_rfl) (by kernel_rfl) (fun _ _ _ h => h) (Or.inl ⟨by kernel_rfl, ?_⟩) (by assumption) ?_
              rotate_left
              · intro w hSw; (try dsimp only at hSw); go_simp; try with_reducible rfl
              try simp only [Act.put, List.getElem_toArray, List.getElem_cons_succ, List.getElem_cons_zero, List.setIfInBounds_toArray, List.set_cons_zero, List.set_cons_succ]
              refine wpAnyH_take (i := 13) (v := ?_) rfl (by kernel_rfl) (by kernel_rfl) (by kernel_rfl) (fun _ _ _ h => h) (Or.inl ⟨by kernel_rfl, ?_⟩) (by assumption) ?_
              rotate_left
              · intro w hSw; (try dsimp only at hSw); go_simp; try with_reducible rfl
              try simp only [Act.put, List.getElem_toArray, List.getElem_cons_succ, List.getElem_cons_zero, List.setIfInBounds_toArray, List.set_cons_zero, List.set_cons_succ]
              refine wpAnyH_ready (rs := [14]) (by kernel_rfl) (by simp) ?_
              refine AllReadyH.cons rfl (fun K hK => ?_) AllReadyH.nil
              go_simp
              refine hK.out _ _ (by assumption) (fun hHeld => ?_)
              clear hK K
              try simp only [Act.put, List.getElem_toArray, List.getElem_cons_succ, List.getElem_cons_zero, List.setIfInBounds_toArray, List.set_cons_zero, List.set_cons_succ]
              refine wpAnyH_ready (rs := [15]) (by kernel_rfl) (by simp) ?_
              refine AllReadyH.cons rfl (fun K hK => ?_) AllReadyH.nil
              go_simp
              refine hK.out _ _ (by assumption) (fun hHeld => ?_)
              clear hK K
              try simp only [Act.put, List.getElem_toArray, List.getElem_cons_succ, List.getElem_cons_zero, List.setIfInBounds_toArray, List.set_cons_zero, List.set_cons_succ]
              refine wpAnyH_done (by kernel_rfl) ?_ _
              go_wp2
              go_ret2
              exact ⟨by rw [← FN.out]; rfl, Z2.out _ Bb⟩
            · rw [if_pos]
              rotate_left
              · kernel_rfl
              go_wp2_with (go_at_call 52; refine (HE.out _ (Z2.out _ Bn1)).mono ?_; rintro e wb ⟨rfl, hbb⟩; have Bb := Bn1.trans (hbb.mono Bn1.size); have qn := old_then qn hbb; refine Hid.out ?_)
              refine (show ∀ {p : Prop}, p → Hid p from fun h => h) ?_
              refine hK.out _ _ ⟨Bb, HKS.out _ Bb⟩ (fun hHeld => ?_)
              clear hK K
              try simp only [Act.put, List.getElem_toArray, List.getElem_cons_succ, List.getElem_cons_zero, List.setIfInBounds_toArray, List.set_cons_zero, List.set_cons_succ]
              refine wpAnyH_ready (rs := [5]) (by kernel_rfl) (by simp) ?_
              refine AllReadyH.cons rfl (fun K hK => ?_) AllReadyH.nil
              have qn1 := qn.1
              have cvn := CV _ _ qn1
              go_simp
              refine hK.out _ _ (by assumption) (fun hHeld => ?_)
              clear hK K
              try simp only [Act.put, List.getElem_toArray, List.getElem_cons_succ, List.getElem_cons_zero, List.setIfInBounds_toArray, List.set_cons_zero, List.set_cons_succ]
              refine wpAnyH_take (i := 6) (v := ?_) rfl (by kernel_rfl) (by kernel_rfl) (by kernel_rfl) (fun _ _ _ h => h) (Or.inl ⟨by kernel_rfl, ?_⟩) (by assumption) ?_
              rotate_left
              · intro w hSw; (try dsimp only at hSw); go_simp; try with_reducible rfl
              try simp only [Act.put, List.getElem_toArray, List.getElem_cons_succ, List.getElem_cons_zero, List.setIfInBounds_toArray, List.set_cons_zero, List.set_cons_succ]
              refine wpAnyH_take (i := 10) (v := ?_) rfl (by kernel_rfl) (by kernel_rfl) (by kernel_rfl) (fun _ _ _ h => h) (Or.inl ⟨by kernel_rfl, ?_⟩) (by assumption) ?_
              rotate_left
              · intro w hSw; (try dsimp only at hSw); go_simp; try with_reducible rfl
              try simp only [Act.put, List.getElem_toArray, List.getElem_cons_succ, List.getElem_cons_zero, List.setIfInBounds_toArray, List.set_cons_zero, List.set_cons_succ]
              refine wpAnyH_take (i := 13) (v := ?_) rfl (by kernel_rfl) (by kernel_rfl) (by kernel_rfl) (fun _ _ _ h => h) (Or.inl ⟨by kernel_rfl, ?_⟩) (by assumption) ?_
              rotate_left
              · intro w hSw; (try dsimp only at hSw); go_simp; try with_reducible rfl
              try simp only [Act.put, List.getElem_toArray, List.getElem_cons_succ, List.getElem_cons_zero, List.setIfInBounds_toArray, List.set_cons_zero, List.set_cons_succ]
              refine wpAnyH_ready (rs := [14]) (by kernel_rfl) (by simp) ?_
              refine AllReadyH.cons rfl (fun K hK => ?_) AllReadyH.nil
              go_simp
              refine hK.out _ _ (by assumption) (fun hHeld => ?_)
              clear hK K
              try simp only [Act.put, List.getElem_toArray, List.getElem_cons_succ, List.getElem_cons_zero, List.setIfInBounds_toArray, List.set_cons_zero, List.set_cons_succ]
              refine wpAnyH_ready (rs := [15]) (by kernel_rfl) (by simp) ?_
              refine AllReadyH.cons rfl (fun K hK => ?_) AllReadyH.nil
              go_simp
              refine hK.out _ _ (by assumption) (fun hHeld => ?_)
              clear hK K
              try simp only [Act.put, List.getElem_toArray, List.getElem_cons_succ, List.getElem_cons_zero, List.setIfInBounds_toArray, List.set_cons_zero, List.set_cons_succ]
              refine wpAnyH_done (by kernel_rfl) ?_ _
              go_wp2
              go_ret2
              exact ⟨by rw [← FN.out]; rfl, Z2.out _ Bb⟩
          · rw [if_pos]
            rotate_left
            · kernel_rfl
            go_wp2_with (go_at_call 52; refine (HE.out _ (Z2.out _ Ba)).mono ?_; rintro e wb ⟨rfl, hbb⟩; have Bb := Ba.trans (hbb.mono Ba.size); refine Hid.out ?_)
            refine (show ∀ {p : Prop}, p → Hid p from fun h => h) ?_
            refine hK.out _ _ ⟨Bb, HKS.out _ Bb⟩ (fun hHeld => ?_)
            clear hK K
            try simp only [Act.put, List.getElem_toArray, List.getElem_cons_succ, List.getElem_cons_zero, List.setIfInBounds_toArray, List.set_cons_zero, List.set_cons_succ]
            refine wpAnyH_ready (rs := [4]) (by kernel_rfl) (by simp) ?_
            refine AllReadyH.cons rfl (fun K hK => ?_) AllReadyH.nil
            go_simp
            have Bn2 := Bb.alloc Bb.size (.cells #[.int .u8 0] 5)
            have qn := new_here wb (.int .u8 0)
            refine hK.out _ _ ⟨Bn2, HKS.out _ Bn2⟩ (fun hHeld => ?_)
            clear hK K
            try simp only [Act.put, List.getElem_toArray, List.getElem_cons_succ, List.getElem_cons_zero, List.setIfInBounds_toArray, List.set_cons_zero, List.set_cons_succ]
            refine wpAnyH_ready (rs := [5]) (by kernel_rfl) (by simp) ?_
            refine AllReadyH.cons rfl (fun K hK => ?_) AllReadyH.nil
            have qn1 := qn.1
            have cvn := CV _ _ qn1
            go_simp
            refine hK.out _ _ (by assumption) (fun hHeld => ?_)
            clear hK K
            try simp only [Act.put, List.getElem_toArray, List.getElem_cons_succ, List.getElem_cons_zero, List.setIfInBounds_toArray, List.set_cons_zero, List.set_cons_succ]
            refine wpAnyH_take (i := 6) (v := ?_) rfl (by kernel_rfl) (by kernel_rfl) (by kernel_rfl) (fun _ _ _ h => h) (Or.inl ⟨by kernel_rfl, ?_⟩) (by assumption) ?_
            rotate_left
            · intro w hSw; (try dsimp only at hSw); go_simp; try with_reducible rfl
            try simp only [Act.put, List.getElem_toArray, List.getElem_cons_succ, List.getElem_cons_zero, List.setIfInBounds_toArray, List.set_cons_zero, List.set_cons_succ]
            refine wpAnyH_take (i := 10) (v := ?_) rfl (by kernel_rfl) (by kernel_rfl) (by kernel_rfl) (fun _ _ _ h => h) (Or.inl ⟨by kernel_rfl, ?_⟩) (by assumption) ?_
            rotate_left
            · intro w hSw; (try dsimp only at hSw); go_simp; try with_reducible rfl
            try simp only [Act.put, List.getElem_toArray, List.getElem_cons_succ, List.getElem_cons_zero, List.setIfInBounds_toArray, List.set_cons_zero, List.set_cons_succ]
            refine wpAnyH_take (i := 13) (v := ?_) rfl (by kernel_rfl) (by kernel_rfl) (by kernel_rfl) (fun _ _ _ h => h) (Or.inl ⟨by kernel_rfl, ?_⟩) (by assumption) ?_
            rotate_left
            · intro w hSw; (try dsimp only at hSw); go_simp; try with_reducible rfl
            try simp only [Act.put, List.getElem_toArray, List.getElem_cons_succ, List.getElem_cons_zero, List.setIfInBounds_toArray, List.set_cons_zero, List.set_cons_succ]
            refine wpAnyH_ready (rs := [14]) (by kernel_rfl) (by simp) ?_
            refine AllReadyH.cons rfl (fun K hK => ?_) AllReadyH.nil
            go_simp
            refine hK.out _ _ (by assumption) (fun hHeld => ?_)
            clear hK K
            try simp only [Act.put, List.getElem_toArray, List.getElem_cons_succ, List.getElem_cons_zero, List.setIfInBounds_toArray, List.set_cons_zero, List.set_cons_succ]
            refine wpAnyH_ready (rs := [15]) (by kernel_rfl) (by simp) ?_
            refine AllReadyH.cons rfl (fun K hK => ?_) AllReadyH.nil
            go_simp
            refine hK.out _ _ (by assumption) (fun hHeld => ?_)
            clear hK K
            try simp only [Act.put, List.getElem_toArray, List.getElem_cons_succ, List.getElem_cons_zero, List.setIfInBounds_toArray, List.set_cons_zero, List.set_cons_succ]
            refine wpAnyH_done (by kernel_rfl) ?_ _
            go_wp2
            go_ret2
            exact ⟨by rw [← FN.out]; rfl, Z2.out _ Bn2⟩
        · go_simp
          have Bn0 := B0.alloc B0.size (.cells #[.int .u8 0] 5)
          have qn : (wr.drew.alloc (.cells #[.int .u8 0] 5)).cell? ⟨wr.heap.size, 0, none⟩ = some (.int .u8 0) ∧ wr.heap.size < (wr.drew.alloc (.cells #[.int .u8 0] 5)).heap.size := new_here wr.drew (.int .u8 0)
          refine hK.out _ _ ⟨Bn0, HKS.out _ Bn0⟩ (fun hHeld => ?_)
          clear hK K
          try simp only [Act.put, List.getElem_toArray, List.getElem_cons_succ, List.getElem_cons_zero, List.setIfInBounds_toArray, List.set_cons_zero, List.set_cons_succ]
          refine wpAnyH_ready (rs := [2, 5]) (by kernel_rfl) (by simp) ?_
          refine AllReadyH.cons rfl (fun K hK => ?_) (AllReadyH.cons rfl (fun K hK => ?_) AllReadyH.nil)
          · rw [if_pos]
            rotate_left
            · kernel_rfl
            go_wp2_with (go_at_call 40; refine (HN.out _).mono ?_; rintro e wa ⟨rfl, hba⟩; have Ba := Bn0.trans (hba.mono Bn0.size); have qn := old_then qn hba; refine Hid.out ?_)
            refine (show ∀ {p : Prop}, p → Hid p from fun h => h) ?_
            refine hK.out _ _ ⟨Ba, HKS.out _ Ba⟩ (fun hHeld => ?_)
            clear hK K
            try simp only [Act.put, List.getElem_toArray, List.getElem_cons_succ, List.getElem_cons_zero, List.setIfInBounds_toArray, List.set_cons_zero, List.set_cons_succ]
            refine wpAnyH_ready (rs := [5, 9]) (by kernel_rfl) (by simp) ?_
            refine AllReadyH.cons rfl (fun K hK => ?_) (AllReadyH.cons rfl (fun K hK => ?_) AllReadyH.nil)
            · have qn1 := qn.1
              have cvn := CV _ _ qn1
              go_simp
              refine hK.out _ _ (by assumption) (fun hHeld => ?_)
              clear hK K
              try simp only [Act.put, List.getElem_toArray, List.getElem_cons_succ, List.getElem_cons_zero, List.setIfInBounds_toArray, List.set_cons_zero, List.set_cons_succ]
              refine wpAnyH_take (i := 6) (v := ?_) rfl (by kernel_rfl) (by kernel_rfl) (by kernel_rfl) (fun _ _ _ h => h) (Or.inl ⟨by kernel_rfl, ?_⟩) (by assumption) ?_
              rotate_left
              · intro w hSw; (try dsimp only at hSw); go_simp; try with_reducible rfl
              try simp only [Act.put, List.getElem_toArray, List.getElem_cons_succ, List.getElem_cons_zero, List.setIfInBounds_toArray, List.set_cons_zero, List.set_cons_succ]
              refine wpAnyH_ready (rs := [9]) (by kernel_rfl) (by simp) ?_
              refine AllReadyH.cons rfl (fun K hK => ?_) AllReadyH.nil
              rw [if_pos]
              rotate_left
              · kernel_rfl
              go_wp2_with (go_at_call 52; refine (HE.out _ (Z2.out _ Ba)).mono ?_; rintro e wb ⟨rfl, hbb⟩; have Bb := Ba.trans (hbb.mono Ba.size); refine Hid.out ?_)
              refine (show ∀ {p : Prop}, p → Hid p from fun h => h) ?_
              refine hK.out _ _ ⟨Bb, HKS.out _ Bb⟩ (fun hHeld => ?_)
              clear hK K
              try simp only [Act.put, List.getElem_toArray, List.getElem_cons_succ, List.getElem_cons_zero, List.setIfInBounds_toArray, List.set_cons_zero, List.set_cons_succ]
              refine wpAnyH_take (i := 10) (v := ?_) rfl (by kernel_rfl) (by kernel_rfl) (by kernel_rfl) (fun _ _ _ h => h) (Or.inl ⟨by kernel_rfl, ?_⟩) (by assumption) ?_
              rotate_left
              · intro w hSw; (try dsimp only at hSw); go_simp; try with_reducible rfl
              try simp only [Act.put, List.getElem_toArray, List.getElem_cons_succ, List.getElem_cons_zero, List.setIfInBounds_toArray, List.set_cons_zero, List.set_cons_succ]
              refine wpAnyH_take (i := 13) (v := ?_) rfl (by kernel_rfl) (by kernel_rfl) (by kernel_rfl) (fun _ _ _ h => h) (Or.inl ⟨by kernel_rfl, ?_⟩) (by assumption) ?_
              rotate_left
              · intro w hSw; (try dsimp only at hSw); go_simp; try with_reducible rfl
              try simp only [Act.put, List.getElem_toArray, List.getElem_cons_succ, List.getElem_cons_zero, List.setIfInBounds_toArray, List.set_cons_zero, List.set_cons_succ]
              refine wpAnyH_ready (rs := [14]) (by kernel_rfl) (by simp) ?_
              refine AllReadyH.cons rfl (fun K hK => ?_) AllReadyH.nil
              go_simp
              refine hK.out _ _ (by assumption) (fun hHeld => ?_)
              clear hK K
              try simp only [Act.put, List.getElem_toArray, List.getElem_cons_succ, List.getElem_cons_zero, List.setIfInBounds_toArray, List.set_cons_zero, List.set_cons_succ]
              refine wpAnyH_ready (rs := [15]) (by kernel_rfl) (by simp) ?_
              refine AllReadyH.cons rfl (fun K hK => ?_) AllReadyH.nil
              go_simp
              refine hK.out _ _ (by assumption) (fun hHeld => ?_)
              clear hK K
              try simp only [Act.put, List.getElem_toArray, List.getElem_cons_succ, List.getElem_cons_zero, List.setIfInBounds_toArray, List.set_cons_zero, List.set_cons_succ]
              refine wpAnyH_done (by kernel_rfl) ?_ _
              go_wp2
              go_ret2
              exact ⟨by rw [← FN.out]; rfl, Z2.out _ Bb⟩
            · rw [if_pos]
              rotate_left
              · kernel_rfl
              go_wp2_with (go_at_call 52; refine (HE.out _ (Z2.out _ Ba)).mono ?_; rintro e wb ⟨rfl, hbb⟩; have Bb := Ba.trans (hbb.mono Ba.size); have qn := old_then qn hbb; refine Hid.out ?_)
              refine (show ∀ {p : Prop}, p → Hid p from fun h => h) ?_
              refine hK.out _ _ ⟨Bb, HKS.out _ Bb⟩ (fun hHeld => ?_)
              clear hK K
              try simp only [Act.put, List.getElem_toArray, List.getElem_cons_succ, List.getElem_cons_zero, List.setIfInBounds_toArray, List.set_cons_zero, List.set_cons_succ]
              refine wpAnyH_ready (rs := [5]) (by kernel_rfl) (by simp) ?_
              refine AllReadyH.cons rfl (fun K hK => ?_) AllReadyH.nil
              have qn1 := qn.1
              have cvn := CV _ _ qn1
              go_simp
              refine hK.out _ _ (by assumption) (fun hHeld => ?_)
              clear hK K
              try simp only [Act.put, List.getElem_toArray, List.getElem_cons_succ, List.getElem_cons_zero, List.setIfInBounds_toArray, List.set_cons_zero, List.set_cons_succ]
              refine wpAnyH_take (i := 6) (v := ?_) rfl (by kernel_rfl) (by kernel_rfl) (by kernel_rfl) (fun _ _ _ h => h) (Or.inl ⟨by kernel_rfl, ?_⟩) (by assumption) ?_
              rotate_left
              · intro w hSw; (try dsimp only at hSw); go_simp; try with_reducible rfl
              try simp only [Act.put, List.getElem_toArray, List.getElem_cons_succ, List.getElem_cons_zero, List.setIfInBounds_toArray, List.set_cons_zero, List.set_cons_succ]
              refine wpAnyH_take (i := 10) (v := ?_) rfl (by kernel_rfl) (by kernel_rfl) (by kernel_rfl) (fun _ _ _ h => h) (Or.inl ⟨by kernel_rfl, ?_⟩) (by assumption) ?_
              rotate_left
              · intro w hSw; (try dsimp only at hSw); go_simp; try with_reducible rfl
              try simp only [Act.put, List.getElem_toArray, List.getElem_cons_succ, List.getElem_cons_zero, List.setIfInBounds_toArray, List.set_cons_zero, List.set_cons_succ]
              refine wpAnyH_take (i := 13) (v := ?_) rfl (by kernel_rfl) (by kernel_rfl) (by kernel_rfl) (fun _ _ _ h => h) (Or.inl ⟨by kernel_rfl, ?_⟩) (by assumption) ?_
              rotate_left
              · intro w hSw; (try dsimp only at hSw); go_simp; try with_reducible rfl
              try simp only [Act.put, List.getElem_toArray, List.getElem_cons_succ, List.getElem_cons_zero, List.setIfInBounds_toArray, List.set_cons_zero, List.set_cons_succ]
              refine wpAnyH_ready (rs := [14]) (by kernel_rfl) (by simp) ?_
              refine AllReadyH.cons rfl (fun K hK => ?_) AllReadyH.nil
              go_simp
              refine hK.out _ _ (by assumption) (fun hHeld => ?_)
              clear hK K
              try simp only [Act.put, List.getElem_toArray, List.getElem_cons_succ, List.getElem_cons_zero, List.setIfInBounds_toArray, List.set_cons_zero, List.set_cons_succ]
              refine wpAnyH_ready (rs := [15]) (by kernel_rfl) (by simp) ?_
              refine AllReadyH.cons rfl (fun K hK => ?_) AllReadyH.nil
              go_simp
              refine hK.out _ _ (by assumption) (fun hHeld => ?_)
              clear hK K
              try simp only [Act.put, List.getElem_toArray, List.getElem_cons_succ, List.getElem_cons_zero, List.setIfInBounds_toArray, List.set_cons_zero, List.set_cons_succ]
              refine wpAnyH_done (by kernel_rfl) ?_ _
              go_wp2
              go_ret2
              exact ⟨by rw [← FN.out]; rfl, Z2.out _ Bb⟩
          · have qn1 := qn.1
            have cvn := CV _ _ qn1
            go_simp
            refine hK.out _ _ (by assumption) (fun hHeld => ?_)
            clear hK K
            try simp only [Act.put, List.getElem_toArray, List.getElem_cons_succ, List.getElem_cons_zero, List.setIfInBounds_toArray, List.set_cons_zero, List.set_cons_succ]
            refine wpAnyH_ready (rs := [2]) (by kernel_rfl) (by simp) ?_
            refine AllReadyH.cons rfl (fun K hK => ?_) AllReadyH.nil
            rw [if_pos]
            rotate_left
            · kernel_rfl
            go_wp2_with (go_at_call 40; refine (HN.out _).mono ?_; rintro e wa ⟨rfl, hba⟩; have Ba := Bn0.trans (hba.mono Bn0.size); refine Hid.out ?_)
            refine (show ∀ {p : Prop}, p → Hid p from fun h => h) ?_
            refine hK.out _ _ ⟨Ba, HKS.out _ Ba⟩ (fun hHeld => ?_)
            clear hK K
            try simp only [Act.put, List.getElem_toArray, List.getElem_cons_succ, List.getElem_cons_zero, List.setIfInBounds_toArray, List.set_cons_zero, List.set_cons_succ]
            refine wpAnyH_take (i := 6) (v := ?_) rfl (by kernel_rfl) (by kernel_rfl) (by kernel_rfl) (fun _ _ _ h => h) (Or.inl ⟨by kernel_rfl, ?_⟩) (by assumption) ?_
            rotate_left
            · intro w hSw; (try dsimp only at hSw); go_simp; try with_reducible rfl
            try simp only [Act.put, List.getElem_toArray, List.getElem_cons_succ, List.getElem_cons_zero, List.setIfInBounds_toArray, List.set_cons_zero, List.set_cons_succ]
            refine wpAnyH_ready (rs := [9]) (by kernel_rfl) (by simp) ?_
            refine AllReadyH.cons rfl (fun K hK => ?_) AllReadyH.nil
            rw [if_pos]
            rotate_left
            · kernel_rfl
            go_wp2_with (go_at_call 52; refine (HE.out _ (Z2.out _ Ba)).mono ?_; rintro e wb ⟨rfl, hbb⟩; have Bb := Ba.trans (hbb.mono Ba.size); refine Hid.out ?_)
            refine (show ∀ {p : Prop}, p → Hid p from fun h => h) ?_
            refine hK.out _ _ ⟨Bb, HKS.out _ Bb⟩ (fun hHeld => ?_)
            clear hK K
            try simp only [Act.put, List.getElem_toArray, List.getElem_cons_succ, List.getElem_cons_zero, List.setIfInBounds_toArray, List.set_cons_zero, List.set_cons_succ]
            refine wpAnyH_take (i := 10) (v := ?_) rfl (by kernel_rfl) (by kernel_rfl) (by kernel_rfl) (fun _ _ _ h => h) (Or.inl ⟨by kernel_rfl, ?_⟩) (by assumption) ?_
            rotate_left
            · intro w hSw; (try dsimp only at hSw); go_simp; try with_reducible rfl
            try simp only [Act.put, List.getElem_toArray, List.getElem_cons_succ, List.getElem_cons_zero, List.setIfInBounds_toArray, List.set_cons_zero, List.set_cons_succ]
            refine wpAnyH_take (i := 13) (v := ?_) rfl (by kernel_rfl) (by kernel_rfl) (by kernel_rfl) (fun _ _ _ h => h) (Or.inl ⟨by kernel_rfl, ?_⟩) (by assumption) ?_
            rotate_left
            · intro w hSw; (try dsimp only at hSw); go_simp; try with_reducible rfl
            try simp only [Act.put, List.getElem_toArray, List.getElem_cons_succ, List.getElem_cons_zero, List.setIfInBounds_toArray, List.set_cons_zero, List.set_cons_succ]
            refine wpAnyH_ready (rs := [14]) (by kernel_rfl) (by simp) ?_
            refine AllReadyH.cons rfl (fun K hK => ?_) AllReadyH.nil
            go_simp
            refine hK.out _ _ (by assumption) (fun hHeld => ?_)
            clear hK K
            try simp only [Act.put, List.getElem_toArray, List.getElem_cons_succ, List.getElem_cons_zero, List.setIfInBounds_toArray, List.set_cons_zero, List.set_cons_succ]
            refine wpAnyH_ready (rs := [15]) (by kernel_rfl) (by simp) ?_
            refine AllReadyH.cons rfl (fun K hK => ?_) AllReadyH.nil
            go_simp
            refine hK.out _ _ (by assumption) (fun hHeld => ?_)
            clear hK K
            try simp only [Act.put, List.getElem_toArray, List.getElem_cons_succ, List.getElem_cons_zero, List.setIfInBounds_toArray, List.set_cons_zero, List.set_cons_succ]
            refine wpAnyH_done (by kernel_rfl) ?_ _
            go_wp2
            go_ret2
            exact ⟨by rw [← FN.out]; rfl, Z2.out _ Bb⟩
  | true =>
    obtain rfl : sd = 1 := hsd.out.symm
    go_enter Try.func18, Try.ntmps18
    go_wp2_with (go_at_call 21; refine HO.out.mono ?_; rintro e w1 ⟨rfl, hb1, q0, q1, q2, q3, z1⟩; refine Hid.out ?_)
    refine (show ∀ {p : Prop}, p → Hid p from fun h => h) ?_
    have KC : Hid (∀ W, Below w1.heap.size w1 W → (W.cell? ⟨w.heap.size, 0, none⟩ = some (.int .i64 num) ∧ W.cell? ⟨w.heap.size, 1, none⟩ = some (.bool true) ∧ W.cell? ⟨w.heap.size, 2, none⟩ = some (.slice a k c) ∧ W.cell? ⟨w.heap.size, 3, none⟩ = some (.slice a' k' c'))) := fun W hW =>
      ⟨by rw [hW.cell z1]; exact q0, by rw [hW.cell z1]; exact q1, by rw [hW.cell z1]; exact q2, by rw [hW.cell z1]; exact q3⟩
    have Z1 : Hid (∀ W, Below w1.heap.size w1 W → Below w.heap.size w W) := fun W hW => hb1.trans (hW.mono hb1.size)
    clear HO
    go_wp2
    go_loopw [7, 20] (fun v i wr => ∃ (j : Nat), j ≤ k' ∧ i = .int .i64 (j : Int) ∧ Hid (¬ v = .slice none 0 0) ∧ Hid (wr.ownsRow w1.heap.size 5 1 v j (bv ((ls.take j).map ob))) ∧ Below w1.heap.size w1 wr) (fun _ i _ => k' - (intOf i).toNat)
    case atStart =>
      exact ⟨0, by omega, rfl, by show ¬ _; simp, World.ownsRow_made (base := w1.heap.size) w1 #[] 0 (Nat.le_refl _) (by unfold maxLen; omega) rfl, (Below.refl _ _).alloc (Nat.le_refl _) _⟩
    case round =>
      obtain ⟨j, hj, rfl, hv, hO, hb⟩ := hrel
      by_cases hlt : j < k'
      · have h9 := H'.out
        rcases h9.2 with hz | ⟨b, off, rfl, hbl, hc⟩
        · omega
        · obtain ⟨x, hx⟩ : ∃ x, ls[j]? = some x := ⟨ls[j]'(by have := h9.1; omega), List.getElem?_eq_getElem (by have := h9.1; omega)⟩
          have c0 : wr.cell? ⟨b, off + j, none⟩ = some (.int .i64 x) := by rw [(Z1.out _ hb).cell hbl]; exact hc j x hx
          obtain ⟨x1, x2⟩ := HP5.out x (List.mem_of_getElem? hx)
          obtain ⟨k0, k1, k2, k3⟩ := KC.out _ hb
          have b1 : (0 : Int) ≤ (j : Int) := by omega
          have b2 : (j : Int) < (k' : Int) := by omega
          have HTk := hideIt (take_snocF ls j x hx)
          have hsz := hb.size
          clear hc hx h9
          go_wp2_with (at_builtin; refine wpList_append_own _ rfl _ _ 22 rfl w1.heap.size 5 i0 (.int .u8 0) 1 1 Try.underlying22 hi hz0 hz1 hz2 rfl (by decide) _ _ _ rfl (hO.out.alloc _) ⟨wr.heap.size, 0, none⟩ 1 1 [Value.int .u8 x] rfl rfl (one_new _ _ _) (by intro u hu; simp at hu; subst hu; rfl) (by unfold maxLen; omega) (by omega) (by simp; omega) ?_)
          intro v1 w2 hown1 hg1 hn1
          have hb1' := below_app hb (Nat.le_refl _) hO.out hg1
          have HO1 : Hid (w2.ownsRow w1.heap.size 5 1 v1 (j + 1) (bv ((ls.take (j + 1)).map ob))) := by
            show World.ownsRow _ _ _ _ _ _ _
            rw [HTk.out, List.map_append, List.map_cons, List.map_nil, ← bv_snoc _ _ x (ob_back ⟨x1, x2⟩), List.map_take]
            exact hown1
          have HN1 : Hid (¬ v1 = .slice none 0 0) := hn1
          clear hown1 hg1 hO hn1
          go_wp2
          go_roundw
          case rel => exact ⟨j + 1, by omega, by go_num, HN1, HO1, hb1'⟩
          case measure => simp [intOf]; omega
      · have hO1 := hO.out
        rw [List.take_of_length_le (by have := H'.out.1; omega)] at hO1
        obtain ⟨g, cap, rfl, _⟩ := conv_own hO1 hv.out
        have hjl : (ls.map ob).length = j := by have := hO1.1; rw [bv_len] at this; omega
        rw [hjl] at hO1
        generalize hv1 : Value.slice (some ⟨g, 0, none⟩) (ls.map ob).length cap = v1 at *
        have HKS : Hid (∀ u, Below wr.heap.size wr u → ((u.cell? ⟨w.heap.size, 0, none⟩ = some (.int .i64 num) ∧ u.cell? ⟨w.heap.size, 1, none⟩ = some (.bool true) ∧ u.cell? ⟨w.heap.size, 2, none⟩ = some (.slice a k c) ∧ u.cell? ⟨w.heap.size, 3, none⟩ = some (.slice a' k' c')) ∧ (convert 22 9 v1).run Try.prog u = .ok (.string sL) u)) := fun u hu =>
          ⟨KC.out _ (hb.trans (hu.mono hb.size)), by
            rw [← hv1, ← HSL.out]
            have h8 := World.ownsRow.kept hO1 (grown_of_below hu none) (.inr (by simp [Value.ownBlock]))
            rw [hjl]
            exact conv_at h8⟩
        have Z2 : Hid (∀ W, Below wr.heap.size wr W → Below w.heap.size w W) := fun W hW => Z1.out _ (hb.trans (hW.mono hb.size))
        have B0 : Below wr.heap.size wr wr.drew := (Below.refl _ _).drew
        clear hO hO1 hv hv1 hjl
        go_wp2
        refine wp_region_held_drew (S := (fun u => Below wr.heap.size wr u ∧ ((u.cell? ⟨w.heap.size, 0, none⟩ = some (.int .i64 num) ∧ u.cell? ⟨w.heap.size, 1, none⟩ = some (.bool true) ∧ u.cell? ⟨w.heap.size, 2, none⟩ = some (.slice a k c) ∧ u.cell? ⟨w.heap.size, 3, none⟩ = some (.slice a' k' c')) ∧ (convert 22 9 v1).run Try.prog u = .ok (.string sL) u))) (by kernel_rfl) ⟨B0, HKS.out _ B0⟩ (fun hHeld => ?_)
        refine wpAnyH_take (i := 0) (v := ?_) rfl (by kernel_rfl) (by kernel_rfl) (by kernel_rfl) (fun _ _ _ h => h) (Or.inl ⟨by kernel_rfl, ?_⟩) (by assumption) ?_
        rotate_left
        · intro w hSw; (try dsimp only at hSw); go_simp; try with_reducible rfl
        try simp only [Act.put, List.getElem_toArray, List.getElem_cons_zero, List.setIfInBounds_toArray, List.set_cons_zero, List.set_cons_succ]
        refine wpAnyH_take (i := 1) (v := ?_) rfl (by kernel_rfl) (by kernel_rfl) (by kernel_rfl) (fun _ _ _ h => h) (Or.inl ⟨by kernel_rfl, ?_⟩) (by assumption) ?_
        rotate_left
        · intro w hSw; (try dsimp only at hSw); go_simp; try with_reducible rfl
        try simp only [Act.put, List.getElem_toArray, List.getElem_cons_succ, List.getElem_cons_zero, List.setIfInBounds_toArray, List.set_cons_zero, List.set_cons_succ]
        refine wpAnyH_take (i := 3) (v := ?_) rfl (by kernel_rfl) (by kernel_rfl) (by kernel_rfl) (fun _ _ _ h => h) (Or.inl ⟨by kernel_rfl, ?_⟩) (by assumption) ?_
        rotate_left
        · intro w hSw; (try dsimp only at hSw); go_simp; try with_reducible rfl
        try simp only [Act.put, List.getElem_toArray, List.getElem_cons_succ, List.getElem_cons_zero, List.setIfInBounds_toArray, List.set_cons_zero, List.set_cons_succ]
        refine wpAnyH_take (i := 7) (v := ?_) rfl (by kernel_rfl) (by kernel_rfl) (by kernel_rfl) (fun _ _ _ h => h) (Or.inl ⟨by kernel_rfl, ?_⟩) (by assumption) ?_
        rotate_left
        · intro w hSw; (try dsimp only at hSw); go_simp; try with_reducible rfl
        try simp only [Act.put, List.getElem_toArray, List.getElem_cons_succ, List.getElem_cons_zero, List.setIfInBounds_toArray, List.set_cons_zero, List.set_cons_succ]
        refine wpAnyH_take (i := 8) (v := ?_) rfl (by kernel_rfl) (by kernel_rfl) (by kernel_rfl) (fun _ _ _ h => h) (Or.inl ⟨by kernel_rfl, ?_⟩) (by assumption) ?_
        rotate_left
        · intro w hSw; (try dsimp only at hSw); go_simp; try with_reducible rfl
        try simp only [Act.put, List.getElem_toArray, List.getElem_cons_succ, List.getElem_cons_zero, List.setIfInBounds_toArray, List.set_cons_zero, List.set_cons_succ]
        refine wpAnyH_take (i := 11) (v := ?_) rfl (by kernel_rfl) (by kernel_rfl) (by kernel_rfl) (fun _ _ _ h => h) (Or.inl ⟨by kernel_rfl, ?_⟩) (by assumption) ?_
        rotate_left
        · intro w hSw; (try dsimp only at hSw); go_simp; try with_reducible rfl
        try simp only [Act.put, List.getElem_toArray, List.getElem_cons_succ, List.getElem_cons_zero, List.setIfInBounds_toArray, List.set_cons_zero, List.set_cons_succ]
        refine wpAnyH_take (i := 12) (v := ?_) rfl (by kernel_rfl) (by kernel_rfl) (by kernel_rfl) (fun _ _ _ h => h) (Or.inl ⟨by kernel_rfl, ?_⟩) (by assumption) ?_
        rotate_left
        · intro w hSw; (try dsimp only at hSw); go_simp; try with_reducible rfl
        try simp only [Act.put, List.getElem_toArray, List.getElem_cons_succ, List.getElem_cons_zero, List.setIfInBounds_toArray, List.set_cons_zero, List.set_cons_succ]
        refine wpAnyH_ready (rs := [2, 4]) (by kernel_rfl) (by simp) ?_
        refine AllReadyH.cons rfl (fun K hK => ?_) (AllReadyH.cons rfl (fun K hK => ?_) AllReadyH.nil)
        · rw [if_pos]
          rotate_left
          · kernel_rfl
          go_wp2_with (go_at_call 40; refine (HN.out _).mono ?_; rintro e wa ⟨rfl, hba⟩; have Ba := B0.trans (hba.mono B0.size); refine Hid.out ?_)
          refine (show ∀ {p : Prop}, p → Hid p from fun h => h) ?_
          refine hK.out _ _ ⟨Ba, HKS.out _ Ba⟩ (fun hHeld => ?_)
          clear hK K
          try simp only [Act.put, List.getElem_toArray, List.getElem_cons_succ, List.getElem_cons_zero, List.setIfInBounds_toArray, List.set_cons_zero, List.set_cons_succ]
          refine wpAnyH_ready (rs := [4, 9]) (by kernel_rfl) (by simp) ?_
          refine AllReadyH.cons rfl (fun K hK => ?_) (AllReadyH.cons rfl (fun K hK => ?_) AllReadyH.nil)
          · go_simp
            have Bn1 := Ba.alloc Ba.size (.cells #[.int .u8 1] 5)
            have qn := new_here wa (.int .u8 1)
            refine hK.out _ _ ⟨Bn1, HKS.out _ Bn1⟩ (fun hHeld => ?_)
            clear hK K
            try simp only [Act.put, List.getElem_toArray, List.getElem_cons_succ, List.getElem_cons_zero, List.setIfInBounds_toArray, List.set_cons_zero, List.set_cons_succ]
            refine wpAnyH_ready (rs := [5, 9]) (by kernel_rfl) (by simp) ?_
            refine AllReadyH.cons rfl (fun K hK => ?_) (AllReadyH.cons rfl (fun K hK => ?_) AllReadyH.nil)
            · have qn1 := qn.1
              have cvn := CV _ _ qn1
              go_simp
              refine hK.out _ _ (by assumption) (fun hHeld => ?_)
              clear hK K
              try simp only [Act.put, List.getElem_toArray, List.getElem_cons_succ, List.getElem_cons_zero, List.setIfInBounds_toArray, List.set_cons_zero, List.set_cons_succ]
              refine wpAnyH_take (i := 6) (v := ?_) rfl (by kernel_rfl) (by kernel_rfl) (by kernel_rfl) (fun _ _ _ h => h) (Or.inl ⟨by kernel_rfl, ?_⟩) (by assumption) ?_
              rotate_left
              · intro w hSw; (try dsimp only at hSw); go_simp; try with_reducible rfl
              try simp only [Act.put, List.getElem_toArray, List.getElem_cons_succ, List.getElem_cons_zero, List.setIfInBounds_toArray, List.set_cons_zero, List.set_cons_succ]
              refine wpAnyH_ready (rs := [9]) (by kernel_rfl) (by simp) ?_
              refine AllReadyH.cons rfl (fun K hK => ?_) AllReadyH.nil
              rw [if_pos]
              rotate_left
              · kernel_rfl
              go_wp2_with (go_at_call 52; refine (HE.out _ (Z2.out _ Bn1)).mono ?_; rintro e wb ⟨rfl, hbb⟩; have Bb := Bn1.trans (hbb.mono Bn1.size); refine Hid.out ?_)
              refine (show ∀ {p : Prop}, p → Hid p from fun h => h) ?_
              refine hK.out _ _ ⟨Bb, HKS.out _ Bb⟩ (fun hHeld => ?_)
              clear hK K
              try simp only [Act.put, List.getElem_toArray, List.getElem_cons_succ, List.getElem_cons_zero, List.setIfInBounds_toArray, List.set_cons_zero, List.set_cons_succ]
              refine wpAnyH_take (i := 10) (v := ?_) rfl (by kernel_rfl) (by kernel_rfl) (by kernel_rfl) (fun _ _ _ h => h) (Or.inl ⟨by kernel_rfl, ?_⟩) (by assumption) ?_
              rotate_left
              · intro w hSw; (try dsimp only at hSw); go_simp; try with_reducible rfl
              try simp only [Act.put, List.getElem_toArray, List.getElem_cons_succ, List.getElem_cons_zero, List.setIfInBounds_toArray, List.set_cons_zero, List.set_cons_succ]
              refine wpAnyH_take (i := 13) (v := ?_) rfl (by kernel_rfl) (by kernel_rfl) (by kernel_rfl) (fun _ _ _ h => h) (Or.inl ⟨by kernel_rfl, ?_⟩) (by assumption) ?_
              rotate_left
              · intro w hSw; (try dsimp only at hSw); go_simp; try with_reducible rfl
              try simp only [Act.put, List.getElem_toArray, List.getElem_cons_succ, List.getElem_cons_zero, List.setIfInBounds_toArray, List.set_cons_zero, List.set_cons_succ]
              refine wpAnyH_ready (rs := [14]) (by kernel_rfl) (by simp) ?_
              refine AllReadyH.cons rfl (fun K hK => ?_) AllReadyH.nil
              go_simp
              refine hK.out _ _ (by assumption) (fun hHeld => ?_)
              clear hK K
              try simp only [Act.put, List.getElem_toArray, List.getElem_cons_succ, List.getElem_cons_zero, List.setIfInBounds_toArray, List.set_cons_zero, List.set_cons_succ]
              refine wpAnyH_ready (rs := [15]) (by kernel_rfl) (by simp) ?_
              refine AllReadyH.cons rfl (fun K hK => ?_) AllReadyH.nil
              go_simp
              refine hK.out _ _ (by assumption) (fun hHeld => ?_)
              clear hK K
              try simp only [Act.put, List.getElem_toArray, List.getElem_cons_succ, List.getElem_cons_zero, List.setIfInBounds_toArray, List.set_cons_zero, List.set_cons_succ]
              refine wpAnyH_done (by kernel_rfl) ?_ _
              go_wp2
              go_ret2
              exact ⟨by rw [← FN.out]; rfl, Z2.out _ Bb⟩
            · rw [if_pos]
              rotate_left
              · kernel_rfl
              go_wp2_with (go_at_call 52; refine (HE.out _ (Z2.out _ Bn1)).mono ?_; rintro e wb ⟨rfl, hbb⟩; have Bb := Bn1.trans (hbb.mono Bn1.size); have qn := old_then qn hbb; refine Hid.out ?_)
              refine (show ∀ {p : Prop}, p → Hid p from fun h => h) ?_
              refine hK.out _ _ ⟨Bb, HKS.out _ Bb⟩ (fun hHeld => ?_)
              clear hK K
              try simp only [Act.put, List.getElem_toArray, List.getElem_cons_succ, List.getElem_cons_zero, List.setIfInBounds_toArray, List.set_cons_zero, List.set_cons_succ]
              refine wpAnyH_ready (rs := [5]) (by kernel_rfl) (by simp) ?_
              refine AllReadyH.cons rfl (fun K hK => ?_) AllReadyH.nil
              have qn1 := qn.1
              have cvn := CV _ _ qn1
              go_simp
              refine hK.out _ _ (by assumption) (fun hHeld => ?_)
              clear hK K
              try simp only [Act.put, List.getElem_toArray, List.getElem_cons_succ, List.getElem_cons_zero, List.setIfInBounds_toArray, List.set_cons_zero, List.set_cons_succ]
              refine wpAnyH_take (i := 6) (v := ?_) rfl (by kernel_rfl) (by kernel_rfl) (by kernel_rfl) (fun _ _ _ h => h) (Or.inl ⟨by kernel_rfl, ?_⟩) (by assumption) ?_
              rotate_left
              · intro w hSw; (try dsimp only at hSw); go_simp; try with_reducible rfl
              try simp only [Act.put, List.getElem_toArray, List.getElem_cons_succ, List.getElem_cons_zero, List.setIfInBounds_toArray, List.set_cons_zero, List.set_cons_succ]
              refine wpAnyH_take (i := 10) (v := ?_) rfl (by kernel_rfl) (by kernel_rfl) (by kernel_rfl) (fun _ _ _ h => h) (Or.inl ⟨by kernel_rfl, ?_⟩) (by assumption) ?_
              rotate_left
              · intro w hSw; (try dsimp only at hSw); go_simp; try with_reducible rfl
              try simp only [Act.put, List.getElem_toArray, List.getElem_cons_succ, List.getElem_cons_zero, List.setIfInBounds_toArray, List.set_cons_zero, List.set_cons_succ]
              refine wpAnyH_take (i := 13) (v := ?_) rfl (by kernel_rfl) (by kernel_rfl) (by kernel_rfl) (fun _ _ _ h => h) (Or.inl ⟨by kernel_rfl, ?_⟩) (by assumption) ?_
              rotate_left
              · intro w hSw; (try dsimp only at hSw); go_simp; try with_reducible rfl
              try simp only [Act.put, List.getElem_toArray, List.getElem_cons_succ, List.getElem_cons_zero, List.setIfInBounds_toArray, List.set_cons_zero, List.set_cons_succ]
              refine wpAnyH_ready (rs := [14]) (by kernel_rfl) (by simp) ?_
              refine AllReadyH.cons rfl (fun K hK => ?_) AllReadyH.nil
              go_simp
              refine hK.out _ _ (by assumption) (fun hHeld => ?_)
              clear hK K
              try simp only [Act.put, List.getElem_toArray, List.getElem_cons_succ, List.getElem_cons_zero, List.setIfInBounds_toArray, List.set_cons_zero, List.set_cons_succ]
              refine wpAnyH_ready (rs := [15]) (by kernel_rfl) (by simp) ?_
              refine AllReadyH.cons rfl (fun K hK => ?_) AllReadyH.nil
              go_simp
              refine hK.out _ _ (by assumption) (fun hHeld => ?_)
              clear hK K
              try simp only [Act.put, List.getElem_toArray, List.getElem_cons_succ, List.getElem_cons_zero, List.setIfInBounds_toArray, List.set_cons_zero, List.set_cons_succ]
              refine wpAnyH_done (by kernel_rfl) ?_ _
              go_wp2
              go_ret2
              exact ⟨by rw [← FN.out]; rfl, Z2.out _ Bb⟩
          · rw [if_pos]
            rotate_left
            · kernel_rfl
            go_wp2_with (go_at_call 52; refine (HE.out _ (Z2.out _ Ba)).mono ?_; rintro e wb ⟨rfl, hbb⟩; have Bb := Ba.trans (hbb.mono Ba.size); refine Hid.out ?_)
            refine (show ∀ {p : Prop}, p → Hid p from fun h => h) ?_
            refine hK.out _ _ ⟨Bb, HKS.out _ Bb⟩ (fun hHeld => ?_)
            clear hK K
            try simp only [Act.put, List.getElem_toArray, List.getElem_cons_succ, List.getElem_cons_zero, List.setIfInBounds_toArray, List.set_cons_zero, List.set_cons_succ]
            refine wpAnyH_ready (rs := [4]) (by kernel_rfl) (by simp) ?_
            refine AllReadyH.cons rfl (fun K hK => ?_) AllReadyH.nil
            go_simp
            have Bn2 := Bb.alloc Bb.size (.cells #[.int .u8 1] 5)
            have qn := new_here wb (.int .u8 1)
            refine hK.out _ _ ⟨Bn2, HKS.out _ Bn2⟩ (fun hHeld => ?_)
            clear hK K
            try simp only [Act.put, List.getElem_toArray, List.getElem_cons_succ, List.getElem_cons_zero, List.setIfInBounds_toArray, List.set_cons_zero, List.set_cons_succ]
            refine wpAnyH_ready (rs := [5]) (by kernel_rfl) (by simp) ?_
            refine AllReadyH.cons rfl (fun K hK => ?_) AllReadyH.nil
            have qn1 := qn.1
            have cvn := CV _ _ qn1
            go_simp
            refine hK.out _ _ (by assumption) (fun hHeld => ?_)
            clear hK K
            try simp only [Act.put, List.getElem_toArray, List.getElem_cons_succ, List.getElem_cons_zero, List.setIfInBounds_toArray, List.set_cons_zero, List.set_cons_succ]
            refine wpAnyH_take (i := 6) (v := ?_) rfl (by kernel_rfl) (by kernel_rfl) (by kernel_rfl) (fun _ _ _ h => h) (Or.inl ⟨by kernel_rfl, ?_⟩) (by assumption) ?_
            rotate_left
            · intro w hSw; (try dsimp only at hSw); go_simp; try with_reducible rfl
            try simp only [Act.put, List.getElem_toArray, List.getElem_cons_succ, List.getElem_cons_zero, List.setIfInBounds_toArray, List.set_cons_zero, List.set_cons_succ]
            refine wpAnyH_take (i := 10) (v := ?_) rfl (by kernel_rfl) (by kernel_rfl) (by kernel_rfl) (fun _ _ _ h => h) (Or.inl ⟨by kernel_rfl, ?_⟩) (by assumption) ?_
            rotate_left
            · intro w hSw; (try dsimp only at hSw); go_simp; try with_reducible rfl
            try simp only [Act.put, List.getElem_toArray, List.getElem_cons_succ, List.getElem_cons_zero, List.setIfInBounds_toArray, List.set_cons_zero, List.set_cons_succ]
            refine wpAnyH_take (i := 13) (v := ?_) rfl (by kernel_rfl) (by kernel_rfl) (by kernel_rfl) (fun _ _ _ h => h) (Or.inl ⟨by kernel_rfl, ?_⟩) (by assumption) ?_
            rotate_left
            · intro w hSw; (try dsimp only at hSw); go_simp; try with_reducible rfl
            try simp only [Act.put, List.getElem_toArray, List.getElem_cons_succ, List.getElem_cons_zero, List.setIfInBounds_toArray, List.set_cons_zero, List.set_cons_succ]
            refine wpAnyH_ready (rs := [14]) (by kernel_rfl) (by simp) ?_
            refine AllReadyH.cons rfl (fun K hK => ?_) AllReadyH.nil
            go_simp
            refine hK.out _ _ (by assumption) (fun hHeld => ?_)
            clear hK K
            try simp only [Act.put, List.getElem_toArray, List.getElem_cons_succ, List.getElem_cons_zero, List.setIfInBounds_toArray, List.set_cons_zero, List.set_cons_succ]
            refine wpAnyH_ready (rs := [15]) (by kernel_rfl) (by simp) ?_
            refine AllReadyH.cons rfl (fun K hK => ?_) AllReadyH.nil
            go_simp
            refine hK.out _ _ (by assumption) (fun hHeld => ?_)
            clear hK K
            try simp only [Act.put, List.getElem_toArray, List.getElem_cons_succ, List.getElem_cons_zero, List.setIfInBounds_toArray, List.set_cons_zero, List.set_cons_succ]
            refine wpAnyH_done (by kernel_rfl) ?_ _
            go_wp2
            go_ret2
            exact ⟨by rw [← FN.out]; rfl, Z2.out _ Bn2⟩
        · go_simp
          have Bn0 := B0.alloc B0.size (.cells #[.int .u8 1] 5)
          have qn : (wr.drew.alloc (.cells #[.int .u8 1] 5)).cell? ⟨wr.heap.size, 0, none⟩ = some (.int .u8 1) ∧ wr.heap.size < (wr.drew.alloc (.cells #[.int .u8 1] 5)).heap.size := new_here wr.drew (.int .u8 1)
          refine hK.out _ _ ⟨Bn0, HKS.out _ Bn0⟩ (fun hHeld => ?_)
          clear hK K
          try simp only [Act.put, List.getElem_toArray, List.getElem_cons_succ, List.getElem_cons_zero, List.setIfInBounds_toArray, List.set_cons_zero, List.set_cons_succ]
          refine wpAnyH_ready (rs := [2, 5]) (by kernel_rfl) (by simp) ?_
          refine AllReadyH.cons rfl (fun K hK => ?_) (AllReadyH.cons rfl (fun K hK => ?_) AllReadyH.nil)
          · rw [if_pos]
            rotate_left
            · kernel_rfl
            go_wp2_with (go_at_call 40; refine (HN.out _).mono ?_; rintro e wa ⟨rfl, hba⟩; have Ba := Bn0.trans (hba.mono Bn0.size); have qn := old_then qn hba; refine Hid.out ?_)
            refine (show ∀ {p : Prop}, p → Hid p from fun h => h) ?_
            refine hK.out _ _ ⟨Ba, HKS.out _ Ba⟩ (fun hHeld => ?_)
            clear hK K
            try simp only [Act.put, List.getElem_toArray, List.getElem_cons_succ, List.getElem_cons_zero, List.setIfInBounds_toArray, List.set_cons_zero, List.set_cons_succ]
            refine wpAnyH_ready (rs := [5, 9]) (by kernel_rfl) (by simp) ?_
            refine AllReadyH.cons rfl (fun K hK => ?_) (AllReadyH.cons rfl (fun K hK => ?_) AllReadyH.nil)
            · have qn1 := qn.1
              have cvn := CV _ _ qn1
              go_simp
              refine hK.out _ _ (by assumption) (fun hHeld => ?_)
              clear hK K
              try simp only [Act.put, List.getElem_toArray, List.getElem_cons_succ, List.getElem_cons_zero, List.setIfInBounds_toArray, List.set_cons_zero, List.set_cons_succ]
              refine wpAnyH_take (i := 6) (v := ?_) rfl (by kernel_rfl) (by kernel_rfl) (by kernel_rfl) (fun _ _ _ h => h) (Or.inl ⟨by kernel_rfl, ?_⟩) (by assumption) ?_
              rotate_left
              · intro w hSw; (try dsimp only at hSw); go_simp; try with_reducible rfl
              try simp only [Act.put, List.getElem_toArray, List.getElem_cons_succ, List.getElem_cons_zero, List.setIfInBounds_toArray, List.set_cons_zero, List.set_cons_succ]
              refine wpAnyH_ready (rs := [9]) (by kernel_rfl) (by simp) ?_
              refine AllReadyH.cons rfl (fun K hK => ?_) AllReadyH.nil
              rw [if_pos]
              rotate_left
              · kernel_rfl
              go_wp2_with (go_at_call 52; refine (HE.out _ (Z2.out _ Ba)).mono ?_; rintro e wb ⟨rfl, hbb⟩; have Bb := Ba.trans (hbb.mono Ba.size); refine Hid.out ?_)
              refine (show ∀ {p : Prop}, p → Hid p from fun h => h) ?_
              refine hK.out _ _ ⟨Bb, HKS.out _ Bb⟩ (fun hHeld => ?_)
              clear hK K
              try simp only [Act.put, List.getElem_toArray, List.getElem_cons_succ, List.getElem_cons_zero, List.setIfInBounds_toArray, List.set_cons_zero, List.set_cons_succ]
              refine wpAnyH_take (i := 10) (v := ?_) rfl (by kernel_rfl) (by kernel_rfl) (by kernel_rfl) (fun _ _ _ h => h) (Or.inl ⟨by kernel_rfl, ?_⟩) (by assumption) ?_
              rotate_left
              · intro w hSw; (try dsimp only at hSw); go_simp; try with_reducible rfl
              try simp only [Act.put, List.getElem_toArray, List.getElem_cons_succ, List.getElem_cons_zero, List.setIfInBounds_toArray, List.set_cons_zero, List.set_cons_succ]
              refine wpAnyH_take (i := 13) (v := ?_) rfl (by kernel_rfl) (by kernel_rfl) (by kernel_rfl) (fun _ _ _ h => h) (Or.inl ⟨by kernel_rfl, ?_⟩) (by assumption) ?_
              rotate_left
              · intro w hSw; (try dsimp only at hSw); go_simp; try with_reducible rfl
              try simp only [Act.put, List.getElem_toArray, List.getElem_cons_succ, List.getElem_cons_zero, List.setIfInBounds_toArray, List.set_cons_zero, List.set_cons_succ]
              refine wpAnyH_ready (rs := [14]) (by kernel_rfl) (by simp) ?_
              refine AllReadyH.cons rfl (fun K hK => ?_) AllReadyH.nil
              go_simp
              refine hK.out _ _ (by assumption) (fun hHeld => ?_)
              clear hK K
              try simp only [Act.put, List.getElem_toArray, List.getElem_cons_succ, List.getElem_cons_zero, List.setIfInBounds_toArray, List.set_cons_zero, List.set_cons_succ]
              refine wpAnyH_ready (rs := [15]) (by kernel_rfl) (by simp) ?_
              refine AllReadyH.cons rfl (fun K hK => ?_) AllReadyH.nil
              go_simp
              refine hK.out _ _ (by assumption) (fun hHeld => ?_)
              clear hK K
              try simp only [Act.put, List.getElem_toArray, List.getElem_cons_succ, List.getElem_cons_zero, List.setIfInBounds_toArray, List.set_cons_zero, List.set_cons_succ]
              refine wpAnyH_done (by kernel_rfl) ?_ _
              go_wp2
              go_ret2
              exact ⟨by rw [← FN.out]; rfl, Z2.out _ Bb⟩
            · rw [if_pos]
              rotate_left
              · kernel_rfl
              go_wp2_with (go_at_call 52; refine (HE.out _ (Z2.out _ Ba)).mono ?_; rintro e wb ⟨rfl, hbb⟩; have Bb := Ba.trans (hbb.mono Ba.size); have qn := old_then qn hbb; refine Hid.out ?_)
              refine (show ∀ {p : Prop}, p → Hid p from fun h => h) ?_
              refine hK.out _ _ ⟨Bb, HKS.out _ Bb⟩ (fun hHeld => ?_)
              clear hK K
              try simp only [Act.put, List.getElem_toArray, List.getElem_cons_succ, List.getElem_cons_zero, List.setIfInBounds_toArray, List.set_cons_zero, List.set_cons_succ]
              refine wpAnyH_ready (rs := [5]) (by kernel_rfl) (by simp) ?_
              refine AllReadyH.cons rfl (fun K hK => ?_) AllReadyH.nil
              have qn1 := qn.1
              have cvn := CV _ _ qn1
              go_simp
              refine hK.out _ _ (by assumption) (fun hHeld => ?_)
              clear hK K
              try simp only [Act.put, List.getElem_toArray, List.getElem_cons_succ, List.getElem_cons_zero, List.setIfInBounds_toArray, List.set_cons_zero, List.set_cons_succ]
              refine wpAnyH_take (i := 6) (v := ?_) rfl (by kernel_rfl) (by kernel_rfl) (by kernel_rfl) (fun _ _ _ h => h) (Or.inl ⟨by kernel_rfl, ?_⟩) (by assumption) ?_
              rotate_left
              · intro w hSw; (try dsimp only at hSw); go_simp; try with_reducible rfl
              try simp only [Act.put, List.getElem_toArray, List.getElem_cons_succ, List.getElem_cons_zero, List.setIfInBounds_toArray, List.set_cons_zero, List.set_cons_succ]
              refine wpAnyH_take (i := 10) (v := ?_) rfl (by kernel_rfl) (by kernel_rfl) (by kernel_rfl) (fun _ _ _ h => h) (Or.inl ⟨by kernel_rfl, ?_⟩) (by assumption) ?_
              rotate_left
              · intro w hSw; (try dsimp only at hSw); go_simp; try with_reducible rfl
              try simp only [Act.put, List.getElem_toArray, List.getElem_cons_succ, List.getElem_cons_zero, List.setIfInBounds_toArray, List.set_cons_zero, List.set_cons_succ]
              refine wpAnyH_take (i := 13) (v := ?_) rfl (by kernel_rfl) (by kernel_rfl) (by kernel_rfl) (fun _ _ _ h => h) (Or.inl ⟨by kernel_rfl, ?_⟩) (by assumption) ?_
              rotate_left
              · intro w hSw; (try dsimp only at hSw); go_simp; try with_reducible rfl
              try simp only [Act.put, List.getElem_toArray, List.getElem_cons_succ, List.getElem_cons_zero, List.setIfInBounds_toArray, List.set_cons_zero, List.set_cons_succ]
              refine wpAnyH_ready (rs := [14]) (by kernel_rfl) (by simp) ?_
              refine AllReadyH.cons rfl (fun K hK => ?_) AllReadyH.nil
              go_simp
              refine hK.out _ _ (by assumption) (fun hHeld => ?_)
              clear hK K
              try simp only [Act.put, List.getElem_toArray, List.getElem_cons_succ, List.getElem_cons_zero, List.setIfInBounds_toArray, List.set_cons_zero, List.set_cons_succ]
              refine wpAnyH_ready (rs := [15]) (by kernel_rfl) (by simp) ?_
              refine AllReadyH.cons rfl (fun K hK => ?_) AllReadyH.nil
              go_simp
              refine hK.out _ _ (by assumption) (fun hHeld => ?_)
              clear hK K
              try simp only [Act.put, List.getElem_toArray, List.getElem_cons_succ, List.getElem_cons_zero, List.setIfInBounds_toArray, List.set_cons_zero, List.set_cons_succ]
              refine wpAnyH_done (by kernel_rfl) ?_ _
              go_wp2
              go_ret2
              exact ⟨by rw [← FN.out]; rfl, Z2.out _ Bb⟩
          · have qn1 := qn.1
            have cvn := CV _ _ qn1
            go_simp
            refine hK.out _ _ (by assumption) (fun hHeld => ?_)
            clear hK K
            try simp only [Act.put, List.getElem_toArray, List.getElem_cons_succ, List.getElem_cons_zero, List.setIfInBounds_toArray, List.set_cons_zero, List.set_cons_succ]
            refine wpAnyH_ready (rs := [2]) (by kernel_rfl) (by simp) ?_
            refine AllReadyH.cons rfl (fun K hK => ?_) AllReadyH.nil
            rw [if_pos]
            rotate_left
            · kernel_rfl
            go_wp2_with (go_at_call 40; refine (HN.out _).mono ?_; rintro e wa ⟨rfl, hba⟩; have Ba := Bn0.trans (hba.mono Bn0.size); refine Hid.out ?_)
            refine (show ∀ {p : Prop}, p → Hid p from fun h => h) ?_
            refine hK.out _ _ ⟨Ba, HKS.out _ Ba⟩ (fun hHeld => ?_)
            clear hK K
            try simp only [Act.put, List.getElem_toArray, List.getElem_cons_succ, List.getElem_cons_zero, List.setIfInBounds_toArray, List.set_cons_zero, List.set_cons_succ]
            refine wpAnyH_take (i := 6) (v := ?_) rfl (by kernel_rfl) (by kernel_rfl) (by kernel_rfl) (fun _ _ _ h => h) (Or.inl ⟨by kernel_rfl, ?_⟩) (by assumption) ?_
            rotate_left
            · intro w hSw; (try dsimp only at hSw); go_simp; try with_reducible rfl
            try simp only [Act.put, List.getElem_toArray, List.getElem_cons_succ, List.getElem_cons_zero, List.setIfInBounds_toArray, List.set_cons_zero, List.set_cons_succ]
            refine wpAnyH_ready (rs := [9]) (by kernel_rfl) (by simp) ?_
            refine AllReadyH.cons rfl (fun K hK => ?_) AllReadyH.nil
            rw [if_pos]
            rotate_left
            · kernel_rfl
            go_wp2_with (go_at_call 52; refine (HE.out _ (Z2.out _ Ba)).mono ?_; rintro e wb ⟨rfl, hbb⟩; have Bb := Ba.trans (hbb.mono Ba.size); refine Hid.out ?_)
            refine (show ∀ {p : Prop}, p → Hid p from fun h => h) ?_
            refine hK.out _ _ ⟨Bb, HKS.out _ Bb⟩ (fun hHeld => ?_)
            clear hK K
            try simp only [Act.put, List.getElem_toArray, List.getElem_cons_succ, List.getElem_cons_zero, List.setIfInBounds_toArray, List.set_cons_zero, List.set_cons_succ]
            refine wpAnyH_take (i := 10) (v := ?_) rfl (by kernel_rfl) (by kernel_rfl) (by kernel_rfl) (fun _ _ _ h => h) (Or.inl ⟨by kernel_rfl, ?_⟩) (by assumption) ?_
            rotate_left
            · intro w hSw; (try dsimp only at hSw); go_simp; try with_reducible rfl
            try simp only [Act.put, List.getElem_toArray, List.getElem_cons_succ, List.getElem_cons_zero, List.setIfInBounds_toArray, List.set_cons_zero, List.set_cons_succ]
            refine wpAnyH_take (i := 13) (v := ?_) rfl (by kernel_rfl) (by kernel_rfl) (by kernel_rfl) (fun _ _ _ h => h) (Or.inl ⟨by kernel_rfl, ?_⟩) (by assumption) ?_
            rotate_left
            · intro w hSw; (try dsimp only at hSw); go_simp; try with_reducible rfl
            try simp only [Act.put, List.getElem_toArray, List.getElem_cons_succ, List.getElem_cons_zero, List.setIfInBounds_toArray, List.set_cons_zero, List.set_cons_succ]
            refine wpAnyH_ready (rs := [14]) (by kernel_rfl) (by simp) ?_
            refine AllReadyH.cons rfl (fun K hK => ?_) AllReadyH.nil
            go_simp
            refine hK.out _ _ (by assumption) (fun hHeld => ?_)
            clear hK K
            try simp only [Act.put, List.getElem_toArray, List.getElem_cons_succ, List.getElem_cons_zero, List.setIfInBounds_toArray, List.set_cons_zero, List.set_cons_succ]
            refine wpAnyH_ready (rs := [15]) (by kernel_rfl) (by simp) ?_
            refine AllReadyH.cons rfl (fun K hK => ?_) AllReadyH.nil
            go_simp
            refine hK.out _ _ (by assumption) (fun hHeld => ?_)
            clear hK K
            try simp only [Act.put, List.getElem_toArray, List.getElem_cons_succ, List.getElem_cons_zero, List.setIfInBounds_toArray, List.set_cons_zero, List.set_cons_succ]
            refine wpAnyH_done (by kernel_rfl) ?_ _
            go_wp2
            go_ret2
            exact ⟨by rw [← FN.out]; rfl, Z2.out _ Bb⟩

theorem iAnswerText_any (n num : Int) (ok : Bool) (es : List EdgeV) (ls : List Int) (k : Nat) (a : Option Addr) (c : Nat) (hk : k ≤ 1048576) (k' : Nat) (a' : Option Addr) (c' : Nat) (hk' : k' ≤ 1048576) (w : World) (h : Es w w.heap.size a k es) (h' : Is w w.heap.size a' k' ls) :
    Calls Try.prog 18 #[.int .i64 n, ansV num ok a k c a' k' c'] w fun e w' => e = .returned (atV n ⟨num, ok, es, ls⟩) ∧ Below w.heap.size w w' := by
  cases hB : aB n ⟨num, ok, es, ls⟩ with
  | false => rw [atV_no hB]; exact iAnswerText_no n num ok es ls k a c hk k' a' c' hk' w h h' hB
  | true => rw [atV_yes hB]; exact iAnswerText_yes n num ok es ls k a c hk k' a' c' hk' w h h' hB
end Go.Proofs.Ytkhhagjcmbbdpaa
namespace Go.Proofs.Ytkhhagjcmbbdpaa
open Go.RowKit Vt

/-- the world behind the law's boxes -/
def lwAnswerText (w : World) (num : Int) (ok : Bool) (a : Option Addr) (m c : Nat) (a' : Option Addr) (m' c' : Nat) : World := w.alloc (.cells #[.int .i64 num, .bool ok, .slice a m c, .slice a' m' c'] 55)
set_option maxRecDepth 100000 in
set_option maxHeartbeats 4000000 in
theorem fnExactAnswerText.walk (n : Int) (_hn : (Lit.int .i64 n).wf = true) (num : Int) (ok : Bool) (fs : List EdgeV) (ls : List Int) (m : Nat) (a : Option Addr) (c : Nat) (hm : m ≤ maxLen) (m' : Nat) (a' : Option Addr) (c' : Nat) (hm' : m' ≤ maxLen) (w : World) (h : Es w w.heap.size a m fs) (h' : Is w w.heap.size a' m' ls) :
    Calls Try.prog 8 #[.int .i64 n, .agg #[.int .i64 num, .bool ok, .slice a m c, .slice a' m' c']] w fun e w' => e = .returned (.bool true) ∧ Below w.heap.size w w' := by
  have bel : Below w.heap.size w (lwAnswerText w num ok a m c a' m' c') := (Below.refl _ _).alloc (Nat.le_refl _) _
  have hsz : (lwAnswerText w num ok a m c a' m' c').heap.size = w.heap.size + 1 := by simp [lwAnswerText]
  have fA : Es (lwAnswerText w num ok a m c a' m' c') (lwAnswerText w num ok a m c a' m' c').heap.size a m fs := h.up bel
  have fB : Is (lwAnswerText w num ok a m c a' m' c') (lwAnswerText w num ok a m c a' m' c').heap.size a' m' ls := h'.up bel
  have q0 : (lwAnswerText w num ok a m c a' m' c').cell? ⟨w.heap.size, 0, none⟩ = some (.int .i64 num) := by simp [lwAnswerText, go_sem]
  have q1 : (lwAnswerText w num ok a m c a' m' c').cell? ⟨w.heap.size, 1, none⟩ = some (.bool ok) := by simp [lwAnswerText, go_sem]
  have q2 : (lwAnswerText w num ok a m c a' m' c').cell? ⟨w.heap.size, 2, none⟩ = some (.slice a m c) := by simp [lwAnswerText, go_sem]
  have q3 : (lwAnswerText w num ok a m c a' m' c').cell? ⟨w.heap.size, 3, none⟩ = some (.slice a' m' c') := by simp [lwAnswerText, go_sem]
  have HZ : Hid (∀ u, Good (lwAnswerText w num ok a m c a' m' c') u → Below w.heap.size w u) := fun u hu => bel.trans (Below.mono hu (by omega))
  have HK : Hid (∀ u, Good (lwAnswerText w num ok a m c a' m' c') u → (u.cell? ⟨w.heap.size, 0, none⟩ = some (.int .i64 num) ∧ u.cell? ⟨w.heap.size, 1, none⟩ = some (.bool ok) ∧ u.cell? ⟨w.heap.size, 2, none⟩ = some (.slice a m c) ∧ u.cell? ⟨w.heap.size, 3, none⟩ = some (.slice a' m' c'))) := fun u hu =>
    ⟨by rw [hu.cell (by omega)]; exact q0, by rw [hu.cell (by omega)]; exact q1, by rw [hu.cell (by omega)]; exact q2, by rw [hu.cell (by omega)]; exact q3⟩
  have HSZ : Hid (∀ u, Good (lwAnswerText w num ok a m c a' m' c') u → Calls Try.prog 30 #[.agg #[.int .i64 num, .bool ok, .slice a m c, .slice a' m' c'], .int .i64 1048576] u fun e v => e = .returned (.int .i64 (szA m m')) ∧ Good (lwAnswerText w num ok a m c a' m' c') v) := fun u hu =>
    (szAnswer_any num ok m a c hm m' a' c' hm' u).mono fun _ _ ⟨he, hb⟩ => ⟨he, hu.up hb⟩
  unfold szA at HSZ
  by_cases g0 : m + m' ≤ 1048576
  · rw [if_pos g0] at HSZ
    have g : m ≤ 1048576 := by omega
    have g' : m' ≤ 1048576 := by omega
    have HT : Hid (∀ u, Good (lwAnswerText w num ok a m c a' m' c') u → Calls Try.prog 31 #[.agg #[.int .i64 num, .bool ok, .slice a m c, .slice a' m' c']] u fun e v => ∃ g h, e = .returned (.agg #[.int .i64 num, .bool ok, .slice (some ⟨g, 0, none⟩) m m, .slice (some ⟨h, 0, none⟩) m' m']) ∧ (Es v v.heap.size (some ⟨g, 0, none⟩) m fs ∧ Is v v.heap.size (some ⟨h, 0, none⟩) m' ls) ∧ Good (lwAnswerText w num ok a m c a' m' c') v ∧ Below u.heap.size u v) := fun u hu =>
      (toAnswer_any num ok fs ls m a c g m' a' c' g' u (fA.up hu) (fB.up hu)).mono fun _ _ ⟨g, h, he, ho, ho2, hb⟩ => ⟨g, h, he, ⟨Es_of_own ho, Is_of_own ho2⟩, hu.up hb, hb⟩
    have HS : Hid (∀ u b d, Good (lwAnswerText w num ok a m c a' m' c') u → (Es u u.heap.size (some ⟨b, 0, none⟩) m fs ∧ Is u u.heap.size (some ⟨d, 0, none⟩) m' ls) → Calls Try.prog 36 #[.int .i64 n, .agg #[.int .i64 num, .bool ok, .slice (some ⟨b, 0, none⟩) m m, .slice (some ⟨d, 0, none⟩) m' m']] u fun e v => e = .returned (atV n ⟨num, ok, fs, ls⟩) ∧ Good (lwAnswerText w num ok a m c a' m' c') v) := fun u b d hu hf =>
      (sAnswerText_any n num ok fs ls m _ m g m' _ m' g' u hf.1 hf.2).mono fun _ _ ⟨he, hb⟩ => ⟨he, hu.up hb⟩
    have HI : Hid (∀ u b d, Good (lwAnswerText w num ok a m c a' m' c') u → (Es u u.heap.size (some ⟨b, 0, none⟩) m fs ∧ Is u u.heap.size (some ⟨d, 0, none⟩) m' ls) → Calls Try.prog 18 #[.int .i64 n, .agg #[.int .i64 num, .bool ok, .slice (some ⟨b, 0, none⟩) m m, .slice (some ⟨d, 0, none⟩) m' m']] u fun e v => e = .returned (atV n ⟨num, ok, fs, ls⟩) ∧ Below u.heap.size u v) := fun u b d hu hf =>
      (iAnswerText_any n num ok fs ls m _ m g m' _ m' g' u hf.1 hf.2)
    have d1 : decide (1048576 - (m : Int) - (m' : Int) < 0) = false := decide_eq_false (by omega)
    have S1 := Good.refl (lwAnswerText w num ok a m c a' m' c')
    have ZL : Hid (w.heap.size < (lwAnswerText w num ok a m c a' m' c').heap.size) := by show _ < _; omega
    clear bel fA fB h h' hsz q0 q1 q2 q3
    obtain ⟨S, r, hV⟩ : ∃ S r, atV n ⟨num, ok, fs, ls⟩ = .tuple #[.string S, .bool r] := by
      unfold atV
      split
      · exact ⟨_, _, rfl⟩
      · exact ⟨_, _, rfl⟩
    rw [hV] at HS HI
    clear hV
    have dr : (r != r) = false := by simp
    have ds : (S.toList == S.toList) = true := by simp
    go_enter Try.func8, Try.ntmps8
    go_wp2_with (go_at_call 30; refine (HSZ.out _ S1).mono ?_; rintro e w2 ⟨rfl, S2⟩; refine Hid.out ?_)
    refine (show ∀ {p : Prop}, p → Hid p from fun h => h) ?_
    obtain ⟨k0, k1, k2, k3⟩ := HK.out _ S2
    go_wp2_with (go_at_call 31; refine (HT.out _ S2).mono ?_; rintro e w3 ⟨g3, h3, rfl, f3, S3, b3⟩; refine Hid.out ?_)
    refine (show ∀ {p : Prop}, p → Hid p from fun h => h) ?_
    clear k0 k1 k2 k3
    go_wp2_with (go_at_call 36; refine (HS.out _ g3 h3 S3 f3).mono ?_; rintro e w4 ⟨rfl, S4⟩; refine Hid.out ?_)
    refine (show ∀ {p : Prop}, p → Hid p from fun h => h) ?_
    obtain ⟨k0, k1, k2, k3⟩ := HK.out _ S4
    clear f3 b3 S3
    go_wp2_with (go_at_call 31; refine (HT.out _ S4).mono ?_; rintro e w5 ⟨g5, h5, rfl, f5, S5, b5⟩; refine Hid.out ?_)
    refine (show ∀ {p : Prop}, p → Hid p from fun h => h) ?_
    clear k0 k1 k2 k3
    have S6 : Good (lwAnswerText w num ok a m c a' m' c') (w5.alloc (.cells #[.int .i64 num, .bool ok, .slice (some ⟨g5, 0, none⟩) m m, .slice (some ⟨h5, 0, none⟩) m' m'] 37)) := S5.alloc _
    have f6 : Es (w5.alloc (.cells #[.int .i64 num, .bool ok, .slice (some ⟨g5, 0, none⟩) m m, .slice (some ⟨h5, 0, none⟩) m' m'] 37)) (w5.alloc (.cells #[.int .i64 num, .bool ok, .slice (some ⟨g5, 0, none⟩) m m, .slice (some ⟨h5, 0, none⟩) m' m'] 37)).heap.size (some ⟨g5, 0, none⟩) m fs ∧ Is (w5.alloc (.cells #[.int .i64 num, .bool ok, .slice (some ⟨g5, 0, none⟩) m m, .slice (some ⟨h5, 0, none⟩) m' m'] 37)) (w5.alloc (.cells #[.int .i64 num, .bool ok, .slice (some ⟨g5, 0, none⟩) m m, .slice (some ⟨h5, 0, none⟩) m' m'] 37)).heap.size (some ⟨h5, 0, none⟩) m' ls := ⟨(f5.1.alloc (Nat.le_refl _) _).mono (by simp), f5.2.alloc _⟩
    go_wp2_with (go_at_call 18; refine (HI.out _ g5 h5 S6 f6).mono ?_; rintro e w7 ⟨rfl, b7⟩; refine Hid.out ?_)
    refine (show ∀ {p : Prop}, p → Hid p from fun h => h) ?_
    have S7 : Good (lwAnswerText w num ok a m c a' m' c') w7 := S6.up b7
    have x0 : w7.cell? ⟨w5.heap.size, 0, none⟩ = some (.int .i64 num) := by rw [b7.cell (by simp)]; simp
    have x1 : w7.cell? ⟨w5.heap.size, 1, none⟩ = some (.bool ok) := by rw [b7.cell (by simp)]; simp
    have x2 : w7.cell? ⟨w5.heap.size, 2, none⟩ = some (.slice (some ⟨g5, 0, none⟩) m m) := by rw [b7.cell (by simp)]; simp
    have x3 : w7.cell? ⟨w5.heap.size, 3, none⟩ = some (.slice (some ⟨h5, 0, none⟩) m' m') := by rw [b7.cell (by simp)]; simp
    have z7 : w5.heap.size < w7.heap.size := by have := b7.size; simp at this; omega
    have y7 : w.heap.size < w7.heap.size := Nat.lt_of_lt_of_le ZL.out S7.size
    obtain ⟨k0, k1, k2, k3⟩ := HK.out _ S7
    have f7 := hideIt (show _ ∧ _ from ⟨f6.1.up b7, f6.2.up b7⟩)
    have S8 : Good w7 w7.drew := (Good.refl w7).drew
    have HT8 : Hid (∀ u, Good w7 u → Calls Try.prog 31 #[.agg #[.int .i64 num, .bool ok, .slice a m c, .slice a' m' c']] u fun e v => ∃ g h, e = .returned (.agg #[.int .i64 num, .bool ok, .slice (some ⟨g, 0, none⟩) m m, .slice (some ⟨h, 0, none⟩) m' m']) ∧ (Es v v.heap.size (some ⟨g, 0, none⟩) m fs ∧ Is v v.heap.size (some ⟨h, 0, none⟩) m' ls) ∧ Good w7 v) := fun u hu =>
      (HT.out u (S7.up hu)).mono fun _ _ ⟨g, h, he, hf, _, hb⟩ => ⟨g, h, he, hf, hu.up hb⟩
    have HE8 : Hid (∀ u g' h', Good w7 u → (Es u u.heap.size (some ⟨g', 0, none⟩) m fs ∧ Is u u.heap.size (some ⟨h', 0, none⟩) m' ls) → Calls Try.prog 32 #[.agg #[.int .i64 num, .bool ok, .slice (some ⟨g5, 0, none⟩) m m, .slice (some ⟨h5, 0, none⟩) m' m'], .agg #[.int .i64 num, .bool ok, .slice (some ⟨g', 0, none⟩) m m, .slice (some ⟨h', 0, none⟩) m' m']] u fun e v => e = .returned (.bool true) ∧ Good w7 v) := fun u g' h' hu hf =>
      (eqAnswer_same num ok fs ls m _ _ m m g m' _ _ m' m' (by omega) u (f7.out.1.up hu) hf.1 (f7.out.2.up hu) hf.2).mono fun _ _ ⟨he, hb⟩ => ⟨he, hu.up hb⟩
    have HK8 : Hid (∀ u, Good w7 u → (u.cell? ⟨w.heap.size, 0, none⟩ = some (.int .i64 num) ∧ u.cell? ⟨w.heap.size, 1, none⟩ = some (.bool ok) ∧ u.cell? ⟨w.heap.size, 2, none⟩ = some (.slice a m c) ∧ u.cell? ⟨w.heap.size, 3, none⟩ = some (.slice a' m' c')) ∧ (u.cell? ⟨w5.heap.size, 0, none⟩ = some (.int .i64 num) ∧ u.cell? ⟨w5.heap.size, 1, none⟩ = some (.bool ok) ∧ u.cell? ⟨w5.heap.size, 2, none⟩ = some (.slice (some ⟨g5, 0, none⟩) m m) ∧ u.cell? ⟨w5.heap.size, 3, none⟩ = some (.slice (some ⟨h5, 0, none⟩) m' m'))) := fun u hu =>
      ⟨⟨by rw [hu.cell y7]; exact k0, by rw [hu.cell y7]; exact k1, by rw [hu.cell y7]; exact k2, by rw [hu.cell y7]; exact k3⟩, by rw [hu.cell z7]; exact x0, by rw [hu.cell z7]; exact x1, by rw [hu.cell z7]; exact x2, by rw [hu.cell z7]; exact x3⟩
    have S7z := hideIt (HZ.out _ S7)
    have y8 := hideIt (show w.heap.size ≤ w7.heap.size by omega)
    clear f5 f6 b5 b7 S6 S5 S4 S2 S1
    go_wp2
    go_region_held3 (fun u => Good w7 u ∧ (u.cell? ⟨w.heap.size, 0, none⟩ = some (.int .i64 num) ∧ u.cell? ⟨w.heap.size, 1, none⟩ = some (.bool ok) ∧ u.cell? ⟨w.heap.size, 2, none⟩ = some (.slice a m c) ∧ u.cell? ⟨w.heap.size, 3, none⟩ = some (.slice a' m' c')) ∧ (u.cell? ⟨w5.heap.size, 0, none⟩ = some (.int .i64 num) ∧ u.cell? ⟨w5.heap.size, 1, none⟩ = some (.bool ok) ∧ u.cell? ⟨w5.heap.size, 2, none⟩ = some (.slice (some ⟨g5, 0, none⟩) m m) ∧ u.cell? ⟨w5.heap.size, 3, none⟩ = some (.slice (some ⟨h5, 0, none⟩) m' m')))
      (first | exact ⟨S10, HK8.out _ S10⟩ | exact ⟨S9, HK8.out _ S9⟩ | exact ⟨S8, HK8.out _ S8⟩)
      (first | (go_at_call 31; refine (HT8.out _ S8).mono ?_; rintro e w9 ⟨g9, h9, rfl, f9, S9⟩) | (go_at_call 32; refine (HE8.out _ _ _ S9 f9).mono ?_; rintro e w10 ⟨rfl, S10⟩))
    all_goals
      go_wp2
      go_ret
      exact ⟨rfl, S7z.out.trans (Below.mono S10 y8.out)⟩
  · rw [if_neg g0] at HSZ
    have S1 := Good.refl (lwAnswerText w num ok a m c a' m' c')
    clear bel fA fB h h' hsz q0 q1 q2 q3
    go_enter Try.func8, Try.ntmps8
    go_wp2_with (go_at_call 30; refine (HSZ.out _ S1).mono ?_; rintro e w2 ⟨rfl, S2⟩; refine Hid.out ?_)
    refine (show ∀ {p : Prop}, p → Hid p from fun h => h) ?_
    go_wp2
    go_ret
    exact ⟨rfl, HZ.out _ S2⟩
end Go.Proofs.Ytkhhagjcmbbdpaa
namespace Go.Proofs.Ytkhhagjcmbbdpaa
open Go.ChangeShapes Go.WideShapes Go.ChangeAt Go.RowKit

theorem four10 {α : Type} {l : List α} (h : l.length = 4) : ∃ a b c d, l = [a, b, c, d] := by
  match l, h with
  | [a, b, c, d], _ => exact ⟨a, b, c, d, rfl⟩

theorem slice1 {H : Type} {enc : TypeId × Value → H} {W : World} {fuel : Nat} {t e : TypeId} {cs : List Value} {x : DataW H × List MemPlace} (hu : Try.prog.underlying t = some (.slice e))
    (h : DataW.trod enc Try.prog W 0 (fun _ => true) true fuel t cs = some x) : ∃ a n c, cs = [.slice a n c] := by
  rcases DataW.trod_slice hu h with ⟨hcs, _⟩ | ⟨ad, l, c, _, _, _, _, hcs, _⟩
  · exact ⟨_, _, _, hcs⟩
  · exact ⟨_, _, _, hcs⟩

theorem open_ints10 {H : Type} {enc : TypeId × Value → H} {W : World} {fuel : Nat} {a : Option Addr} {len cap : Nat} {y : DataW H × List MemPlace}
    (hf : DataW.trod enc Try.prog W 0 (fun _ => true) true fuel 35 [.slice a len cap] = some y) : len ≤ maxLen ∧ ∃ ls : List Int, Is W W.heap.size a len ls := by
  obtain ⟨d, p⟩ := y
  rcases open_ints Try.underlying35 Try.underlying3 (by kernel_rfl) hf with ⟨hcs, _⟩ | ⟨x, l, c, zs, hcs, _, hl, hm, hz, _, hcell, hwz⟩
  · simp at hcs
    obtain ⟨rfl, rfl, rfl⟩ := hcs
    exact ⟨by unfold maxLen; omega, [], ⟨rfl, .inl rfl⟩⟩
  · simp at hcs
    obtain ⟨rfl, rfl, rfl⟩ := hcs
    have hzl : zs.length = cap := by simpa using hz
    by_cases h0 : len = 0
    · subst h0
      exact ⟨by unfold maxLen; omega, [], ⟨rfl, .inl rfl⟩⟩
    · obtain ⟨b, off, rfl, hc⟩ := ints_at hcell (by omega)
      have hb : b < W.heap.size := World.block_lt_of_cell? W _ (hc 0 (by omega))
      refine ⟨by omega, zs.take len, ⟨by rw [List.length_take]; omega, .inr ⟨b, off, rfl, hb, fun j x hx => ?_⟩⟩⟩
      have hj : j < len := by have := (List.getElem?_eq_some_iff.1 hx).1; rw [List.length_take] at this; omega
      rw [List.getElem?_take_of_lt hj] at hx
      rw [hc j (by omega), List.getD_eq_getElem?_getD, hx]
      rfl

set_option maxRecDepth 100000 in
/-- an order that comes in -/
theorem open_order {H : Type} {enc : TypeId × Value → H} {W : World} {r : Reach} {base : Nat} {v : Value} {d : DataW H} {p : List MemPlace}
    (hv : Value.okWide Try.prog W r base 49 v) (h : DataW.Trod enc Try.prog W 0 (fun _ => true) true 49 v d p) :
    ∃ (num op x : Int) (a : Option Addr) (n c : Nat) (fs : List EdgeV), v = .agg #[.int .i64 num, .int .i64 op, .slice a n c, .int .i64 x] ∧ n ≤ maxLen ∧ Es W W.heap.size a n fs := by
  obtain ⟨cs, rfl, hcs⟩ := okWide_struct Try.underlying49 hv
  obtain ⟨fuel, hf⟩ := h
  obtain ⟨xs, n, _, _, hl, hlen, hfi⟩ := DataW.trod_struct Try.underlying49 hf
  rw [show Try.prog.cellsOf 49 = 4 by kernel_rfl] at hcs hl
  obtain ⟨l⟩ := cs
  obtain ⟨c0, c1, c2, c3, rfl⟩ := four10 (by simpa using hcs : l.length = 4)
  have ec : (Value.agg (List.toArray [c0, c1, c2, c3])).cells.toList = [c0, c1, c2, c3] := by simp [Value.cells]
  rw [ec] at hfi
  have h0 : DataW.trod enc Try.prog W 0 (fun _ => true) true n 3 (([c0, c1, c2, c3].drop 0).take (Try.prog.cellsOf 3)) = xs[0]? := hfi 0 _ rfl
  have h1 : DataW.trod enc Try.prog W 0 (fun _ => true) true n 3 (([c0, c1, c2, c3].drop 1).take (Try.prog.cellsOf 3)) = xs[1]? := hfi 1 _ rfl
  have h2 : DataW.trod enc Try.prog W 0 (fun _ => true) true n 47 (([c0, c1, c2, c3].drop 2).take (Try.prog.cellsOf 47)) = xs[2]? := hfi 2 _ rfl
  have h3 : DataW.trod enc Try.prog W 0 (fun _ => true) true n 3 (([c0, c1, c2, c3].drop 3).take (Try.prog.cellsOf 3)) = xs[3]? := hfi 3 _ rfl
  rw [cells3] at h0 h1 h3
  rw [show Try.prog.cellsOf 47 = 1 by kernel_rfl] at h2
  have g : ∀ i, i < 4 → ∃ z, xs[i]? = some z := fun i hi => ⟨xs[i]'(by simp at hlen; omega), List.getElem?_eq_getElem _⟩
  obtain ⟨z0, e0⟩ := g 0 (by omega)
  obtain ⟨z1, e1⟩ := g 1 (by omega)
  obtain ⟨z2, e2⟩ := g 2 (by omega)
  obtain ⟨z3, e3⟩ := g 3 (by omega)
  rw [e0] at h0
  rw [e1] at h1
  rw [e2] at h2
  rw [e3] at h3
  obtain ⟨k0, hk0, _⟩ := DataW.trod_int Try.underlying3 h0
  obtain ⟨k1, hk1, _⟩ := DataW.trod_int Try.underlying3 h1
  obtain ⟨k3, hk3, _⟩ := DataW.trod_int Try.underlying3 h3
  simp at hk0 hk1 hk3
  subst hk0 hk1 hk3
  have h2' : DataW.trod enc Try.prog W 0 (fun _ => true) true n 47 [c2] = some z2 := by simpa using h2
  obtain ⟨a, m, c, hx⟩ := slice1 Try.underlying47 h2'
  simp at hx
  subst hx
  obtain ⟨q1, fs, q2, _⟩ := open_edgeS h2'
  exact ⟨k0, k1, k3, a, m, c, fs, rfl, q1, q2⟩

set_option maxRecDepth 100000 in
/-- an answer that comes in -/
theorem open_answer {H : Type} {enc : TypeId × Value → H} {W : World} {r : Reach} {base : Nat} {v : Value} {d : DataW H} {p : List MemPlace}
    (hv : Value.okWide Try.prog W r base 55 v) (h : DataW.Trod enc Try.prog W 0 (fun _ => true) true 55 v d p) :
    ∃ (num : Int) (ok : Bool) (a : Option Addr) (n c : Nat) (fs : List EdgeV) (a' : Option Addr) (n' c' : Nat) (ls : List Int), v = .agg #[.int .i64 num, .bool ok, .slice a n c, .slice a' n' c'] ∧ n ≤ maxLen ∧ n' ≤ maxLen ∧ Es W W.heap.size a n fs ∧ Is W W.heap.size a' n' ls := by
  obtain ⟨cs, rfl, hcs⟩ := okWide_struct Try.underlying55 hv
  obtain ⟨fuel, hf⟩ := h
  obtain ⟨xs, n, _, _, hl, hlen, hfi⟩ := DataW.trod_struct Try.underlying55 hf
  rw [show Try.prog.cellsOf 55 = 4 by kernel_rfl] at hcs hl
  obtain ⟨l⟩ := cs
  obtain ⟨c0, c1, c2, c3, rfl⟩ := four10 (by simpa using hcs : l.length = 4)
  have ec : (Value.agg (List.toArray [c0, c1, c2, c3])).cells.toList = [c0, c1, c2, c3] := by simp [Value.cells]
  rw [ec] at hfi
  have h0 : DataW.trod enc Try.prog W 0 (fun _ => true) true n 3 (([c0, c1, c2, c3].drop 0).take (Try.prog.cellsOf 3)) = xs[0]? := hfi 0 _ rfl
  have h1 : DataW.trod enc Try.prog W 0 (fun _ => true) true n 4 (([c0, c1, c2, c3].drop 1).take (Try.prog.cellsOf 4)) = xs[1]? := hfi 1 _ rfl
  have h2 : DataW.trod enc Try.prog W 0 (fun _ => true) true n 47 (([c0, c1, c2, c3].drop 2).take (Try.prog.cellsOf 47)) = xs[2]? := hfi 2 _ rfl
  have h3 : DataW.trod enc Try.prog W 0 (fun _ => true) true n 35 (([c0, c1, c2, c3].drop 3).take (Try.prog.cellsOf 35)) = xs[3]? := hfi 3 _ rfl
  rw [cells3] at h0
  rw [show Try.prog.cellsOf 4 = 1 by kernel_rfl] at h1
  rw [show Try.prog.cellsOf 47 = 1 by kernel_rfl] at h2
  rw [show Try.prog.cellsOf 35 = 1 by kernel_rfl] at h3
  have g : ∀ i, i < 4 → ∃ z, xs[i]? = some z := fun i hi => ⟨xs[i]'(by simp at hlen; omega), List.getElem?_eq_getElem _⟩
  obtain ⟨z0, e0⟩ := g 0 (by omega)
  obtain ⟨z1, e1⟩ := g 1 (by omega)
  obtain ⟨z2, e2⟩ := g 2 (by omega)
  obtain ⟨z3, e3⟩ := g 3 (by omega)
  rw [e0] at h0
  rw [e1] at h1
  rw [e2] at h2
  rw [e3] at h3
  obtain ⟨k0, hk0, _⟩ := DataW.trod_int Try.underlying3 h0
  obtain ⟨k1, hk1, _⟩ := DataW.trod_bool Try.underlying4 h1
  simp at hk0 hk1
  subst hk0 hk1
  have h2' : DataW.trod enc Try.prog W 0 (fun _ => true) true n 47 [c2] = some z2 := by simpa using h2
  have h3' : DataW.trod enc Try.prog W 0 (fun _ => true) true n 35 [c3] = some z3 := by simpa using h3
  obtain ⟨a, m, c, hx⟩ := slice1 Try.underlying47 h2'
  obtain ⟨a', m', c', hx'⟩ := slice1 Try.underlying35 h3'
  simp at hx hx'
  subst hx hx'
  obtain ⟨q1, fs, q2, _⟩ := open_edgeS h2'
  obtain ⟨q3, ls, q4⟩ := open_ints10 h3'
  exact ⟨k0, k1, a, m, c, fs, a', m', c', ls, rfl, q1, q3, q2, q4⟩
end Go.Proofs.Ytkhhagjcmbbdpaa
