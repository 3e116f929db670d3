/- Answers held against each other, marked and looked at again. What lies in memory while an answer is read; the program's reader of a flag and of labels. The program's ReadAnswer. What the specification's ReadVar answers, at every text and place: the number 'rv' and the place behind it, or nothing. The specification's reader of parts. The specification's reader of edges. -/
import Derived.Test.YtkhhagjcmbbdpaaKLawA10
import Derived.Test.YtkhhagjcmbbdpaaKOr10
import Derived.Test.YtkhhagjcmbbdpaaKSOu10
import Derived.WalkSmall
import Derived.Lib.Strings
import Derived.Deep.RegionHeld3
import Derived.Test.YtkhhagjcmbbdpaaKRow10
namespace Go.Proofs.Ytkhhagjcmbbdpaa
open Go.RowKit Vt

theorem eqAnswer_same (num : Int) (ok : Bool) (fs : List EdgeV) (ls : List Int) (n : Nat) (a b : Option Addr) (c d : Nat) (hn : n ≤ 1048576) (m : Nat) (a' b' : Option Addr) (c' d' : Nat) (hm : m ≤ 1048576) (w : World)
    (h1 : Es w w.heap.size a n fs) (h2 : Es w w.heap.size b n fs) (h3 : Is w w.heap.size a' m ls) (h4 : Is w w.heap.size b' m ls) :
    Calls Try.prog 32 #[ansV num ok a n c a' m c', ansV num ok b n d b' m d'] w fun e w' => e = .returned (.bool true) ∧ Below w.heap.size w w' := by
  unfold ansV
  have B2 : Below w.heap.size w ((w.alloc (.cells #[.int .i64 num, .bool ok, .slice a n c, .slice a' m c'] 37)).alloc (.cells #[.int .i64 num, .bool ok, .slice b n d, .slice b' m d'] 37)) := (bel1 _ _).alloc (by simp) _
  have HT := hideIt (eqEdgeS_same fs n a b c d hn _ (h1.up B2) (h2.up B2))
  have HI : Hid (∀ W, Below w.heap.size w W → Calls Try.prog 74 #[.slice a' m c', .slice b' m d'] W fun e w' => e = .returned (.bool true) ∧ Below W.heap.size W w') := fun W hW => eqIntS_same ls m a' b' c' d' hm W (h3.up hW) (h4.up hW)
  have HB2 := hideIt B2
  have dr : (ok != ok) = false := by simp
  clear h1 h2 h3 h4 B2
  go_enter Try.func32, Try.ntmps32
  go_wp2_with (go_at_call 71; refine HT.out.mono ?_; rintro e w1 ⟨rfl, hb1⟩; refine Hid.out ?_)
  refine (show ∀ {p : Prop}, p → Hid p from fun h => h) ?_
  obtain ⟨hc, hf⟩ := bcell hb1
  have HB := hideIt (HB2.out.trans (hb1.mono (by simp; omega)))
  have q0 : w1.cell? ⟨w.heap.size, 3, none⟩ = some (.slice a' m c') := by rw [hc _ _ (by simp; omega)]; simp
  have q1 : w1.cell? ⟨w.heap.size + 1, 3, none⟩ = some (.slice b' m d') := by rw [hc _ _ (by simp)]; simp
  clear hc hf hb1 HT
  go_wp2_with (go_at_call 74; refine (HI.out _ HB.out).mono ?_; rintro e w2 ⟨rfl, hb2⟩)
  go_ret
  exact ⟨rfl, HB.out.trans (hb2.mono HB.out.size)⟩

/-- rows of different sorts lie in different blocks -/
theorem rows_ne {w : World} {B B' S S' n n' : Nat} {e e' : TypeId} {v v' : Value} {xs xs' : List Value} (h : w.ownsRow B e S v n xs) (h' : w.ownsRow B' e' S' v' n' xs') (hne : e ≠ e') (g : Nat) (hg : v.ownBlock = some g) : v'.ownBlock ≠ some g := by
  intro hg'
  rcases h.2 with ⟨rfl, _⟩ | ⟨q, cap, cur, rfl, _, hc, _⟩
  · simp [Value.ownBlock] at hg
  · rcases h'.2 with ⟨rfl, _⟩ | ⟨q', cap', cur', rfl, _, hc', _⟩
    · simp [Value.ownBlock] at hg'
    · simp [Value.ownBlock] at hg hg'
      subst hg hg'
      rw [hc] at hc'
      simp at hc'
      exact hne hc'.2

/-- edges are marked, or there are none -/
theorem markE_any {w : World} {base n c k0 : Nat} {a : Option Addr} {fs : List EdgeV} (hn : n ≤ 1048576) (hk : k0 ≤ 10000000) (h : w.ownsRow base 78 2 (.slice a n c) n (ecells fs)) :
    Calls Try.prog 78 #[.slice a n c, .int .i64 (k0 : Int)] w fun e w' => e = .returned (.int .i64 ((k0 : Int) + (n : Int) * 2)) ∧ w'.ownsRow base 78 2 (.slice a n c) n (ecells (marks k0 n)) ∧ w.grownBy w' ((Value.slice a n c).ownBlock) := by
  by_cases h0 : n = 0
  · subst h0
    refine (markEdgeS_zero a c k0 w).mono ?_
    rintro e v ⟨rfl, rfl⟩
    refine ⟨by simp, ?_, gr_refl _ _⟩
    have hl := h.1
    rw [ecells_length] at hl
    have : fs = [] := List.length_eq_zero_iff.1 (by omega)
    subst this
    exact h
  · rcases h.2 with ⟨_, h3⟩ | ⟨g, cap, cur, hv, hg, _⟩
    · omega
    · simp at hv
      obtain ⟨rfl, rfl⟩ := hv
      exact markEdgeS_any base g c n k0 fs hn hk w h
theorem markI_any {w : World} {base n c k0 : Nat} {a : Option Addr} {ls : List Int} (hn : n ≤ 1048576) (hk : k0 ≤ 10000000) (h : w.ownsRow base 3 1 (.slice a n c) n (ic ls)) :
    Calls Try.prog 81 #[.slice a n c, .int .i64 (k0 : Int)] w fun e w' => e = .returned (.int .i64 ((k0 : Int) + (n : Int))) ∧ w'.ownsRow base 3 1 (.slice a n c) n (ic (imarks k0 n)) ∧ w.grownBy w' ((Value.slice a n c).ownBlock) := by
  by_cases h0 : n = 0
  · subst h0
    refine (markIntS_zero a c k0 w).mono ?_
    rintro e v ⟨rfl, rfl⟩
    refine ⟨by simp, ?_, gr_refl _ _⟩
    have hl := h.1
    rw [ic_len] at hl
    have : ls = [] := List.length_eq_zero_iff.1 (by omega)
    subst this
    exact h
  · rcases h.2 with ⟨_, h3⟩ | ⟨g, cap, cur, hv, hg, _⟩
    · omega
    · simp at hv
      obtain ⟨rfl, rfl⟩ := hv
      exact markIntS_any base g c n k0 _ hn hk w h

/-- an answer that is ours: its box, its edges and its labels lie in blocks lo .. hi -/
structure ABox (u : World) (lo hi b : Nat) (num : Int) (ok : Bool) (a : Option Addr) (m c : Nat) (a' : Option Addr) (m' c' : Nat) (gs : List EdgeV) (ls : List Int) : Prop where
  box : u.heap[b]? = some (.cells (ac num ok a m c a' m' c') 37 (0, 0))
  own : u.ownsRow lo 78 2 (.slice a m c) m (ecells gs)
  own2 : u.ownsRow lo 3 1 (.slice a' m' c') m' (ic ls)
  least : lo ≤ b
  most : b < hi
  row : ∀ g, (Value.slice a m c).ownBlock = some g → g < b
  row2 : ∀ g, (Value.slice a' m' c').ownBlock = some g → g < b
  there : hi ≤ u.heap.size

section
variable {u v : World} {lo hi b l2 h2 : Nat} {num : Int} {ok : Bool} {a : Option Addr} {m c : Nat} {a' : Option Addr} {m' c' : Nat} {gs : List EdgeV} {ls : List Int}
theorem ABox.len (h : ABox u lo hi b num ok a m c a' m' c' gs ls) : gs.length = m ∧ ls.length = m' := by
  have h1 := h.own.1; have h3 := h.own2.1; rw [ecells_length] at h1; rw [ic_len] at h3; omega
theorem ABox.es (h : ABox u lo hi b num ok a m c a' m' c' gs ls) : Es u u.heap.size a m gs := Es_of_own h.own
theorem ABox.is (h : ABox u lo hi b num ok a m c a' m' c' gs ls) : Is u u.heap.size a' m' ls := Is_of_own h.own2
theorem ABox.rng (h : ABox u lo hi b num ok a m c a' m' c' gs ls) (hr : Rng l2 h2 u v) (ho : hi ≤ l2 ∨ h2 ≤ lo) : ABox v lo hi b num ok a m c a' m' c' gs ls := by
  have hth := h.there
  have hb := h.least
  have hb' := h.most
  have g1 : ∀ k, lo ≤ k → k < hi → v.heap[k]? = u.heap[k]? := fun k h3 h4 => hr.block k (by omega) (by omega)
  refine ⟨?_, ?_, ?_, hb, hb', h.row, h.row2, Nat.le_trans hth hr.size⟩
  · rw [g1 b hb hb']; exact h.box
  · refine ⟨h.own.1, ?_⟩
    rcases h.own.2 with h3 | ⟨g, cap, cur, hv, hg, hcur, hrest⟩
    · exact .inl h3
    · refine .inr ⟨g, cap, cur, hv, hg, ?_, hrest⟩
      rw [g1 g hg (by have := h.row g (by rw [hv]; rfl); omega)]
      exact hcur
  · refine ⟨h.own2.1, ?_⟩
    rcases h.own2.2 with h3 | ⟨g, cap, cur, hv, hg, hcur, hrest⟩
    · exact .inl h3
    · refine .inr ⟨g, cap, cur, hv, hg, ?_, hrest⟩
      rw [g1 g hg (by have := h.row2 g (by rw [hv]; rfl); omega)]
      exact hcur
theorem ABox.up (h : ABox u lo hi b num ok a m c a' m' c' gs ls) (hb : Below u.heap.size u v) : ABox v lo hi b num ok a m c a' m' c' gs ls :=
  h.rng (l2 := hi) (h2 := hi) (Rng.of_below hb) (.inl (Nat.le_refl _))
theorem ABox.cells (h : ABox u lo hi b num ok a m c a' m' c' gs ls) : u.cell? ⟨b, 0, none⟩ = some (.int .i64 num) ∧ u.cell? ⟨b, 1, none⟩ = some (.bool ok) ∧ u.cell? ⟨b, 2, none⟩ = some (.slice a m c) ∧ u.cell? ⟨b, 3, none⟩ = some (.slice a' m' c') :=
  ⟨by rw [cell_of_row u b 0 _ _ _ h.box]; rfl, by rw [cell_of_row u b 1 _ _ _ h.box]; rfl, by rw [cell_of_row u b 2 _ _ _ h.box]; rfl, by rw [cell_of_row u b 3 _ _ _ h.box]; rfl⟩
theorem ABox.laid (hl : lo ≤ u.heap.size) (ho : u.ownsRow lo 78 2 (.slice a m c) m (ecells gs)) (ho2 : u.ownsRow lo 3 1 (.slice a' m' c') m' (ic ls)) :
    ABox (u.alloc (.cells (ac num ok a m c a' m' c') 37)) lo (u.heap.size + 1) u.heap.size num ok a m c a' m' c' gs ls :=
  ⟨heap_alloc_new u _, ho.alloc _, ho2.alloc _, hl, by omega, fun g hg => (ho.lt g hg).2, fun g hg => (ho2.lt g hg).2, by simp⟩

theorem gr_rng {w w' : World} {row : Option Nat} {lo b : Nat} (h : w.grownBy w' row) (h1 : ∀ g, row = some g → lo ≤ g ∧ g < b) : Rng lo b w w' :=
  ⟨h.os, h.tape, h.output, h.size, fun k hk ho => h.block k hk (fun e => by have := h1 k e.symm; omega)⟩
theorem Rng.trans {u v x : World} {lo b : Nat} (h : Rng lo b u v) (k : Rng lo b v x) : Rng lo b u x :=
  ⟨k.os.trans h.os, k.tape.trans h.tape, k.output.trans h.output, Nat.le_trans h.size k.size, fun i hi ho => (k.block i (Nat.lt_of_lt_of_le hi h.size) ho).trans (h.block i hi ho)⟩

theorem own_kept {w w' : World} {B e s n : Nat} {v : Value} {xs : List Value} {row : Option Nat} (h : w.ownsRow B e s v n xs) (hg : w.grownBy w' row) (hne : ∀ g, row = some g → v.ownBlock ≠ some g) : w'.ownsRow B e s v n xs :=
  h.kept hg (by
    cases row with
    | none => cases hv : v.ownBlock <;> simp
    | some g => exact .inr (hne g rfl))

set_option maxHeartbeats 1000000 in
/-- it is marked -/
theorem ABox.mark (h : ABox u lo hi b num ok a m c a' m' c' gs ls) (k0 : Nat) (hm : m ≤ 100000) (hm' : m' ≤ 100000) (h1 : k0 ≤ 100000) :
    Calls Try.prog 37 #[ansV num ok a m c a' m' c', .int .i64 (k0 : Int)] u fun e v => e = .returned (.int .i64 ((k0 : Int) + (m : Int) * 2 + (m' : Int))) ∧ ABox v lo hi b num ok a m c a' m' c' (marks k0 m) (imarks (k0 + m * 2) m') ∧ Rng lo b u v := by
  unfold ansV
  have hth := h.there
  have hbm := h.most
  have HE := hideIt (markE_any (by omega) (by omega) (h.own.alloc (.cells #[.int .i64 num, .bool ok, .slice a m c, .slice a' m' c'] 37)) (k0 := k0))
  have HI : Hid (∀ W : World, W.ownsRow lo 3 1 (.slice a' m' c') m' (ic ls) → Calls Try.prog 81 #[.slice a' m' c', .int .i64 ((k0 : Int) + (m : Int) * 2)] W fun e w' => e = .returned (.int .i64 ((k0 : Int) + (m : Int) * 2 + (m' : Int))) ∧ w'.ownsRow lo 3 1 (.slice a' m' c') m' (ic (imarks (k0 + m * 2) m')) ∧ W.grownBy w' ((Value.slice a' m' c').ownBlock)) := fun W hW => by
    have := markI_any (k0 := k0 + m * 2) (by omega) (by omega) hW
    simpa using this
  have HA := hideIt h
  clear h
  go_enter Try.func37, Try.ntmps37
  go_wp2_with (go_at_call 78; refine HE.out.mono ?_; rintro e w1 ⟨rfl, o1, g1⟩; refine Hid.out ?_)
  refine (show ∀ {p : Prop}, p → Hid p from fun h => h) ?_
  have hq : w1.heap[u.heap.size]? = some (.cells #[.int .i64 num, .bool ok, .slice a m c, .slice a' m' c'] 37 (0, 0)) := by
    rw [g1.block _ (by simp) (fun e => by have := HA.out.row _ e.symm; omega)]
    exact heap_alloc_new u _
  have q3 : w1.cell? ⟨u.heap.size, 3, none⟩ = some (.slice a' m' c') := by rw [cell_of_row w1 _ 3 _ _ _ hq]; rfl
  have o2 : w1.ownsRow lo 3 1 (.slice a' m' c') m' (ic ls) := own_kept (HA.out.own2.alloc _) g1 (fun g hg => rows_ne HA.out.own HA.out.own2 (by decide) g hg)
  have HO1 := hideIt o1
  have HO2 := hideIt o2
  have HG1 := hideIt (gr_trans (World.grownBy_alloc u (.cells #[.int .i64 num, .bool ok, .slice a m c, .slice a' m' c'] 37) _) g1)
  clear o1 o2 g1 hq HE
  go_wp2_with (go_at_call 81; refine (HI.out _ HO2.out).mono ?_; rintro e w2 ⟨rfl, o3, g2⟩)
  go_ret
  refine ⟨rfl, ⟨?_, ?_, o3, HA.out.least, hbm, HA.out.row, HA.out.row2, Nat.le_trans hth (Nat.le_trans HG1.out.size g2.size)⟩, ?_⟩
  · rw [g2.block b (by have := HG1.out.size; omega) (fun e => by have := HA.out.row2 _ e.symm; omega), HG1.out.block b (by omega) (fun e => by have := HA.out.row _ e.symm; omega)]
    exact HA.out.box
  · exact own_kept HO1.out g2 (fun g hg => rows_ne HO2.out HO1.out (by decide) g hg)
  · refine (gr_rng HG1.out (fun g hg => ⟨(HA.out.own.lt g hg).1, HA.out.row g hg⟩)).trans (gr_rng g2 (fun g hg => ⟨(HA.out.own2.lt g hg).1, HA.out.row2 g hg⟩))

theorem ABox.held (k0 : Nat) (h : ABox u lo hi b num ok a m c a' m' c' (marks k0 m) (imarks (k0 + m * 2) m')) (hm : m ≤ 100000) (hm' : m' ≤ 100000) (h1 : k0 ≤ 100000) :
    Calls Try.prog 38 #[ansV num ok a m c a' m' c', .int .i64 (k0 : Int)] u fun e v => e = .returned (.int .i64 ((k0 : Int) + (m : Int) * 2 + (m' : Int))) ∧ Below u.heap.size u v := by
  unfold ansV
  have HE := hideIt (heldEdgeS_any m k0 a c (by omega) (by omega) (u.alloc (.cells #[.int .i64 num, .bool ok, .slice a m c, .slice a' m' c'] 37)) (h.es.up (bel1 _ _)))
  have HI := hideIt (heldIntS_any m' (k0 + m * 2) a' c' (by omega) (by omega) (u.alloc (.cells #[.int .i64 num, .bool ok, .slice a m c, .slice a' m' c'] 37)) (h.is.up (bel1 _ _)))
  have ek : ((k0 + m * 2 : Nat) : Int) = (k0 : Int) + (m : Int) * 2 := by omega
  rw [ek] at HI
  have d1 : decide ((k0 : Int) + (m : Int) * 2 < 0) = false := decide_eq_false (by omega)
  have d2 : decide ((k0 : Int) + (m : Int) * 2 + (m' : Int) < 0) = false := decide_eq_false (by omega)
  clear h ek
  go_enter Try.func38, Try.ntmps38
  go_wp2_with (first | (go_at_call 79; refine HE.out.mono ?_; rintro e w1 ⟨rfl, rfl⟩) | (go_at_call 82; refine HI.out.mono ?_; rintro e w1 ⟨rfl, rfl⟩))
  go_ret
  exact ⟨rfl, bel1 _ _⟩
theorem ABox.eq {lo' hi' b' : Nat} {d : Option Addr} {n e : Nat} {d' : Option Addr} {n' e' : Nat} (h : ABox u lo hi b num ok a m c a' m' c' gs ls) (h' : ABox u lo' hi' b' num ok d n e d' n' e' gs ls) (hm : m ≤ 1048576) (hm' : m' ≤ 1048576) :
    Calls Try.prog 32 #[ansV num ok a m c a' m' c', ansV num ok d n e d' n' e'] u fun e v => e = .returned (.bool true) ∧ Below u.heap.size u v := by
  have e1 : n = m := by rw [← h.len.1, ← h'.len.1]
  have e2 : n' = m' := by rw [← h.len.2, ← h'.len.2]
  subst e1 e2
  exact eqAnswer_same num ok gs ls n a d c e hm n' a' d' c' e' hm' u h.es h'.es h.is h'.is
end
end Go.Proofs.Ytkhhagjcmbbdpaa
namespace Go.Proofs.Ytkhhagjcmbbdpaa
open Go.RowKit Vt

/-- the reader in block G, the answer in block O, the result's box R -/
structure RA (e : Prop) (t : TypeId) (w W : World) (G O R : Nat) (s : ByteArray) (st : Option (List UInt8)) (num : Int) (ok : Bool) (a : Option Addr) (k c : Nat) (a' : Option Addr) (k' c' : Nat) : Prop where
  rd : RdAt e t W G s st
  ob : W.heap[O]? = some (.cells (ac num ok a k c a' k' c') 37 (0, 0))
  rb : W.heap[R]? = some (.cells (ac 0 false none 0 0 none 0 0) 37 (0, 0))
  bel : Below w.heap.size w W
  ge : w.heap.size ≤ G ∧ w.heap.size ≤ O ∧ w.heap.size ≤ R
  ne : G ≠ O ∧ G ≠ R ∧ O ≠ R

section
variable {e : Prop} {t : TypeId} {w W W' : World} {G O R : Nat} {s : ByteArray} {st st' : Option (List UInt8)} {num : Int} {ok : Bool} {a : Option Addr} {k c : Nat} {a' : Option Addr} {k' c' : Nat}
theorem RA.lt (h : RA e t w W G O R s st num ok a k c a' k' c') : G < W.heap.size ∧ O < W.heap.size ∧ R < W.heap.size :=
  ⟨h.rd.lt, (Array.getElem?_eq_some_iff.1 h.ob).1, (Array.getElem?_eq_some_iff.1 h.rb).1⟩
theorem RA.call (h : RA e t w W G O R s st num ok a k c a' k' c') (hr : RdAt e t W' G s st') (hg : W.grownBy W' (some G)) : RA e t w W' G O R s st' num ok a k c a' k' c' :=
  ⟨hr, by rw [hg.block O h.lt.2.1 (by simp; exact Ne.symm h.ne.1)]; exact h.ob, by rw [hg.block R h.lt.2.2 (by simp; exact Ne.symm h.ne.2.1)]; exact h.rb, bel_grown h.bel hg h.ge.1, h.ge, h.ne⟩
theorem RA.cells (h : RA e t w W G O R s st num ok a k c a' k' c') : W.cell? ⟨O, 0, none⟩ = some (.int .i64 num) ∧ W.cell? ⟨O, 1, none⟩ = some (.bool ok) ∧ W.cell? ⟨O, 2, none⟩ = some (.slice a k c) ∧ W.cell? ⟨O, 3, none⟩ = some (.slice a' k' c') :=
  ⟨by rw [cell_of_row W O 0 _ _ _ h.ob]; rfl, by rw [cell_of_row W O 1 _ _ _ h.ob]; rfl, by rw [cell_of_row W O 2 _ _ _ h.ob]; rfl, by rw [cell_of_row W O 3 _ _ _ h.ob]; rfl⟩
theorem RA.cellsR (h : RA e t w W G O R s st num ok a k c a' k' c') : W.cell? ⟨R, 0, none⟩ = some (.int .i64 0) ∧ W.cell? ⟨R, 1, none⟩ = some (.bool false) ∧ W.cell? ⟨R, 2, none⟩ = some (.slice none 0 0) ∧ W.cell? ⟨R, 3, none⟩ = some (.slice none 0 0) :=
  ⟨by rw [cell_of_row W R 0 _ _ _ h.rb]; rfl, by rw [cell_of_row W R 1 _ _ _ h.rb]; rfl, by rw [cell_of_row W R 2 _ _ _ h.rb]; rfl, by rw [cell_of_row W R 3 _ _ _ h.rb]; rfl⟩
theorem RA.frozen (h : RA e t w W G O R s st num ok a k c a' k' c') (j : Nat) : W.frozen? ⟨O, j, none⟩ = false := frozen_of_row W O j _ _ h.ob
theorem RA.frozenR (h : RA e t w W G O R s st num ok a k c a' k' c') (j : Nat) : W.frozen? ⟨R, j, none⟩ = false := frozen_of_row W R j _ _ h.rb
theorem RA.set {num' : Int} {ok' : Bool} {b : Option Addr} {m d : Nat} {b' : Option Addr} {m' d' : Nat} (h : RA e t w W G O R s st num ok a k c a' k' c') (j : Nat) (u : Value) (hc : (ac num ok a k c a' k' c').setIfInBounds j u = ac num' ok' b m d b' m' d') :
    RA e t w (W.setCell ⟨O, j, none⟩ u) G O R s st num' ok' b m d b' m' d' :=
  ⟨h.rd.other (gr_set W O j u) h.ne.1, by rw [heap_setCell_same W O j _ _ u h.ob, hc], by rw [(gr_set W O j u).block R h.lt.2.2 (by simp; exact Ne.symm h.ne.2.2)]; exact h.rb, bel_grown h.bel (gr_set W O j u) h.ge.2.1, h.ge, h.ne⟩
theorem RA.below (h : RA e t w W G O R s st num ok a k c a' k' c') (hb : Below W.heap.size W W') : RA e t w W' G O R s st num ok a k c a' k' c' :=
  ⟨by obtain ⟨p, f, hG, rest⟩ := h.rd; exact ⟨p, f, by rw [hb.block G h.lt.1]; exact hG, rest⟩, by rw [hb.block O h.lt.2.1]; exact h.ob, by rw [hb.block R h.lt.2.2]; exact h.rb, h.bel.trans (hb.mono h.bel.size), h.ge, h.ne⟩
end

/-- an answer, or the answer of nothing -/
def orA : Option AnsV → AnsV
  | none => ⟨0, false, [], []⟩
  | some o => o
/-- what a reader of answers answers: the answer in memory of its own -/
def AnsAns (w w' : World) (e : Ending) (r : Option AnsV) : Prop :=
  ∃ (a : Option Addr) (k c : Nat) (a' : Option Addr) (k' c' : Nat), e = .returned (.tuple #[ansV (orA r).num (orA r).ok a k c a' k' c', .bool r.isSome]) ∧ w'.ownsRow w.heap.size 78 2 (.slice a k c) k (ecells (orA r).es) ∧ w'.ownsRow w.heap.size 3 1 (.slice a' k' c') k' (ic (orA r).ls) ∧ k ≤ 100 ∧ k' ≤ 100 ∧ Below w.heap.size w w'

/-- behind a flag: a byte above 1 has failed -/
def flSt (st : Option (List UInt8)) : Option (List UInt8) := if 1 < (nx pO st).1 then none else (nx pO st).2

set_option maxRecDepth 100000 in
set_option maxHeartbeats 4000000 in
theorem rFlag_any (s : ByteArray) (hs : s.size ≤ 1048576) (w : World) (G : Nat) (st : Option (List UInt8)) (h : RdAt True 69 w G s st) :
    Calls Try.prog 53 #[.pointer (some ⟨G, 0, none⟩)] w fun e w' => e = .returned (.bool (decide ((nx pO st).1 = 1))) ∧ RdAt True 69 w' G s (flSt st) ∧ w.grownBy w' (some G) := by
  have HO := hideIt (rOctet_any s hs w G st h)
  clear h
  unfold flSt
  by_cases h1 : 1 < (nx pO st).1
  · rw [if_pos h1]
    have d1 : decide ((1 : Int) < (((nx pO st).1 : Nat) : Int)) = true := by simp; omega
    have HD : Hid (decide ((nx pO st).1 = 1) = false) := by show _ = _; apply decide_eq_false; omega
    have d2 : ((((nx pO st).1 : Nat) : Int) == 1) = false := by simp; omega
    generalize (((nx pO st).1 : Nat) : Int) = x at HO d1 d2
    go_enter Try.func53, Try.ntmps53
    go_wp2_with (go_at_call 43; refine HO.out.mono ?_; rintro e w1 ⟨rfl, ⟨p, f, hG, hp, hf⟩, hg1⟩; refine Hid.out ?_)
    refine (show ∀ {p : Prop}, p → Hid p from fun h => h) ?_
    have HF := hideIt (rFail_any s w1 G (p : Int) f hG)
    clear hG HO hf
    go_wp2_with (go_at_call 85; refine HF.out.mono ?_; rintro e w2 ⟨rfl, hG2, hg2⟩)
    go_ret
    exact ⟨by rw [HD.out]; rfl, ⟨s.size, true, hG2, Nat.le_refl _, .inr ⟨rfl, rfl, fun _ => rfl⟩⟩, gr_trans hg1 hg2⟩
  · rw [if_neg h1]
    have d1 : decide ((1 : Int) < (((nx pO st).1 : Nat) : Int)) = false := by simp; omega
    have HD : Hid (((((nx pO st).1 : Nat) : Int) == 1) = decide ((nx pO st).1 = 1)) := by show _ = _; rw [Bool.eq_iff_iff]; simp; omega
    generalize (((nx pO st).1 : Nat) : Int) = x at HO d1 HD
    go_enter Try.func53, Try.ntmps53
    go_wp2_with (go_at_call 43; refine HO.out.mono ?_; rintro e w1 ⟨rfl, hR, hg1⟩)
    go_ret
    exact ⟨by rw [← HD.out]; rfl, hR, hg1⟩

/-- behind k labels -/
def LbSt (st0 : Option (List UInt8)) (k : Nat) (ls : List Int) (st : Option (List UInt8)) : Prop := ls.length = k ∧ LR k st0 ls st
theorem LbSt.start (st0 : Option (List UInt8)) : LbSt st0 0 [] st0 := by
  refine ⟨rfl, ?_⟩
  unfold LR
  cases st0 with
  | none => rfl
  | some L => simp
theorem LbSt.step {st0 : Option (List UInt8)} {k : Nat} {ls : List Int} {st : Option (List UInt8)} (h : LbSt st0 k ls st) : LbSt st0 (k + 1) (ls ++ [(((nx pO st).1 : Nat) : Int)]) (nx pO st).2 := by
  obtain ⟨h1, h2⟩ := h
  refine ⟨by simp [h1], ?_⟩
  unfold LR at h2 ⊢
  cases st0 with
  | none => dsimp only at h2 ⊢; subst h2; rfl
  | some L =>
    dsimp only at h2 ⊢
    split at h2
    · subst h2
      rw [if_pos (by omega)]
      rfl
    · obtain ⟨h3, h4⟩ := h2
      subst h3
      match hM : L.drop k with
      | [] =>
        have := congrArg List.length hM
        simp at this
        rw [if_pos (by omega)]
        rfl
      | c :: r =>
        have hl := congrArg List.length hM
        simp at hl
        rw [if_neg (by omega)]
        have e2 : L.drop (k + 1) = r := by rw [← List.drop_drop, hM]; rfl
        have e1 : L.take (k + 1) = L.take k ++ [c] := by
          have hc : L[k]? = some c := by
            have := congrArg (fun z => z[0]?) hM
            simpa using this
          rw [List.take_add_one, hc]
          rfl
        refine ⟨by rw [e2]; rfl, ?_⟩
        rw [e1, h4, List.map_append]
        rfl

set_option maxRecDepth 100000 in
set_option maxHeartbeats 4000000 in
theorem rLabels_any (n : Nat) (hn : n ≤ 12) (s : ByteArray) (hs : s.size ≤ 1048576) (w : World) (G : Nat) (st : Option (List UInt8)) (h : RdAt True 69 w G s st) :
    Calls Try.prog 54 #[.pointer (some ⟨G, 0, none⟩), .int .i64 (n : Int)] w fun e w' => ∃ (a : Option Addr) (ls : List Int) (st' : Option (List UInt8)), e = .returned (.slice a n n) ∧ w'.ownsRow w.heap.size 3 1 (.slice a n n) n (ic ls) ∧ LR n st ls st' ∧ RdAt True 69 w' G s st' ∧ w.grownBy w' (some G) := by
  obtain ⟨i0, hi, hz0, hz1, hz2⟩ := info_parts info3i
  have hGl := h.lt
  have hmk : ∀ u : World, (Instr.makeSlice 35 (.int .i64 (n : Int)) (.int .i64 (n : Int))).run Try.prog u =
      .ok (.slice (some ⟨u.heap.size, 0, none⟩) n n) (u.alloc (.cells (madeCells #[.int .i64 0] n) 3)) := fun u => by
    have h := run_make (P := Try.prog) u 35 3 i0 _ Try.underlying35 hi hz0 .i64 .i64 (n : Int) (n : Int) (by omega) (by omega) (by rw [hz2]; omega) (by omega)
    rw [Int.toNat_natCast] at h
    simpa [hz1, Value.cells] using h
  have HO : Hid (∀ W st, RdAt True 69 W G s st → Calls Try.prog 43 #[.pointer (some ⟨G, 0, none⟩)] W fun e w' => e = .returned (.int .i64 (((nx pO st).1 : Nat) : Int)) ∧ RdAt True 69 w' G s (nx pO st).2 ∧ W.grownBy w' (some G)) := fun W st hW => rOctet_any s hs W G st hW
  have HR := hideIt h
  clear h
  go_enter Try.func54, Try.ntmps54
  go_wp2
  go_loopw [11] (fun i wr => ∃ (j : Nat) (xs : List Value) (ls : List Int) (st1 : Option (List UInt8)), j ≤ n ∧ i = .int .i64 (j : Int) ∧ Hid (xs.take j = ic ls) ∧ Hid (LbSt st j ls st1) ∧ wr.ownsRow w.heap.size 3 1 (.slice (some ⟨w.heap.size, 0, none⟩) n n) n xs ∧ RdAt True 69 wr G s st1 ∧ w.grownBy wr (some G)) (fun i _ => n - (intOf i).toNat)
  case atStart =>
    exact ⟨0, _, [], st, by omega, rfl, by show _ = _; simp [ic], LbSt.start st, World.ownsRow_lit (base := w.heap.size) (e := 3) (size := 1) w (madeCells #[.int .i64 0] n) n (Nat.le_refl _) (by unfold maxLen; omega) (by simp [madeCells]), HR.out.alloc _, World.grownBy_alloc w _ (some G)⟩
  case round =>
    obtain ⟨j, xs, ls, st1, hj, rfl, hx, hE, hown, hR, hg⟩ := hrel
    have hl3 : xs.length = n * 1 := hown.1
    by_cases hlt : j < n
    · have b1 : (0 : Int) ≤ (j : Int) := by omega
      have b2 : (j : Int) < (n : Int) := by omega
      have hgz := hg.size
      go_wp2_with (go_at_call 43; refine (HO.out _ st1 hR).mono ?_; rintro e w3 ⟨rfl, hR3, hg3⟩; refine Hid.out ?_)
      refine (show ∀ {p : Prop}, p → Hid p from fun h => h) ?_
      have hown3 := World.ownsRow.kept hown hg3 (.inr (by simp [Value.ownBlock]; omega))
      have y0 := hown3.frozenAt j
      have x0 : w3.cell? ⟨w.heap.size, j, none⟩ = some (xs[j]'(by omega)) := by rw [hown3.cellAt j (by omega)]; exact List.getElem?_eq_getElem (by omega)
      have HR4 := hideIt (hR3.other (gr_set w3 w.heap.size j (.int .i64 (((nx pO st1).1 : Nat) : Int))) (show G ≠ w.heap.size by omega))
      have HO4 := hideIt (hown3.stored j (.int .i64 (((nx pO st1).1 : Nat) : Int))).1
      have HG4 := hideIt (gr_set_new (j := j) (u := .int .i64 (((nx pO st1).1 : Nat) : Int)) (gr_trans hg hg3) (Nat.le_refl _))
      have HS := hideIt hE.out.step
      clear hown hown3 hR hR3 hg3 hg
      go_wp2
      refine ⟨⟨j + 1, _, ls ++ [(((nx pO st1).1 : Nat) : Int)], _, by omega, by go_num, ?_, HS, HO4.out, HR4.out, HG4.out⟩, by simp [intOf]; omega⟩
      show _ = _
      rw [List.take_add_one, List.take_set_of_le (Nat.le_refl _), hx.out, ic_snoc]
      simp [show j < xs.length by omega]
    · obtain rfl : j = n := by omega
      have HX : Hid (xs = ic ls) := by
        show _ = _
        have := hx.out
        rw [List.take_of_length_le (by omega)] at this
        exact this
      have HOw := hideIt hown
      have HRr := hideIt hR
      have HGg := hideIt hg
      clear hx hown hR hg hl3
      go_wp2
      go_ret
      exact ⟨_, ls, st1, rfl, by rw [← HX.out]; exact HOw.out, hE.out.2, HRr.out, HGg.out⟩
end Go.Proofs.Ytkhhagjcmbbdpaa
namespace Go.Proofs.Ytkhhagjcmbbdpaa
open Go.RowKit Vt

theorem flag_ok {s1 : Option (List UInt8)} {es : List EdgeV} {s3 : Option (List UInt8)} {m : Nat} {ls : List Int} (h : ER (flSt s1) es s3) (h' : LR m s3 ls (some [])) : (nx pO s1).1 ≤ 1 := by
  by_cases h1 : 1 < (nx pO s1).1
  · have e : flSt s1 = none := by unfold flSt; rw [if_pos h1]
    rw [e] at h
    have h3 : s3 = none := h
    rw [h3] at h'
    cases h'
  · omega

theorem own_two {w W : World} {B T S n : Nat} {v : Value} {xs : List Value} (h : w.ownsRow B T S v n xs) (hb : ∀ g, B ≤ g → g < w.heap.size → W.heap[g]? = w.heap[g]?) : W.ownsRow B T S v n xs := by
  refine ⟨h.1, h.2.imp id ?_⟩
  rintro ⟨g, cp, cur, hv, hg, hc, rest⟩
  exact ⟨g, cp, cur, hv, hg, by rw [hb g hg (Array.getElem?_eq_some_iff.1 hc).1]; exact hc, rest⟩

set_option maxRecDepth 100000 in
set_option maxHeartbeats 4000000 in
theorem iReadAnswer_out (n : Int) (s : ByteArray) (h1 : ¬ (1 ≤ n ∧ n ≤ 12)) (w : World) :
    Calls Try.prog 19 #[.int .i64 n, .string s] w fun e w' => ∃ r, IsA n s.data.toList r ∧ AnsAns w w' e r := by
  have r1 : decide (1 ≤ n ∧ n ≤ 12) = false := by simpa using h1
  have HV := hideIt vertsOk_any
  have HI : Hid (IsA n s.data.toList none) := IsA.out h1
  go_enter Try.func19, Try.ntmps19
  go_wp2_with (go_at_call 48; refine (HV.out _ _).mono ?_; rintro e w1 ⟨rfl, rfl⟩)
  refine bodyPost_ret (v := .tuple #[ansV 0 false none 0 0 none 0 0, .bool false]) (by simp [results, Try.results19, go_sem]) rfl ⟨none, HI.out, none, 0, 0, none, 0, 0, rfl, ⟨rfl, .inl ⟨rfl, rfl⟩⟩, ⟨rfl, .inl ⟨rfl, rfl⟩⟩, by omega, by omega, ?_⟩
  first | exact bel1 _ _ | exact ((((bel1 _ _).setCell (Nat.le_refl _) _).setCell (Nat.le_refl _) _).setCell (Nat.le_refl _) _).setCell (Nat.le_refl _) _

set_option maxRecDepth 100000 in
set_option maxHeartbeats 4000000 in
theorem iReadAnswer_in (m : Nat) (hm1 : 1 ≤ m) (hm2 : m ≤ 12) (s : ByteArray) (hs : s.size ≤ 1048576) (w : World) :
    Calls Try.prog 19 #[.int .i64 (m : Int), .string s] w fun e w' => ∃ r, IsA (m : Int) s.data.toList r ∧ AnsAns w w' e r := by
  have r1 : decide (1 ≤ (m : Int) ∧ (m : Int) ≤ 12) = true := by simp; omega
  have HV := hideIt vertsOk_any
  have HN : Hid (∀ W G st, RdAt True 69 W G s st → Calls Try.prog 42 #[.pointer (some ⟨G, 0, none⟩)] W fun e w' => e = .returned (.int .i64 (((nx pN st).1 : Nat) : Int)) ∧ RdAt True 69 w' G s (nx pN st).2 ∧ W.grownBy w' (some G)) := fun W G st h => rNumber_any s hs W G st h
  have HF : Hid (∀ W G st, RdAt True 69 W G s st → Calls Try.prog 53 #[.pointer (some ⟨G, 0, none⟩)] W fun e w' => e = .returned (.bool (decide ((nx pO st).1 = 1))) ∧ RdAt True 69 w' G s (flSt st) ∧ W.grownBy w' (some G)) := fun W G st h => rFlag_any s hs W G st h
  have HE : Hid (∀ W G st, RdAt True 69 W G s st → Calls Try.prog 44 #[.pointer (some ⟨G, 0, none⟩)] W fun e w' => ∃ v, e = .returned v ∧ EdAns True 69 W w' G s st v 66) := fun W G st h => rEdges_any s hs W G st h
  have HL : Hid (∀ W G st, RdAt True 69 W G s st → Calls Try.prog 54 #[.pointer (some ⟨G, 0, none⟩), .int .i64 (m : Int)] W fun e w' => ∃ (a : Option Addr) (ls : List Int) (st' : Option (List UInt8)), e = .returned (.slice a m m) ∧ w'.ownsRow W.heap.size 3 1 (.slice a m m) m (ic ls) ∧ LR m st ls st' ∧ RdAt True 69 w' G s st' ∧ W.grownBy w' (some G)) := fun W G st h => rLabels_any m hm2 s hs W G st h
  have HD : Hid (∀ W G st, RdAt True 69 W G s st → Calls Try.prog 45 #[.pointer (some ⟨G, 0, none⟩)] W fun e w' => e = .returned (.bool (endB st)) ∧ RdAt True 69 w' G s st ∧ W.grownBy w' (some G)) := fun W G st h => rEnded_any s W G st h
  have R0 : RA True 69 w (((w.alloc (.cells (ac 0 false none 0 0 none 0 0) 37)).alloc (.cells #[.string s, .int .i64 0, .bool false] 69)).alloc (.cells (ac 0 false none 0 0 none 0 0) 37)) (w.heap.size + 1) (w.heap.size + 2) w.heap.size s (some s.data.toList) 0 false none 0 0 none 0 0 := by
    refine ⟨⟨0, false, ?_, by omega, .inl ⟨rfl, by simp [from_]⟩⟩, ?_, ?_, bel3 w _ _ _, by omega, by omega⟩
    · rw [Below.heap_alloc _ _ _ (by simp)]
      have := heap_alloc_new (w.alloc (.cells (ac 0 false none 0 0 none 0 0) 37)) (.cells #[.string s, .int .i64 0, .bool false] 69)
      simpa using this
    · have := heap_alloc_new ((w.alloc (.cells (ac 0 false none 0 0 none 0 0) 37)).alloc (.cells #[.string s, .int .i64 0, .bool false] 69)) (.cells (ac 0 false none 0 0 none 0 0) 37)
      simpa using this
    · rw [Below.heap_alloc _ _ _ (by simp; omega), Below.heap_alloc _ _ _ (by simp)]
      exact heap_alloc_new w _
  go_enter Try.func19, Try.ntmps19
  go_wp2_with (first | (go_at_call 48; refine (HV.out _ _).mono ?_; rintro e w1 ⟨rfl, rfl⟩) | (go_at_call 42; refine (HN.out _ _ _ R0.rd).mono ?_; rintro e w1 ⟨rfl, hr1, hg1⟩; refine Hid.out ?_))
  refine (show ∀ {p : Prop}, p → Hid p from fun h => h) ?_
  have R1 := R0.call hr1 hg1
  clear R0 hr1 hg1
  obtain ⟨c0, _, _, _⟩ := R1.cells
  have f0 := R1.frozen 0
  have R2 := R1.set 0 (.int .i64 (((nx pN (some s.data.toList)).1 : Nat) : Int)) rfl
  clear R1
  go_wp2_with (go_at_call 53; refine (HF.out _ _ _ R2.rd).mono ?_; rintro e w3 ⟨rfl, hr3, hg3⟩; refine Hid.out ?_)
  refine (show ∀ {p : Prop}, p → Hid p from fun h => h) ?_
  have R3 := R2.call hr3 hg3
  clear R2 hr3 hg3 c0 f0
  generalize hq2 : decide ((nx pO (nx pN (some s.data.toList)).2).1 = 1) = ok at *
  obtain ⟨_, c1, _, _⟩ := R3.cells
  have f1 := R3.frozen 1
  have R4 := R3.set 1 (.bool ok) rfl
  clear R3
  go_wp2_with (go_at_call 44; refine (HE.out _ _ _ R4.rd).mono ?_; rintro e w5 ⟨v5, rfl, hA5⟩; refine Hid.out ?_)
  refine (show ∀ {p : Prop}, p → Hid p from fun h => h) ?_
  obtain ⟨a, k, c, es, st3, rfl, hk, hby, hown, hER, hr5, hg5⟩ := ed_es hA5
  have R5 := R4.call hr5 hg5
  have hz4 := R4.lt
  have hge4 := R4.bel.size
  clear R4 hr5 hg5 hA5 c1 f1
  obtain ⟨_, _, c2, _⟩ := R5.cells
  have f2 := R5.frozen 2
  have R6 := R5.set 2 (.slice a k c) rfl
  have own6 := own_two (W := w5.setCell ⟨w.heap.size + 2, 2, none⟩ (.slice a k c)) hown (fun g hg _ => heap_setCell_other _ _ _ _ (by intro h; simp at h; have := hz4.2.1; omega))
  generalize (w3.setCell ⟨w.heap.size + 2, 1, none⟩ (.bool ok)).heap.size = B at own6 hz4 hge4
  clear R5 hown
  go_wp2_with (go_at_call 54; refine (HL.out _ _ _ R6.rd).mono ?_; rintro e w7 ⟨a', ls, st4, rfl, hown7, hLR, hr7, hg7⟩; refine Hid.out ?_)
  refine (show ∀ {p : Prop}, p → Hid p from fun h => h) ?_
  have R7 := R6.call hr7 hg7
  have own7 := own_two (W := w7) own6 (fun g hg hlt => hg7.block g hlt (by simp; have := hz4.1; omega))
  have hz6 := R6.lt
  have hge6 := R6.bel.size
  clear R6 hr7 hg7 c2 f2 own6
  obtain ⟨_, _, _, c3⟩ := R7.cells
  have f3 := R7.frozen 3
  have R8 := R7.set 3 (.slice a' m m) rfl
  have own8 := own_two (W := w7.setCell ⟨w.heap.size + 2, 3, none⟩ (.slice a' m m)) own7 (fun g hg _ => heap_setCell_other _ _ _ _ (by intro h; simp at h; have := hz4.2.1; omega))
  have own8' := own_two (W := w7.setCell ⟨w.heap.size + 2, 3, none⟩ (.slice a' m m)) hown7 (fun g hg _ => heap_setCell_other _ _ _ _ (by intro h; simp at h hg; have := hz6.2.1; simp at this; omega))
  have hz6' : w.heap.size + 1 < (w5.setCell ⟨w.heap.size + 2, 2, none⟩ (.slice a k c)).heap.size ∧ w.heap.size + 2 < (w5.setCell ⟨w.heap.size + 2, 2, none⟩ (.slice a k c)).heap.size ∧ w.heap.size < (w5.setCell ⟨w.heap.size + 2, 2, none⟩ (.slice a k c)).heap.size := hz6
  generalize (w5.setCell ⟨w.heap.size + 2, 2, none⟩ (.slice a k c)).heap.size = B' at own8' hz6' hge6
  generalize hq1 : (((nx pN (some s.data.toList)).1 : Nat) : Int) = num at *
  have HCa : Hid (Ca m s.data.toList ⟨num, ok, es, ls⟩ st4) := by
    refine ⟨_, flSt (nx pN (some s.data.toList)).2, st3, st4, hq1.symm, rfl, hq2.symm, ?_, hER, hLR, rfl⟩
    unfold flSt
    by_cases h1 : 1 < (nx pO (nx pN (some s.data.toList)).2).1
    · rw [if_pos h1]; exact .inr ⟨rfl, h1⟩
    · rw [if_neg h1]; exact .inl rfl
  have HFl : Hid (st4 = some [] → (nx pO (nx pN (some s.data.toList)).2).1 ≤ 1) := fun h => by subst h; exact flag_ok hER hLR
  have HO8 := hideIt own8
  have HO8' := hideIt own8'
  clear R7 own7 hown7 own8 own8' hER hLR hq1 hq2 hz6
  go_wp2_with (go_at_call 45; refine (HD.out _ _ _ R8.rd).mono ?_; rintro e w9 ⟨rfl, hr9, hg9⟩; refine Hid.out ?_)
  refine (show ∀ {p : Prop}, p → Hid p from fun h => h) ?_
  have R9 := R8.call hr9 hg9
  have own9 : Hid (w9.ownsRow B 78 2 (.slice a k c) k (ecells es)) := own_two HO8.out (fun g hg hlt => hg9.block g hlt (by simp; have := hz4.1; omega))
  have own9' : Hid (w9.ownsRow B' 3 1 (.slice a' m m) m (ic ls)) := own_two HO8'.out (fun g hg hlt => hg9.block g hlt (by simp; have := hz6'.1; omega))
  clear R8 hr9 hg9 HO8 HO8' c3 f3
  obtain ⟨q0, q1, q2, q3⟩ := R9.cells
  obtain ⟨r0, r1', r2, r3⟩ := R9.cellsR
  have g0 := R9.frozenR 0
  have g1 := R9.frozenR 1
  have g2 := R9.frozenR 2
  have g3 := R9.frozenR 3
  cases hE : endB st4 with
  | false =>
    have HI : Hid (IsA (m : Int) s.data.toList none) := IsA.no rfl HCa.out (.inl (fun h => by rw [(endB_iff st4).2 h] at hE; cases hE))
    have HB := hideIt R9.bel
    clear R9 hE q0 q1 q2 q3
    go_wp2
    refine bodyPost_ret (v := .tuple #[ansV 0 false none 0 0 none 0 0, .bool false]) (by simp [results, Try.results19, go_sem, r0, r1', r2, r3]) rfl ⟨none, HI.out, none, 0, 0, none, 0, 0, rfl, ⟨rfl, .inl ⟨rfl, rfl⟩⟩, ⟨rfl, .inl ⟨rfl, rfl⟩⟩, by omega, by omega, ?_⟩
    exact (((HB.out.setCell (Nat.le_refl _) _).setCell (Nat.le_refl _) _).setCell (Nat.le_refl _) _).setCell (Nat.le_refl _) _
  | true =>
    have hE := (endB_iff st4).1 hE
    have hfl := HFl.out hE
    subst hE
    have HOk := hideIt (iAnswerOk_any (m : Int) num ok es ls k a c (by omega) m a' m (by omega) w9 (Es_of_own own9.out) (Is_of_own own9'.out))
    unfold ansV at HOk
    cases hB : aB (m : Int) ⟨num, ok, es, ls⟩ with
    | false =>
      rw [hB] at HOk
      have HI : Hid (IsA (m : Int) s.data.toList none) := IsA.no rfl HCa.out (.inr hB)
      have HR := hideIt R9
      clear R9 hB r0 r1' r2 r3 g0 g1 g2 g3 hfl
      go_wp2_with (go_at_call 21; refine HOk.out.mono ?_; rintro e w10 ⟨rfl, hb10⟩; refine Hid.out ?_)
      refine (show ∀ {p : Prop}, p → Hid p from fun h => h) ?_
      have R10 := HR.out.below hb10
      obtain ⟨r0, r1', r2, r3⟩ := R10.cellsR
      have g0 := R10.frozenR 0
      have g1 := R10.frozenR 1
      have g2 := R10.frozenR 2
      have g3 := R10.frozenR 3
      have HB := hideIt R10.bel
      clear R10 q0 q1 q2 q3 hb10
      go_wp2
      refine bodyPost_ret (v := .tuple #[ansV 0 false none 0 0 none 0 0, .bool false]) (by simp [results, Try.results19, go_sem, r0, r1', r2, r3]) rfl ⟨none, HI.out, none, 0, 0, none, 0, 0, rfl, ⟨rfl, .inl ⟨rfl, rfl⟩⟩, ⟨rfl, .inl ⟨rfl, rfl⟩⟩, by omega, by omega, ?_⟩
      exact (((HB.out.setCell (Nat.le_refl _) _).setCell (Nat.le_refl _) _).setCell (Nat.le_refl _) _).setCell (Nat.le_refl _) _
    | true =>
      rw [hB] at HOk
      have HI : Hid (IsA (m : Int) s.data.toList (some ⟨num, ok, es, ls⟩)) := IsA.yes HCa.out hB hfl
      have HR := hideIt R9
      clear R9 hB r0 r1' r2 r3 g0 g1 g2 g3 hfl
      go_wp2_with (go_at_call 21; refine HOk.out.mono ?_; rintro e w10 ⟨rfl, hb10⟩; refine Hid.out ?_)
      refine (show ∀ {p : Prop}, p → Hid p from fun h => h) ?_
      have R10 := HR.out.below hb10
      have own10 : Hid (w10.ownsRow B 78 2 (.slice a k c) k (ecells es)) := own_two own9.out (fun g _ hlt => hb10.block g hlt)
      have own10' : Hid (w10.ownsRow B' 3 1 (.slice a' m m) m (ic ls)) := own_two own9'.out (fun g _ hlt => hb10.block g hlt)
      clear q0 q1 q2 q3
      obtain ⟨q0, q1, q2, q3⟩ := R10.cells
      obtain ⟨r0, r1', r2, r3⟩ := R10.cellsR
      have g0 := R10.frozenR 0
      have g1 := R10.frozenR 1
      have g2 := R10.frozenR 2
      have g3 := R10.frozenR 3
      have HB := hideIt R10.bel
      clear R10 hb10
      go_wp2
      refine bodyPost_ret (v := .tuple #[ansV num ok a k c a' m m, .bool true]) (by simp [results, Try.results19, go_sem, r0, r1', r2, r3]) rfl ⟨some ⟨num, ok, es, ls⟩, HI.out, a, k, c, a', m, m, rfl, ?_, ?_, by omega, by omega, ?_⟩
      · refine own_mono (B := B) ?_ hge4
        refine own_two own10.out (fun g hg hlt => ?_)
        have hne : g ≠ w.heap.size := by have := hz4.2.2; omega
        rw [heap_setCell_other _ _ _ _ (by exact hne), heap_setCell_other _ _ _ _ (by exact hne), heap_setCell_other _ _ _ _ (by exact hne), heap_setCell_other _ _ _ _ (by exact hne)]
      · refine own_mono (B := B') ?_ hge6
        refine own_two own10'.out (fun g hg hlt => ?_)
        have hne : g ≠ w.heap.size := by have := hz6'.2.2; omega
        rw [heap_setCell_other _ _ _ _ (by exact hne), heap_setCell_other _ _ _ _ (by exact hne), heap_setCell_other _ _ _ _ (by exact hne), heap_setCell_other _ _ _ _ (by exact hne)]
      · exact (((HB.out.setCell (Nat.le_refl _) _).setCell (Nat.le_refl _) _).setCell (Nat.le_refl _) _).setCell (Nat.le_refl _) _

theorem iReadAnswer_any (n : Int) (s : ByteArray) (hs : s.size ≤ 1048576) (w : World) :
    Calls Try.prog 19 #[.int .i64 n, .string s] w fun e w' => ∃ r, IsA n s.data.toList r ∧ AnsAns w w' e r := by
  by_cases h : 1 ≤ n ∧ n ≤ 12
  · obtain ⟨m, rfl⟩ := Int.eq_ofNat_of_zero_le (show 0 ≤ n by omega)
    exact iReadAnswer_in m (by omega) (by omega) s hs w
  · exact iReadAnswer_out n s h w
end Go.Proofs.Ytkhhagjcmbbdpaa
namespace Go.Proofs.Ytkhhagjcmbbdpaa
open Go.RowKit Vt

theorem l01Var_at (x : Int) (N : Nat) (hx : (N : Int) = x) (hN : N ≤ 1000000000) (w : World) :
    Calls Try.prog 75 #[.int .i64 x] w fun e w' => e = .returned (.string ⟨(vt N).toArray⟩) ∧ Below w.heap.size w w' := by
  subst hx
  exact l01Var_any N hN w

theorem Rd.cut {s : ByteArray} {a k u m : Nat} (h : Rd s a k u m) (hk : a + k < s.size) :
    (s.extract a ((a : Int) + (k : Int) + 1).toNat).toList = (from_ s a).take k ++ [s[a + k]] ∧ val ((from_ s a).take k ++ [s[a + k]]) = m + (s[a + k]).toNat % 128 * u := by
  have hl : ((from_ s a).take k).length = k := by simp [from_length]; omega
  have e : ((a : Int) + (k : Int) + 1).toNat = a + (k + 1) := by omega
  constructor
  · rw [Lib.toList_data, Lib.extract_data, e, Nat.add_sub_cancel_left, ← from_snoc s a k hk]
    rfl
  · rw [val_snoc, hl, ← h.unit, ← h.num]

theorem Rd.last_neq {s : ByteArray} {a k u m : Nat} (h : Rd s a k u m) (hk : a + k < s.size) (h5 : k < 5) (hb : (s[a + k]).toNat < 128)
    (ht : (!vt (m + (s[a + k]).toNat % 128 * u) == (s.extract a ((a : Int) + (k : Int) + 1).toNat).toList) = true) : rv a (from_ s a) = none := by
  have hl : ((from_ s a).take k).length = k := by simp [from_length]; omega
  have hc := h.cut hk
  rw [hc.1, ← hc.2] at ht
  have hv := vt_val _ h.bigs (s[a + k]) (by simp [big]; omega)
  refine h.last_none hk h5 hb (.inl ?_)
  rw [hl] at hv
  have hne : ¬ vt (val ((from_ s a).take k ++ [s[a + k]])) = (from_ s a).take k ++ [s[a + k]] := by simpa using ht
  exact Decidable.of_not_not (fun hx => hne (hv.2 hx))

theorem Rd.last_eq {s : ByteArray} {a k u m : Nat} (h : Rd s a k u m) (hk : a + k < s.size) (h5 : k < 5) (hb : (s[a + k]).toNat < 128) (hn : m + (s[a + k]).toNat % 128 * u ≤ 1000000000)
    (ht : (!vt (m + (s[a + k]).toNat % 128 * u) == (s.extract a ((a : Int) + (k : Int) + 1).toNat).toList) = false) : rv a (from_ s a) = some (m + (s[a + k]).toNat % 128 * u, a + k + 1) := by
  have hl : ((from_ s a).take k).length = k := by simp [from_length]; omega
  have hc := h.cut hk
  rw [hc.1, ← hc.2] at ht
  have hv := vt_val _ h.bigs (s[a + k]) (by simp [big]; omega)
  refine h.last_some hk h5 hb ?_ hn
  rw [hl] at hv
  have heq : vt (val ((from_ s a).take k ++ [s[a + k]])) = (from_ s a).take k ++ [s[a + k]] := by simpa using ht
  exact hv.1 heq

theorem sReadVar_out (s : ByteArray) (_hs : s.size ≤ 1048576) (a : Int) (h : a < 0 ∨ s.size < a) (w : World) :
    Calls Try.prog 94 #[.string s, .int .i64 a] w fun e w' => e = .returned (rvV none) ∧ w' = w := by
  unfold rvV
  go_enter Try.func94, Try.ntmps94
  go_wp2_with (go_at_call 46; refine (l01In_no _ _ _ (by omega) _).mono ?_; rintro e w' ⟨rfl, rfl⟩)
  go_ret3
  exact ⟨rfl, rfl⟩

set_option maxHeartbeats 1000000 in
set_option maxRecDepth 100000 in
theorem sReadVar_in (s : ByteArray) (hs : s.size ≤ 1048576) (a : Nat) (h : a ≤ s.size) (w : World) :
    Calls Try.prog 94 #[.string s, .int .i64 (a : Int)] w fun e w' => e = .returned (rvV (rv a (from_ s a))) ∧ Below w.heap.size w w' := by
  go_enter Try.func94, Try.ntmps94
  go_wp2_with (go_at_call 46; refine (l01In_yes _ _ _ (by omega) (by omega) _).mono ?_; rintro e w' ⟨rfl, rfl⟩)
  go_loop [7, 8, 9] (fun n u i => ∃ k U m : Nat, n = .int .i64 m ∧ i = .int .i64 ((a + k : Nat) : Int) ∧ u = .int .i64 U ∧ Rd s a k U m)
    (fun _ _ i => s.size - (intOf i).toNat)
  case atStart => exact ⟨0, 1, 0, rfl, rfl, rfl, Rd.start s a h⟩
  case round =>
    obtain ⟨k, U, m, rfl, rfl, rfl, hr⟩ := hrel
    have hbd := hr.bounds
    have hk5 := hr.k5
    have hle := hr.le
    have hmU : m < U := hbd.2.2.2.2
    by_cases hlt : a + k < s.size
    · by_cases h5 : k < 5
      · have hU : U ≤ 268435456 := hbd.2.2.1 h5
        have hq := mul_bounds (s[a + k]).toNat U hU
        have hc := UInt8.toNat_lt (s[a + k])
        clear hbd
        by_cases hb : (s[a + k]).toNat < 128
        · by_cases hn : (m : Int) + ((s[a + k]).toNat : Int) % 128 * (U : Int) ≤ 1000000000
          · have d3 : decide ((1000000000 : Int) < (m : Int) + ((s[a + k]).toNat : Int) % 128 * (U : Int)) = false := by simp; omega
            have i1 : (0 : Int) ≤ (a : Int) := by omega
            have i2 : (a : Int) ≤ (a : Int) + (k : Int) + 1 := by omega
            have i3 : (a : Int) + (k : Int) + 1 ≤ (s.size : Int) := by omega
            have i4 : IntKind.i64.wrap ((a : Int) + (k : Int) + 1) = (a : Int) + (k : Int) + 1 := by rw [IntKind.wrap_i64]; omega
            have hN : m + (s[a + k]).toNat % 128 * U ≤ 1000000000 := by rw [← int_num] at hn; omega
            go_wp2
            go_region_held3 (fun _ => True) (trivial) ((go_at_call 75; refine (l01Var_at _ (m + (s[a + k]).toNat % 128 * U) (int_num _ _ _) hN _).mono ?_; rintro e w1 ⟨rfl, hb1⟩))
            go_wp2
            · have HO := hr.last_neq hlt h5 hb ‹_›
              go_ret3
              exact ⟨by rw [HO]; rfl, (Below.refl _ _).drew.trans hb1⟩
            · have HO := hr.last_eq hlt h5 hb hN ‹_›
              go_ret3
              exact ⟨by rw [HO]; simp [rvV], (Below.refl _ _).drew.trans hb1⟩
          · have d3 : decide ((1000000000 : Int) < (m : Int) + ((s[a + k]).toNat : Int) % 128 * (U : Int)) = true := by simp; omega
            have HO : Hid _ := hr.last_none hlt h5 hb (.inr (by rw [← int_num] at hn; omega))
            go_wp2
            go_quiet (fail)
            go_wp2
            go_ret3
            exact ⟨by rw [HO.out]; rfl, below_drewN (Below.refl _ _) _⟩
        · have HR := hr.step hlt h5 (by omega)
          go_wp2
          go_round
          case rel => exact ⟨k + 1, U * 128, m + (s[a + k]).toNat % 128 * U, by simp, by go_num, by simp, HR⟩
          case measure => simp [intOf]; omega
      · have HO : Hid _ := hr.out (by omega)
        clear hbd
        go_wp2
        go_ret3
        exact ⟨by rw [HO.out]; rfl, Below.refl _ _⟩
    · have HO : Hid _ := hr.out (by omega)
      clear hbd
      go_wp2
      go_ret3
      exact ⟨by rw [HO.out]; rfl, Below.refl _ _⟩
end Go.Proofs.Ytkhhagjcmbbdpaa
namespace Go.Proofs.Ytkhhagjcmbbdpaa
open Go.RowKit Vt

theorem RdAt.below {e : Prop} {t : TypeId} {w w' : World} {G : Nat} {s : ByteArray} {st : Option (List UInt8)} (h : RdAt e t w G s st) (hb : Below w.heap.size w w') : RdAt e t w' G s st := by
  have hl := h.lt
  obtain ⟨p, f, hG, rest⟩ := h
  exact ⟨p, f, by rw [hb.block G hl]; exact hG, rest⟩

set_option maxRecDepth 100000 in
set_option maxHeartbeats 4000000 in
theorem l09Var_any (s : ByteArray) (hs : s.size ≤ 1048576) (w : World) (G : Nat) (st : Option (List UInt8)) (h : RdAt False 90 w G s st) :
    Calls Try.prog 63 #[.pointer (some ⟨G, 0, none⟩)] w fun e w' => e = .returned (.int .i64 (((nx pN st).1 : Nat) : Int)) ∧ RdAt False 90 w' G s (nx pN st).2 ∧ w.grownBy w' (some G) := by
  have hGl := h.lt
  obtain ⟨p, f, hG, hp, hf⟩ := h
  have c0 : w.cell? ⟨G, 0, none⟩ = some (.string s) := by rw [cell_of_row w G 0 _ _ _ hG]; rfl
  have c1 : w.cell? ⟨G, 1, none⟩ = some (.int .i64 (p : Int)) := by rw [cell_of_row w G 1 _ _ _ hG]; rfl
  have HV : Hid (Calls Try.prog 94 #[.string s, .int .i64 (p : Int)] w.drew fun e w' => e = .returned (rvV (rv p (from_ s p))) ∧ w'.heap[G]? = some (.cells #[.string s, .int .i64 (p : Int), .bool f] 90 (0, 0)) ∧ w.grownBy w' (some G) ∧
      w'.cell? ⟨G, 0, none⟩ = some (.string s) ∧ w'.cell? ⟨G, 1, none⟩ = some (.int .i64 (p : Int)) ∧ w'.cell? ⟨G, 2, none⟩ = some (.bool f) ∧ w'.frozen? ⟨G, 1, none⟩ = false ∧ w'.frozen? ⟨G, 2, none⟩ = false) :=
    (sReadVar_in s hs p hp w.drew).mono fun _ w' ⟨he, hb⟩ => by
      have hG' : w'.heap[G]? = some (.cells #[.string s, .int .i64 (p : Int), .bool f] 90 (0, 0)) := by rw [hb.block G hGl]; exact hG
      exact ⟨he, hG', gr_trans (gr_drew w _) (gr_below hb _), by rw [cell_of_row w' G 0 _ _ _ hG']; rfl, by rw [cell_of_row w' G 1 _ _ _ hG']; rfl, by rw [cell_of_row w' G 2 _ _ _ hG']; rfl, frozen_of_row w' G 1 _ _ hG', frozen_of_row w' G 2 _ _ hG'⟩
  clear hG
  cases hff : f with
  | true =>
    rw [hff] at HV
    have HS : Hid (nx pN st = (0, none)) := by
      show _ = _
      rcases hf with ⟨h1, _⟩ | ⟨_, h2, _⟩
      · rw [hff] at h1; cases h1
      · rw [h2]; rfl
    have HP := hideIt hp
    generalize hrv : rvV (rv p (from_ s p)) = RV at HV
    have HT : Hid (∃ x y b, RV = .tuple #[.int .i64 x, .int .i64 y, .bool b]) := by
      rw [← hrv]
      cases rv p (from_ s p) with
      | none => exact ⟨_, _, _, rfl⟩
      | some q => exact ⟨_, _, _, rfl⟩
    obtain ⟨x, y, b, rfl⟩ := HT.out
    clear hf hrv HT
    go_enter Try.func63, Try.ntmps63
    go_wp2
    go_region_held3 (fun u => u.cell? ⟨G, 0, none⟩ = some (.string s) ∧ u.cell? ⟨G, 1, none⟩ = some (.int .i64 (p : Int))) (first | exact ⟨d0, d1⟩ | exact ⟨c0, c1⟩)
      ((go_at_call 94; refine HV.out.mono ?_; rintro e w1 ⟨rfl, hg1, hr1, d0, d1, d2, f1, f2⟩))
    go_wp2
    go_ret
    rw [HS.out]
    exact ⟨rfl, ⟨p, true, st2 hg1, HP.out, .inr ⟨rfl, rfl, fun h => h.elim⟩⟩, gr_trans hr1 (gr_set _ _ _ _)⟩
  | false =>
    rw [hff] at HV
    have hst : st = some (from_ s p) := by
      rcases hf with ⟨_, h2⟩ | ⟨h1, _, _⟩
      · exact h2
      · rw [hff] at h1; cases h1
    subst hst
    have HP := hideIt hp
    clear hf
    cases hr : rv p (from_ s p) with
    | none =>
      rw [hr] at HV
      have HS := hideIt (nx_rv_none hr)
      unfold rvV at HV
      clear hr
      go_enter Try.func63, Try.ntmps63
      go_wp2
      go_region_held3 (fun u => u.cell? ⟨G, 0, none⟩ = some (.string s) ∧ u.cell? ⟨G, 1, none⟩ = some (.int .i64 (p : Int))) (first | exact ⟨d0, d1⟩ | exact ⟨c0, c1⟩)
        ((go_at_call 94; refine HV.out.mono ?_; rintro e w1 ⟨rfl, hg1, hr1, d0, d1, d2, f1, f2⟩))
      go_wp2
      go_ret
      rw [HS.out]
      exact ⟨rfl, ⟨p, true, st2 hg1, HP.out, .inr ⟨rfl, rfl, fun h => h.elim⟩⟩, gr_trans hr1 (gr_set _ _ _ _)⟩
    | some q =>
      obtain ⟨m, j⟩ := q
      rw [hr] at HV
      have HS := hideIt (nx_rv_some hp hr)
      unfold rvV at HV
      clear hr
      go_enter Try.func63, Try.ntmps63
      go_wp2
      go_region_held3 (fun u => u.cell? ⟨G, 0, none⟩ = some (.string s) ∧ u.cell? ⟨G, 1, none⟩ = some (.int .i64 (p : Int))) (first | exact ⟨d0, d1⟩ | exact ⟨c0, c1⟩)
        ((go_at_call 94; refine HV.out.mono ?_; rintro e w1 ⟨rfl, hg1, hr1, d0, d1, d2, f1, f2⟩))
      go_wp2
      go_ret
      rw [HS.out.1]
      exact ⟨rfl, ⟨j, false, st1 hg1, HS.out.2.1, .inl ⟨rfl, rfl⟩⟩, gr_trans hr1 (gr_set _ _ _ _)⟩

/-- the text of one byte -/
def oneAt (s : ByteArray) (p : Nat) : ByteArray := s.extract p (p + 1)
theorem oneAt_size (s : ByteArray) (p : Nat) (h : p < s.size) : (oneAt s p).size = 1 := by unfold oneAt; rw [ByteArray.size_extract]; omega
theorem oneAt_is (s : ByteArray) (p : Nat) (h : p < s.size) (h1 : 0 < (oneAt s p).size) : (oneAt s p)[0] = s[p] := by
  have h2 : 0 < (s.extract p (p + 1)).size := h1
  have h3 : (s.extract p (p + 1))[0] = s[p] := by rw [ByteArray.getElem_extract]; simp
  exact h3

set_option maxRecDepth 100000 in
set_option maxHeartbeats 4000000 in
theorem l09Take_any (s : ByteArray) (hs : s.size ≤ 1048576) (w : World) (G : Nat) (st : Option (List UInt8)) (h : RdAt False 90 w G s st) :
    Calls Try.prog 95 #[.pointer (some ⟨G, 0, none⟩), .int .i64 1] w fun e w' => ∃ S : ByteArray, e = .returned (.string S) ∧ ((nx pO st).2 ≠ none → S.size = 1 ∧ ∀ h : 0 < S.size, (S[0]).toNat = (nx pO st).1) ∧ RdAt False 90 w' G s (nx pO st).2 ∧ w.grownBy w' (some G) := by
  obtain ⟨p, f, hG, hp, hf⟩ := h
  have c0 : w.cell? ⟨G, 0, none⟩ = some (.string s) := by rw [cell_of_row w G 0 _ _ _ hG]; rfl
  have c1 : w.cell? ⟨G, 1, none⟩ = some (.int .i64 (p : Int)) := by rw [cell_of_row w G 1 _ _ _ hG]; rfl
  have c2 : w.cell? ⟨G, 2, none⟩ = some (.bool f) := by rw [cell_of_row w G 2 _ _ _ hG]; rfl
  have f1 : w.frozen? ⟨G, 1, none⟩ = false := frozen_of_row w G 1 _ _ hG
  have f2 : w.frozen? ⟨G, 2, none⟩ = false := frozen_of_row w G 2 _ _ hG
  have HG := hideIt hG
  have HP := hideIt hp
  clear hG
  cases hff : f with
  | true =>
    rw [hff] at c2 HG
    have HS : Hid (nx pO st = (0, none)) := by
      show _ = _
      rcases hf with ⟨h1, _⟩ | ⟨_, h2, _⟩
      · rw [hff] at h1; cases h1
      · rw [h2]; rfl
    clear hf
    go_enter Try.func95, Try.ntmps95
    go_wp2
    go_quiet (fail)
    go_wp2
    go_ret
    rw [HS.out]
    exact ⟨_, rfl, fun h => absurd rfl h, ⟨p, true, st2 HG.out, HP.out, .inr ⟨rfl, rfl, fun h => h.elim⟩⟩, gr_trans (gr_drews _ _ _) (gr_set _ _ _ _)⟩
  | false =>
    rw [hff] at c2 HG
    have hst : st = some (from_ s p) := by
      rcases hf with ⟨_, h2⟩ | ⟨h1, _, _⟩
      · exact h2
      · rw [hff] at h1; cases h1
    subst hst
    clear hf
    by_cases hlt : p < s.size
    · have HS := hideIt (nx_oct hlt)
      have d1 : decide ((s.size : Int) - (p : Int) < 1) = false := by simp; omega
      have w1 : IntKind.i64.wrap ((s.size : Int) - (p : Int)) = (s.size : Int) - (p : Int) := by rw [IntKind.wrap_i64]; omega
      have w2 : IntKind.i64.wrap ((p : Int) + 1) = (p : Int) + 1 := by rw [IntKind.wrap_i64]; omega
      have w3 : IntKind.i64.wrap ((p : Int) + 1 - 1) = (p : Int) := by rw [IntKind.wrap_i64]; omega
      have i1 : (0 : Int) ≤ (p : Int) := by omega
      have i2 : (p : Int) ≤ (p : Int) + 1 := by omega
      have i3 : (p : Int) + 1 ≤ (s.size : Int) := by omega
      have HX : Hid (s.extract p ((p : Int) + 1).toNat = oneAt s p) := by show _ = _; unfold oneAt; congr 1
      have HZ := hideIt (oneAt_size s p hlt)
      have HY := hideIt (oneAt_is s p hlt)
      go_enter Try.func95, Try.ntmps95
      go_wp2
      go_quiet (fail)
      go_wp2
      go_quiet (fail)
      go_wp2
      go_ret
      rw [HS.out]
      refine ⟨oneAt s p, ?_, fun _ => ⟨HZ.out, fun h => by rw [HY.out h]⟩, ⟨p + 1, false, ?_, by omega, .inl ⟨rfl, rfl⟩⟩, ?_⟩
      · rw [← HX.out]; rfl
      · exact st1 HG.out
      · exact gr_trans (gr_trans (gr_drews _ _ _) (gr_set _ _ _ _)) (gr_drews _ _ _)
    · obtain rfl : p = s.size := by omega
      have HS := hideIt (nx_oct_end s)
      have d1 : decide ((s.size : Int) - (s.size : Int) < 1) = true := by simp
      have w1 : IntKind.i64.wrap ((s.size : Int) - (s.size : Int)) = (s.size : Int) - (s.size : Int) := by rw [IntKind.wrap_i64]; omega
      go_enter Try.func95, Try.ntmps95
      go_wp2
      go_quiet (fail)
      go_wp2
      go_ret
      rw [HS.out]
      exact ⟨_, rfl, fun h => absurd rfl h, ⟨s.size, true, st2 HG.out, HP.out, .inr ⟨rfl, rfl, fun h => h.elim⟩⟩, gr_trans (gr_drews _ _ _) (gr_set _ _ _ _)⟩

set_option maxRecDepth 100000 in
set_option maxHeartbeats 4000000 in
theorem l09One_any (s : ByteArray) (hs : s.size ≤ 1048576) (w : World) (G : Nat) (st : Option (List UInt8)) (h : RdAt False 90 w G s st) :
    Calls Try.prog 64 #[.pointer (some ⟨G, 0, none⟩)] w fun e w' => e = .returned (.int .i64 (((nx pO st).1 : Nat) : Int)) ∧ RdAt False 90 w' G s (nx pO st).2 ∧ w.grownBy w' (some G) := by
  have HT := hideIt (l09Take_any s hs w G st h)
  clear h
  cases hn : (nx pO st).2 with
  | none =>
    have h0 : Hid ((((nx pO st).1 : Nat) : Int) = 0) := by
      show _ = _
      unfold nx at hn ⊢
      split at hn
      · rfl
      · split at hn
        · rfl
        · cases hn
    rw [hn] at HT
    clear hn
    go_enter Try.func64, Try.ntmps64
    go_wp2_with (go_at_call 95; refine HT.out.mono ?_; rintro e w1 ⟨S, rfl, _, ⟨p, f, hG, hp, hf⟩, hg⟩; refine Hid.out ?_)
    refine (show ∀ {p : Prop}, p → Hid p from fun h => h) ?_
    obtain rfl : f = true := by
      rcases hf with ⟨_, h2⟩ | ⟨h1, _, _⟩
      · cases h2
      · exact h1
    have c2 : w1.cell? ⟨G, 2, none⟩ = some (.bool true) := by rw [cell_of_row w1 G 2 _ _ _ hG]; rfl
    have HR : Hid (RdAt False 90 w1 G s none) := ⟨p, true, hG, hp, .inr ⟨rfl, rfl, fun h => h.elim⟩⟩
    clear hG hp hf
    go_wp2
    go_ret
    exact ⟨by rw [h0.out]; rfl, HR.out, hg⟩
  | some L =>
    rw [hn] at HT
    have h8 := nx_pO_le st
    clear hn
    go_enter Try.func64, Try.ntmps64
    go_wp2_with (go_at_call 95; refine HT.out.mono ?_; rintro e w1 ⟨S, rfl, hS, ⟨p, f, hG, hp, hf⟩, hg⟩; refine Hid.out ?_)
    refine (show ∀ {p : Prop}, p → Hid p from fun h => h) ?_
    obtain ⟨hS1, hS2⟩ := hS (by simp)
    obtain rfl : f = false := by
      rcases hf with ⟨h1, _⟩ | ⟨_, h2, _⟩
      · exact h1
      · cases h2
    have hst : some L = some (from_ s p) := by
      rcases hf with ⟨_, h2⟩ | ⟨_, h2, _⟩
      · exact h2
      · cases h2
    have c2 : w1.cell? ⟨G, 2, none⟩ = some (.bool false) := by rw [cell_of_row w1 G 2 _ _ _ hG]; rfl
    have HR : Hid (RdAt False 90 w1 G s (some L)) := ⟨p, false, hG, hp, .inl ⟨rfl, hst⟩⟩
    have hS0 : 0 < S.size := by omega
    have i1 : (0 : Int) < (S.size : Int) := by omega
    have HV := hideIt (hS2 hS0)
    clear hG hp hf hS hS2 hS1 hst
    go_wp2
    go_ret
    refine ⟨?_, HR.out, hg⟩
    have h9 := UInt8.toNat_lt S[0]
    have hw : wrap64 ((S[0]).toNat : Int) = (((nx pO st).1 : Nat) : Int) := by rw [← HV.out]; unfold wrap64; omega
    exact congrArg (fun z => Ending.returned (.int .i64 z)) hw
end Go.Proofs.Ytkhhagjcmbbdpaa
namespace Go.Proofs.Ytkhhagjcmbbdpaa
open Go.RowKit Vt

theorem own_ne {w : World} {B T S n G : Nat} {v : Value} {xs : List Value} (h : w.ownsRow B T S v n xs) (hG : G < B) : v.ownBlock = none ∨ v.ownBlock ≠ some G := by
  right
  intro hq
  have := h.lt G hq
  omega
theorem RdAt.row {e : Prop} {t : TypeId} {w w' : World} {G : Nat} {s : ByteArray} {st : Option (List UInt8)} {row : Option Nat} (h : RdAt e t w G s st) (hg : w.grownBy w' row) (hne : row ≠ some G) : RdAt e t w' G s st := by
  obtain ⟨p, f, hG, rest⟩ := h
  refine ⟨p, f, ?_, rest⟩
  rw [hg.block G (Array.getElem?_eq_some_iff.1 hG).1 (Ne.symm hne)]
  exact hG
theorem gr_own {w wr w1 : World} {G : Nat} {row : Option Nat} (h : w.grownBy wr (some G)) (hg : wr.grownBy w1 row) (hr : ∀ q, row = some q → w.heap.size ≤ q) : w.grownBy w1 (some G) := by
  refine ⟨hg.os.trans h.os, hg.tape.trans h.tape, hg.output.trans h.output, Nat.le_trans h.size hg.size, fun i hi hn => ?_⟩
  rw [hg.block i (Nat.lt_of_lt_of_le hi h.size) (fun e => by have := hr i e.symm; omega)]
  exact h.block i hi hn
theorem own_form {w : World} {B e s n : Nat} {v : Value} {xs : List Value} (h : w.ownsRow B e s v n xs) : ∃ a c, v = .slice a n c := by
  rcases h.2 with ⟨hv, h0⟩ | ⟨g, cap, cur, hv, _⟩
  · subst h0; exact ⟨none, 0, hv⟩
  · exact ⟨_, cap, hv⟩
theorem RdAt.flag {e : Prop} {t : TypeId} {w : World} {G : Nat} {s : ByteArray} {st : Option (List UInt8)} (h : RdAt e t w G s st) : w.cell? ⟨G, 2, none⟩ = some (.bool st.isNone) := by
  obtain ⟨p, f, hG, _, hf⟩ := h
  rw [cell_of_row w G 2 _ _ _ hG]
  rcases hf with ⟨rfl, rfl⟩ | ⟨rfl, rfl, _⟩ <;> rfl
theorem two_newE (w : World) (x y : Int) (t : TypeId) : ∀ j u, (ecells [(x, y)])[j]? = some u → (w.alloc (.cells #[.int .i64 x, .int .i64 y] t)).cell? ((⟨w.heap.size, 0, none⟩ : Addr).add j) = some u := by
  intro j u hj
  match j, hj with
  | 0, hj => simp [ecells, ecell] at hj; subst hj; simp [Addr.add]
  | 1, hj => simp [ecells, ecell] at hj; subst hj; simp [Addr.add]

/-- the end of the specification's loop -/
theorem ER_end {st : Option (List UInt8)} {L : List UInt8} {k i : Nat} {es : List EdgeV} {st' : Option (List UInt8)} (hn : nx pN st = (k, some L)) (hi : i ≤ k) (h : EdSt L i es st') (he : st' = none ∨ k ≤ i ∨ 100 ≤ i) : ER st es st' := by
  unfold ER
  rw [hn]
  dsimp only
  obtain ⟨h1, _, h3⟩ := h
  rcases he with rfl | he | he
  · have hl : L.length < 2 * i := by
      split at h3
      · assumption
      · simp at h3
    split
    · exact .inl rfl
    · rw [if_pos (by omega)]
  · obtain rfl : i = k := by omega
    split
    · right; omega
    · exact h3
  · rw [if_pos (by omega)]
    right; omega

set_option maxRecDepth 100000 in
set_option maxHeartbeats 4000000 in
theorem l09ReadEdges_any (s : ByteArray) (hs : s.size ≤ 1048576) (w : World) (G : Nat) (st : Option (List UInt8)) (h : RdAt False 90 w G s st) :
    Calls Try.prog 65 #[.pointer (some ⟨G, 0, none⟩)] w fun e w' => ∃ v, e = .returned v ∧ EdAns False 90 w w' G s st v 100 := by
  obtain ⟨i0, hi, hz0, hz1, hz2⟩ := info_parts infoIE
  have hGl := h.lt
  have HN := hideIt (l09Var_any s hs (w.alloc (.cells #[] 78)) G st (h.alloc _))
  have hle := nx_pN_le st
  cases hn : nx pN st with
  | mk k s1 =>
    rw [hn] at HN hle
    dsimp only at hle HN
    clear h
    have HO : Hid (∀ W st, RdAt False 90 W G s st → Calls Try.prog 64 #[.pointer (some ⟨G, 0, none⟩)] W fun e w' => e = .returned (.int .i64 (((nx pO st).1 : Nat) : Int)) ∧ RdAt False 90 w' G s (nx pO st).2 ∧ W.grownBy w' (some G)) := fun W st hW => l09One_any s hs W G st hW
    have HH := hideIt hn
    have HK : Hid (s1 = none → k = 0) := fun h => by
      subst h
      unfold nx at hn
      split at hn
      · simp at hn; omega
      · split at hn
        · simp at hn; omega
        · simp at hn
    clear hn
    go_enter Try.func65, Try.ntmps65
    go_wp2_with (go_at_call 63; refine HN.out.mono ?_; rintro e w1 ⟨rfl, hR, hg1⟩; refine Hid.out ?_)
    refine (show ∀ {p : Prop}, p → Hid p from fun h => h) ?_
    have hgw : w.grownBy w1 (some G) := gr_trans (World.grownBy_alloc w _ (some G)) hg1
    have hown1 : w1.ownsRow w.heap.size 78 2 (.slice (some ⟨w.heap.size, 0, none⟩) 0 0) 0 (ecells []) :=
      World.ownsRow.kept (World.ownsRow_made (base := w.heap.size) (e := 78) (size := 2) w #[] 0 (Nat.le_refl _) (by unfold maxLen; omega) rfl) hg1 (.inr (by simp [Value.ownBlock]; omega))
    have HOw := hideIt hown1
    have HR := hideIt hR
    have HGw := hideIt hgw
    clear HN hR hg1 hown1 hgw
    go_wp2
    go_loopw [3, 5] (fun v i wr => ∃ (j : Nat) (es : List EdgeV) (st : Option (List UInt8)), j ≤ k ∧ j ≤ 100 ∧ i = .int .i64 (j : Int) ∧ Hid (s1 = none ∧ es = [] ∧ st = none ∨ ∃ L, s1 = some L ∧ EdSt L j es st) ∧ wr.ownsRow w.heap.size 78 2 v j (ecells es) ∧ RdAt False 90 wr G s st ∧ w.grownBy wr (some G)) (fun _ i _ => k - (intOf i).toNat)
    case atStart =>
      refine ⟨0, [], s1, by omega, by omega, rfl, ?_, HOw.out, HR.out, HGw.out⟩
      show _ ∨ _
      cases s1 with
      | none => exact .inl ⟨rfl, rfl, rfl⟩
      | some L => exact .inr ⟨L, rfl, EdSt.start L⟩
    case round =>
      obtain ⟨j, es, st1, hj, hj2, rfl, hE, hown, hR, hg⟩ := hrel
      have c2 := hR.flag
      have hgz := hg.size
      have fin : Hid (st1 = none ∨ k ≤ j ∨ 100 ≤ j → ER st es st1 ∧ EB8 es) := fun he => by
        rcases hE.out with ⟨rfl, rfl, rfl⟩ | ⟨L, rfl, h2⟩
        · refine ⟨?_, fun e he => (by cases he)⟩
          unfold ER
          rw [HH.out]
        · exact ⟨ER_end HH.out hj h2 he, h2.2.1⟩
      by_cases hlt : j < k
      · have e1 : decide ((j : Int) < (k : Int)) = true := by simp; omega
        by_cases h100 : j < 100
        · have e2 : decide ((j : Int) < 100) = true := by simp; omega
          cases hst : st1 with
          | none =>
            rw [hst] at c2
            have HX := fin.out (.inl hst)
            have HX1 := hideIt HX
            have HOw1 := hideIt hown
            have HR1 := hideIt hR
            have HG1 := hideIt hg
            clear fin HX hown hR hg hE
            go_wp2
            go_ret
            obtain ⟨a, c, rfl⟩ := own_form HOw1.out
            exact ⟨_, rfl, ⟨⟨a, j, c, es, st1, rfl, hj2, HX1.out.2, HOw1.out, HX1.out.1, HR1.out⟩, HG1.out⟩⟩
          | some M =>
            rw [hst] at c2
            have HE2 : Hid (∃ L, s1 = some L ∧ EdSt L j es st1) := by
              show ∃ _, _
              rcases hE.out with ⟨h1, _, _⟩ | h2
              · have := HK.out h1
                omega
              · exact h2
            clear fin hE hst
            go_wp2_with (go_at_call 64; refine (HO.out _ st1 hR).mono ?_; rintro e w3 ⟨rfl, hR3, hg3⟩; refine Hid.out ?_)
            refine (show ∀ {p : Prop}, p → Hid p from fun h => h) ?_
            have hown3 := World.ownsRow.kept hown hg3 (own_ne hown hGl)
            have hG3 := gr_trans hg hg3
            have hz3 := hG3.size
            have hR4 := hR3.alloc (.cells #[.int .i64 (((nx pO st1).1 : Nat) : Int), .int .i64 0] 78)
            have hown4 := hown3.alloc (.cells #[.int .i64 (((nx pO st1).1 : Nat) : Int), .int .i64 0] 78)
            have hg4 := gr_alloc hG3 (.cells #[.int .i64 (((nx pO st1).1 : Nat) : Int), .int .i64 0] 78)
            have hlt3 : ∀ q, u3.ownBlock = some q → q < w3.heap.size := fun q hq => (hown3.lt q hq).2
            clear hown hR hg hg3 hR3 hown3 hG3 c2
            go_wp2_with (go_at_call 64; refine (HO.out _ _ hR4).mono ?_; rintro e w5 ⟨rfl, hR5, hg5⟩; refine Hid.out ?_)
            refine (show ∀ {p : Prop}, p → Hid p from fun h => h) ?_
            have hgg5 := gr_trans hg4 hg5
            have hz5 := hg5.size
            simp at hz5
            have hb5 : w5.heap[w3.heap.size]? = some (.cells #[.int .i64 (((nx pO st1).1 : Nat) : Int), .int .i64 0] 78 (0, 0)) := by
              rw [hg5.block w3.heap.size (by simp) (by simp; omega)]
              exact heap_alloc_new w3 _
            have d0 : w5.cell? ⟨w3.heap.size, 0, none⟩ = some (.int .i64 (((nx pO st1).1 : Nat) : Int)) := by rw [cell_of_row w5 _ 0 _ _ _ hb5]; rfl
            have d1 : w5.cell? ⟨w3.heap.size, 1, none⟩ = some (.int .i64 0) := by rw [cell_of_row w5 _ 1 _ _ _ hb5]; rfl
            have f1 : w5.frozen? ⟨w3.heap.size, 1, none⟩ = false := frozen_of_row w5 _ 1 _ _ hb5
            have hown5 := World.ownsRow.kept hown4 hg5 (own_ne hown4 hGl)
            have hown6 := World.ownsRow.kept hown5 (gr_set w5 w3.heap.size 1 (.int .i64 (((nx pO (nx pO st1).2).1 : Nat) : Int))) (.inr (fun hq => by have := hlt3 _ hq; omega))
            have hR6 := hR5.other (gr_set w5 w3.heap.size 1 (.int .i64 (((nx pO (nx pO st1).2).1 : Nat) : Int))) (show G ≠ w3.heap.size by omega)
            have hg6 := gr_set_new (j := 1) (u := .int .i64 (((nx pO (nx pO st1).2).1 : Nat) : Int)) hgg5 hz3
            have hown7 := hown6.alloc (.cells #[.int .i64 (((nx pO st1).1 : Nat) : Int), .int .i64 (((nx pO (nx pO st1).2).1 : Nat) : Int)] 78)
            have HR7 := hideIt (hR6.alloc (.cells #[.int .i64 (((nx pO st1).1 : Nat) : Int), .int .i64 (((nx pO (nx pO st1).2).1 : Nat) : Int)] 78))
            have HG7 := hideIt (gr_alloc hg6 (.cells #[.int .i64 (((nx pO st1).1 : Nat) : Int), .int .i64 (((nx pO (nx pO st1).2).1 : Nat) : Int)] 78))
            have hnew := two_newE (w5.setCell ⟨w3.heap.size, 1, none⟩ (.int .i64 (((nx pO (nx pO st1).2).1 : Nat) : Int))) (((nx pO st1).1 : Nat) : Int) (((nx pO (nx pO st1).2).1 : Nat) : Int) 78
            have HNew := hideIt hnew
            have HS : Hid (∃ L, s1 = some L ∧ EdSt L (j + 1) (es ++ [((((nx pO st1).1 : Nat) : Int), (((nx pO (nx pO st1).2).1 : Nat) : Int))]) (nx pO (nx pO st1).2).2) := by
              obtain ⟨L, h1, h2⟩ := HE2.out
              exact ⟨L, h1, h2.step⟩
            have HOw7 := hideIt hown7
            clear hown4 hown5 hown6 hown7 hR4 hR5 hR6 hg4 hg5 hg6 hgg5 hnew hb5 HE2
            generalize (((nx pO st1).1 : Nat) : Int) = x at *
            generalize (((nx pO (nx pO st1).2).1 : Nat) : Int) = y at *
            go_wp2_with (at_builtin; refine wpList_append_own _ rfl _ _ 24 rfl w.heap.size 78 i0 _ 2 16 Try.underlying24 hi hz0 hz1 hz2 rfl (by decide) _ _ _ rfl HOw7.out ⟨w5.heap.size, 0, none⟩ 1 1 (ecells [(x, y)]) rfl rfl ?_ (by intro u hu; simp [ecells, ecell] at hu; rcases hu with rfl | rfl <;> rfl) (by unfold maxLen; omega) (by omega) (by simp; omega) ?_)
            · have := HNew.out
              simpa using this
            · intro v1 w8 hown8 hg8 _
              have hne8 : u3.ownBlock ≠ some G := by
                rcases own_ne HOw7.out hGl with h | h
                · rw [h]; simp
                · exact h
              have HR8 := hideIt (HR7.out.row hg8 hne8)
              have HG8 := hideIt (gr_own HG7.out hg8 (fun q hq => (HOw7.out.lt q hq).1))
              have HO8 : Hid (w8.ownsRow w.heap.size 78 2 v1 (j + 1) (ecells (es ++ [(x, y)]))) := by
                show World.ownsRow _ _ _ _ _ _ _
                rw [ecells_append]
                exact hown8
              clear hown8 hg8 HOw7 HR7 HG7
              go_wp2
              go_roundw
              case rel => exact ⟨j + 1, es ++ [(x, y)], _, by omega, by omega, by go_num, .inr HS.out, HO8.out, HR8.out, HG8.out⟩
              case measure => simp [intOf]; omega
        · have e2 : decide ((j : Int) < 100) = false := by simp; omega
          have HX := fin.out (.inr (.inr (by omega)))
          have HX1 := hideIt HX
          have HOw1 := hideIt hown
          have HR1 := hideIt hR
          have HG1 := hideIt hg
          clear fin HX hown hR hg hE
          go_wp2
          go_ret
          obtain ⟨a, c, rfl⟩ := own_form HOw1.out
          exact ⟨_, rfl, ⟨⟨a, j, c, es, st1, rfl, hj2, HX1.out.2, HOw1.out, HX1.out.1, HR1.out⟩, HG1.out⟩⟩
      · have e1 : decide ((j : Int) < (k : Int)) = false := by simp; omega
        have HX := fin.out (.inr (.inl (by omega)))
        have HX1 := hideIt HX
        have HOw1 := hideIt hown
        have HR1 := hideIt hR
        have HG1 := hideIt hg
        clear fin HX hown hR hg hE
        go_wp2
        go_ret
        obtain ⟨a, c, rfl⟩ := own_form HOw1.out
        exact ⟨_, rfl, ⟨⟨a, j, c, es, st1, rfl, hj2, HX1.out.2, HOw1.out, HX1.out.1, HR1.out⟩, HG1.out⟩⟩
end Go.Proofs.Ytkhhagjcmbbdpaa
