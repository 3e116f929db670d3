/- What WebTake does, pure: an edge goes; level by level the tree with fewer vertices is raised, and its edges beside the forest are looked at. The program's WebTake: the next Level, how many ends an edge has in a tree. What Link and Cut answer: pure. Where Link and Cut stand: a forest, an edge, the answer's place. Boxes of forests (for a seat that has no laws' own types). A forest that is only read, all of it above lo, and a box at X. -/
import Derived.Test.YtkkplppcgnikoaaGreatKLb9
import Derived.Test.YtkkplppcgnikoaaGreatKIRo9
import Derived.Test.YtkkplppcgnikoaaGreatKFB7
import Derived.Test.YtkkplppcgnikoaaGreatKSPl9
import Derived.Test.YtkkplppcgnikoaaGreatKIRer
namespace Go.Proofs.YtkkplppcgnikoaaGreat

/-- the next Level -/
def upL (i : Int) : Int := if 4 < i + 1 then 4 else i + 1
/-- an edge of the forest of this Level, in this tree, is raised -/
def rsL (i : Int) (t : List Int) (x : Ld) : Ld := if x.t = true ∧ x.l = i ∧ x.a ∈ t then ⟨x.a, x.b, upL i, x.t⟩ else x
/-- an edge beside the forest with both ends in the tree is raised -/
def srL (i : Int) (t : List Int) (x : Ld) : Ld := if x.t = false ∧ x.l = i ∧ x.a ∈ t ∧ x.b ∈ t then ⟨x.a, x.b, upL i, x.t⟩ else x
/-- an edge beside the forest with one end in the tree takes the place -/
def hitL (i : Int) (t : List Int) (x : Ld) : Prop := x.t = false ∧ x.l = i ∧ ¬ (x.a ∈ t ∧ x.b ∈ t) ∧ (x.a ∈ t ∨ x.b ∈ t)
instance (i : Int) (t : List Int) (x : Ld) : Decidable (hitL i t x) := by unfold hitL; infer_instance
/-- the search over the edges -/
def srO (i : Int) (t : List Int) : List Ld → List Ld × Option EdgeV
  | [] => ([], none)
  | x :: xs => if hitL i t x then (⟨x.a, x.b, x.l, true⟩ :: xs, some x.e) else (srL i t x :: (srO i t xs).1, (srO i t xs).2)

theorem srO_none {i : Int} {t : List Int} : ∀ {L : List Ld}, (∀ x ∈ L, ¬ hitL i t x) → srO i t L = (L.map (srL i t), none)
  | [], _ => rfl
  | x :: xs, h => by
    rw [srO, if_neg (h x (by simp)), srO_none fun y hy => h y (by simp [hy])]
    simp
theorem srO_hit {i : Int} {t : List Int} : ∀ {L : List Ld} {k : Nat} {x : Ld}, L[k]? = some x → hitL i t x → (∀ y ∈ L.take k, ¬ hitL i t y) →
    srO i t L = ((L.take k).map (srL i t) ++ ⟨x.a, x.b, x.l, true⟩ :: L.drop (k + 1), some x.e)
  | [], k, x, hx, _, _ => by simp at hx
  | y :: ys, 0, x, hx, hh, _ => by
    simp at hx
    subst hx
    rw [srO, if_pos hh]
    simp
  | y :: ys, k + 1, x, hx, hh, hn => by
    have hx' : ys[k]? = some x := by simpa using hx
    rw [srO, if_neg (hn y (by simp)), srO_hit hx' hh fun z hz => hn z (by simp [hz])]
    simp

/-- a list that is turned from its head on: one step -/
theorem turn_step {f : Ld → Ld} {L : List Ld} {k : Nat} {x : Ld} (h : L[k]? = some x) : ((L.take k).map f ++ L.drop k).set k (f x) = (L.take (k + 1)).map f ++ L.drop (k + 1) := by
  have hk : k < L.length := (List.getElem?_eq_some_iff.1 h).1
  have hx : L[k] = x := (List.getElem?_eq_some_iff.1 h).2
  apply List.ext_getElem?
  intro j
  by_cases hj : j = k
  · subst hj
    rw [List.getElem?_set_self (by simp; omega), List.getElem?_append_left (by simp; omega), List.getElem?_map, List.getElem?_take_of_lt (by omega), h]
    rfl
  · rw [List.getElem?_set_ne (by omega)]
    by_cases hl : j < k
    · rw [List.getElem?_append_left (by simp; omega), List.getElem?_append_left (by simp; omega), List.getElem?_map, List.getElem?_map, List.getElem?_take_of_lt (by omega), List.getElem?_take_of_lt (by omega)]
    · rw [List.getElem?_append_right (by simp; omega), List.getElem?_append_right (by simp; omega), List.getElem?_drop, List.getElem?_drop]
      congr 1
      simp
      omega
/-- the edge at the place where the turning stands -/
theorem turn_at {f : Ld → Ld} {L : List Ld} {k : Nat} {x : Ld} (h : L[k]? = some x) : ((L.take k).map f ++ L.drop k)[k]? = some x := by
  have hk : k < L.length := (List.getElem?_eq_some_iff.1 h).1
  rw [List.getElem?_append_right (by simp; omega), List.getElem?_drop]
  simp
  have : min k L.length = k := by omega
  rw [this]
  simpa using h

/-- of two tours the one with fewer vertices -/
def smT (ts : List (List Int)) (e : EdgeV) : List Int :=
  if (vsL (ts.getD (trI ts e.2).toNat [])).length < (vsL (ts.getD (trI ts e.1).toNat [])).length then ts.getD (trI ts e.2).toNat [] else ts.getD (trI ts e.1).toNat []
/-- the trees of a Level -/
def lvT (n : Nat) (ls : List Ld) (i : Int) : List (List Int) := (ftK (fE ls i) n n).getD []
/-- one Level -/
def lvO (n : Nat) (e : EdgeV) (i : Int) (ls : List Ld) : List Ld × Option EdgeV :=
  srO i (smT (lvT n ls i) e) (ls.map (rsL i (smT (lvT n ls i) e)))
/-- the Levels below k, downwards -/
def tkO (n : Nat) (e : EdgeV) : Nat → List Ld → List Ld × Option EdgeV
  | 0, ls => (ls, none)
  | k + 1, ls => if (lvO n e (k : Int) ls).2.isSome then lvO n e (k : Int) ls else tkO n e k (lvO n e (k : Int) ls).1
theorem tkO_found {n : Nat} {e : EdgeV} {k : Nat} {ls : List Ld} {f : EdgeV} (h : (lvO n e (k : Int) ls).2 = some f) : tkO n e (k + 1) ls = lvO n e (k : Int) ls := by rw [tkO, h]; rfl
theorem tkO_down {n : Nat} {e : EdgeV} {k : Nat} {ls : List Ld} (h : (lvO n e (k : Int) ls).2 = none) : tkO n e (k + 1) ls = tkO n e k (lvO n e (k : Int) ls).1 := by rw [tkO, h]; rfl
/-- the edges without one -/
def ouL (ls : List Ld) (e : EdgeV) : List Ld := ls.filter fun x => decide (x.e ≠ e)
/-- WebTake's edges and what takes the place, or nothing -/
noncomputable def wtO (N : Int) (ls : List Ld) (e : EdgeV) : Option (List Ld × Option EdgeV) :=
  @ite _ (WOk N ls ∧ hasB (gE ls) e = true) (Classical.propDecidable _) (some (match ls.find? (fun x => decide (x.e = e)) with
    | some x => if x.t then tkO N.toNat e (x.l.toNat + 1) (ouL ls e) else (ouL ls e, none)
    | none => (ouL ls e, none))) none

/-- what holds at each Level: right edges, Levels in their bounds, a forest without a ring -/
structure Stg (n : Nat) (ls : List Ld) : Prop where
  g : gB (n : Int) (gE ls) = true
  l : ∀ x ∈ ls, 0 ≤ x.l ∧ x.l ≤ 4
  br : Bridge (fE ls 0)
theorem upL_in {i : Int} (h : 0 ≤ i ∧ i ≤ 4) : 0 ≤ upL i ∧ upL i ≤ 4 := by unfold upL; split <;> omega
/-- turned edges stay the edges that they are -/
structure Keep (f : Ld → Ld) : Prop where
  e : ∀ x, (f x).e = x.e
  t : ∀ x, (f x).t = x.t
  l : ∀ x, (0 ≤ x.l ∧ x.l ≤ 4) → 0 ≤ (f x).l ∧ (f x).l ≤ 4
theorem keep_rs {i : Int} (h : 0 ≤ i ∧ i ≤ 4) (t : List Int) : Keep (rsL i t) :=
  ⟨fun x => by unfold rsL; split <;> rfl, fun x => by unfold rsL; split <;> rfl, fun x hx => by unfold rsL; split; exact upL_in h; exact hx⟩
theorem keep_sr {i : Int} (h : 0 ≤ i ∧ i ≤ 4) (t : List Int) : Keep (srL i t) :=
  ⟨fun x => by unfold srL; split <;> rfl, fun x => by unfold srL; split <;> rfl, fun x hx => by unfold srL; split; exact upL_in h; exact hx⟩
theorem Keep.gE {f : Ld → Ld} (h : Keep f) (ls : List Ld) : gE (ls.map f) = gE ls := by
  unfold Go.Proofs.YtkkplppcgnikoaaGreat.gE
  rw [List.map_map]
  exact List.map_congr_left fun x _ => h.e x
theorem Keep.fE {f : Ld → Ld} (h : Keep f) : ∀ (ls : List Ld), (∀ x ∈ ls, 0 ≤ x.l ∧ x.l ≤ 4) → fE (ls.map f) 0 = fE ls 0
  | [], _ => rfl
  | x :: xs, hl => by
    have ih := Keep.fE h xs fun y hy => hl y (by simp [hy])
    have h1 := (hl x (by simp)).1
    have h2 := (h.l x (hl x (by simp))).1
    unfold Go.Proofs.YtkkplppcgnikoaaGreat.fE at ih ⊢
    have hp : fP 0 (f x) = fP 0 x := by unfold fP; rw [h.t, decide_eq_true h1, decide_eq_true h2]
    simp only [List.map_cons, List.filter_cons, hp]
    split
    · simp only [List.map_cons, ih, h.e]
    · exact ih
theorem Stg.keep {n : Nat} {ls : List Ld} (h : Stg n ls) {f : Ld → Ld} (hf : Keep f) : Stg n (ls.map f) :=
  ⟨by rw [hf.gE]; exact h.g, fun x hx => by
    obtain ⟨y, hy, rfl⟩ := List.mem_map.1 hx
    exact hf.l y (h.l y hy), by rw [hf.fE ls h.l]; exact h.br⟩
end Go.Proofs.YtkkplppcgnikoaaGreat
namespace Go.Proofs.YtkkplppcgnikoaaGreat
open Go.RowKit

theorem levelUp_any (i : Int) (h0 : 0 ≤ i) (h1 : i ≤ 4) (w : World) : Calls Tryz.prog 157 #[.int .i64 i] w fun e w' => e = .returned (.int .i64 (upL i)) ∧ w' = w := by
  have hw : IntKind.i64.wrap (i + 1) = i + 1 := by rw [IntKind.wrap_i64]; omega
  have hm : min (i + 1) 4 = upL i := by unfold upL; split <;> omega
  go_enter Tryz.func157, Tryz.ntmps157
  go_wp2
  go_ret
  exact ⟨by first | rfl | (rw [← hm]; rfl) | simp [hm], rfl⟩

/-- how many of an edge's first k ends are in the tree -/
def endK (t : List Int) (x : Ld) (k : Nat) : Nat := (if 1 ≤ k ∧ x.a ∈ t then 1 else 0) + (if 2 ≤ k ∧ x.b ∈ t then 1 else 0)
theorem endK_two (t : List Int) (x : Ld) : (endK t x 2 = 2 ↔ x.a ∈ t ∧ x.b ∈ t) ∧ (endK t x 2 = 1 ↔ ¬ (x.a ∈ t ∧ x.b ∈ t) ∧ (x.a ∈ t ∨ x.b ∈ t)) := by
  unfold endK
  by_cases ha : x.a ∈ t <;> by_cases hb : x.b ∈ t <;> simp [ha, hb]
theorem endK_le (t : List Int) (x : Ld) (k : Nat) : endK t x k ≤ 2 := by unfold endK; split <;> split <;> omega
theorem endK_step (t : List Int) (x : Ld) (k : Nat) (hk : k < 2) : endK t x (k + 1) = endK t x k + (if (if k = 0 then x.a else x.b) ∈ t then 1 else 0) := by
  unfold endK
  obtain rfl | rfl : k = 0 ∨ k = 1 := by omega
  · by_cases ha : x.a ∈ t <;> simp [ha]
  · by_cases ha : x.a ∈ t <;> by_cases hb : x.b ∈ t <;> simp [ha, hb]

set_option maxRecDepth 100000 in
set_option maxHeartbeats 4000000 in
theorem endsIn_any (t : List Int) (x : Ld) (n : Nat) (a : Option Addr) (c : Nat) (hn : n ≤ 1048576) (w : World) (h : Is w w.heap.size a n t) :
    Calls Tryz.prog 156 #[.slice a n c, .agg #[.int .i64 x.a, .int .i64 x.b, .int .i64 x.l, .bool x.t]] w fun e w' => e = .returned (.int .i64 (endK t x 2 : Int)) ∧ Below w.heap.size w w' := by
  have HC : Hid (∀ W v, Good w W → Calls Tryz.prog 230 #[.slice a n c, .int .i64 v] W fun e w' => e = .returned (.bool (decide (v ∈ t))) ∧ w' = W) := fun W v hW => conI_any t v n a c (by omega) W (h.up hW)
  obtain ⟨W2, hW2⟩ : ∃ W2, W2 = (w.alloc (.cells #[.int .i64 x.a, .int .i64 x.b, .int .i64 x.l, .bool x.t] 52)).alloc (.cells #[.int .i64 x.a, .int .i64 x.b] 3) := ⟨_, rfl⟩
  have G2 : Good w W2 := by rw [hW2]; exact ((Good.refl w).alloc _).alloc _
  have l2 : w.heap.size + 1 < W2.heap.size := by rw [hW2]; simp
  have c0 : W2.cell? ⟨w.heap.size + 1, 0, none⟩ = some (.int .i64 x.a) := by rw [hW2]; simp [go_sem]
  have c1 : W2.cell? ⟨w.heap.size + 1, 1, none⟩ = some (.int .i64 x.b) := by rw [hW2]; simp [go_sem]
  clear h
  go_enter Tryz.func156, Tryz.ntmps156
  go_wp2
  rw [← hW2]
  clear hW2
  have HG2 := hideIt G2
  clear G2
  go_loopw [14, 5] (fun i s wr => ∃ (k : Nat), k ≤ 2 ∧ i = .int .i64 (k : Int) ∧ s = .int .i64 (endK t x k : Int) ∧ Below W2.heap.size W2 wr) (fun i _ _ => 2 - (intOf i).toNat)
  case atStart => exact ⟨0, by omega, rfl, by simp [endK], Below.refl _ _⟩
  case round =>
    obtain ⟨k, hk, rfl, rfl, hb⟩ := hrel
    by_cases hlt : k < 2
    · have hv : wr.cell? ⟨w.heap.size + 1, k, none⟩ = some (.int .i64 (if k = 0 then x.a else x.b)) := by
        rw [hb.cell l2]
        obtain rfl | rfl : k = 0 ∨ k = 1 := by omega
        · exact c0
        · exact c1
      have hst := endK_step t x k hlt
      have hle := endK_le t x k
      obtain ⟨v, hvv⟩ : ∃ v, v = (if k = 0 then x.a else x.b) := ⟨_, rfl⟩
      rw [← hvv] at hv hst
      have hq := hideIt (HC.out wr v (HG2.out.up hb))
      have b1 : (0 : Int) ≤ (k : Int) := by omega
      have b2 : (k : Int) < 2 := by omega
      have b3 : decide ((k : Int) < 2) = true := decide_eq_true b2
      have Hb := hideIt hb
      by_cases hm : v ∈ t
      · rw [decide_eq_true hm] at hq
        rw [if_pos hm] at hst
        obtain ⟨q, hqq⟩ : ∃ q, q = endK t x k := ⟨_, rfl⟩
        rw [← hqq] at hst hle ⊢
        have hwr : IntKind.i64.wrap ((q : Int) + 1) = (q : Int) + 1 := by rw [IntKind.wrap_i64]; omega
        have Hst := hideIt hst
        clear hvv hm hst hqq hb
        go_wp2_with (go_at_call 230; refine hq.out.mono ?_; rintro e w1 ⟨rfl, hw1⟩; have hw1' := hw1.symm; subst hw1'; refine Hid.out ?_)
        refine (show ∀ {p : Prop}, p → Hid p from fun h => h) ?_
        go_wp2
        exact ⟨⟨k + 1, by omega, by go_num, by rw [Hst.out]; simp, Hb.out⟩, by simp [intOf]; omega⟩
      · rw [decide_eq_false hm] at hq
        rw [if_neg hm] at hst
        have Hst := hideIt hst
        clear hvv hm hst hb
        go_wp2_with (go_at_call 230; refine hq.out.mono ?_; rintro e w1 ⟨rfl, hw1⟩; have hw1' := hw1.symm; subst hw1'; refine Hid.out ?_)
        refine (show ∀ {p : Prop}, p → Hid p from fun h => h) ?_
        go_wp2
        exact ⟨⟨k + 1, by omega, by go_num, by rw [Hst.out]; simp, Hb.out⟩, by simp [intOf]; omega⟩
    · obtain rfl : k = 2 := by omega
      have Hb := hideIt hb
      clear hb
      go_wp2
      go_ret
      exact ⟨rfl, HG2.out.up Hb.out⟩
end Go.Proofs.YtkkplppcgnikoaaGreat
namespace Go.Proofs.YtkkplppcgnikoaaGreat
open Go.RowKit

end Go.Proofs.YtkkplppcgnikoaaGreat
namespace Go.Proofs.YtkkplppcgnikoaaGreat
open Go.RowKit

end Go.Proofs.YtkkplppcgnikoaaGreat
namespace Go.Proofs.YtkkplppcgnikoaaGreat
open Go.RowKit

theorem FP_small {N : Int} {ts : List (List Int)} (h : FP N ts) : ts.length + lnS ts ≤ 1000 := by
  have h1 := h.2.2.1
  have h2 : ∀ l : List (List Int), (∀ t ∈ l, tB t = true) → lnS l ≤ 23 * l.length := fun l hl => by
    induction l with
    | nil => simp [lnS]
    | cons t r ih =>
      have h3 := tB_len (hl t (by simp))
      have h4 := ih fun s hs => hl s (by simp [hs])
      simp only [lnS, List.map_cons, List.sum_cons, List.length_cons] at h4 ⊢
      omega
  have h5 := h2 ts fun t ht => (h.q.1 t ht).1
  omega
end Go.Proofs.YtkkplppcgnikoaaGreat
namespace Go.Proofs.YtkkplppcgnikoaaGreat
open Go.RowKit

theorem Is.grown {u v : World} {B G n : Nat} {a : Option Addr} {ls : List Int} (h : Is u B a n ls) (hB : B ≤ u.heap.size) (hg : u.grownBy v (some G)) (hx : ∀ b off s, a = some ⟨b, off, s⟩ → b ≠ G) : Is v B a n ls := by
  refine ⟨h.1, h.2.imp id ?_⟩
  rintro ⟨b, off, h1, h2, h3⟩
  exact ⟨b, off, h1, h2, fun j x hj => by
    have hn := hx b off none h1
    rw [World.cell?_of_block (w := u) (hg.block b (by omega) (by simpa using hn))]; exact h3 j x hj⟩
end Go.Proofs.YtkkplppcgnikoaaGreat
