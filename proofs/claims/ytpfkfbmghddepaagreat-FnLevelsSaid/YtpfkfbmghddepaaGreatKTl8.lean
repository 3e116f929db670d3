/- What WebTake does, pure: an edge goes; level by level the tree with fewer vertices is raised, and its edges beside the forest are looked at. The program's WebTake: the next Level, how many ends an edge has in a tree. What Link and Cut answer: pure. Where Link and Cut stand: a forest, an edge, the answer's place. Boxes of forests (for a seat that has no laws' own types). A forest that is only read, all of it above lo, and a box at X. -/
import Derived.Test.YtpfkfbmghddepaaGreatKWb9
import Derived.Test.YtpfkfbmghddepaaGreatKILb9
import Derived.Test.YtpfkfbmghddepaaGreatKLd9
import Derived.Test.YtpfkfbmghddepaaGreatKIns9
import Derived.Test.YtpfkfbmghddepaaGreatKIFa9
namespace Go.Proofs.YtpfkfbmghddepaaGreat

/-- the next Level -/
def upL (i : Int) : Int := if 4 < i + 1 then 4 else i + 1
/-- an edge of the forest of this Level, in this tree, is raised -/
def rsL (i : Int) (t : List Int) (x : Ld) : Ld := if x.t = true ∧ x.l = i ∧ x.a ∈ t then ⟨x.a, x.b, upL i, x.t⟩ else x
/-- an edge beside the forest with both ends in the tree is raised -/
def srL (i : Int) (t : List Int) (x : Ld) : Ld := if x.t = false ∧ x.l = i ∧ x.a ∈ t ∧ x.b ∈ t then ⟨x.a, x.b, upL i, x.t⟩ else x
/-- an edge beside the forest with one end in the tree takes the place -/
def hitL (i : Int) (t : List Int) (x : Ld) : Prop := x.t = false ∧ x.l = i ∧ ¬ (x.a ∈ t ∧ x.b ∈ t) ∧ (x.a ∈ t ∨ x.b ∈ t)
instance (i : Int) (t : List Int) (x : Ld) : Decidable (hitL i t x) := by unfold hitL; infer_instance
/-- the search over the edges -/
def srO (i : Int) (t : List Int) : List Ld → List Ld × Option EdgeV
  | [] => ([], none)
  | x :: xs => if hitL i t x then (⟨x.a, x.b, x.l, true⟩ :: xs, some x.e) else (srL i t x :: (srO i t xs).1, (srO i t xs).2)

theorem srO_none {i : Int} {t : List Int} : ∀ {L : List Ld}, (∀ x ∈ L, ¬ hitL i t x) → srO i t L = (L.map (srL i t), none)
  | [], _ => rfl
  | x :: xs, h => by
    rw [srO, if_neg (h x (by simp)), srO_none fun y hy => h y (by simp [hy])]
    simp
theorem srO_hit {i : Int} {t : List Int} : ∀ {L : List Ld} {k : Nat} {x : Ld}, L[k]? = some x → hitL i t x → (∀ y ∈ L.take k, ¬ hitL i t y) →
    srO i t L = ((L.take k).map (srL i t) ++ ⟨x.a, x.b, x.l, true⟩ :: L.drop (k + 1), some x.e)
  | [], k, x, hx, _, _ => by simp at hx
  | y :: ys, 0, x, hx, hh, _ => by
    simp at hx
    subst hx
    rw [srO, if_pos hh]
    simp
  | y :: ys, k + 1, x, hx, hh, hn => by
    have hx' : ys[k]? = some x := by simpa using hx
    rw [srO, if_neg (hn y (by simp)), srO_hit hx' hh fun z hz => hn z (by simp [hz])]
    simp

/-- a list that is turned from its head on: one step -/
theorem turn_step {f : Ld → Ld} {L : List Ld} {k : Nat} {x : Ld} (h : L[k]? = some x) : ((L.take k).map f ++ L.drop k).set k (f x) = (L.take (k + 1)).map f ++ L.drop (k + 1) := by
  have hk : k < L.length := (List.getElem?_eq_some_iff.1 h).1
  have hx : L[k] = x := (List.getElem?_eq_some_iff.1 h).2
  apply List.ext_getElem?
  intro j
  by_cases hj : j = k
  · subst hj
    rw [List.getElem?_set_self (by simp; omega), List.getElem?_append_left (by simp; omega), List.getElem?_map, List.getElem?_take_of_lt (by omega), h]
    rfl
  · rw [List.getElem?_set_ne (by omega)]
    by_cases hl : j < k
    · rw [List.getElem?_append_left (by simp; omega), List.getElem?_append_left (by simp; omega), List.getElem?_map, List.getElem?_map, List.getElem?_take_of_lt (by omega), List.getElem?_take_of_lt (by omega)]
    · rw [List.getElem?_append_right (by simp; omega), List.getElem?_append_right (by simp; omega), List.getElem?_drop, List.getElem?_drop]
      congr 1
      simp
      omega
/-- the edge at the place where the turning stands -/
theorem turn_at {f : Ld → Ld} {L : List Ld} {k : Nat} {x : Ld} (h : L[k]? = some x) : ((L.take k).map f ++ L.drop k)[k]? = some x := by
  have hk : k < L.length := (List.getElem?_eq_some_iff.1 h).1
  rw [List.getElem?_append_right (by simp; omega), List.getElem?_drop]
  simp
  have : min k L.length = k := by omega
  rw [this]
  simpa using h

/-- of two tours the one with fewer vertices -/
def smT (ts : List (List Int)) (e : EdgeV) : List Int :=
  if (vsL (ts.getD (trI ts e.2).toNat [])).length < (vsL (ts.getD (trI ts e.1).toNat [])).length then ts.getD (trI ts e.2).toNat [] else ts.getD (trI ts e.1).toNat []
/-- the trees of a Level -/
def lvT (n : Nat) (ls : List Ld) (i : Int) : List (List Int) := (ftK (fE ls i) n n).getD []
/-- one Level -/
def lvO (n : Nat) (e : EdgeV) (i : Int) (ls : List Ld) : List Ld × Option EdgeV :=
  srO i (smT (lvT n ls i) e) (ls.map (rsL i (smT (lvT n ls i) e)))
/-- the Levels below k, downwards -/
def tkO (n : Nat) (e : EdgeV) : Nat → List Ld → List Ld × Option EdgeV
  | 0, ls => (ls, none)
  | k + 1, ls => if (lvO n e (k : Int) ls).2.isSome then lvO n e (k : Int) ls else tkO n e k (lvO n e (k : Int) ls).1
theorem tkO_found {n : Nat} {e : EdgeV} {k : Nat} {ls : List Ld} {f : EdgeV} (h : (lvO n e (k : Int) ls).2 = some f) : tkO n e (k + 1) ls = lvO n e (k : Int) ls := by rw [tkO, h]; rfl
theorem tkO_down {n : Nat} {e : EdgeV} {k : Nat} {ls : List Ld} (h : (lvO n e (k : Int) ls).2 = none) : tkO n e (k + 1) ls = tkO n e k (lvO n e (k : Int) ls).1 := by rw [tkO, h]; rfl
/-- the edges without one -/
def ouL (ls : List Ld) (e : EdgeV) : List Ld := ls.filter fun x => decide (x.e ≠ e)
/-- WebTake's edges and what takes the place, or nothing -/
noncomputable def wtO (N : Int) (ls : List Ld) (e : EdgeV) : Option (List Ld × Option EdgeV) :=
  @ite _ (WOk N ls ∧ hasB (gE ls) e = true) (Classical.propDecidable _) (some (match ls.find? (fun x => decide (x.e = e)) with
    | some x => if x.t then tkO N.toNat e (x.l.toNat + 1) (ouL ls e) else (ouL ls e, none)
    | none => (ouL ls e, none))) none

/-- what holds at each Level: right edges, Levels in their bounds, a forest without a ring -/
structure Stg (n : Nat) (ls : List Ld) : Prop where
  g : gB (n : Int) (gE ls) = true
  l : ∀ x ∈ ls, 0 ≤ x.l ∧ x.l ≤ 4
  br : Bridge (fE ls 0)
theorem upL_in {i : Int} (h : 0 ≤ i ∧ i ≤ 4) : 0 ≤ upL i ∧ upL i ≤ 4 := by unfold upL; split <;> omega
/-- turned edges stay the edges that they are -/
structure Keep (f : Ld → Ld) : Prop where
  e : ∀ x, (f x).e = x.e
  t : ∀ x, (f x).t = x.t
  l : ∀ x, (0 ≤ x.l ∧ x.l ≤ 4) → 0 ≤ (f x).l ∧ (f x).l ≤ 4
theorem keep_rs {i : Int} (h : 0 ≤ i ∧ i ≤ 4) (t : List Int) : Keep (rsL i t) :=
  ⟨fun x => by unfold rsL; split <;> rfl, fun x => by unfold rsL; split <;> rfl, fun x hx => by unfold rsL; split; exact upL_in h; exact hx⟩
theorem keep_sr {i : Int} (h : 0 ≤ i ∧ i ≤ 4) (t : List Int) : Keep (srL i t) :=
  ⟨fun x => by unfold srL; split <;> rfl, fun x => by unfold srL; split <;> rfl, fun x hx => by unfold srL; split; exact upL_in h; exact hx⟩
theorem Keep.gE {f : Ld → Ld} (h : Keep f) (ls : List Ld) : gE (ls.map f) = gE ls := by
  unfold Go.Proofs.YtpfkfbmghddepaaGreat.gE
  rw [List.map_map]
  exact List.map_congr_left fun x _ => h.e x
theorem Keep.fE {f : Ld → Ld} (h : Keep f) : ∀ (ls : List Ld), (∀ x ∈ ls, 0 ≤ x.l ∧ x.l ≤ 4) → fE (ls.map f) 0 = fE ls 0
  | [], _ => rfl
  | x :: xs, hl => by
    have ih := Keep.fE h xs fun y hy => hl y (by simp [hy])
    have h1 := (hl x (by simp)).1
    have h2 := (h.l x (hl x (by simp))).1
    unfold Go.Proofs.YtpfkfbmghddepaaGreat.fE at ih ⊢
    have hp : fP 0 (f x) = fP 0 x := by unfold fP; rw [h.t, decide_eq_true h1, decide_eq_true h2]
    simp only [List.map_cons, List.filter_cons, hp]
    split
    · simp only [List.map_cons, ih, h.e]
    · exact ih
theorem Stg.keep {n : Nat} {ls : List Ld} (h : Stg n ls) {f : Ld → Ld} (hf : Keep f) : Stg n (ls.map f) :=
  ⟨by rw [hf.gE]; exact h.g, fun x hx => by
    obtain ⟨y, hy, rfl⟩ := List.mem_map.1 hx
    exact hf.l y (h.l y hy), by rw [hf.fE ls h.l]; exact h.br⟩
end Go.Proofs.YtpfkfbmghddepaaGreat
namespace Go.Proofs.YtpfkfbmghddepaaGreat
open Go.RowKit

theorem levelUp_any (i : Int) (h0 : 0 ≤ i) (h1 : i ≤ 4) (w : World) : Calls Tryz.prog 138 #[.int .i64 i] w fun e w' => e = .returned (.int .i64 (upL i)) ∧ w' = w := by
  have hw : IntKind.i64.wrap (i + 1) = i + 1 := by rw [IntKind.wrap_i64]; omega
  have hm : min (i + 1) 4 = upL i := by unfold upL; split <;> omega
  go_enter Tryz.func138, Tryz.ntmps138
  go_wp2
  go_ret
  exact ⟨by first | rfl | (rw [← hm]; rfl) | simp [hm], rfl⟩

/-- how many of an edge's first k ends are in the tree -/
def endK (t : List Int) (x : Ld) (k : Nat) : Nat := (if 1 ≤ k ∧ x.a ∈ t then 1 else 0) + (if 2 ≤ k ∧ x.b ∈ t then 1 else 0)
theorem endK_two (t : List Int) (x : Ld) : (endK t x 2 = 2 ↔ x.a ∈ t ∧ x.b ∈ t) ∧ (endK t x 2 = 1 ↔ ¬ (x.a ∈ t ∧ x.b ∈ t) ∧ (x.a ∈ t ∨ x.b ∈ t)) := by
  unfold endK
  by_cases ha : x.a ∈ t <;> by_cases hb : x.b ∈ t <;> simp [ha, hb]
theorem endK_le (t : List Int) (x : Ld) (k : Nat) : endK t x k ≤ 2 := by unfold endK; split <;> split <;> omega
theorem endK_step (t : List Int) (x : Ld) (k : Nat) (hk : k < 2) : endK t x (k + 1) = endK t x k + (if (if k = 0 then x.a else x.b) ∈ t then 1 else 0) := by
  unfold endK
  obtain rfl | rfl : k = 0 ∨ k = 1 := by omega
  · by_cases ha : x.a ∈ t <;> simp [ha]
  · by_cases ha : x.a ∈ t <;> by_cases hb : x.b ∈ t <;> simp [ha, hb]

set_option maxRecDepth 100000 in
set_option maxHeartbeats 4000000 in
theorem endsIn_any (t : List Int) (x : Ld) (n : Nat) (a : Option Addr) (c : Nat) (hn : n ≤ 1048576) (w : World) (h : Is w w.heap.size a n t) :
    Calls Tryz.prog 137 #[.slice a n c, .agg #[.int .i64 x.a, .int .i64 x.b, .int .i64 x.l, .bool x.t]] w fun e w' => e = .returned (.int .i64 (endK t x 2 : Int)) ∧ Below w.heap.size w w' := by
  have HC : Hid (∀ W v, Good w W → Calls Tryz.prog 188 #[.slice a n c, .int .i64 v] W fun e w' => e = .returned (.bool (decide (v ∈ t))) ∧ w' = W) := fun W v hW => conI_any t v n a c (by omega) W (h.up hW)
  obtain ⟨W2, hW2⟩ : ∃ W2, W2 = (w.alloc (.cells #[.int .i64 x.a, .int .i64 x.b, .int .i64 x.l, .bool x.t] 52)).alloc (.cells #[.int .i64 x.a, .int .i64 x.b] 3) := ⟨_, rfl⟩
  have G2 : Good w W2 := by rw [hW2]; exact ((Good.refl w).alloc _).alloc _
  have l2 : w.heap.size + 1 < W2.heap.size := by rw [hW2]; simp
  have c0 : W2.cell? ⟨w.heap.size + 1, 0, none⟩ = some (.int .i64 x.a) := by rw [hW2]; simp [go_sem]
  have c1 : W2.cell? ⟨w.heap.size + 1, 1, none⟩ = some (.int .i64 x.b) := by rw [hW2]; simp [go_sem]
  clear h
  go_enter Tryz.func137, Tryz.ntmps137
  go_wp2
  rw [← hW2]
  clear hW2
  have HG2 := hideIt G2
  clear G2
  go_loopw [14, 5] (fun i s wr => ∃ (k : Nat), k ≤ 2 ∧ i = .int .i64 (k : Int) ∧ s = .int .i64 (endK t x k : Int) ∧ Below W2.heap.size W2 wr) (fun i _ _ => 2 - (intOf i).toNat)
  case atStart => exact ⟨0, by omega, rfl, by simp [endK], Below.refl _ _⟩
  case round =>
    obtain ⟨k, hk, rfl, rfl, hb⟩ := hrel
    by_cases hlt : k < 2
    · have hv : wr.cell? ⟨w.heap.size + 1, k, none⟩ = some (.int .i64 (if k = 0 then x.a else x.b)) := by
        rw [hb.cell l2]
        obtain rfl | rfl : k = 0 ∨ k = 1 := by omega
        · exact c0
        · exact c1
      have hst := endK_step t x k hlt
      have hle := endK_le t x k
      obtain ⟨v, hvv⟩ : ∃ v, v = (if k = 0 then x.a else x.b) := ⟨_, rfl⟩
      rw [← hvv] at hv hst
      have hq := hideIt (HC.out wr v (HG2.out.up hb))
      have b1 : (0 : Int) ≤ (k : Int) := by omega
      have b2 : (k : Int) < 2 := by omega
      have b3 : decide ((k : Int) < 2) = true := decide_eq_true b2
      have Hb := hideIt hb
      by_cases hm : v ∈ t
      · rw [decide_eq_true hm] at hq
        rw [if_pos hm] at hst
        obtain ⟨q, hqq⟩ : ∃ q, q = endK t x k := ⟨_, rfl⟩
        rw [← hqq] at hst hle ⊢
        have hwr : IntKind.i64.wrap ((q : Int) + 1) = (q : Int) + 1 := by rw [IntKind.wrap_i64]; omega
        have Hst := hideIt hst
        clear hvv hm hst hqq hb
        go_wp2_with (go_at_call 188; refine hq.out.mono ?_; rintro e w1 ⟨rfl, hw1⟩; have hw1' := hw1.symm; subst hw1'; refine Hid.out ?_)
        refine (show ∀ {p : Prop}, p → Hid p from fun h => h) ?_
        go_wp2
        exact ⟨⟨k + 1, by omega, by go_num, by rw [Hst.out]; simp, Hb.out⟩, by simp [intOf]; omega⟩
      · rw [decide_eq_false hm] at hq
        rw [if_neg hm] at hst
        have Hst := hideIt hst
        clear hvv hm hst hb
        go_wp2_with (go_at_call 188; refine hq.out.mono ?_; rintro e w1 ⟨rfl, hw1⟩; have hw1' := hw1.symm; subst hw1'; refine Hid.out ?_)
        refine (show ∀ {p : Prop}, p → Hid p from fun h => h) ?_
        go_wp2
        exact ⟨⟨k + 1, by omega, by go_num, by rw [Hst.out]; simp, Hb.out⟩, by simp [intOf]; omega⟩
    · obtain rfl : k = 2 := by omega
      have Hb := hideIt hb
      clear hb
      go_wp2
      go_ret
      exact ⟨rfl, HG2.out.up Hb.out⟩
end Go.Proofs.YtpfkfbmghddepaaGreat
namespace Go.Proofs.YtpfkfbmghddepaaGreat
open Go.RowKit

def tat (ts : List (List Int)) (i : Int) : List Int := (ts[i.toNat]?).getD []
theorem tat_at {ts : List (List Int)} {k : Nat} {t : List Int} (h : ts[k]? = some t) : tat ts (k : Int) = t := by
  unfold tat
  rw [Int.toNat_natCast, h]
  rfl
/-- what Link answers -/
noncomputable def linkO (N : Int) (ts : List (List Int)) (e : EdgeV) : Option (List (List Int)) :=
  @ite _ (FP N ts ∧ eB N e = true ∧ trI ts e.1 ≠ trI ts e.2) (Classical.propDecidable _)
    (some (srtK (woK ts [(trI ts e.1).toNat, (trI ts e.2).toNat] ts.length ++ [(joO (tat ts (trI ts e.1)) e.1 (tat ts (trI ts e.2)) e.2).getD []]) N.toNat)) none
/-- what Cut answers -/
noncomputable def cutO (N : Int) (ts : List (List Int)) (e : EdgeV) : Option (List (List Int)) :=
  @ite _ (FP N ts ∧ eB N e = true ∧ (spO (tat ts (trI ts e.1)) e.1 e.2).2.2 = true) (Classical.propDecidable _)
    (some (srtK (woK ts [(trI ts e.1).toNat] ts.length ++ [(spO (tat ts (trI ts e.1)) e.1 e.2).1, (spO (tat ts (trI ts e.1)) e.1 e.2).2.1]) N.toNat)) none
theorem linkO_yes {N : Nat} {ts : List (List Int)} {e : EdgeV} (hP : FP (N : Int) ts) (hE : eB (N : Int) e = true) {i j : Nat} {a b J : List Int} (hi : ts[i]? = some a) (hj : ts[j]? = some b) (hu : e.1 ∈ a) (hv : e.2 ∈ b) (hij : i ≠ j) (hJ : joO a e.1 b e.2 = some J) :
    linkO (N : Int) ts e = some (srtK (woK ts [i, j] ts.length ++ [J]) N) := by
  have e1 := trI_of hP.q hi hu
  have e2 := trI_of hP.q hj hv
  unfold linkO
  rw [if_pos ⟨hP, hE, by rw [e1, e2]; omega⟩, e1, e2, tat_at hi, tat_at hj, hJ]
  simp
theorem linkO_no {N : Int} {ts : List (List Int)} {e : EdgeV} (h : ¬ (FP N ts ∧ eB N e = true ∧ trI ts e.1 ≠ trI ts e.2)) : linkO N ts e = none := by unfold linkO; rw [if_neg h]
theorem cutO_yes {N : Nat} {ts : List (List Int)} {e : EdgeV} (hP : FP (N : Int) ts) (hE : eB (N : Int) e = true) {i : Nat} {t a b : List Int} (hi : ts[i]? = some t) (hu : e.1 ∈ t) (hS : spO t e.1 e.2 = (a, b, true)) :
    cutO (N : Int) ts e = some (srtK (woK ts [i] ts.length ++ [a, b]) N) := by
  have e1 := trI_of hP.q hi hu
  unfold cutO
  rw [if_pos ⟨hP, hE, by rw [e1, tat_at hi, hS]⟩, e1, tat_at hi, hS]
  simp
theorem cutO_no {N : Int} {ts : List (List Int)} {e : EdgeV} (h : ¬ (FP N ts ∧ eB N e = true ∧ (spO (tat ts (trI ts e.1)) e.1 e.2).2.2 = true)) : cutO N ts e = none := by unfold cutO; rw [if_neg h]
theorem eB_range {N : Int} {e : EdgeV} (h : eB N e = true) : 0 ≤ e.1 ∧ e.1 < e.2 ∧ e.2 < N := by
  unfold eB at h
  have := of_decide_eq_true h
  omega
/-- both ends of a right edge are in trees -/
theorem edge_at {N : Nat} {ts : List (List Int)} {e : EdgeV} (hP : FP (N : Int) ts) (hE : eB (N : Int) e = true) : ∃ (i j : Nat) (a b : List Int), ts[i]? = some a ∧ ts[j]? = some b ∧ e.1 ∈ a ∧ e.2 ∈ b := by
  have hr := eB_range hE
  obtain ⟨a, ha, hu⟩ := hP.q.cover (x := e.1) (by omega) (by omega)
  obtain ⟨b, hb, hv⟩ := hP.q.cover (x := e.2) (by omega) (by omega)
  obtain ⟨i, hi⟩ := List.mem_iff_getElem?.1 ha
  obtain ⟨j, hj⟩ := List.mem_iff_getElem?.1 hb
  exact ⟨i, j, a, b, hi, hj, hu, hv⟩
theorem FP_nat {N : Int} {ts : List (List Int)} (h : FP N ts) : ∃ M : Nat, N = (M : Int) ∧ 1 ≤ M ∧ M ≤ 12 := ⟨N.toNat, by have := h.1; omega, by have := h.1; omega, by have := h.2.1; omega⟩
/-- the tours whose places are left out are those that a test tells -/
theorem wo_filter {ts : List (List Int)} {outs : List Nat} {p : List Int → Bool} (h : ∀ k t, ts[k]? = some t → (k ∈ outs ↔ p t = false)) (k : Nat) : woK ts outs k = (ts.take k).filter p := by
  induction k with
  | zero => simp [woK]
  | succ k ih =>
    simp only [woK]
    cases hk : ts[k]? with
    | none =>
      have : ts.take (k + 1) = ts.take k := by rw [List.take_add_one, hk]; simp
      rw [this, ih]
      simp
    | some t =>
      rw [take_snocF ts k t hk, List.filter_append, ih]
      by_cases hm : k ∈ outs
      · rw [if_pos hm, List.append_nil]
        simp [(h k t hk).1 hm]
      · rw [if_neg hm]
        have : p t = true := by
          cases hp : p t with
          | true => rfl
          | false => exact absurd ((h k t hk).2 hp) hm
        simp [this]
theorem wo_stay {N : Int} {ts : List (List Int)} (hQ : FQ N ts) {i j : Nat} {a b : List Int} {u v : Int} (hi : ts[i]? = some a) (hj : ts[j]? = some b) (hu : u ∈ a) (hv : v ∈ b) : woK ts [i, j] ts.length = ts.filter fun t => !(t.any fun x => decide (x ∈ [u, v])) := by
  rw [wo_filter (p := fun t => !(t.any fun x => decide (x ∈ [u, v]))) (fun k t ht => ?_), List.take_length]
  simp only [Bool.not_eq_false', List.any_eq_true, decide_eq_true_eq, List.mem_cons, List.not_mem_nil, or_false]
  constructor
  · rintro (rfl | rfl)
    · rw [hi] at ht
      cases ht
      exact ⟨u, hu, .inl rfl⟩
    · rw [hj] at ht
      cases ht
      exact ⟨v, hv, .inr rfl⟩
  · rintro ⟨x, hx, rfl | rfl⟩
    · exact .inl (hQ.place ht hi hx hu)
    · exact .inr (hQ.place ht hj hx hv)
theorem wo_stay1 {N : Int} {ts : List (List Int)} (hQ : FQ N ts) {i : Nat} {a : List Int} {u v : Int} (hi : ts[i]? = some a) (hu : u ∈ a) (hv : v ∈ a) : woK ts [i] ts.length = ts.filter fun t => !(t.any fun x => decide (x ∈ [u, v])) := by
  rw [← wo_stay hQ hi hi hu hv]
  have : ∀ k, woK ts [i] k = woK ts [i, i] k := fun k => by
    induction k with
    | zero => rfl
    | succ k ih => simp only [woK, ih]; simp
  exact this _
/-- linked: the tours side by side, and what it comes to in order -/
theorem link_fq {N : Nat} {ts : List (List Int)} (hP : FP (N : Int) ts) {i j : Nat} {a b J : List Int} {u v : Int} (hi : ts[i]? = some a) (hj : ts[j]? = some b) (hu : u ∈ a) (hv : v ∈ b) (hij : i ≠ j) (hJ : joO a u b v = some J) : FQ (N : Int) (woK ts [i, j] ts.length ++ [J]) := by
  obtain ⟨J', e, L⟩ := lk_is hP hi hj hij hu hv
  rw [hJ] at e
  obtain rfl := Option.some.inj e
  exact L.ok.q.perm L.perm
theorem cut_in {t a b : List Int} {u v : Int} (h : spO t u v = (a, b, true)) : tB t = true ∧ ∃ k : Nat, t[k]? = some u ∧ t[k + 1]? = some v := by
  unfold spO at h
  by_cases hc : tB t = true ∧ 0 ≤ goI t u v
  · refine ⟨hc.1, ?_⟩
    rcases go_at (t := t) (u := u) (v := v) with ⟨k1, e1, _, a1, a2, _⟩ | ⟨e1, _⟩
    · exact ⟨k1, a1, a2⟩
    · have := hc.2; omega
  · rw [if_neg hc] at h
    simp at h
end Go.Proofs.YtpfkfbmghddepaaGreat
namespace Go.Proofs.YtpfkfbmghddepaaGreat
open Go.RowKit

/-- the answer of Link, Cut, ForestNew: a forest of the answer's own -/
def FAns (w : World) (N : Int) (o : Option (List (List Int))) (e : Ending) (w' : World) : Prop :=
  ∃ a m c R, e = .returned (.tuple #[.agg #[.int .i64 (if o.isSome then N else 0), .slice a m c], .bool o.isSome]) ∧ FB w' w.heap.size w'.heap.size a m c R ∧ rts R = o.getD [] ∧ Below w.heap.size w w'
/-- .. that is only read -/
def RAns (w : World) (N : Int) (o : Option (List (List Int))) (e : Ending) (w' : World) : Prop :=
  ∃ a m c hs, e = .returned (.tuple #[.agg #[.int .i64 (if o.isSome then N else 0), .slice a m c], .bool o.isSome]) ∧ (w'.ownsRow w.heap.size 44 1 (.slice a m c) m hs ∧ HdT w' w'.heap.size hs (o.getD []) ∧ ∀ v ∈ hs, HdL w.heap.size v) ∧ Below w.heap.size w w'
theorem RAns.ts {w : World} {N : Int} {o : Option (List (List Int))} {e : Ending} {w' : World} (h : RAns w N o e w') : ∃ a m c, e = .returned (.tuple #[.agg #[.int .i64 (if o.isSome then N else 0), .slice a m c], .bool o.isSome]) ∧ Ts w' w'.heap.size a m (o.getD []) ∧ Below w.heap.size w w' := by
  obtain ⟨a, m, c, hs, h1, h2, h3⟩ := h
  exact ⟨a, m, c, h1, h2.2.1.ts h2.1, h3⟩
theorem fans_no {w u : World} {N : Int} {o : Option (List (List Int))} (ho : o = none) (h : Below w.heap.size w u) : FAns w N o (.returned (.tuple #[.agg #[.int .i64 0, .slice none 0 0], .bool false])) u := by
  subst ho
  exact ⟨none, 0, 0, [], rfl, FB.nil _ _, rfl, h⟩

/-- behind the three boxes -/
def w3of (w : World) (N : Int) (a : Option Addr) (n c : Nat) (f : EdgeV) : World := ((w.alloc (.cells #[.int .i64 N, .slice a n c] 57)).alloc (.cells #[.int .i64 f.1, .int .i64 f.2] 28)).alloc (.cells #[.int .i64 0, .slice none 0 0] 57)
theorem w3_size (w : World) (N : Int) (a : Option Addr) (n c : Nat) (f : EdgeV) : (w3of w N a n c f).heap.size = w.heap.size + 3 := by simp [w3of]
theorem w3_good (w : World) (N : Int) (a : Option Addr) (n c : Nat) (f : EdgeV) : Good w (w3of w N a n c f) := (((Good.refl w).alloc _).alloc _).alloc _
theorem w3_res (w : World) (N : Int) (a : Option Addr) (n c : Nat) (f : EdgeV) : Box7 (w3of w N a n c f) (w.heap.size + 2) 57 (.int .i64 0) (.slice none 0 0) := Box7.new _ _ _ _ _ (by simp)
theorem w3_f (w : World) (N : Int) (a : Option Addr) (n c : Nat) (f : EdgeV) : Box7 (w3of w N a n c f) w.heap.size 57 (.int .i64 N) (.slice a n c) := ((Box7.new w _ _ _ _ rfl).alloc _).alloc _
theorem w3_e (w : World) (N : Int) (a : Option Addr) (n c : Nat) (f : EdgeV) : Box7 (w3of w N a n c f) (w.heap.size + 1) 28 (.int .i64 f.1) (.int .i64 f.2) := (Box7.new _ _ _ _ _ (by simp)).alloc _
/-- what can be read there -/
theorem w3_cells {w : World} {N : Int} {a : Option Addr} {n c : Nat} {f : EdgeV} {u : World} (h : Good (w3of w N a n c f) u) :
    (u.cell? ⟨w.heap.size, 0, none⟩ = some (.int .i64 N) ∧ u.cell? ⟨w.heap.size, 1, none⟩ = some (.slice a n c)) ∧ u.cell? ⟨w.heap.size + 1, 0, none⟩ = some (.int .i64 f.1) ∧ u.cell? ⟨w.heap.size + 1, 1, none⟩ = some (.int .i64 f.2) :=
  ⟨⟨((w3_f w N a n c f).up h).cell0, ((w3_f w N a n c f).up h).cell1⟩, ((w3_e w N a n c f).up h).cell0, ((w3_e w N a n c f).up h).cell1⟩
theorem w3_out {w : World} {N : Int} {a : Option Addr} {n c : Nat} {f : EdgeV} {u : World} (h : Below (w.heap.size + 3) (w3of w N a n c f) u) :
    (u.cell? ⟨w.heap.size + 2, 0, none⟩ = some (.int .i64 0) ∧ u.cell? ⟨w.heap.size + 2, 1, none⟩ = some (.slice none 0 0)) ∧ u.frozen? ⟨w.heap.size + 2, 0, none⟩ = false ∧ u.frozen? ⟨w.heap.size + 2, 1, none⟩ = false := by
  have b := (w3_res w N a n c f).below h (by omega)
  exact ⟨⟨b.cell0, b.cell1⟩, b.frozen 0, b.frozen 1⟩
/-- tours in order that are those of a list -/
theorem ord_is {N : Nat} {X L : List (List Int)} (h1 : 1 ≤ N) (h2 : N ≤ 12) (hQ : FQ (N : Int) L) (hp : X.Perm L) (ha : X.Pairwise fun s t => mnV s < mnV t) : X = srtK L N :=
  asc_uniq ha ((FP_iff _ _).1 (FP_srt h1 h2 hQ)).2.2.2 (hp.trans (srt_perm hQ).symm)
/-- no edge of a tree links it -/
theorem jo_same {a : List Int} {u v : Int} (hu : u ∈ a) : joO a u a v = none := by
  unfold joO
  rw [if_neg]
  rintro ⟨_, _, h⟩
  have hc : comB a a = true := by
    unfold comB
    rw [List.any_eq_true]
    exact ⟨u, hu, decide_eq_true hu⟩
  rw [hc] at h
  cases h
end Go.Proofs.YtpfkfbmghddepaaGreat
namespace Go.Proofs.YtpfkfbmghddepaaGreat
open Go.RowKit

theorem Good.set {w u : World} (h : Good w u) (b j : Nat) (v : Value) (hb : w.heap.size ≤ b) : Good w (u.setCell ⟨b, j, none⟩ v) := Below.setCell h (p := ⟨b, j, none⟩) hb v
theorem Box7.set {w : World} {b : Nat} {t : TypeId} {v0 v1 : Value} (h : Box7 w b t v0 v1) (u0 u1 : Value) : Box7 ((w.setCell ⟨b, 0, none⟩ u0).setCell ⟨b, 1, none⟩ u1) b t u0 u1 := by
  have h1 : Box7 (w.setCell ⟨b, 0, none⟩ u0) b t u0 v1 := by
    unfold Box7
    rw [heap_setCell_same w b 0 _ t u0 h]; rfl
  exact h1.set1 u1
theorem own_typed {u : World} {lo b j n : Nat} {v x : Value} {xs : List Value} {cs : Array Value} {fr : Nat × Nat} (h : u.ownsRow lo 44 1 v n xs) (hb : u.heap[b]? = some (.cells cs 57 fr)) : (u.setCell ⟨b, j, none⟩ x).ownsRow lo 44 1 v n xs := by
  refine World.ownsRow.kept h (grownSet u b j x) (.inr fun e => ?_)
  rcases h.2 with ⟨rfl, _⟩ | ⟨g, cap, cur, rfl, _, hg, _⟩
  · simp [Value.ownBlock] at e
  · simp [Value.ownBlock] at e
    rw [e, hb] at hg
    simp at hg
def Keep7 (u v : World) : Prop := ∀ b t x y, Box7 u b t x y → Box7 v b t x y
theorem Keep7.of {u v : World} (h : Below u.heap.size u v) : Keep7 u v := fun _ _ _ _ hb => hb.up h
theorem Keep7.nil {u v : World} (h : Keep7 u v) {b : Nat} (hb : Box7 u b 57 (.int .i64 0) (.slice none 0 0)) : Box7 v b 57 (.int .i64 0) (.slice none 0 0) := h _ _ _ _ hb
def Away (u : World) (hs : List Value) : Prop := ∀ b, Box7 u b 57 (.int .i64 0) (.slice none 0 0) → ∀ v ∈ hs, HdN b v
theorem FP_small {N : Int} {ts : List (List Int)} (h : FP N ts) : ts.length + lnS ts ≤ 1000 := by
  have h1 := h.2.2.1
  have h2 : ∀ l : List (List Int), (∀ t ∈ l, tB t = true) → lnS l ≤ 23 * l.length := fun l hl => by
    induction l with
    | nil => simp [lnS]
    | cons t r ih =>
      have h3 := tB_len (hl t (by simp))
      have h4 := ih fun s hs => hl s (by simp [hs])
      simp only [lnS, List.map_cons, List.sum_cons, List.length_cons] at h4 ⊢
      omega
  have h5 := h2 ts fun t ht => (h.q.1 t ht).1
  omega
end Go.Proofs.YtpfkfbmghddepaaGreat
namespace Go.Proofs.YtpfkfbmghddepaaGreat
open Go.RowKit

def TL (u : World) (lo X : Nat) (a : Option Addr) (m c : Nat) (ts : List (List Int)) : Prop :=
  ∃ hs, u.ownsRow lo 44 1 (.slice a m c) m hs ∧ HdT u u.heap.size hs ts ∧ ∀ v ∈ hs, HdL lo v ∧ HdN X v
theorem TL.ts {u : World} {lo X : Nat} {a : Option Addr} {m c : Nat} {ts : List (List Int)} (h : TL u lo X a m c ts) : Ts u u.heap.size a m ts := by
  obtain ⟨hs, h1, h2, _⟩ := h
  exact h2.ts h1
theorem TL.up {u v : World} {lo X : Nat} {a : Option Addr} {m c : Nat} {ts : List (List Int)} (h : TL u lo X a m c ts) (hb : Below u.heap.size u v) : TL v lo X a m c ts := by
  obtain ⟨hs, h1, h2, h3⟩ := h
  exact ⟨hs, own_up h1 hb, (h2.below hb (Nat.le_refl _)).mono hb.size, h3⟩
theorem TL.lo {u : World} {lo lo' X : Nat} {a : Option Addr} {m c : Nat} {ts : List (List Int)} (h : TL u lo X a m c ts) (hl : lo' ≤ lo) : TL u lo' X a m c ts := by
  obtain ⟨hs, h1, h2, h3⟩ := h
  exact ⟨hs, own_mono h1 hl, h2, fun v hv => ⟨(h3 v hv).1.mono hl, (h3 v hv).2⟩⟩
theorem Is.grown {u v : World} {B G n : Nat} {a : Option Addr} {ls : List Int} (h : Is u B a n ls) (hB : B ≤ u.heap.size) (hg : u.grownBy v (some G)) (hx : ∀ b off s, a = some ⟨b, off, s⟩ → b ≠ G) : Is v B a n ls := by
  refine ⟨h.1, h.2.imp id ?_⟩
  rintro ⟨b, off, h1, h2, h3⟩
  exact ⟨b, off, h1, h2, fun j x hj => by
    have hn := hx b off none h1
    rw [World.cell?_of_block (w := u) (hg.block b (by omega) (by simpa using hn))]; exact h3 j x hj⟩
theorem TL.grown {u v : World} {lo X G : Nat} {a : Option Addr} {m c : Nat} {ts : List (List Int)} (h : TL u lo X a m c ts) (hg : u.grownBy v (some G)) (hG : G < lo) : TL v lo X a m c ts := by
  obtain ⟨hs, h1, h2, h3⟩ := h
  refine ⟨hs, World.ownsRow.kept h1 hg (.inr fun e => by have := (h1.lt G e).1; omega), ⟨h2.1, fun i t ht => ?_⟩, h3⟩
  obtain ⟨a', c', p1, p2, p3⟩ := h2.2 i t ht
  exact ⟨a', c', p1, (p2.grown (Nat.le_refl _) hg fun b off s e => ((h3 _ (List.mem_of_getElem? p1)).1.ne hG) b off s _ _ (by rw [e])).mono hg.size, p3⟩
theorem TL.setX {u : World} {lo X j : Nat} {a : Option Addr} {m c : Nat} {ts : List (List Int)} {v0 v1 : Value} (h : TL u lo X a m c ts) (hb : Box7 u X 57 v0 v1) (v : Value) : TL (u.setCell ⟨X, j, none⟩ v) lo X a m c ts := by
  obtain ⟨hs, h1, h2, h3⟩ := h
  refine ⟨hs, own_typed h1 hb, ?_, h3⟩
  have hz : (u.setCell ⟨X, j, none⟩ v).heap.size = u.heap.size := by simp [World.setCell]
  rw [hz]
  exact h2.set (fun v hv => (h3 v hv).2) v
theorem fp_pos {N : Int} {ts : List (List Int)} (h : FP N ts) : ∀ t ∈ ts, 0 < t.length := fun t ht => tB_pos (h.q.1 t ht).1
/-- a right forest's rows, below a box that is new -/
theorem TL.of {u : World} {lo : Nat} {a : Option Addr} {m c : Nat} {hs : List Value} {ts : List (List Int)} {N : Int} (hP : FP N ts) (h1 : u.ownsRow lo 44 1 (.slice a m c) m hs) (h2 : HdT u u.heap.size hs ts) (h3 : ∀ v ∈ hs, HdL lo v) : TL u lo u.heap.size a m c ts :=
  ⟨hs, h1, h2, fun v hv => ⟨h3 v hv, h2.lowN (fp_pos hP) (Nat.le_refl _) v hv⟩⟩
/-- rows that are newer than a box -/
theorem TL.nw {u : World} {lo X : Nat} {a : Option Addr} {m c : Nat} {hs : List Value} {ts : List (List Int)} (h1 : u.ownsRow lo 44 1 (.slice a m c) m hs) (h2 : HdT u u.heap.size hs ts) (h3 : ∀ v ∈ hs, HdL lo v) (hX : X < lo) : TL u lo X a m c ts :=
  ⟨hs, h1, h2, fun v hv => ⟨h3 v hv, (h3 v hv).ne hX⟩⟩
theorem FB.hdl {u : World} {lo hi : Nat} {a : Option Addr} {n c : Nat} {R : List Rw} (h : FB u lo hi a n c R) : ∀ v ∈ rhs R, HdL lo v := fun v hv => by
  obtain ⟨r, hr, rfl⟩ := List.mem_map.1 hv
  intro b off s n c e
  simp only [Rw.hdr, Value.slice.injEq, Option.some.injEq, Addr.mk.injEq] at e
  rw [← e.1.1]
  exact (h.ins r hr).2.1

/-- where the draw of a forest stands -/
structure FDr (w : World) (G X : Nat) (a : Option Addr) (len cap N : Nat) (a' : Option Addr) (m c' : Nat) (ts : List (List Int)) (u : World) : Prop where
  cur : Cur u G a len cap
  res : Box7 u w.heap.size 57 (.int .i64 0) (.slice none 0 0)
  box : Box7 u X 57 (.int .i64 (N : Int)) (.slice a' m c')
  tl : TL u (w.heap.size + 1) X a' m c' ts
  grown : w.grownBy u (some G)
  low : G < w.heap.size
  high : w.heap.size < X
theorem FDr.code {w : World} {G X : Nat} {a : Option Addr} {len cap N : Nat} {a' : Option Addr} {m c' : Nat} {ts : List (List Int)} {u : World} (h : FDr w G X a len cap N a' m c' ts u) (hc : Code w G a len) : Code u G a len := hc.kept h.grown
theorem FDr.drawn {w : World} {G X : Nat} {a : Option Addr} {len cap N : Nat} {a' : Option Addr} {m c' : Nat} {ts : List (List Int)} {u v : World} (h : FDr w G X a len cap N a' m c' ts u) (d : Drawn u v G a len cap) : FDr w G X a len cap N a' m c' ts v :=
  ⟨d.cur, h.res.grown d.grown (by have := h.low; simp; omega), h.box.grown d.grown (by have := h.low; have := h.high; simp; omega), h.tl.grown d.grown (by have := h.low; omega), grownT h.grown d.grown, h.low, h.high⟩
theorem FDr.up {w : World} {G X : Nat} {a : Option Addr} {len cap N : Nat} {a' : Option Addr} {m c' : Nat} {ts : List (List Int)} {u v : World} (h : FDr w G X a len cap N a' m c' ts u) (hb : Below u.heap.size u v) : FDr w G X a len cap N a' m c' ts v :=
  ⟨h.cur.up7 hb, h.res.up hb, h.box.up hb, h.tl.up hb, grown_up7 h.grown (hb.mono h.grown.size), h.low, h.high⟩
theorem FDr.put {w : World} {G X : Nat} {a : Option Addr} {len cap N : Nat} {a' : Option Addr} {m c' : Nat} {ts : List (List Int)} {u : World} (h : FDr w G X a len cap N a' m c' ts u) {M : Nat} {a2 : Option Addr} {m2 c2 : Nat} {t2 : List (List Int)} (ht : TL u (w.heap.size + 1) X a2 m2 c2 t2) :
    FDr w G X a len cap M a2 m2 c2 t2 ((u.setCell ⟨X, 0, none⟩ (.int .i64 (M : Int))).setCell ⟨X, 1, none⟩ (.slice a2 m2 c2)) := by
  have hl := h.low
  have hh := h.high
  have hg := grownT (grown_set u X 0 (.int .i64 (M : Int))) (grown_set _ X 1 (.slice a2 m2 c2))
  have hbw : Below w.heap.size u ((u.setCell ⟨X, 0, none⟩ (.int .i64 (M : Int))).setCell ⟨X, 1, none⟩ (.slice a2 m2 c2)) := ((Below.refl w.heap.size u).setCell (p := ⟨X, 0, none⟩) (Nat.le_of_lt hh) _).setCell (p := ⟨X, 1, none⟩) (Nat.le_of_lt hh) _
  have hb0 : Box7 (u.setCell ⟨X, 0, none⟩ (.int .i64 (M : Int))) X 57 (.int .i64 (M : Int)) (.slice a' m c') := by
    unfold Box7
    rw [heap_setCell_same _ X 0 _ 57 _ h.box]; rfl
  exact ⟨h.cur.grownX7 hg (by omega), h.res.grown hg (by simp; omega), h.box.set _ _, (ht.setX h.box _).setX hb0 _, grown_up7 h.grown hbw, h.low, h.high⟩
end Go.Proofs.YtpfkfbmghddepaaGreat
