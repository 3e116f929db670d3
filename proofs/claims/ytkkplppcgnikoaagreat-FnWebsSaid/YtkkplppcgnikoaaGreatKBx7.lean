/- Lists of edges in memory; what the drawn laws of chapter 6 have of chapter 5. What a walk along all edges tells, where each edge is the only way between its ends: pure. The edges that a right tour goes along: each is the only way between its ends, they hold all of its vertices together, and the tour has twice as many steps: pure. The edges of a forest, its parts, the place of a vertex: pure. A forest linked and cut again: pure. A struct of two fields in a block of its own. -/
import Derived.Test.YtkkplppcgnikoaaGreatKTourP
import Derived.Test.YtkkplppcgnikoaaGreatKIRer
import Derived.Test.YtkkplppcgnikoaaGreatKLk7
namespace Go.Proofs.YtkkplppcgnikoaaGreat
open Go.RowKit

/-- an edge -/
abbrev EdgeV := Int × Int

/-- the edge is right -/
def eB (n : Int) (e : EdgeV) : Bool := decide (1 ≤ n ∧ n ≤ 12 ∧ 0 ≤ e.1 ∧ e.1 < e.2 ∧ e.2 < n)

theorem sEdgeOk_any (n : Int) (e : EdgeV) (w : World) :
    Calls Tryz.prog 77 #[.int .i64 n, .agg #[.int .i64 e.1, .int .i64 e.2]] w fun x w' => x = .returned (.bool (eB n e)) ∧ Below w.heap.size w w' := by
  obtain ⟨a, b⟩ := e
  dsimp only
  have HI := hideIt l01In_any
  by_cases h1 : 1 ≤ n ∧ n ≤ 12
  · have r1 : decide (1 ≤ n ∧ n ≤ 12) = true := by simpa using h1
    by_cases h2 : 0 ≤ a ∧ a ≤ n - 1
    · have r2 : decide (0 ≤ a ∧ a ≤ n - 1) = true := by simpa using h2
      by_cases h3 : 0 ≤ b ∧ b ≤ n - 1
      · have r3 : decide (0 ≤ b ∧ b ≤ n - 1) = true := by simpa using h3
        go_enter Tryz.func77, Tryz.ntmps77
        go_wp2_with (go_at_call 81; refine (HI.out _ _ _ _).mono ?_; rintro e w1 ⟨rfl, rfl⟩)
        go_ret
        exact ⟨bret (by dsimp only; omega), (Below.refl _ _).alloc (Nat.le_refl _) _⟩
      · have r3 : decide (0 ≤ b ∧ b ≤ n - 1) = false := by simpa using h3
        go_enter Tryz.func77, Tryz.ntmps77
        go_wp2_with (go_at_call 81; refine (HI.out _ _ _ _).mono ?_; rintro e w1 ⟨rfl, rfl⟩)
        go_ret
        exact ⟨by simp [eB]; omega, (Below.refl _ _).alloc (Nat.le_refl _) _⟩
    · have r2 : decide (0 ≤ a ∧ a ≤ n - 1) = false := by simpa using h2
      go_enter Tryz.func77, Tryz.ntmps77
      go_wp2_with (go_at_call 81; refine (HI.out _ _ _ _).mono ?_; rintro e w1 ⟨rfl, rfl⟩)
      go_ret
      exact ⟨by simp [eB]; omega, (Below.refl _ _).alloc (Nat.le_refl _) _⟩
  · have r1 : decide (1 ≤ n ∧ n ≤ 12) = false := by simpa using h1
    go_enter Tryz.func77, Tryz.ntmps77
    go_wp2_with (go_at_call 81; refine (HI.out _ _ _ _).mono ?_; rintro e w1 ⟨rfl, rfl⟩)
    go_ret
    exact ⟨by simp [eB]; omega, (Below.refl _ _).alloc (Nat.le_refl _) _⟩

/-- the list of edges es stands at a, n of them, below block B -/
def Es (w : World) (B : Nat) (a : Option Addr) (n : Nat) (es : List EdgeV) : Prop :=
  es.length = n ∧ (n = 0 ∨ ∃ b off, a = some ⟨b, off, none⟩ ∧ b < B ∧ ∀ (j : Nat) (f : EdgeV), es[j]? = some f →
    w.cell? ⟨b, off + j * 2, none⟩ = some (.int .i64 f.1) ∧ w.cell? ⟨b, off + j * 2 + 1, none⟩ = some (.int .i64 f.2))

theorem Es.alloc {w : World} {B : Nat} {a : Option Addr} {n : Nat} {fs : List EdgeV} (h : Es w B a n fs) (hB : B ≤ w.heap.size) (o : Obj) : Es (w.alloc o) B a n fs := by
  refine ⟨h.1, h.2.imp id ?_⟩
  rintro ⟨b, off, ha, hb, hc⟩
  refine ⟨b, off, ha, hb, fun j f hf => ?_⟩
  have hbl : b < w.heap.size := by omega
  obtain ⟨c0, c1⟩ := hc j f hf
  exact ⟨by rw [World.cell?_of_block (w := w) (Below.heap_alloc w o b hbl)]; exact c0, by rw [World.cell?_of_block (w := w) (Below.heap_alloc w o b hbl)]; exact c1⟩

theorem Es.below {w w' : World} {B C : Nat} {a : Option Addr} {n : Nat} {fs : List EdgeV} (h : Es w B a n fs) (hb : Below C w w') (hB : B ≤ C) : Es w' B a n fs := by
  refine ⟨h.1, h.2.imp id ?_⟩
  rintro ⟨b, off, ha, hbl, hc⟩
  refine ⟨b, off, ha, hbl, fun j f hf => ?_⟩
  obtain ⟨c0, c1⟩ := hc j f hf
  have hl : b < C := by omega
  exact ⟨by rw [hb.cell (p := ⟨b, _, none⟩) hl]; exact c0, by rw [hb.cell (p := ⟨b, _, none⟩) hl]; exact c1⟩

theorem Es.mono {w : World} {B C : Nat} {a : Option Addr} {n : Nat} {fs : List EdgeV} (h : Es w B a n fs) (hB : B ≤ C) : Es w C a n fs := by
  refine ⟨h.1, h.2.imp id ?_⟩
  rintro ⟨b, off, ha, hbl, hc⟩
  exact ⟨b, off, ha, by omega, hc⟩

theorem Es.up {w w' : World} {a : Option Addr} {n : Nat} {fs : List EdgeV} (h : Es w w.heap.size a n fs) (hb : Below w.heap.size w w') : Es w' w'.heap.size a n fs :=
  (h.below hb (Nat.le_refl _)).mono hb.size

/-- the cells of an edge -/
def ecell (f : EdgeV) : List Value := [.int .i64 f.1, .int .i64 f.2]

/-- the cells of a list of edges -/
def ecells (fs : List EdgeV) : List Value := fs.flatMap ecell

theorem ecells_length (fs : List EdgeV) : (ecells fs).length = fs.length * 2 := by
  induction fs with
  | nil => rfl
  | cons f fs ih => simp only [ecells, List.flatMap_cons, List.length_append, List.length_cons] at ih ⊢; rw [ih]; simp [ecell]; omega

theorem ecells_at (fs : List EdgeV) (j : Nat) (f : EdgeV) (h : fs[j]? = some f) :
    (ecells fs)[j * 2]? = some (.int .i64 f.1) ∧ (ecells fs)[j * 2 + 1]? = some (.int .i64 f.2) := by
  induction fs generalizing j with
  | nil => simp at h
  | cons g fs ih =>
    cases j with
    | zero => simp at h; subst h; simp [ecells, ecell]
    | succ j =>
      have h2 := ih j (by simpa using h)
      have e : ∀ m, (ecells (g :: fs))[m + 2]? = (ecells fs)[m]? := fun m => by simp [ecells, ecell]
      refine ⟨?_, ?_⟩
      · rw [show (j + 1) * 2 = j * 2 + 2 by omega, e]; exact h2.1
      · rw [show (j + 1) * 2 + 1 = j * 2 + 1 + 2 by omega, e]; exact h2.2

theorem ecells_snoc (fs : List EdgeV) (f : EdgeV) : ecells (fs ++ [f]) = ecells fs ++ [.int .i64 f.1, .int .i64 f.2] := by simp [ecells, ecell]

theorem ecells_append (fs gs : List EdgeV) : ecells (fs ++ gs) = ecells fs ++ ecells gs := by simp [ecells]

theorem infoIE : (Tryz.prog.info? 28).map (fun i => (i.zero, i.size, i.bytes)) = some (some (.agg #[.int .i64 0, .int .i64 0]), 2, 16) := by kernel_rfl

/-- a list of one's own reads as its edges -/
theorem Es_of_own {w : World} {B n c : Nat} {a : Option Addr} {fs : List EdgeV} (h : w.ownsRow B 28 2 (.slice a n c) n (ecells fs)) : Es w w.heap.size a n fs := by
  have hl := h.1
  rw [ecells_length] at hl
  refine ⟨by omega, ?_⟩
  rcases h.2 with ⟨hv, h0⟩ | ⟨g, cap, cur, hv, hrest⟩
  · exact .inl h0
  · simp at hv
    obtain ⟨rfl, rfl⟩ := hv
    by_cases h0 : n = 0
    · exact .inl h0
    · refine .inr ⟨g, 0, rfl, (h.lt g rfl).2, fun j f hf => ?_⟩
      have hj : j < fs.length := (List.getElem?_eq_some_iff.1 hf).1
      obtain ⟨c0, c1⟩ := ecells_at fs j f hf
      rw [Nat.zero_add]
      exact ⟨by rw [h.cellAt (j * 2) (by omega)]; exact c0, by rw [h.cellAt (j * 2 + 1) (by omega)]; exact c1⟩

/-- the one edge comes ahead of the other -/
def lt (d e : EdgeV) : Bool := decide (d.1 < e.1 ∨ d.1 = e.1 ∧ d.2 < e.2)

theorem l05Less_any (d e : EdgeV) (w : World) :
    Calls Tryz.prog 167 #[.agg #[.int .i64 d.1, .int .i64 d.2], .agg #[.int .i64 e.1, .int .i64 e.2]] w fun x w' => x = .returned (.bool (lt d e)) ∧ Below w.heap.size w w' := by
  obtain ⟨a, b⟩ := d
  obtain ⟨c, f⟩ := e
  dsimp only
  by_cases h1 : a < c
  · have r1 : decide (a < c) = true := by simpa using h1
    go_enter Tryz.func167, Tryz.ntmps167
    go_wp2
    go_ret
    exact ⟨by simp [lt]; omega, ((Below.refl _ _).alloc (Nat.le_refl _) _).alloc (by simp) _⟩
  · have r1 : decide (a < c) = false := by simpa using h1
    by_cases h2 : a = c
    · subst h2
      go_enter Tryz.func167, Tryz.ntmps167
      go_wp2
      go_ret
      exact ⟨bret (by dsimp only; omega), ((Below.refl _ _).alloc (Nat.le_refl _) _).alloc (by simp) _⟩
    · have r2 : (a == c) = false := by simpa using h2
      go_enter Tryz.func167, Tryz.ntmps167
      go_wp2
      go_ret
      exact ⟨by simp [lt]; omega, ((Below.refl _ _).alloc (Nat.le_refl _) _).alloc (by simp) _⟩

/-- it is one of them -/
def hasB (es : List EdgeV) (e : EdgeV) : Bool := decide (e ∈ es)

theorem hasB_yes {es : List EdgeV} {e : EdgeV} {k : Nat} (h : es[k]? = some e) : hasB es e = true := decide_eq_true (List.mem_of_getElem? h)

theorem hasB_no {es : List EdgeV} {e : EdgeV} (h : ∀ j, j < es.length → es[j]? ≠ some e) : hasB es e = false := decide_eq_false fun hm => by
  obtain ⟨j, hj, rfl⟩ := List.getElem_of_mem hm
  exact h j hj (List.getElem?_eq_getElem hj)

set_option maxHeartbeats 1000000 in
theorem l05Has_any (es : List EdgeV) (e : EdgeV) (n : Nat) (a : Option Addr) (c : Nat) (hn : n ≤ 1048576) (w : World) (h : Es w w.heap.size a n es) :
    Calls Tryz.prog 68 #[.slice a n c, .agg #[.int .i64 e.1, .int .i64 e.2]] w fun x w' => x = .returned (.bool (hasB es e)) ∧ Below w.heap.size w w' := by
  obtain ⟨hlen, hrow⟩ := h
  have HR := hideIt hrow
  clear hrow
  go_enter Tryz.func68, Tryz.ntmps68
  go_wp2
  go_loopw [5] (fun i wr => ∃ k : Nat, k ≤ n ∧ i = .int .i64 (k : Int) ∧ Hid (∀ j, j < k → es[j]? ≠ some e) ∧ Below w.heap.size w wr ∧ wr.cell? ⟨w.heap.size, 0, none⟩ = some (.int .i64 e.1) ∧ wr.cell? ⟨w.heap.size, 1, none⟩ = some (.int .i64 e.2)) (fun i _ => n - (intOf i).toNat)
  case atStart => exact ⟨0, by omega, rfl, fun j hj => by omega, (Below.refl _ _).alloc (Nat.le_refl _) _, by simp, by simp⟩
  case round =>
    obtain ⟨k, hk, rfl, hck, hb, x0, x1⟩ := hrel
    by_cases hlt : k < n
    · rcases HR.out with hz | ⟨b, off, rfl, hbl, hc⟩
      · omega
      · obtain ⟨f, hf⟩ : ∃ f, es[k]? = some f := ⟨es[k]'(by omega), List.getElem?_eq_getElem (by omega)⟩
        obtain ⟨c0, c1⟩ := hc k f hf
        have e0 : wr.cell? ⟨b, off + k * 2, none⟩ = some (.int .i64 f.1) := by rw [hb.cell hbl]; exact c0
        have e1 : wr.cell? ⟨b, off + k * 2 + 1, none⟩ = some (.int .i64 f.2) := by rw [hb.cell hbl]; exact c1
        have b1 : (0 : Int) ≤ (k : Int) := by omega
        have b2 : (k : Int) < (n : Int) := by omega
        by_cases hfe : f = e
        · subst hfe
          have HY := hideIt (hasB_yes hf)
          clear hf hc c0 c1 hck
          go_wp2
          go_quiet (fail)
          go_wp2
          go_ret
          exact ⟨by rw [HY.out]; rfl, below_drewN hb _⟩
        · have HN : Hid (∀ j, j < k + 1 → es[j]? ≠ some e) := fun j hj => by
            by_cases hjk : j = k
            · subst hjk; rw [hf]; exact fun hh => hfe (Option.some.inj hh)
            · exact hck.out j (by omega)
          clear hf hc c0 c1 hck
          by_cases h1 : f.1 = e.1
          · have h2 : ¬ f.2 = e.2 := fun h2 => hfe (Prod.ext h1 h2)
            rw [h1] at e0
            have d2 : (f.2 == e.2) = false := by simpa using h2
            clear hfe
            go_wp2
            go_quiet (fail)
            go_wp2
            exact ⟨⟨k + 1, by omega, by go_num, HN, below_drewN hb _, x0, x1⟩, by simp [intOf]; omega⟩
          · have d1 : (f.1 == e.1) = false := by simpa using h1
            clear hfe
            go_wp2
            go_quiet (fail)
            go_wp2
            exact ⟨⟨k + 1, by omega, by go_num, HN, below_drewN hb _, x0, x1⟩, by simp [intOf]; omega⟩
    · have HN := hideIt (hasB_no (es := es) (e := e) (fun j hj => hck.out j (by omega)))
      clear hck
      go_wp2
      go_ret
      exact ⟨by rw [HN.out]; rfl, hb⟩

theorem lt_iff (d e : EdgeV) : lt d e = true ↔ (d.1 < e.1 ∨ d.1 = e.1 ∧ d.2 < e.2) := by unfold lt; rw [decide_eq_true_iff]

theorem lt_trans' {a b c : EdgeV} (h1 : lt a b = true) (h2 : lt b c = true) : lt a c = true := by rw [lt_iff] at *; omega

theorem lt_asymm' {a b : EdgeV} (h1 : lt a b = true) : lt b a = false := by
  cases h : lt b a with
  | false => rfl
  | true => rw [lt_iff] at *; omega

theorem lt_irrefl' (a : EdgeV) : lt a a = false := by
  cases h : lt a a with
  | false => rfl
  | true => rw [lt_iff] at h; omega

theorem lt_total' {a b : EdgeV} (h1 : lt a b = false) (h2 : a ≠ b) : lt b a = true := by
  have h3 : ¬ (a.1 < b.1 ∨ a.1 = b.1 ∧ a.2 < b.2) := fun h => by rw [(lt_iff a b).2 h] at h1; cases h1
  rw [lt_iff]
  by_cases h4 : a.1 = b.1
  · have h5 : ¬ a.2 = b.2 := fun h5 => h2 (Prod.ext h4 h5)
    omega
  · omega

/-- they ascend -/
def Asc (es : List EdgeV) : Prop := ∀ (i j : Nat) (d e : EdgeV), i < j → es[i]? = some d → es[j]? = some e → lt d e = true

/-- the edge in its place, as the specification puts it -/
def putE (es : List EdgeV) (e : EdgeV) : List EdgeV := es.filter (fun d => lt d e) ++ [e] ++ es.filter (fun d => lt e d)

end Go.Proofs.YtkkplppcgnikoaaGreat
namespace Go.Proofs.YtkkplppcgnikoaaGreat

/-- the edge of two vertices -/
def mkE (v u : Int) : EdgeV := if v < u then (v, u) else (u, v)
theorem mkE_comm {v u : Int} (h : v ≠ u) : mkE v u = mkE u v := by
  unfold mkE
  by_cases h1 : v < u
  · rw [if_pos h1, if_neg (by omega)]
  · rw [if_neg h1, if_pos (by omega)]
theorem mkE_inj {v u w : Int} (h : mkE v u = mkE v w) : u = w := by
  unfold mkE at h
  split at h <;> split at h <;> simp at h <;> omega
theorem mkE_ends (v u : Int) : (mkE v u = (v, u)) ∨ (mkE v u = (u, v)) := by
  unfold mkE
  split <;> simp

/-- the vertices from n - rem on -/
def wkGo (rec : Int → Int → List Int → Option (List Int × List Int)) (es : List EdgeV) (n : Nat) (v fr : Int) : Nat → List Int → List Int → Option (List Int × List Int)
  | 0, out, seen => some (out, seen)
  | rem + 1, out, seen =>
    if ((n - (rem + 1) : Nat) : Int) = fr ∨ mkE v ((n - (rem + 1) : Nat) : Int) ∉ es then wkGo rec es n v fr rem out seen
    else if ((n - (rem + 1) : Nat) : Int) ∈ seen then none
    else match rec ((n - (rem + 1) : Nat) : Int) v seen with
      | none => none
      | some x => wkGo rec es n v fr rem (out ++ x.1 ++ [v]) x.2
/-- the walk from v, to which it came from fr -/
def wk (es : List EdgeV) (n : Nat) : Nat → Int → Int → List Int → Option (List Int × List Int)
  | 0, _, _, _ => none
  | f + 1, v, fr, seen => wkGo (wk es n f) es n v fr n [v] (v :: seen)
theorem wkGo_skip {rec : Int → Int → List Int → Option (List Int × List Int)} {es : List EdgeV} {n : Nat} {v fr : Int} {rem k : Nat} {out seen : List Int} (hk : n - (rem + 1) = k) (h : (k : Int) = fr ∨ mkE v (k : Int) ∉ es) :
    wkGo rec es n v fr (rem + 1) out seen = wkGo rec es n v fr rem out seen := by
  rw [wkGo, hk, if_pos h]
theorem wkGo_go {rec : Int → Int → List Int → Option (List Int × List Int)} {es : List EdgeV} {n : Nat} {v fr : Int} {rem k : Nat} {out seen : List Int} {x : List Int × List Int} (hk : n - (rem + 1) = k) (h1 : (k : Int) ≠ fr) (h2 : mkE v (k : Int) ∈ es)
    (h : wkGo rec es n v fr (rem + 1) out seen = some x) : (k : Int) ∉ seen ∧ ∃ p, rec (k : Int) v seen = some p ∧ wkGo rec es n v fr rem (out ++ p.1 ++ [v]) p.2 = some x := by
  rw [wkGo, hk, if_neg (by rintro (h3 | h3); exact h1 h3; exact h3 h2)] at h
  by_cases hs : (k : Int) ∈ seen
  · rw [if_pos hs] at h; simp at h
  · rw [if_neg hs] at h
    refine ⟨hs, ?_⟩
    cases hr : rec (k : Int) v seen with
    | none => rw [hr] at h; simp at h
    | some p => rw [hr] at h; exact ⟨p, rfl, h⟩

/-- each edge is the only way between its ends -/
def Bridge (es : List EdgeV) : Prop := ∀ e ∈ es, ∃ S : Int → Prop, S e.2 ∧ ¬ S e.1 ∧ ∀ d ∈ es, d ≠ e → (S d.1 ↔ S d.2)
theorem Bridge.side {es : List EdgeV} (h : Bridge es) {v u : Int} (he : mkE v u ∈ es) : ∃ S : Int → Prop, S u ∧ ¬ S v ∧ ∀ d ∈ es, d ≠ mkE v u → (S d.1 ↔ S d.2) := by
  obtain ⟨S, h1, h2, h3⟩ := h _ he
  rcases mkE_ends v u with e | e
  · rw [e] at h1 h2
    exact ⟨S, h1, h2, h3⟩
  · rw [e] at h1 h2
    exact ⟨fun x => ¬ S x, h2, fun h4 => h4 h1, fun d hd hne => not_congr (h3 d hd hne)⟩

structure WkIs (es : List EdgeV) (n : Nat) (v fr : Int) (seen t seen' : List Int) : Prop where
  head : t.head? = some v
  nodup : seen'.Nodup
  rng : ∀ x ∈ seen', 0 ≤ x ∧ x < (n : Int)
  mem : ∀ x, x ∈ seen' ↔ x ∈ seen ∨ x ∈ t
  new : ∀ x ∈ t, x ∉ seen
  run : ∀ W S : List Int, (∀ x ∈ W, x ∈ S) → (∀ x ∈ t, x ∉ S) → ∃ S', trun W S t = some (v :: W, S')
  least : ∀ C : Int → Prop, C v → (∀ e ∈ es, e ≠ mkE v fr → (C e.1 ↔ C e.2)) → ∀ x ∈ t, C x
  len : seen.length < seen'.length
/-- the vertices below k have been gone to -/
structure GoIs (es : List EdgeV) (n : Nat) (v fr : Int) (k : Nat) (seen0 out seen : List Int) : Prop where
  head : out.head? = some v
  nodup : seen.Nodup
  rng : ∀ x ∈ seen, 0 ≤ x ∧ x < (n : Int)
  mem : ∀ x, x ∈ seen ↔ x ∈ seen0 ∨ x ∈ out
  new : ∀ x ∈ out, x ∉ seen0
  run : ∀ W S : List Int, (∀ x ∈ W, x ∈ S) → (∀ x ∈ out, x ∉ S) → ∃ S', trun W S out = some (v :: W, S')
  least : ∀ C : Int → Prop, C v → (∀ e ∈ es, e ≠ mkE v fr → (∀ u : Nat, k ≤ u → u < n → e ≠ mkE v (u : Int)) → (C e.1 ↔ C e.2)) → ∀ x ∈ out, C x
  len : seen0.length < seen.length
theorem GoIs.skip {es : List EdgeV} {n : Nat} {v fr : Int} {k : Nat} {seen0 out seen : List Int} (h : GoIs es n v fr k seen0 out seen) : GoIs es n v fr (k + 1) seen0 out seen :=
  ⟨h.head, h.nodup, h.rng, h.mem, h.new, h.run, fun C hv hC => h.least C hv fun e he h1 h2 => hC e he h1 fun u hu hn => h2 u (by omega) hn, h.len⟩
theorem GoIs.go {es : List EdgeV} {n : Nat} {v fr : Int} {k : Nat} {seen0 out seen p seen' : List Int} (h : GoIs es n v fr k seen0 out seen) (hkf : (k : Int) ≠ fr) (hkv : v ≠ (k : Int)) (he : mkE v (k : Int) ∈ es) {S : Int → Prop} (hS1 : S (k : Int)) (hS2 : ¬ S v) (hS3 : ∀ d ∈ es, d ≠ mkE v (k : Int) → (S d.1 ↔ S d.2))
    (hp : WkIs es n (k : Int) v seen p seen') : GoIs es n v fr (k + 1) seen0 (out ++ p ++ [v]) seen' := by
  have hvo : v ∈ out := by
    have := h.head
    cases out with
    | nil => simp at this
    | cons a o => simp at this; simp [this]
  have hS4 : ∀ w : Int, mkE v w ∈ es → mkE v w ≠ mkE v (k : Int) → ¬ S (mkE v w).1 ∧ ¬ S (mkE v w).2 := fun w hw hne => by
    have := hS3 _ hw hne
    rcases mkE_ends v w with e | e
    · rw [e] at this ⊢; exact ⟨hS2, fun h5 => hS2 (this.2 h5)⟩
    · rw [e] at this ⊢; exact ⟨fun h5 => hS2 (this.1 h5), hS2⟩
  refine ⟨?_, hp.nodup, hp.rng, fun x => ?_, fun x hx => ?_, fun W T hW hT => ?_, fun C hv hC x hx => ?_, Nat.lt_trans h.len hp.len⟩
  · have := h.head
    cases out with
    | nil => simp at this
    | cons a o => simpa using this
  · rw [hp.mem, h.mem]
    simp only [List.mem_append, List.mem_singleton]
    constructor
    · rintro ((h1 | h1) | h1)
      · exact .inl h1
      · exact .inr (.inl (.inl h1))
      · exact .inr (.inl (.inr h1))
    · rintro (h1 | (h1 | h1) | h1)
      · exact .inl (.inl h1)
      · exact .inl (.inr h1)
      · exact .inr h1
      · exact .inl (.inr (by rw [h1]; exact hvo))
  · simp only [List.mem_append, List.mem_singleton] at hx
    rcases hx with (h1 | h1) | h1
    · exact h.new x h1
    · exact fun h2 => hp.new x h1 ((h.mem x).2 (.inl h2))
    · rw [h1]; exact h.new v hvo
  · obtain ⟨S1, h1⟩ := h.run W T hW (fun x hx => hT x (by simp [hx]))
    obtain ⟨hs, hw⟩ := trun_seen h1 hW
    obtain ⟨S2, h2⟩ := hp.run (v :: W) S1 hw (fun x hx h3 => by
      rcases (hs x).1 h3 with h4 | h4
      · exact hT x (by simp [hx]) h4
      · exact hp.new x hx ((h.mem x).2 (.inr h4)))
    refine ⟨S2, ?_⟩
    rw [trun_append, trun_append, h1, Option.bind_some, h2, Option.bind_some, trun_up (by simp [isUp])]
    rfl
  · simp only [List.mem_append, List.mem_singleton] at hx
    rcases hx with (h1 | h1) | h1
    · exact h.skip.least C hv hC x h1
    · refine (hp.least (fun y => C y ∧ S y) ⟨?_, hS1⟩ (fun e he2 hne => ?_) x h1).1
      · have h2 := hC _ he (fun e => hkf (mkE_inj e)) (fun u hu _ e => by have := mkE_inj e; omega)
        rcases mkE_ends v (k : Int) with e | e
        · rw [e] at h2; exact h2.1 hv
        · rw [e] at h2; exact h2.2 hv
      · rw [mkE_comm (fun e => hkv e.symm)] at hne
        by_cases h3 : e = mkE v fr
        · subst h3
          obtain ⟨a, b⟩ := hS4 fr he2 hne
          exact ⟨fun h4 => absurd h4.2 a, fun h4 => absurd h4.2 b⟩
        · by_cases h4 : ∃ u : Nat, k + 1 ≤ u ∧ u < n ∧ e = mkE v (u : Int)
          · obtain ⟨u, _, _, rfl⟩ := h4
            obtain ⟨a, b⟩ := hS4 _ he2 hne
            exact ⟨fun h4 => absurd h4.2 a, fun h4 => absurd h4.2 b⟩
          · exact and_congr (hC e he2 h3 (fun u h5 h6 h7 => h4 ⟨u, h5, h6, h7⟩)) (hS3 e he2 hne)
    · rw [h1]; exact hv
theorem wk_ok {es : List EdgeV} {n : Nat} (hE : ∀ e ∈ es, 0 ≤ e.1 ∧ e.1 < e.2 ∧ e.2 < (n : Int)) (hBr : Bridge es) (f : Nat) : ∀ (v fr : Int) (seen : List Int), 0 ≤ v → v < (n : Int) → seen.Nodup → (∀ x ∈ seen, 0 ≤ x ∧ x < (n : Int)) → n ≤ f + seen.length →
    (∃ C : Int → Prop, C v ∧ (∀ x ∈ seen, ¬ C x) ∧ ∀ e ∈ es, e ≠ mkE v fr → (C e.1 ↔ C e.2)) → ∃ t seen', wk es n f v fr seen = some (t, seen') ∧ WkIs es n v fr seen t seen' := by
  induction f with
  | zero =>
    intro v fr seen h0 h1 hn hr hf ⟨C, hC, hCs, _⟩
    have hv : v ∉ seen := fun h => hCs v h hC
    have := nodup_le n (v :: seen) (List.nodup_cons.2 ⟨hv, hn⟩) (fun x hx => by
      rcases List.mem_cons.1 hx with rfl | hx
      · exact ⟨h0, h1⟩
      · exact hr x hx)
    simp at this
    omega
  | succ f ih =>
    intro v fr seen0 h0 h1 hn hr hf ⟨C, hC, hCs, hCe⟩
    have hv : v ∉ seen0 := fun h => hCs v h hC
    have key : ∀ (rem k : Nat) (out seen : List Int), rem + k = n → GoIs es n v fr k seen0 out seen → ∃ t seen', wkGo (wk es n f) es n v fr rem out seen = some (t, seen') ∧ GoIs es n v fr n seen0 t seen' := by
      intro rem
      induction rem with
      | zero =>
        intro k out seen hk hg
        obtain rfl : k = n := by omega
        exact ⟨out, seen, rfl, hg⟩
      | succ rem ihr =>
        intro k out seen hk hg
        have ek : n - (rem + 1) = k := by omega
        by_cases hs : (k : Int) = fr ∨ mkE v (k : Int) ∉ es
        · rw [wkGo_skip ek hs]
          exact ihr (k + 1) out seen (by omega) hg.skip
        · have hkf : (k : Int) ≠ fr := fun e => hs (.inl e)
          have he : mkE v (k : Int) ∈ es := Classical.not_not.1 (fun e => hs (.inr e))
          have hkv : v ≠ (k : Int) := fun e => by
            have := hE _ he
            rw [← e] at this
            unfold mkE at this
            rw [if_neg (by omega)] at this
            simp at this
          obtain ⟨S, hS1, hS2, hS3⟩ := hBr.side he
          have hout : ∀ x ∈ out, ¬ S x := hg.least (fun x => ¬ S x) hS2 (fun e he2 _ h3 => not_congr (hS3 e he2 (h3 k (Nat.le_refl _) (by omega))))
          have hCk : C (k : Int) := by
            have h2 := hCe _ he (fun e => hkf (mkE_inj e))
            rcases mkE_ends v (k : Int) with e | e
            · rw [e] at h2; exact h2.1 hC
            · rw [e] at h2; exact h2.2 hC
          have hpre : ∀ x ∈ seen, ¬ (C x ∧ S x) := fun x hx h3 => by
            rcases (hg.mem x).1 hx with h4 | h4
            · exact hCs x h4 h3.1
            · exact hout x h4 h3.2
          have hks : (k : Int) ∉ seen := fun h3 => hpre _ h3 ⟨hCk, hS1⟩
          obtain ⟨p, seen', hp, hpi⟩ := ih (k : Int) v seen (by omega) (by omega) hg.nodup hg.rng (by have := hg.len; omega) ⟨fun x => C x ∧ S x, ⟨hCk, hS1⟩, hpre, fun e he2 hne => by
            rw [mkE_comm (fun e => hkv e.symm)] at hne
            by_cases h3 : e = mkE v fr
            · subst h3
              have := hS3 _ he2 hne
              rcases mkE_ends v fr with e | e
              · rw [e] at this ⊢; exact ⟨fun h5 => absurd h5.2 hS2, fun h5 => absurd (this.2 h5.2) hS2⟩
              · rw [e] at this ⊢; exact ⟨fun h5 => absurd (this.1 h5.2) hS2, fun h5 => absurd h5.2 hS2⟩
            · exact and_congr (hCe e he2 h3) (hS3 e he2 hne)⟩
          obtain ⟨t, sn, h5, h6⟩ := ihr (k + 1) (out ++ p ++ [v]) seen' (by omega) (hg.go hkf hkv he hS1 hS2 hS3 hpi)
          refine ⟨t, sn, ?_, h6⟩
          rw [wkGo, ek, if_neg hs, if_neg hks, hp]
          exact h5
    have hst : GoIs es n v fr 0 seen0 [v] (v :: seen0) := by
      refine ⟨rfl, List.nodup_cons.2 ⟨hv, hn⟩, fun x hx => ?_, fun x => by simp; exact or_comm, fun x hx => by simp at hx; rw [hx]; exact hv, fun W S hW hS => ?_, fun C hv _ x hx => by simp at hx; rw [hx]; exact hv, by simp⟩
      · rcases List.mem_cons.1 hx with rfl | hx
        · exact ⟨h0, h1⟩
        · exact hr x hx
      · have hvS : v ∉ S := hS v (by simp)
        have hup : isUp W v = false := by
          cases h : isUp W v with
          | false => rfl
          | true => exact absurd (hW _ (isUp_mem h)) hvS
        exact ⟨v :: S, by rw [trun_down hup hvS]; rfl⟩
    obtain ⟨t, sn, h2, h3⟩ := key n 0 [v] (v :: seen0) (by omega) hst
    exact ⟨t, sn, h2, h3.head, h3.nodup, h3.rng, h3.mem, h3.new, h3.run, fun C hv hCe2 => h3.least C hv fun e he hne _ => hCe2 e he hne, h3.len⟩

end Go.Proofs.YtkkplppcgnikoaaGreat
namespace Go.Proofs.YtkkplppcgnikoaaGreat

/-- the edges of the first k steps that go up in number, each once -/
def eK (t : List Int) : Nat → List EdgeV
  | 0 => []
  | i + 1 => match t[i]?, t[i + 1]? with
    | some a, some b => if a < b ∧ (a, b) ∉ eK t i then eK t i ++ [(a, b)] else eK t i
    | _, _ => eK t i
def tE (t : List Int) : List EdgeV := eK t (t.length - 1)
theorem eK_yes {t : List Int} {i : Nat} {a b : Int} (h1 : t[i]? = some a) (h2 : t[i + 1]? = some b) (hl : a < b) (hn : (a, b) ∉ eK t i) : eK t (i + 1) = eK t i ++ [(a, b)] := by
  rw [eK, h1, h2]; exact if_pos ⟨hl, hn⟩
theorem eK_no {t : List Int} {i : Nat} {a b : Int} (h1 : t[i]? = some a) (h2 : t[i + 1]? = some b) (hn : ¬ (a < b ∧ (a, b) ∉ eK t i)) : eK t (i + 1) = eK t i := by
  rw [eK, h1, h2]; exact if_neg hn
theorem eK_mem (t : List Int) (k : Nat) (e : EdgeV) : e ∈ eK t k ↔ ∃ i, i < k ∧ t[i]? = some e.1 ∧ t[i + 1]? = some e.2 ∧ e.1 < e.2 := by
  induction k with
  | zero => simp [eK]
  | succ k ih =>
    constructor
    · intro h
      rw [eK] at h
      split at h
      · rename_i a b h1 h2
        split at h
        · rename_i hc
          rcases List.mem_append.1 h with h | h
          · obtain ⟨i, hi, h3⟩ := ih.1 h; exact ⟨i, by omega, h3⟩
          · simp at h; subst h; exact ⟨k, by omega, h1, h2, hc.1⟩
        · obtain ⟨i, hi, h3⟩ := ih.1 h; exact ⟨i, by omega, h3⟩
      · obtain ⟨i, hi, h3⟩ := ih.1 h; exact ⟨i, by omega, h3⟩
    · rintro ⟨i, hi, h1, h2, h3⟩
      by_cases hk : i = k
      · subst hk
        by_cases hm : e ∈ eK t i
        · rw [eK_no h1 h2 (fun h => h.2 hm)]; exact hm
        · rw [eK_yes h1 h2 h3 hm]; simp
      · have := ih.2 ⟨i, by omega, h1, h2, h3⟩
        rw [eK]
        split
        · split
          · simp [this]
          · exact this
        · exact this
theorem tE_mem (t : List Int) (e : EdgeV) : e ∈ tE t ↔ ∃ i, t[i]? = some e.1 ∧ t[i + 1]? = some e.2 ∧ e.1 < e.2 := by
  unfold tE
  rw [eK_mem]
  constructor
  · rintro ⟨i, _, h⟩; exact ⟨i, h⟩
  · rintro ⟨i, h1, h2, h3⟩
    have := (List.getElem?_eq_some_iff.1 h2).1
    exact ⟨i, by omega, h1, h2, h3⟩
theorem tE_step {t : List Int} (hB : tB t = true) {i : Nat} {a b : Int} (h1 : t[i]? = some a) (h2 : t[i + 1]? = some b) : mkE a b ∈ tE t := by
  unfold mkE
  by_cases h : a < b
  · rw [if_pos h]; exact (tE_mem t _).2 ⟨i, h1, h2, h⟩
  · rw [if_neg h]
    have hne : a ≠ b := fun e => by subst e; exact no_stay hB h1 h2
    obtain ⟨j, hj⟩ := go_back hB h1 h2
    simp [goP] at hj
    exact (tE_mem t _).2 ⟨j, hj.1, hj.2, by show b < a; omega⟩
/-- below c, and not below c, are apart but for the one edge -/
theorem split_side {t : List Int} {p c : Int} {d q : Nat} (hB : tB t = true) (h1 : t[d]? = some p) (h2 : t[d + 1]? = some c) (h3 : t[q]? = some c) (h4 : t[q + 1]? = some p) (hdq : d < q)
    (hno : ∀ j, j < q → t[j]? = some c → t[j + 1]? = some p → False) : ∃ S : Int → Prop, S c ∧ ¬ S p ∧ ∀ (i : Nat) (a b : Int), t[i]? = some a → t[i + 1]? = some b → mkE a b ≠ mkE p c → (S a ↔ S b) := by
  have SI := split_is hB h1 h2 h4 hdq hno
  refine ⟨fun x => x ∈ (t.take (q + 1)).drop (d + 1), SI.low, fun h => SI.apart p h SI.high, fun i a b ha hb hne => ?_⟩
  have hin : ∀ (j : Nat) (x : Int), t[j]? = some x → d + 1 ≤ j → j ≤ q → x ∈ (t.take (q + 1)).drop (d + 1) := fun j x hx h5 h6 => by
    refine List.mem_of_getElem? (i := j - (d + 1)) ?_
    rw [List.getElem?_drop, show d + 1 + (j - (d + 1)) = j by omega, List.getElem?_take_of_lt (by omega)]
    exact hx
  have hout : ∀ (j : Nat) (x : Int), t[j]? = some x → (j ≤ d ∨ q + 1 ≤ j) → x ∉ (t.take (q + 1)).drop (d + 1) := fun j x hx h5 h6 => by
    refine SI.apart x h6 ?_
    rw [List.mem_append]
    rcases h5 with h5 | h5
    · left
      refine List.mem_of_getElem? (i := j) ?_
      rw [List.getElem?_take_of_lt (by omega)]
      exact hx
    · by_cases h7 : j = q + 1
      · subst h7
        rw [h4] at hx
        simp at hx
        subst hx
        left
        refine List.mem_of_getElem? (i := d) ?_
        rw [List.getElem?_take_of_lt (by omega)]
        exact h1
      · right
        refine List.mem_of_getElem? (i := j - (q + 2)) ?_
        rw [List.getElem?_drop, show q + 2 + (j - (q + 2)) = j by omega]
        exact hx
  by_cases hid : i = d
  · subst hid
    rw [h1] at ha; rw [h2] at hb
    simp at ha hb
    subst ha hb
    exact absurd rfl hne
  · by_cases hiq : i = q
    · subst hiq
      rw [h3] at ha; rw [h4] at hb
      simp at ha hb
      subst ha hb
      exact absurd (mkE_comm (fun e => by subst e; exact no_stay hB h3 h4)) hne
    · by_cases hmid : d + 1 ≤ i ∧ i < q
      · exact ⟨fun _ => hin (i + 1) b hb (by omega) (by omega), fun _ => hin i a ha (by omega) (by omega)⟩
      · exact ⟨fun h => absurd h (hout i a ha (by omega)), fun h => absurd h (hout (i + 1) b hb (by omega))⟩
theorem tE_bridge {t : List Int} (hB : tB t = true) : Bridge (tE t) := fun e he => by
  obtain ⟨i, x1, x2, hlt⟩ := (tE_mem t e).1 he
  have em : mkE e.1 e.2 = e := by unfold mkE; rw [if_pos hlt]
  have key : ∃ S : Int → Prop, ((S e.2 ∧ ¬ S e.1) ∨ (S e.1 ∧ ¬ S e.2)) ∧ ∀ (i : Nat) (a b : Int), t[i]? = some a → t[i + 1]? = some b → mkE a b ≠ e → (S a ↔ S b) := by
    rcases go_at (t := t) (u := e.1) (v := e.2) with ⟨k1, _, _, a1, a2, a3⟩ | ⟨_, hn⟩
    · rcases go_at (t := t) (u := e.2) (v := e.1) with ⟨k2, _, _, b1, b2, b3⟩ | ⟨_, hn⟩
      · have hne : k1 ≠ k2 := fun h => by
          subst h
          rw [a1] at b1
          simp at b1
          omega
        rcases Nat.lt_or_gt_of_ne hne with h | h
        · obtain ⟨S, s1, s2, s3⟩ := split_side hB a1 a2 b1 b2 h (fun j hj y1 y2 => by have := b3 j hj; simp [goP, y1, y2] at this)
          exact ⟨S, .inl ⟨s1, s2⟩, fun i a b h1 h2 h3 => s3 i a b h1 h2 (by rw [em]; exact h3)⟩
        · obtain ⟨S, s1, s2, s3⟩ := split_side hB b1 b2 a1 a2 h (fun j hj y1 y2 => by have := a3 j hj; simp [goP, y1, y2] at this)
          exact ⟨S, .inr ⟨s1, s2⟩, fun i a b h1 h2 h3 => s3 i a b h1 h2 (by rw [show mkE e.2 e.1 = e from (mkE_comm (by omega)).trans em]; exact h3)⟩
      · obtain ⟨j, hj⟩ := go_back hB x1 x2
        have hj1 : j + 1 < t.length := by
          simp [goP] at hj
          exact (List.getElem?_eq_some_iff.1 hj.2).1
        rw [hn j hj1] at hj
        simp at hj
    · have := hn i (List.getElem?_eq_some_iff.1 x2).1
      simp [goP, x1, x2] at this
  obtain ⟨S, hS, hSc⟩ := key
  have hcr : ∀ d ∈ tE t, d ≠ e → (S d.1 ↔ S d.2) := fun d hd hne => by
    obtain ⟨j, y1, y2, hl⟩ := (tE_mem t d).1 hd
    have : mkE d.1 d.2 = d := by unfold mkE; rw [if_pos hl]
    exact hSc j d.1 d.2 y1 y2 (by rw [this]; exact hne)
  rcases hS with ⟨s1, s2⟩ | ⟨s1, s2⟩
  · exact ⟨S, s1, s2, hcr⟩
  · exact ⟨fun x => ¬ S x, s2, fun h => h s1, fun d hd hne => not_congr (hcr d hd hne)⟩
/-- a set that no edge leaves has all of the vertices, or none -/
theorem tE_all {t : List Int} (hB : tB t = true) {S : Int → Prop} (hS : ∀ e ∈ tE t, (S e.1 ↔ S e.2)) {x y : Int} (hx : x ∈ t) (hy : y ∈ t) : S x ↔ S y := by
  have key : ∀ (i : Nat) (a z : Int), t[0]? = some z → t[i]? = some a → (S z ↔ S a) := fun i => by
    induction i with
    | zero => intro a z h1 h2; rw [h1] at h2; simp at h2; subst h2; exact Iff.rfl
    | succ i ih =>
      intro a z h1 h2
      have hi := (List.getElem?_eq_some_iff.1 h2).1
      obtain ⟨b, hb⟩ : ∃ b, t[i]? = some b := ⟨t[i]'(by omega), List.getElem?_eq_getElem (by omega)⟩
      have h3 := hS _ (tE_step hB hb h2)
      rw [ih b z h1 hb]
      rcases mkE_ends b a with e | e
      · rw [e] at h3; exact h3
      · rw [e] at h3; exact h3.symm
  obtain ⟨i, hi⟩ := List.mem_iff_getElem?.1 hx
  obtain ⟨j, hj⟩ := List.mem_iff_getElem?.1 hy
  have hl := tB_len hB
  have h0 : t[0]? = some (t[0]'(by omega)) := List.getElem?_eq_getElem (by omega)
  rw [← key i x _ h0 hi, key j y _ h0 hj]

theorem wk_closed {es : List EdgeV} {n : Nat} (hE : ∀ e ∈ es, 0 ≤ e.1 ∧ e.1 < e.2 ∧ e.2 < (n : Int)) (f : Nat) : ∀ (v fr : Int) (seen t sn : List Int), wk es n f v fr seen = some (t, sn) → v ∈ t ∧ ∀ e ∈ es, e ≠ mkE v fr → (e.1 ∈ t ↔ e.2 ∈ t) := by
  induction f with
  | zero => intro v fr seen t sn h; simp [wk] at h
  | succ f ih =>
    intro v fr seen t sn h
    rw [wk] at h
    have key : ∀ (rem k : Nat) (out seen : List Int), rem + k = n → v ∈ out → (∀ e ∈ es, e ≠ mkE v fr → (∀ u : Nat, k ≤ u → u < n → e ≠ mkE v (u : Int)) → (e.1 ∈ out ↔ e.2 ∈ out)) → wkGo (wk es n f) es n v fr rem out seen = some (t, sn) → v ∈ t ∧ ∀ e ∈ es, e ≠ mkE v fr → (e.1 ∈ t ↔ e.2 ∈ t) := by
      intro rem
      induction rem with
      | zero =>
        intro k out seen hk hv hc h
        simp [wkGo] at h
        rw [← h.1]
        exact ⟨hv, fun e he hne => hc e he hne (fun u h1 h2 => by omega)⟩
      | succ rem ihr =>
        intro k out seen hk hv hc h
        have ek : n - (rem + 1) = k := by omega
        by_cases hs : (k : Int) = fr ∨ mkE v (k : Int) ∉ es
        · rw [wkGo_skip ek hs] at h
          refine ihr (k + 1) out seen (by omega) hv (fun e he hne hu => hc e he hne (fun u h1 h2 => ?_)) h
          by_cases huk : u = k
          · subst huk
            rcases hs with hs | hs
            · rw [hs]; exact hne
            · exact fun e2 => hs (e2 ▸ he)
          · exact hu u (by omega) h2
        · have hkf : (k : Int) ≠ fr := fun e => hs (.inl e)
          have he : mkE v (k : Int) ∈ es := Classical.not_not.1 (fun e => hs (.inr e))
          obtain ⟨_, p, hp, hgo⟩ := wkGo_go ek hkf he h
          obtain ⟨hkp, hpc⟩ := ih (k : Int) v seen p.1 p.2 hp
          refine ihr (k + 1) _ p.2 (by omega) (by simp) (fun e he2 hne hu => ?_) hgo
          simp only [List.mem_append, List.mem_singleton]
          by_cases h5 : e = mkE v (k : Int)
          · subst h5
            rcases mkE_ends v (k : Int) with e | e
            · rw [e]; exact ⟨fun _ => .inl (.inr hkp), fun _ => .inl (.inl hv)⟩
            · rw [e]; exact ⟨fun _ => .inl (.inl hv), fun _ => .inl (.inr hkp)⟩
          · have hvk : v ≠ (k : Int) := fun e => by
              have := hE _ he
              rw [← e] at this
              unfold mkE at this
              rw [if_neg (by omega)] at this
              simp at this
            have h6 := hc e he2 hne (fun u h1 h2 => by
              by_cases huk : u = k
              · subst huk; exact h5
              · exact hu u (by omega) h2)
            have h7 := hpc e he2 (by rw [mkE_comm (fun e => hvk e.symm)]; exact h5)
            have hv1 : e.1 = v → e.1 ∈ out := fun e => e ▸ hv
            have hv2 : e.2 = v → e.2 ∈ out := fun e => e ▸ hv
            constructor
            · rintro ((h8 | h8) | h8)
              · exact .inl (.inl (h6.1 h8))
              · exact .inl (.inr (h7.1 h8))
              · exact .inl (.inl (h6.1 (hv1 h8)))
            · rintro ((h8 | h8) | h8)
              · exact .inl (.inl (h6.2 h8))
              · exact .inl (.inr (h7.2 h8))
              · exact .inl (.inl (h6.2 (hv2 h8)))
    refine key n 0 [v] (v :: seen) (by omega) (by simp) (fun e he hne hu => ?_) h
    have h1 := hE e he
    have no : ∀ w : Int, 0 ≤ w → w < (n : Int) → e ≠ mkE v w := fun w h2 h3 => by
      have := hu w.toNat (by omega) (by omega)
      rw [Int.toNat_of_nonneg h2] at this
      exact this
    have n1 : e.1 ≠ v := fun h2 => no e.2 (by omega) (by omega) (by unfold mkE; rw [← h2, if_pos h1.2.1])
    have n2 : e.2 ≠ v := fun h2 => no e.1 (by omega) (by omega) (by unfold mkE; rw [← h2, if_neg (by omega)])
    simp [n1, n2]

theorem nodup_sub {α : Type} [DecidableEq α] : ∀ {a b : List α}, a.Nodup → (∀ x ∈ a, x ∈ b) → a.length ≤ b.length
  | [], _, _, _ => by simp
  | x :: a, b, hn, hs => by
    rw [List.nodup_cons] at hn
    have h1 := nodup_sub (a := a) (b := b.erase x) hn.2 (fun y hy => (List.mem_erase_of_ne (show y ≠ x from fun e => hn.1 (by rw [← e]; exact hy))).2 (hs y (by simp [hy])))
    have h2 := List.length_erase_of_mem (hs x (by simp))
    have h3 : 0 < b.length := List.length_pos_of_mem (hs x (by simp))
    simp
    omega
end Go.Proofs.YtkkplppcgnikoaaGreat
namespace Go.Proofs.YtkkplppcgnikoaaGreat
open Go.RowKit

/-- a vertex is in one tour alone -/
theorem FQ.place {N : Int} {ts : List (List Int)} (h : FQ N ts) {i j : Nat} {s t : List Int} {x : Int} (hi : ts[i]? = some s) (hj : ts[j]? = some t) (hs : x ∈ s) (ht : x ∈ t) : i = j := by
  obtain ⟨i0, i1⟩ := List.getElem?_eq_some_iff.1 hi
  obtain ⟨j0, j1⟩ := List.getElem?_eq_some_iff.1 hj
  rcases Nat.lt_trichotomy i j with hlt | hlt | hlt
  · have := List.pairwise_iff_getElem.1 h.2.1 i j i0 j0 hlt
    rw [i1, j1] at this
    exact absurd ht (this x hs)
  · exact hlt
  · have := List.pairwise_iff_getElem.1 h.2.1 j i j0 i0 hlt
    rw [i1, j1] at this
    exact absurd hs (this x ht)
/-- every vertex below N is in a tour -/
theorem FQ.cover {N : Nat} {ts : List (List Int)} (h : FQ (N : Int) ts) {x : Int} (h0 : 0 ≤ x) (h1 : x < (N : Int)) : ∃ t ∈ ts, x ∈ t := by
  have hall : ∀ (l : List (List Int)), (l.flatMap vsL).length = cnt l := fun l => by
    induction l with
    | nil => simp [cnt]
    | cons t r ih =>
      simp only [List.flatMap_cons, List.length_append, ih]
      simp [cnt]
  have hnd : ∀ (l : List (List Int)), l.Pairwise Apart → (l.flatMap vsL).Nodup := fun l hl => by
    induction l with
    | nil => simp
    | cons t r ih =>
      rw [List.pairwise_cons] at hl
      rw [List.flatMap_cons, List.nodup_append]
      refine ⟨vs_nodup t, ih hl.2, fun y hy z hz e => ?_⟩
      subst e
      obtain ⟨s, hs, hys⟩ := List.mem_flatMap.1 hz
      exact hl.1 s hs y ((vsL_mem t y).1 hy).2 ((vsL_mem s y).1 hys).2
  by_cases hx : x ∈ ts.flatMap vsL
  · obtain ⟨t, ht, hxt⟩ := List.mem_flatMap.1 hx
    exact ⟨t, ht, ((vsL_mem t x).1 hxt).2⟩
  · exfalso
    have h2 : (x :: ts.flatMap vsL).Nodup := List.nodup_cons.2 ⟨hx, hnd ts h.2.1⟩
    have h3 := nd_sub (b := (List.range N).map fun j : Nat => (j : Int)) h2 fun y hy => by
      have hy2 : 0 ≤ y ∧ y < (N : Int) := by
        rcases List.mem_cons.1 hy with rfl | hy
        · exact ⟨h0, h1⟩
        · obtain ⟨t, ht, hyt⟩ := List.mem_flatMap.1 hy
          obtain ⟨v1, v2⟩ := (vsL_mem t y).1 hyt
          have v1 := of_decide_eq_true (show decide (0 ≤ y ∧ y < 12) = true from v1)
          exact ⟨v1.1, (h.1 t ht).2 y v2⟩
      exact List.mem_map.2 ⟨y.toNat, List.mem_range.2 (by omega), by omega⟩
    have h4 := h.2.2
    rw [List.length_cons, hall, List.length_map, List.length_range] at h3
    omega
end Go.Proofs.YtkkplppcgnikoaaGreat
namespace Go.Proofs.YtkkplppcgnikoaaGreat
open Go.RowKit

theorem FP.q {N : Int} {ts : List (List Int)} (h : FP N ts) : FQ N ts := ((FP_iff N ts).1 h).2.2.1
end Go.Proofs.YtkkplppcgnikoaaGreat
namespace Go.Proofs.YtkkplppcgnikoaaGreat
open Go.RowKit

/-- a forest in a block of its own -/
def Box7 (w : World) (b : Nat) (t : TypeId) (v0 v1 : Value) : Prop := w.heap[b]? = some (.cells #[v0, v1] t (0, 0))
theorem Box7.cell0 {w : World} {b : Nat} {t : TypeId} {v0 v1 : Value} (h : Box7 w b t v0 v1) : w.cell? ⟨b, 0, none⟩ = some v0 := by rw [cell_of_row w b 0 _ _ _ h]; rfl
theorem Box7.cell1 {w : World} {b : Nat} {t : TypeId} {v0 v1 : Value} (h : Box7 w b t v0 v1) : w.cell? ⟨b, 1, none⟩ = some v1 := by rw [cell_of_row w b 1 _ _ _ h]; rfl
theorem Box7.frozen {w : World} {b : Nat} {t : TypeId} {v0 v1 : Value} (h : Box7 w b t v0 v1) (j : Nat) : w.frozen? ⟨b, j, none⟩ = false := frozen_of_row w b j _ _ h
theorem Box7.lt {w : World} {b : Nat} {t : TypeId} {v0 v1 : Value} (h : Box7 w b t v0 v1) : b < w.heap.size := (Array.getElem?_eq_some_iff.1 h).1
theorem Box7.new (w : World) (t : TypeId) (v0 v1 : Value) (b : Nat) (hb : w.heap.size = b) : Box7 (w.alloc (.cells #[v0, v1] t)) b t v0 v1 := by subst hb; exact heap_alloc_new w _
theorem Box7.below {w w' : World} {b C : Nat} {t : TypeId} {v0 v1 : Value} (h : Box7 w b t v0 v1) (hb : Below C w w') (hC : b < C) : Box7 w' b t v0 v1 := by
  unfold Box7; rw [hb.block b hC]; exact h
theorem Box7.up {w w' : World} {b : Nat} {t : TypeId} {v0 v1 : Value} (h : Box7 w b t v0 v1) (hb : Below w.heap.size w w') : Box7 w' b t v0 v1 := h.below hb h.lt
theorem Box7.grown {w w' : World} {b : Nat} {t : TypeId} {v0 v1 : Value} {row : Option Nat} (h : Box7 w b t v0 v1) (hg : w.grownBy w' row) (hr : some b ≠ row) : Box7 w' b t v0 v1 := by
  unfold Box7; rw [hg.block b h.lt hr]; exact h
theorem Box7.alloc {w : World} {b : Nat} {t : TypeId} {v0 v1 : Value} (h : Box7 w b t v0 v1) (o : Obj) : Box7 (w.alloc o) b t v0 v1 := by
  unfold Box7; rw [Below.heap_alloc w o b h.lt]; exact h
theorem Box7.set1 {w : World} {b : Nat} {t : TypeId} {v0 v1 : Value} (h : Box7 w b t v0 v1) (u1 : Value) : Box7 (w.setCell ⟨b, 1, none⟩ u1) b t v0 u1 := by
  unfold Box7
  rw [heap_setCell_same _ b 1 _ t u1 h]; rfl
theorem Box7.setOther {w : World} {b x j : Nat} {t : TypeId} {v0 v1 : Value} (h : Box7 w b t v0 v1) (v : Value) (hx : b ≠ x) : Box7 (w.setCell ⟨x, j, none⟩ v) b t v0 v1 := by
  unfold Box7
  rw [heap_setCell_other w ⟨x, j, none⟩ b v hx]; exact h

theorem Box7.set2 {w : World} {b : Nat} {t : TypeId} {v0 v1 : Value} (h : Box7 w b t v0 v1) (u0 u1 : Value) : Box7 ((w.setCell ⟨b, 0, none⟩ u0).setCell ⟨b, 1, none⟩ u1) b t u0 u1 := by
  have h1 : (w.setCell ⟨b, 0, none⟩ u0).heap[b]? = some (.cells #[u0, v1] t (0, 0)) := by rw [heap_setCell_same w b 0 _ t u0 h]; rfl
  unfold Box7
  rw [heap_setCell_same _ b 1 _ t u1 h1]; rfl
end Go.Proofs.YtkkplppcgnikoaaGreat
