/- Lists of edges in memory; what the drawn laws of chapter 6 have of chapter 5. slices.Concat of edges. slices.Concat of ints. A drawn region walked state by state: what is shown of a state once serves wherever the walk comes to it. slices.Concat of one list: of numbers, of no edges, of nothing said. -/
import Derived.Test.YtiidomopnmjhbaaKVerts
import Derived.Lib.AppendZerosOnto
import Derived.Lib.Walk
import Derived.Lib.SliceRun
import Derived.Laws.AppendOwnNone
import Derived.Test.YtiidomopnmjhbaaKNhC17
namespace Go.Proofs.Ytiidomopnmjhbaa
open Go.RowKit

/-- an edge -/
abbrev EdgeV := Int × Int

/-- the edge is right -/
def eB (n : Int) (e : EdgeV) : Bool := decide (1 ≤ n ∧ n ≤ 12 ∧ 0 ≤ e.1 ∧ e.1 < e.2 ∧ e.2 < n)

/-- the list of edges es stands at a, n of them, below block B -/
def Es (w : World) (B : Nat) (a : Option Addr) (n : Nat) (es : List EdgeV) : Prop :=
  es.length = n ∧ (n = 0 ∨ ∃ b off, a = some ⟨b, off, none⟩ ∧ b < B ∧ ∀ (j : Nat) (f : EdgeV), es[j]? = some f →
    w.cell? ⟨b, off + j * 2, none⟩ = some (.int .i64 f.1) ∧ w.cell? ⟨b, off + j * 2 + 1, none⟩ = some (.int .i64 f.2))

theorem Es.alloc {w : World} {B : Nat} {a : Option Addr} {n : Nat} {fs : List EdgeV} (h : Es w B a n fs) (hB : B ≤ w.heap.size) (o : Obj) : Es (w.alloc o) B a n fs := by
  refine ⟨h.1, h.2.imp id ?_⟩
  rintro ⟨b, off, ha, hb, hc⟩
  refine ⟨b, off, ha, hb, fun j f hf => ?_⟩
  have hbl : b < w.heap.size := by omega
  obtain ⟨c0, c1⟩ := hc j f hf
  exact ⟨by rw [World.cell?_of_block (w := w) (Below.heap_alloc w o b hbl)]; exact c0, by rw [World.cell?_of_block (w := w) (Below.heap_alloc w o b hbl)]; exact c1⟩

theorem Es.below {w w' : World} {B C : Nat} {a : Option Addr} {n : Nat} {fs : List EdgeV} (h : Es w B a n fs) (hb : Below C w w') (hB : B ≤ C) : Es w' B a n fs := by
  refine ⟨h.1, h.2.imp id ?_⟩
  rintro ⟨b, off, ha, hbl, hc⟩
  refine ⟨b, off, ha, hbl, fun j f hf => ?_⟩
  obtain ⟨c0, c1⟩ := hc j f hf
  have hl : b < C := by omega
  exact ⟨by rw [hb.cell (p := ⟨b, _, none⟩) hl]; exact c0, by rw [hb.cell (p := ⟨b, _, none⟩) hl]; exact c1⟩

theorem Es.mono {w : World} {B C : Nat} {a : Option Addr} {n : Nat} {fs : List EdgeV} (h : Es w B a n fs) (hB : B ≤ C) : Es w C a n fs := by
  refine ⟨h.1, h.2.imp id ?_⟩
  rintro ⟨b, off, ha, hbl, hc⟩
  exact ⟨b, off, ha, by omega, hc⟩

theorem Es.up {w w' : World} {a : Option Addr} {n : Nat} {fs : List EdgeV} (h : Es w w.heap.size a n fs) (hb : Below w.heap.size w w') : Es w' w'.heap.size a n fs :=
  (h.below hb (Nat.le_refl _)).mono hb.size

/-- the cells of an edge -/
def ecell (f : EdgeV) : List Value := [.int .i64 f.1, .int .i64 f.2]

/-- the cells of a list of edges -/
def ecells (fs : List EdgeV) : List Value := fs.flatMap ecell

theorem ecells_length (fs : List EdgeV) : (ecells fs).length = fs.length * 2 := by
  induction fs with
  | nil => rfl
  | cons f fs ih => simp only [ecells, List.flatMap_cons, List.length_append, List.length_cons] at ih ⊢; rw [ih]; simp [ecell]; omega

theorem ecells_at (fs : List EdgeV) (j : Nat) (f : EdgeV) (h : fs[j]? = some f) :
    (ecells fs)[j * 2]? = some (.int .i64 f.1) ∧ (ecells fs)[j * 2 + 1]? = some (.int .i64 f.2) := by
  induction fs generalizing j with
  | nil => simp at h
  | cons g fs ih =>
    cases j with
    | zero => simp at h; subst h; simp [ecells, ecell]
    | succ j =>
      have h2 := ih j (by simpa using h)
      have e : ∀ m, (ecells (g :: fs))[m + 2]? = (ecells fs)[m]? := fun m => by simp [ecells, ecell]
      refine ⟨?_, ?_⟩
      · rw [show (j + 1) * 2 = j * 2 + 2 by omega, e]; exact h2.1
      · rw [show (j + 1) * 2 + 1 = j * 2 + 1 + 2 by omega, e]; exact h2.2

theorem ecells_snoc (fs : List EdgeV) (f : EdgeV) : ecells (fs ++ [f]) = ecells fs ++ [.int .i64 f.1, .int .i64 f.2] := by simp [ecells, ecell]

theorem ecells_append (fs gs : List EdgeV) : ecells (fs ++ gs) = ecells fs ++ ecells gs := by simp [ecells]

theorem infoIE : (Try.prog.info? 107).map (fun i => (i.zero, i.size, i.bytes)) = some (some (.agg #[.int .i64 0, .int .i64 0]), 2, 16) := by kernel_rfl

/-- a list of one's own reads as its edges -/
theorem Es_of_own {w : World} {B n c : Nat} {a : Option Addr} {fs : List EdgeV} (h : w.ownsRow B 107 2 (.slice a n c) n (ecells fs)) : Es w w.heap.size a n fs := by
  have hl := h.1
  rw [ecells_length] at hl
  refine ⟨by omega, ?_⟩
  rcases h.2 with ⟨hv, h0⟩ | ⟨g, cap, cur, hv, hrest⟩
  · exact .inl h0
  · simp at hv
    obtain ⟨rfl, rfl⟩ := hv
    by_cases h0 : n = 0
    · exact .inl h0
    · refine .inr ⟨g, 0, rfl, (h.lt g rfl).2, fun j f hf => ?_⟩
      have hj : j < fs.length := (List.getElem?_eq_some_iff.1 hf).1
      obtain ⟨c0, c1⟩ := ecells_at fs j f hf
      rw [Nat.zero_add]
      exact ⟨by rw [h.cellAt (j * 2) (by omega)]; exact c0, by rw [h.cellAt (j * 2 + 1) (by omega)]; exact c1⟩

/-- the one edge comes ahead of the other -/
def lt (d e : EdgeV) : Bool := decide (d.1 < e.1 ∨ d.1 = e.1 ∧ d.2 < e.2)

/-- it is one of them -/
def hasB (es : List EdgeV) (e : EdgeV) : Bool := decide (e ∈ es)

theorem hasB_yes {es : List EdgeV} {e : EdgeV} {k : Nat} (h : es[k]? = some e) : hasB es e = true := decide_eq_true (List.mem_of_getElem? h)

theorem hasB_no {es : List EdgeV} {e : EdgeV} (h : ∀ j, j < es.length → es[j]? ≠ some e) : hasB es e = false := decide_eq_false fun hm => by
  obtain ⟨j, hj, rfl⟩ := List.getElem_of_mem hm
  exact h j hj (List.getElem?_eq_getElem hj)

theorem lt_iff (d e : EdgeV) : lt d e = true ↔ (d.1 < e.1 ∨ d.1 = e.1 ∧ d.2 < e.2) := by unfold lt; rw [decide_eq_true_iff]

theorem lt_trans' {a b c : EdgeV} (h1 : lt a b = true) (h2 : lt b c = true) : lt a c = true := by rw [lt_iff] at *; omega

theorem lt_asymm' {a b : EdgeV} (h1 : lt a b = true) : lt b a = false := by
  cases h : lt b a with
  | false => rfl
  | true => rw [lt_iff] at *; omega

theorem lt_irrefl' (a : EdgeV) : lt a a = false := by
  cases h : lt a a with
  | false => rfl
  | true => rw [lt_iff] at h; omega

theorem lt_total' {a b : EdgeV} (h1 : lt a b = false) (h2 : a ≠ b) : lt b a = true := by
  have h3 : ¬ (a.1 < b.1 ∨ a.1 = b.1 ∧ a.2 < b.2) := fun h => by rw [(lt_iff a b).2 h] at h1; cases h1
  rw [lt_iff]
  by_cases h4 : a.1 = b.1
  · have h5 : ¬ a.2 = b.2 := fun h5 => h2 (Prod.ext h4 h5)
    omega
  · omega

/-- they ascend -/
def Asc (es : List EdgeV) : Prop := ∀ (i j : Nat) (d e : EdgeV), i < j → es[i]? = some d → es[j]? = some e → lt d e = true

/-- the edge in its place, as the specification puts it -/
def putE (es : List EdgeV) (e : EdgeV) : List EdgeV := es.filter (fun d => lt d e) ++ [e] ++ es.filter (fun d => lt e d)

end Go.Proofs.Ytiidomopnmjhbaa
namespace Go.Proofs.Ytiidomopnmjhbaa
open Go.RowKit

theorem Grow_zero (w : World) : Calls Try.prog 112 #[.slice none 0 0, .int .i64 0] w fun e w' => e = .returned (.slice none 0 0) ∧ w' = w := by
  go_enter Try.func112, Try.ntmps112
  go_wp2
  go_ret
  exact ⟨rfl, rfl⟩
theorem Grow_some (n : Nat) (hn0 : 0 < n) (hn : n ≤ 10000000) (w : World) :
    Calls Try.prog 112 #[.slice none 0 0, .int .i64 (n : Int)] w fun e w' => ∃ a' c', e = .returned (.slice a' 0 c') ∧ w'.ownsRow w.heap.size 107 2 (.slice a' 0 c') 0 [] ∧ Below w.heap.size w w' := by
  obtain ⟨i0, hi, hz0, hz1, hz2⟩ := info_parts infoIE
  have hold : (Builtin.firstCells i0.size 0 (.slice none 0 0)).run Try.prog w.drew = .ok ([] : List Value).toArray w.drew := run_firstCells_none w.drew i0.size 0 0 0
  have hrz : ∀ ty, (Builtin.append_ #[27, 3] ty #[.slice none 0 0, .int .i64 (n : Int)]).run Try.prog w = _ := fun ty =>
    Lib.run_append_grow_zeros w 27 3 ty 107 i0 _ .i64 .i64 Try.underlying27 Try.underlying3 hi hz0 none 0 0 [] hold n hn0 (by rw [hz1]; omega) (by omega) (by omega)
      (by rw [hz2]; omega) (by rw [Nat.zero_add]; exact growslice_fits (by omega) (by rw [hz2]; omega))
  have hGn : 0 + n ≤ grownCap w (0 + n) 0 107 := grownCap_ge w _ _ _
  have hGm : grownCap w (0 + n) 0 107 ≤ maxLen := grownCap_le_maxLen w (0 + n) 0 107 (by unfold maxLen; omega)
  obtain ⟨G, hG⟩ : ∃ G, G = grownCap w (0 + n) 0 107 := ⟨_, rfl⟩
  rw [← hG] at hGn hGm
  have hrz2 : ∀ ty, (Builtin.append_ #[27, 3] ty #[.slice none 0 0, .int .i64 (n : Int)]).run Try.prog w = .ok (.slice (some ⟨w.heap.size, 0, none⟩) n G) (w.drew.alloc (.cells (Builtin.zeroCells #[.int .i64 0, .int .i64 0] n ++ Builtin.zeroCells #[.int .i64 0, .int .i64 0] (G - n)) 107)) := fun ty => by
    rw [hrz ty, ← hG]
    simp [Value.cells]
  have hsz : (Builtin.zeroCells #[.int .i64 0, .int .i64 0] n ++ Builtin.zeroCells #[.int .i64 0, .int .i64 0] (G - n)).size = G * 2 := by
    simp [Builtin.zeroCells]
    omega
  have HO := hideIt (show (w.drew.alloc (.cells (Builtin.zeroCells #[.int .i64 0, .int .i64 0] n ++ Builtin.zeroCells #[.int .i64 0, .int .i64 0] (G - n)) 107)).ownsRow w.heap.size 107 2 (.slice (some ⟨w.heap.size, 0, none⟩) 0 G) 0 [] from
    ⟨rfl, .inr ⟨w.heap.size, G, _, rfl, Nat.le_refl _, heap_alloc_new w.drew _, by omega, hGm, hsz, rfl⟩⟩)
  have HB := hideIt (show Below w.heap.size w (w.drew.alloc (.cells (Builtin.zeroCells #[.int .i64 0, .int .i64 0] n ++ Builtin.zeroCells #[.int .i64 0, .int .i64 0] (G - n)) 107)) from (Below.refl _ _).drew.alloc (Nat.le_refl _) _)
  generalize (w.drew.alloc (.cells (Builtin.zeroCells #[.int .i64 0, .int .i64 0] n ++ Builtin.zeroCells #[.int .i64 0, .int .i64 0] (G - n)) 107)) = W at hrz2 HO HB
  have g1 : (0 : Int) ≤ (G : Int) := by omega
  have d0 : decide ((0 : Int) < (n : Int)) = true := decide_eq_true (by omega)
  have d1 : decide ((n : Int) < 0) = false := decide_eq_false (by omega)
  unfold maxLen at hGm
  clear hrz hold hG hsz
  go_enter Try.func112, Try.ntmps112
  go_wp2_with (at_builtin; refine Lib.wpList_append_run _ rfl _ _ _ _ rfl _ _ rfl rfl _ _ (hrz2 _) ?_)
  all_goals
    go_ret
    exact ⟨_, _, rfl, HO.out, HB.out⟩
/-- one of the lists that are put together -/
structure Part where
  a : Option Addr
  m : Nat
  c : Nat
  es : List EdgeV
/-- the lists stand in block b -/
def Parts (w : World) (b : Nat) (ps : List Part) : Prop :=
  b < w.heap.size ∧ ∀ (j : Nat) (p : Part), ps[j]? = some p → w.cell? ⟨b, j, none⟩ = some (.slice p.a p.m p.c) ∧ Es w w.heap.size p.a p.m p.es ∧ (p.a = none → p.m = 0 ∧ p.c = 0)
def pLen (ps : List Part) : Nat := (ps.map fun p => p.m).sum
def pAll (ps : List Part) : List EdgeV := ps.flatMap fun p => p.es
theorem pLen_snoc (ps : List Part) (p : Part) : pLen (ps ++ [p]) = pLen ps + p.m := by simp [pLen]
theorem pAll_snoc (ps : List Part) (p : Part) : pAll (ps ++ [p]) = pAll ps ++ p.es := by simp [pAll]
theorem pLen_take (ps : List Part) (k : Nat) : pLen (ps.take k) ≤ pLen ps := by
  have h := congrArg pLen (List.take_append_drop k ps)
  have e : ∀ a b : List Part, pLen (a ++ b) = pLen a + pLen b := fun a b => by simp [pLen]
  rw [e] at h
  omega
theorem pAll_len {w : World} {b : Nat} {ps : List Part} (h : Parts w b ps) (k : Nat) : (pAll (ps.take k)).length = pLen (ps.take k) := by
  induction k with
  | zero => simp [pAll, pLen]
  | succ k ih =>
    by_cases hk : k < ps.length
    · obtain ⟨p, hp⟩ : ∃ p, ps[k]? = some p := ⟨ps[k], List.getElem?_eq_getElem hk⟩
      rw [take_snocF ps k p hp, pAll_snoc, pLen_snoc, List.length_append, ih, (h.2 k p hp).2.1.1]
    · rw [List.take_of_length_le (by omega), ← List.take_of_length_le (by omega : ps.length ≤ k)]; exact ih
theorem Es.news {w : World} {B b off n : Nat} {es : List EdgeV} (h : Es w B (some ⟨b, off, none⟩) n es) : ∀ j u, (ecells es)[j]? = some u → w.cell? ((⟨b, off, none⟩ : Addr).add j) = some u := by
  intro j u hj
  have hl : j < es.length * 2 := by have := (List.getElem?_eq_some_iff.1 hj).1; rw [ecells_length] at this; exact this
  have hn := h.1
  rcases h.2 with h0 | ⟨b', off', hb, _, hc⟩
  · omega
  · simp at hb
    obtain ⟨rfl, rfl⟩ := hb
    obtain ⟨f, hf⟩ : ∃ f, es[j / 2]? = some f := ⟨es[j / 2]'(by omega), List.getElem?_eq_getElem (by omega)⟩
    obtain ⟨c0, c1⟩ := hc _ f hf
    obtain ⟨d0, d1⟩ := ecells_at es _ f hf
    rw [show ((⟨b, off, none⟩ : Addr).add j) = ⟨b, off + j, none⟩ by by_cases h0 : j = 0 <;> simp [Addr.add, h0]]
    rcases (show j = j / 2 * 2 ∨ j = j / 2 * 2 + 1 by omega) with e | e
    · rw [← e] at d0 c0
      rw [d0] at hj
      rw [c0]
      exact hj
    · rw [← e] at d1
      rw [Nat.add_assoc, ← e] at c1
      rw [d1] at hj
      rw [c1]
      exact hj
theorem ecells_one {es : List EdgeV} : ∀ u ∈ ecells es, u.oneCell' = true := by
  intro u hu
  simp only [ecells, List.mem_flatMap] at hu
  obtain ⟨e, _, he⟩ := hu
  simp [ecell] at he
  rcases he with rfl | rfl <;> rfl
set_option maxRecDepth 100000 in
set_option maxHeartbeats 2000000 in
theorem Concat_any (ps : List Part) (b k0 : Nat) (hk0 : ps.length = k0) (hsm : k0 ≤ 10) (w : World) (h : Parts w b ps) (hlen : pLen ps ≤ 3000000) :
    Calls Try.prog 65 #[.slice (some ⟨b, 0, none⟩) k0 k0] w fun e w' => ∃ a m c, e = .returned (.slice a m c) ∧ w'.ownsRow w.heap.size 107 2 (.slice a m c) m (ecells (pAll ps)) ∧ Below w.heap.size w w' := by
  obtain ⟨i0, hi, hz0, hz1, hz2⟩ := info_parts infoIE
  have HP := hideIt h
  have HL := hideIt hlen
  have HK := hideIt hk0
  have hbw := h.1
  clear h hlen hk0
  have HG : Hid (∀ n : Nat, n ≤ 3000000 → Calls Try.prog 112 #[.slice none 0 0, .int .i64 (n : Int)] w fun e w' => ∃ a' c', e = .returned (.slice a' 0 c') ∧ w'.ownsRow w.heap.size 107 2 (.slice a' 0 c') 0 [] ∧ Below w.heap.size w w') := fun n hn => by
    by_cases h0 : n = 0
    · subst h0
      exact (Grow_zero w).mono fun _ _ ⟨he, hw⟩ => ⟨_, _, he, by rw [hw]; exact World.ownsRow_nil _ _ _ _, by rw [hw]; exact Below.refl _ _⟩
    · exact Grow_some n (by omega) (by omega) w
  go_enter Try.func65, Try.ntmps65
  go_wp2
  go_loopw [3, 11] (fun s i wr => ∃ (k q : Nat), k ≤ k0 ∧ i = .int .i64 (k : Int) ∧ s = .int .i64 (q : Int) ∧ Hid (q = pLen (ps.take k)) ∧ q ≤ 3000000 ∧ wr = w) (fun _ i _ => k0 - (intOf i).toNat)
  case atStart => exact ⟨0, 0, by omega, rfl, rfl, by show _ = _; simp [pLen], by omega, rfl⟩
  case round =>
    obtain ⟨k, q, hk, rfl, rfl, hq, hq1, hw⟩ := hrel
    have hw' := hw.symm
    subst hw'
    clear hw
    by_cases hlt : k < k0
    · obtain ⟨p, hp⟩ : ∃ p, ps[k]? = some p := ⟨ps[k]'(by have := HK.out; omega), List.getElem?_eq_getElem _⟩
      obtain ⟨c0, _, _⟩ := HP.out.2 k p hp
      have HQ : Hid (q + p.m = pLen (ps.take (k + 1))) := by show _ = _; rw [take_snocF ps k p hp, pLen_snoc, hq.out]
      have hqm : q + p.m ≤ 3000000 := by have := HQ.out; have := pLen_take ps (k + 1); have := HL.out; omega
      have b1 : (0 : Int) ≤ (k : Int) := by omega
      have b2 : (k : Int) < (k0 : Int) := by omega
      clear hq hp
      go_wp2
      exact ⟨⟨k + 1, q + p.m, by omega, by go_num, by go_num, HQ, hqm, by first | trivial | rfl⟩, by simp [intOf]; omega⟩
    · obtain rfl : k = k0 := by omega
      have HQ : Hid (q = pLen ps) := by show _ = _; rw [hq.out, List.take_of_length_le (by have := HK.out; omega)]
      clear hq
      have HG1 := hideIt (HG.out q hq1)
      clear HG
      go_wp2_with (go_at_call 112; refine HG1.out.mono ?_; rintro e w1 ⟨a1, c1, rfl, hown1, hb1⟩; refine Hid.out ?_)
      refine (show ∀ {p : Prop}, p → Hid p from fun h => h) ?_
      clear HG1
      have HO1 := hideIt hown1
      clear hown1
      go_wp2
      go_loopw [6, 27] (fun v i wr => ∃ (j m : Nat) (a' : Option Addr) (c' : Nat), j ≤ k ∧ i = .int .i64 (j : Int) ∧ v = .slice a' m c' ∧ Hid (m = pLen (ps.take j)) ∧ wr.ownsRow w.heap.size 107 2 (.slice a' m c') m (ecells (pAll (ps.take j))) ∧ Below w.heap.size w wr) (fun _ i _ => k - (intOf i).toNat)
      case atStart => exact ⟨0, 0, a1, c1, by omega, rfl, rfl, by show _ = _; simp [pLen], by simpa [pAll, ecells] using HO1.out, hb1⟩
      case round =>
        obtain ⟨j, m, a', c', hj, rfl, rfl, hm, hown, hb⟩ := hrel
        by_cases hlt2 : j < k
        · obtain ⟨p, hp⟩ : ∃ p, ps[j]? = some p := ⟨ps[j]'(by have := HK.out; omega), List.getElem?_eq_getElem _⟩
          obtain ⟨c0, hes, hnil⟩ := HP.out.2 j p hp
          have c1 : wr.cell? ⟨b, j, none⟩ = some (.slice p.a p.m p.c) := by rw [hb.cell hbw]; exact c0
          have HM : Hid (m + p.m = pLen (ps.take (j + 1))) := by show _ = _; rw [take_snocF ps j p hp, pLen_snoc, hm.out]
          have HA : Hid (ecells (pAll (ps.take (j + 1))) = ecells (pAll (ps.take j)) ++ ecells p.es) := by show _ = _; rw [take_snocF ps j p hp, pAll_snoc, ecells_append]
          have hmp : m + p.m ≤ 3000000 := by have := HM.out; have := pLen_take ps (j + 1); have := HL.out; omega
          have b1 : (0 : Int) ≤ (j : Int) := by omega
          have b2 : (j : Int) < (k : Int) := by omega
          have hesw := (hes.below hb (Nat.le_refl _)).mono hb.size
          have hl2 : (ecells p.es).length = p.m * 2 := by rw [ecells_length, hes.1]
          obtain ⟨pa, pm, pc, pes⟩ := p
          dsimp only at *
          clear hm hp c0 hes
          cases pa with
          | none =>
            obtain ⟨rfl, rfl⟩ := hnil rfl
            have HO2 : Hid (wr.ownsRow w.heap.size 107 2 (.slice a' m c') m (ecells (pAll (ps.take (j + 1))))) := by
              have e0 : pes = [] := List.length_eq_zero_iff.1 hesw.1
              show World.ownsRow _ _ _ _ _ _ _
              rw [HA.out, e0]
              simpa [ecells] using hown
            clear hnil
            go_wp2_with (at_builtin; refine wpList_append_own_none rfl _ _ 27 rfl w.heap.size 107 i0 2 Try.underlying27 hi _ _ _ rfl hown rfl ?_)
            exact ⟨⟨j + 1, m, a', c', by omega, by go_num, rfl, HM, HO2.out, hb⟩, by simp [intOf]; omega⟩
          | some ad =>
            have hnews : ∀ q u, (ecells pes)[q]? = some u → wr.cell? (ad.add q) = some u := by
              rcases hesw.2 with h0 | ⟨bb, oo, hbb, _⟩
              · intro q u hq
                have e0 : pes = [] := List.length_eq_zero_iff.1 (by rw [hesw.1]; exact h0)
                rw [e0] at hq
                simp [ecells] at hq
              · simp at hbb
                subst hbb
                exact hesw.news
            clear hnil
            go_wp2_with (at_builtin; refine wpList_append_own _ rfl _ _ 27 rfl w.heap.size 107 i0 _ 2 16 Try.underlying27 hi hz0 hz1 hz2 rfl (by decide) _ _ _ rfl hown ad pm pc (ecells pes) rfl hl2 hnews ecells_one (by unfold maxLen; omega) (by omega) hb.size ?_)
            intro v1 w1 hown1 hg1 hn1
            have hb1 : Below w.heap.size w w1 := hb.grown hg1 hb.size (fun q hq => (hown.lt q hq).1)
            rw [← HA.out] at hown1
            obtain ⟨a2, c2, rfl⟩ := own_form hown1
            have HO2 := hideIt hown1
            clear hown1 hown hg1 hn1 hnews
            go_wp2
            exact ⟨⟨j + 1, m + pm, a2, c2, by omega, by go_num, rfl, HM, HO2.out, hb1⟩, by simp [intOf]; omega⟩
        · obtain rfl : j = k := by omega
          have e : ps.take j = ps := List.take_of_length_le (by have := HK.out; omega)
          rw [e] at hown
          have HO2 := hideIt hown
          clear hown e hm
          go_wp2
          go_ret
          exact ⟨a', m, c', rfl, HO2.out, hb⟩
end Go.Proofs.Ytiidomopnmjhbaa
namespace Go.Proofs.Ytiidomopnmjhbaa
open Go.RowKit

theorem GrowI_zero (w : World) : Calls Try.prog 111 #[.slice none 0 0, .int .i64 0] w fun e w' => e = .returned (.slice none 0 0) ∧ w' = w := by
  go_enter Try.func111, Try.ntmps111
  go_wp2
  go_ret
  exact ⟨rfl, rfl⟩
theorem GrowI_some (n : Nat) (hn0 : 0 < n) (hn : n ≤ 10000000) (w : World) :
    Calls Try.prog 111 #[.slice none 0 0, .int .i64 (n : Int)] w fun e w' => ∃ a' c', e = .returned (.slice a' 0 c') ∧ w'.ownsRow w.heap.size 3 1 (.slice a' 0 c') 0 [] ∧ Below w.heap.size w w' := by
  obtain ⟨i0, hi, hz0, hz1, hz2⟩ := info_parts info3i
  have hold : (Builtin.firstCells i0.size 0 (.slice none 0 0)).run Try.prog w.drew = .ok ([] : List Value).toArray w.drew := run_firstCells_none w.drew i0.size 0 0 0
  have hrz : ∀ ty, (Builtin.append_ #[26, 3] ty #[.slice none 0 0, .int .i64 (n : Int)]).run Try.prog w = _ := fun ty =>
    Lib.run_append_grow_zeros w 26 3 ty 3 i0 _ .i64 .i64 Try.underlying26 Try.underlying3 hi hz0 none 0 0 [] hold n hn0 (by rw [hz1]; omega) (by omega) (by omega)
      (by rw [hz2]; omega) (by rw [Nat.zero_add]; exact growslice_fits (by omega) (by rw [hz2]; omega))
  have hGn : 0 + n ≤ grownCap w (0 + n) 0 3 := grownCap_ge w _ _ _
  have hGm : grownCap w (0 + n) 0 3 ≤ maxLen := grownCap_le_maxLen w (0 + n) 0 3 (by unfold maxLen; omega)
  obtain ⟨G, hG⟩ : ∃ G, G = grownCap w (0 + n) 0 3 := ⟨_, rfl⟩
  rw [← hG] at hGn hGm
  have hrz2 : ∀ ty, (Builtin.append_ #[26, 3] ty #[.slice none 0 0, .int .i64 (n : Int)]).run Try.prog w = .ok (.slice (some ⟨w.heap.size, 0, none⟩) n G) (w.drew.alloc (.cells (Builtin.zeroCells #[.int .i64 0] n ++ Builtin.zeroCells #[.int .i64 0] (G - n)) 3)) := fun ty => by
    rw [hrz ty, ← hG]
    simp [Value.cells]
  have hsz : (Builtin.zeroCells #[.int .i64 0] n ++ Builtin.zeroCells #[.int .i64 0] (G - n)).size = G * 1 := by
    simp [Builtin.zeroCells]
    omega
  have HO := hideIt (show (w.drew.alloc (.cells (Builtin.zeroCells #[.int .i64 0] n ++ Builtin.zeroCells #[.int .i64 0] (G - n)) 3)).ownsRow w.heap.size 3 1 (.slice (some ⟨w.heap.size, 0, none⟩) 0 G) 0 [] from
    ⟨rfl, .inr ⟨w.heap.size, G, _, rfl, Nat.le_refl _, heap_alloc_new w.drew _, by omega, hGm, hsz, rfl⟩⟩)
  have HB := hideIt (show Below w.heap.size w (w.drew.alloc (.cells (Builtin.zeroCells #[.int .i64 0] n ++ Builtin.zeroCells #[.int .i64 0] (G - n)) 3)) from (Below.refl _ _).drew.alloc (Nat.le_refl _) _)
  generalize (w.drew.alloc (.cells (Builtin.zeroCells #[.int .i64 0] n ++ Builtin.zeroCells #[.int .i64 0] (G - n)) 3)) = W at hrz2 HO HB
  have g1 : (0 : Int) ≤ (G : Int) := by omega
  have d0 : decide ((0 : Int) < (n : Int)) = true := decide_eq_true (by omega)
  have d1 : decide ((n : Int) < 0) = false := decide_eq_false (by omega)
  unfold maxLen at hGm
  clear hrz hold hG hsz
  go_enter Try.func111, Try.ntmps111
  go_wp2_with (at_builtin; refine Lib.wpList_append_run _ rfl _ _ _ _ rfl _ _ rfl rfl _ _ (hrz2 _) ?_)
  all_goals
    go_ret
    exact ⟨_, _, rfl, HO.out, HB.out⟩
/-- one of the lists that are put together -/
structure PartIC where
  a : Option Addr
  m : Nat
  c : Nat
  es : List Int
/-- the lists stand in block b -/
def PartsIC (w : World) (b : Nat) (ps : List PartIC) : Prop :=
  b < w.heap.size ∧ ∀ (j : Nat) (p : PartIC), ps[j]? = some p → w.cell? ⟨b, j, none⟩ = some (.slice p.a p.m p.c) ∧ Is w w.heap.size p.a p.m p.es ∧ (p.a = none → p.m = 0 ∧ p.c = 0)
def pLenI (ps : List PartIC) : Nat := (ps.map fun p => p.m).sum
def pAllI (ps : List PartIC) : List Int := ps.flatMap fun p => p.es
theorem pLenI_snoc (ps : List PartIC) (p : PartIC) : pLenI (ps ++ [p]) = pLenI ps + p.m := by simp [pLenI]
theorem pAllI_snoc (ps : List PartIC) (p : PartIC) : pAllI (ps ++ [p]) = pAllI ps ++ p.es := by simp [pAllI]
theorem pLenI_take (ps : List PartIC) (k : Nat) : pLenI (ps.take k) ≤ pLenI ps := by
  have h := congrArg pLenI (List.take_append_drop k ps)
  have e : ∀ a b : List PartIC, pLenI (a ++ b) = pLenI a + pLenI b := fun a b => by simp [pLenI]
  rw [e] at h
  omega
theorem pAllI_len {w : World} {b : Nat} {ps : List PartIC} (h : PartsIC w b ps) (k : Nat) : (pAllI (ps.take k)).length = pLenI (ps.take k) := by
  induction k with
  | zero => simp [pAllI, pLenI]
  | succ k ih =>
    by_cases hk : k < ps.length
    · obtain ⟨p, hp⟩ : ∃ p, ps[k]? = some p := ⟨ps[k], List.getElem?_eq_getElem hk⟩
      rw [take_snocF ps k p hp, pAllI_snoc, pLenI_snoc, List.length_append, ih, (h.2 k p hp).2.1.1]
    · rw [List.take_of_length_le (by omega), ← List.take_of_length_le (by omega : ps.length ≤ k)]; exact ih
theorem Is.newsC {w : World} {B b off n : Nat} {es : List Int} (h : Is w B (some ⟨b, off, none⟩) n es) : ∀ j u, (ic es)[j]? = some u → w.cell? ((⟨b, off, none⟩ : Addr).add j) = some u := by
  intro j u hj
  have hl : j < es.length := by have := (List.getElem?_eq_some_iff.1 hj).1; rw [ic_len] at this; exact this
  have hn := h.1
  rcases h.2 with h0 | ⟨b', off', hb, _, hc⟩
  · omega
  · simp at hb
    obtain ⟨rfl, rfl⟩ := hb
    obtain ⟨f, hf⟩ : ∃ f, es[j]? = some f := ⟨es[j]'(by omega), List.getElem?_eq_getElem (by omega)⟩
    rw [show ((⟨b, off, none⟩ : Addr).add j) = ⟨b, off + j, none⟩ by by_cases h0 : j = 0 <;> simp [Addr.add, h0]]
    rw [hc _ f hf, ← ic_at hf]
    exact hj
theorem icOne {es : List Int} : ∀ u ∈ ic es, u.oneCell' = true := by
  intro u hu
  simp only [ic, List.mem_map] at hu
  obtain ⟨e, _, rfl⟩ := hu
  rfl
theorem ic_appC (a b : List Int) : ic (a ++ b) = ic a ++ ic b := by simp [ic]
set_option maxRecDepth 100000 in
set_option maxHeartbeats 2000000 in
theorem ConcatI_any (ps : List PartIC) (b k0 : Nat) (hk0 : ps.length = k0) (hsm : k0 ≤ 10) (w : World) (h : PartsIC w b ps) (hlen : pLenI ps ≤ 3000000) :
    Calls Try.prog 64 #[.slice (some ⟨b, 0, none⟩) k0 k0] w fun e w' => ∃ a m c, e = .returned (.slice a m c) ∧ w'.ownsRow w.heap.size 3 1 (.slice a m c) m (ic (pAllI ps)) ∧ Below w.heap.size w w' := by
  obtain ⟨i0, hi, hz0, hz1, hz2⟩ := info_parts info3i
  have HP := hideIt h
  have HL := hideIt hlen
  have HK := hideIt hk0
  have hbw := h.1
  clear h hlen hk0
  have HG : Hid (∀ n : Nat, n ≤ 3000000 → Calls Try.prog 111 #[.slice none 0 0, .int .i64 (n : Int)] w fun e w' => ∃ a' c', e = .returned (.slice a' 0 c') ∧ w'.ownsRow w.heap.size 3 1 (.slice a' 0 c') 0 [] ∧ Below w.heap.size w w') := fun n hn => by
    by_cases h0 : n = 0
    · subst h0
      exact (GrowI_zero w).mono fun _ _ ⟨he, hw⟩ => ⟨_, _, he, by rw [hw]; exact World.ownsRow_nil _ _ _ _, by rw [hw]; exact Below.refl _ _⟩
    · exact GrowI_some n (by omega) (by omega) w
  go_enter Try.func64, Try.ntmps64
  go_wp2
  go_loopw [3, 11] (fun s i wr => ∃ (k q : Nat), k ≤ k0 ∧ i = .int .i64 (k : Int) ∧ s = .int .i64 (q : Int) ∧ Hid (q = pLenI (ps.take k)) ∧ q ≤ 3000000 ∧ wr = w) (fun _ i _ => k0 - (intOf i).toNat)
  case atStart => exact ⟨0, 0, by omega, rfl, rfl, by show _ = _; simp [pLenI], by omega, rfl⟩
  case round =>
    obtain ⟨k, q, hk, rfl, rfl, hq, hq1, hw⟩ := hrel
    have hw' := hw.symm
    subst hw'
    clear hw
    by_cases hlt : k < k0
    · obtain ⟨p, hp⟩ : ∃ p, ps[k]? = some p := ⟨ps[k]'(by have := HK.out; omega), List.getElem?_eq_getElem _⟩
      obtain ⟨c0, _, _⟩ := HP.out.2 k p hp
      have HQ : Hid (q + p.m = pLenI (ps.take (k + 1))) := by show _ = _; rw [take_snocF ps k p hp, pLenI_snoc, hq.out]
      have hqm : q + p.m ≤ 3000000 := by have := HQ.out; have := pLenI_take ps (k + 1); have := HL.out; omega
      have b1 : (0 : Int) ≤ (k : Int) := by omega
      have b2 : (k : Int) < (k0 : Int) := by omega
      clear hq hp
      go_wp2
      exact ⟨⟨k + 1, q + p.m, by omega, by go_num, by go_num, HQ, hqm, by first | trivial | rfl⟩, by simp [intOf]; omega⟩
    · obtain rfl : k = k0 := by omega
      have HQ : Hid (q = pLenI ps) := by show _ = _; rw [hq.out, List.take_of_length_le (by have := HK.out; omega)]
      clear hq
      have HG1 := hideIt (HG.out q hq1)
      clear HG
      go_wp2_with (go_at_call 111; refine HG1.out.mono ?_; rintro e w1 ⟨a1, c1, rfl, hown1, hb1⟩; refine Hid.out ?_)
      refine (show ∀ {p : Prop}, p → Hid p from fun h => h) ?_
      clear HG1
      have HO1 := hideIt hown1
      clear hown1
      go_wp2
      go_loopw [6, 27] (fun v i wr => ∃ (j m : Nat) (a' : Option Addr) (c' : Nat), j ≤ k ∧ i = .int .i64 (j : Int) ∧ v = .slice a' m c' ∧ Hid (m = pLenI (ps.take j)) ∧ wr.ownsRow w.heap.size 3 1 (.slice a' m c') m (ic (pAllI (ps.take j))) ∧ Below w.heap.size w wr) (fun _ i _ => k - (intOf i).toNat)
      case atStart => exact ⟨0, 0, a1, c1, by omega, rfl, rfl, by show _ = _; simp [pLenI], by simpa [pAllI, ic] using HO1.out, hb1⟩
      case round =>
        obtain ⟨j, m, a', c', hj, rfl, rfl, hm, hown, hb⟩ := hrel
        by_cases hlt2 : j < k
        · obtain ⟨p, hp⟩ : ∃ p, ps[j]? = some p := ⟨ps[j]'(by have := HK.out; omega), List.getElem?_eq_getElem _⟩
          obtain ⟨c0, hes, hnil⟩ := HP.out.2 j p hp
          have c1 : wr.cell? ⟨b, j, none⟩ = some (.slice p.a p.m p.c) := by rw [hb.cell hbw]; exact c0
          have HM : Hid (m + p.m = pLenI (ps.take (j + 1))) := by show _ = _; rw [take_snocF ps j p hp, pLenI_snoc, hm.out]
          have HA : Hid (ic (pAllI (ps.take (j + 1))) = ic (pAllI (ps.take j)) ++ ic p.es) := by show _ = _; rw [take_snocF ps j p hp, pAllI_snoc, ic_appC]
          have hmp : m + p.m ≤ 3000000 := by have := HM.out; have := pLenI_take ps (j + 1); have := HL.out; omega
          have b1 : (0 : Int) ≤ (j : Int) := by omega
          have b2 : (j : Int) < (k : Int) := by omega
          have hesw := (hes.below hb (Nat.le_refl _)).mono hb.size
          have hl2 : (ic p.es).length = p.m * 1 := by rw [ic_len, hes.1, Nat.mul_one]
          obtain ⟨pa, pm, pc, pes⟩ := p
          dsimp only at *
          clear hm hp c0 hes
          cases pa with
          | none =>
            obtain ⟨rfl, rfl⟩ := hnil rfl
            have HO2 : Hid (wr.ownsRow w.heap.size 3 1 (.slice a' m c') m (ic (pAllI (ps.take (j + 1))))) := by
              have e0 : pes = [] := List.length_eq_zero_iff.1 hesw.1
              show World.ownsRow _ _ _ _ _ _ _
              rw [HA.out, e0]
              simpa [ic] using hown
            clear hnil
            go_wp2_with (at_builtin; refine wpList_append_own_none rfl _ _ 26 rfl w.heap.size 3 i0 1 Try.underlying26 hi _ _ _ rfl hown rfl ?_)
            exact ⟨⟨j + 1, m, a', c', by omega, by go_num, rfl, HM, HO2.out, hb⟩, by simp [intOf]; omega⟩
          | some ad =>
            have hnews : ∀ q u, (ic pes)[q]? = some u → wr.cell? (ad.add q) = some u := by
              rcases hesw.2 with h0 | ⟨bb, oo, hbb, _⟩
              · intro q u hq
                have e0 : pes = [] := List.length_eq_zero_iff.1 (by rw [hesw.1]; exact h0)
                rw [e0] at hq
                simp [ic] at hq
              · simp at hbb
                subst hbb
                exact hesw.newsC
            clear hnil
            go_wp2_with (at_builtin; refine wpList_append_own _ rfl _ _ 26 rfl w.heap.size 3 i0 _ 1 8 Try.underlying26 hi hz0 hz1 hz2 rfl (by decide) _ _ _ rfl hown ad pm pc (ic pes) rfl hl2 hnews icOne (by unfold maxLen; omega) (by omega) hb.size ?_)
            intro v1 w1 hown1 hg1 hn1
            have hb1 : Below w.heap.size w w1 := hb.grown hg1 hb.size (fun q hq => (hown.lt q hq).1)
            rw [← HA.out] at hown1
            obtain ⟨a2, c2, rfl⟩ := own_form hown1
            have HO2 := hideIt hown1
            clear hown1 hown hg1 hn1 hnews
            go_wp2
            exact ⟨⟨j + 1, m + pm, a2, c2, by omega, by go_num, rfl, HM, HO2.out, hb1⟩, by simp [intOf]; omega⟩
        · obtain rfl : j = k := by omega
          have e : ps.take j = ps := List.take_of_length_le (by have := HK.out; omega)
          rw [e] at hown
          have HO2 := hideIt hown
          clear hown e hm
          go_wp2
          go_ret
          exact ⟨a', m, c', rfl, HO2.out, hb⟩
end Go.Proofs.Ytiidomopnmjhbaa
namespace Go.Proofs.Ytiidomopnmjhbaa
open Go.RowKit

structure Bx (T : Prop) : Prop where
  out : T
theorem viaT {T G : Prop} (main : Bx T → G) (p : T) : G := main ⟨p⟩
theorem hidp {p : Prop} (h : p) : Hid p := h
theorem lstH {P : Program} {md : Region.Mode} {ops : Array Oper} {Q : Exit → Go.Act → World → Prop} {S : World → Prop} {fuel : Nat} {l l' : Array Bool} {a : Go.Act} {w : World} (h : l = l') (H : wpAnyH P md ops Q S fuel l' a w) : wpAnyH P md ops Q S fuel l a w := h ▸ H
end Go.Proofs.Ytiidomopnmjhbaa
namespace Go.Proofs.Ytiidomopnmjhbaa
open Go.RowKit

theorem keepQ {u v : World} {bs : Nat} {x : Value} (h : u.cell? ⟨bs, 0, none⟩ = some x ∧ bs < u.heap.size) (hb : Below u.heap.size u v) : v.cell? ⟨bs, 0, none⟩ = some x ∧ bs < v.heap.size := by
  rw [hb.cell h.2]
  exact ⟨h.1, Nat.lt_of_lt_of_le h.2 hb.size⟩
theorem con1I (ls : List Int) (a : Option Addr) (n c : Nat) (hn : n ≤ 3000000) (hz : a = none → n = 0 ∧ c = 0) (b : Nat) (u : World) (hI : Is u u.heap.size a n ls) (hc : u.cell? ⟨b, 0, none⟩ = some (.slice a n c) ∧ b < u.heap.size) :
    Calls Try.prog 64 #[.slice (some ⟨b, 0, none⟩) 1 1] u fun e v => ∃ a m c, e = .returned (.slice a m c) ∧ Below u.heap.size u v := by
  have h := ConcatI_any [⟨a, n, c, ls⟩] b 1 rfl (by omega) u ⟨hc.2, fun j p hp => by
    cases j with
    | zero => simp at hp; subst hp; exact ⟨hc.1, hI, hz⟩
    | succ j => simp at hp⟩ (by simpa [pLenI] using hn)
  exact h.mono fun e v ⟨a, m, c, h1, _, h3⟩ => ⟨a, m, c, h1, h3⟩
theorem growE_nil (w : World) : Calls Try.prog 112 #[.slice none 0 0, .int .i64 0] w fun e w' => e = .returned (.slice none 0 0) ∧ w' = w := by
  go_enter Try.func112, Try.ntmps112
  go_wp2
  go_ret
  exact ⟨rfl, rfl⟩
theorem growS_nil (w : World) : Calls Try.prog 113 #[.slice none 0 0, .int .i64 0] w fun e w' => e = .returned (.slice none 0 0) ∧ w' = w := by
  go_enter Try.func113, Try.ntmps113
  go_wp2
  go_ret
  exact ⟨rfl, rfl⟩
theorem infoE17 : (Try.prog.info? 107).map (fun i => (i.zero, i.size, i.bytes)) = some (some (.agg #[.int .i64 0, .int .i64 0]), 2, 16) := by kernel_rfl
set_option maxHeartbeats 4000000 in
theorem conE_nil (b : Nat) (w : World) (hc : w.cell? ⟨b, 0, none⟩ = some (.slice none 0 0)) :
    Calls Try.prog 65 #[.slice (some ⟨b, 0, none⟩) 1 1] w fun e w' => e = .returned (.slice none 0 0) ∧ w' = w := by
  obtain ⟨i0, hi, hz0, hz1, hz2⟩ := info_parts infoE17
  have HG := hideIt growE_nil
  go_enter Try.func65, Try.ntmps65
  go_wp2
  refine wp_loop_rounds 2 ?_
  rw [rounds_succ]
  go_wp2
  rw [rounds_succ]
  go_wp2_with (go_at_call 112; refine (HG.out _).mono ?_; rintro e w1 ⟨rfl, rfl⟩)
  refine wp_loop_rounds 2 ?_
  rw [rounds_succ]
  go_wp2_with (at_builtin; refine wpList_append_own_none rfl _ _ 27 rfl 0 107 i0 2 Try.underlying27 hi (by rw [hz1]) _ 0 [] rfl (World.ownsRow_nil _ _ _ _) rfl ?_)
  rw [rounds_succ]
  go_wp2
  go_ret
  exact ⟨rfl, rfl⟩
set_option maxHeartbeats 4000000 in
theorem conS_nil (b : Nat) (w : World) (hc : w.cell? ⟨b, 0, none⟩ = some (.slice none 0 0)) :
    Calls Try.prog 66 #[.slice (some ⟨b, 0, none⟩) 1 1] w fun e w' => e = .returned (.slice none 0 0) ∧ w' = w := by
  obtain ⟨i0, hi, hz0, hz1, hz2⟩ := info_parts infoSd
  have HG := hideIt growS_nil
  go_enter Try.func66, Try.ntmps66
  go_wp2
  refine wp_loop_rounds 2 ?_
  rw [rounds_succ]
  go_wp2
  rw [rounds_succ]
  go_wp2_with (go_at_call 113; refine (HG.out _).mono ?_; rintro e w1 ⟨rfl, rfl⟩)
  refine wp_loop_rounds 2 ?_
  rw [rounds_succ]
  go_wp2_with (at_builtin; refine wpList_append_own_none rfl _ _ 35 rfl 0 72 i0 6 Try.underlying35 hi (by rw [hz1]) _ 0 [] rfl (World.ownsRow_nil _ _ _ _) rfl ?_)
  rw [rounds_succ]
  go_wp2
  go_ret
  exact ⟨rfl, rfl⟩
end Go.Proofs.Ytiidomopnmjhbaa
