/- Places in a list of ints: the first one of a number, the last one, the first step from one number to another. The specification's TourOk. The specification's TourOk: the whole of it. The vertices of a list of numbers, ascending; a sorted list without its repetitions: pure. Lists of tours in memory; what a right forest is: pure. A list of tours in memory, each in a block of its own. -/
import Derived.Test.YtkkplppcgnikoaaGreatKTourP
import Derived.Lib.SlicesCompact
namespace Go.Proofs.YtkkplppcgnikoaaGreat
open Go.RowKit

def firstN (p : Nat → Bool) (n : Nat) : Int := match (List.range n).find? p with | some k => (k : Int) | none => -1
theorem firstN_yes {p : Nat → Bool} {n k : Nat} (hk : k < n) (h : p k = true) (hn : ∀ j, j < k → p j = false) : firstN p n = (k : Int) := by
  have : (List.range n).find? p = some k := by
    rw [List.find?_range_eq_some]
    exact ⟨h, by simpa using hk, fun j hj => by simp [hn j hj]⟩
  unfold firstN
  rw [this]
theorem firstN_no {p : Nat → Bool} {n : Nat} (hn : ∀ j, j < n → p j = false) : firstN p n = -1 := by
  have : (List.range n).find? p = none := by
    rw [List.find?_range_eq_none]
    exact fun j hj => by simp [hn j hj]
  unfold firstN
  rw [this]
theorem firstN_cases (p : Nat → Bool) (n : Nat) : (∃ k, k < n ∧ p k = true ∧ (∀ j, j < k → p j = false) ∧ firstN p n = (k : Int)) ∨ ((∀ j, j < n → p j = false) ∧ firstN p n = -1) := by
  cases h : (List.range n).find? p with
  | none =>
    rw [List.find?_range_eq_none] at h
    exact .inr ⟨fun j hj => by simpa using h j hj, by unfold firstN; rw [show (List.range n).find? p = none by rw [List.find?_range_eq_none]; exact h]⟩
  | some k =>
    have h' := h
    rw [List.find?_range_eq_some] at h
    exact .inl ⟨k, by simpa using h.2.1, h.1, fun j hj => by simpa using h.2.2 j hj, by unfold firstN; rw [h']⟩
/-- the number v stands at the place k -/
def atP (ls : List Int) (v : Int) (k : Nat) : Bool := ls[k]? == some v
/-- there the list goes from u to v -/
def goP (ls : List Int) (u v : Int) (k : Nat) : Bool := ls[k]? == some u && ls[k + 1]? == some v
def fstI (ls : List Int) (v : Int) : Int := firstN (atP ls v) ls.length
def goI (ls : List Int) (u v : Int) : Int := firstN (goP ls u v) (ls.length - 1)
theorem atP_yes {ls : List Int} {v : Int} {k : Nat} (h : ls[k]? = some v) : atP ls v k = true := by simp [atP, h]
theorem atP_no {ls : List Int} {v f : Int} {k : Nat} (h : ls[k]? = some f) (hn : f ≠ v) : atP ls v k = false := by simp [atP, h, hn]
theorem fstI_mem (ls : List Int) (v : Int) : decide (fstI ls v < 0) = decide (v ∉ ls) := by
  rcases firstN_cases (atP ls v) ls.length with ⟨k, _, h, _, e⟩ | ⟨h, e⟩
  · have hm : v ∈ ls := List.mem_of_getElem? (by simpa [atP] using h)
    have e' : fstI ls v = (k : Int) := e
    rw [e', decide_eq_decide]
    simp [hm]
  · have hm : v ∉ ls := fun hm => by
      obtain ⟨k, hk⟩ := List.mem_iff_getElem?.1 hm
      have := h k (List.getElem?_eq_some_iff.1 hk).1
      rw [atP_yes hk] at this
      simp at this
    have e' : fstI ls v = -1 := e
    rw [e', decide_eq_decide]
    simp [hm]
theorem mem_of_atP {ls : List Int} {v : Int} {n : Nat} (hn : ls.length = n) (h : ∀ j, j < n → atP ls v j = false) : v ∉ ls := fun hm => by
  obtain ⟨k, hk⟩ := List.mem_iff_getElem?.1 hm
  have := h k (by have := (List.getElem?_eq_some_iff.1 hk).1; omega)
  rw [atP_yes hk] at this
  simp at this
theorem all_step {p : Nat → Bool} {k : Nat} (h : ∀ j, j < k → p j = false) (hp : p k = false) : ∀ j, j < k + 1 → p j = false := fun j hj => by
  by_cases h7 : j = k
  · rw [h7]; exact hp
  · exact h j (by omega)

theorem retT {p : Prop} [Decidable p] (h : p) : Ending.returned (.bool true) = Ending.returned (.bool (decide p)) := by rw [decide_eq_true h]
theorem retF {p : Prop} [Decidable p] (h : ¬ p) : Ending.returned (.bool false) = Ending.returned (.bool (decide p)) := by rw [decide_eq_false h]
theorem retI {x y : Int} (h : y = x) : Ending.returned (.int .i64 x) = Ending.returned (.int .i64 y) := by rw [h]

set_option maxHeartbeats 1000000 in
theorem l05In_any (ls : List Int) (v : Int) (n : Nat) (a : Option Addr) (c : Nat) (hn : n ≤ 3000000) (w : World) (h : Is w w.heap.size a n ls) :
    Calls Tryz.prog 171 #[.slice a n c, .int .i64 v] w fun e w' => e = .returned (.bool (decide (v ∈ ls))) ∧ w' = w := by
  obtain ⟨hlen, hrow⟩ := h
  have HR := hideIt hrow
  clear hrow
  go_enter Tryz.func171, Tryz.ntmps171
  go_wp2
  go_loopw [5] (fun i wr => ∃ (k : Nat), k ≤ n ∧ i = .int .i64 (k : Int) ∧ Hid (∀ j, j < k → atP ls v j = false) ∧ wr = w) (fun i _ => n - (intOf i).toNat)
  case atStart => exact ⟨0, by omega, rfl, fun j hj => by omega, rfl⟩
  case round =>
    obtain ⟨k, hk, rfl, HF, hw⟩ := hrel
    have hw' := hw.symm
    subst hw'
    clear hw
    by_cases hlt : k < n
    · rcases HR.out with hz | ⟨b, off, rfl, hbl, hc⟩
      · omega
      · obtain ⟨f, hf⟩ : ∃ f, ls[k]? = some f := ⟨ls[k]'(by omega), List.getElem?_eq_getElem (by omega)⟩
        have e0 := hc k f hf
        have b1 : (0 : Int) ≤ (k : Int) := by omega
        have b2 : (k : Int) < (n : Int) := by omega
        by_cases hv : f = v
        · have d1 : (f == v) = true := by simpa using hv
          have hm := hideIt (show v ∈ ls from hv ▸ List.mem_of_getElem? hf)
          clear hc hf hv
          go_wp2
          go_ret
          exact ⟨retT hm.out, rfl⟩
        · have d1 : (f == v) = false := by simpa using hv
          have HF2 := hideIt (all_step HF.out (atP_no hf hv))
          clear hc hf hv HF
          go_wp2
          exact ⟨⟨k + 1, by omega, by go_num, HF2, by first | trivial | rfl⟩, by simp [intOf]; omega⟩
    · obtain rfl : k = n := by omega
      have hm := hideIt (mem_of_atP hlen HF.out)
      clear HF
      go_wp2
      go_ret
      exact ⟨retF hm.out, rfl⟩

set_option maxHeartbeats 1000000 in
theorem idxI_any (ls : List Int) (v : Int) (n : Nat) (a : Option Addr) (c : Nat) (hn : n ≤ 3000000) (w : World) (h : Is w w.heap.size a n ls) :
    Calls Tryz.prog 271 #[.slice a n c, .int .i64 v] w fun e w' => e = .returned (.int .i64 (fstI ls v)) ∧ w' = w := by
  obtain ⟨hlen, hrow⟩ := h
  have HR := hideIt hrow
  have HL := hideIt hlen
  clear hrow
  go_enter Tryz.func271, Tryz.ntmps271
  go_wp2
  go_loopw [8] (fun i wr => ∃ (k : Nat), k ≤ n ∧ i = .int .i64 (k : Int) ∧ Hid (∀ j, j < k → atP ls v j = false) ∧ wr = w) (fun i _ => n - (intOf i).toNat)
  case atStart => exact ⟨0, by omega, rfl, fun j hj => by omega, rfl⟩
  case round =>
    obtain ⟨k, hk, rfl, HF, hw⟩ := hrel
    have hw' := hw.symm
    subst hw'
    clear hw
    by_cases hlt : k < n
    · rcases HR.out with hz | ⟨b, off, rfl, hbl, hc⟩
      · omega
      · obtain ⟨f, hf⟩ : ∃ f, ls[k]? = some f := ⟨ls[k]'(by omega), List.getElem?_eq_getElem (by omega)⟩
        have e0 := hc k f hf
        have b1 : (0 : Int) ≤ (k : Int) := by omega
        have b2 : (k : Int) < (n : Int) := by omega
        by_cases hv : v = f
        · have d1 : (v == f) = true := by simpa using hv
          have hm := hideIt (show fstI ls v = (k : Int) from firstN_yes (by omega) (atP_yes (hv ▸ hf)) HF.out)
          clear hc hf hv HF
          go_wp2
          go_ret
          exact ⟨retI hm.out, rfl⟩
        · have d1 : (v == f) = false := by simpa using hv
          have HF2 := hideIt (all_step HF.out (atP_no hf (fun e => hv e.symm)))
          clear hc hf hv HF
          go_wp2
          exact ⟨⟨k + 1, by omega, by go_num, HF2, by first | trivial | rfl⟩, by simp [intOf]; omega⟩
    · obtain rfl : k = n := by omega
      have hm := hideIt (show fstI ls v = -1 from firstN_no (by rw [hlen]; exact HF.out))
      clear HF
      go_wp2
      go_ret
      exact ⟨retI hm.out, rfl⟩

theorem conI_any (ls : List Int) (v : Int) (n : Nat) (a : Option Addr) (c : Nat) (hn : n ≤ 3000000) (w : World) (h : Is w w.heap.size a n ls) :
    Calls Tryz.prog 230 #[.slice a n c, .int .i64 v] w fun e w' => e = .returned (.bool (decide (v ∈ ls))) ∧ w' = w := by
  have HI := hideIt (idxI_any ls v n a c hn w h)
  have HM := hideIt (fstI_mem ls v)
  clear h
  go_enter Tryz.func230, Tryz.ntmps230
  go_wp2_with (go_at_call 271; refine HI.out.mono ?_; rintro e w1 ⟨rfl, rfl⟩)
  go_ret
  refine ⟨?_, rfl⟩
  have := HM.out
  rw [decide_eq_decide] at this
  exact bret (by
    constructor
    · intro h0
      exact Classical.byContradiction fun hm => by have := this.2 hm; omega
    · intro hm
      exact Classical.byContradiction fun h0 => this.1 (by omega) hm)

end Go.Proofs.YtkkplppcgnikoaaGreat
namespace Go.Proofs.YtkkplppcgnikoaaGreat
open Go.RowKit

theorem own_cut {u : World} {B e g n m c : Nat} {xs : List Value} (h : u.ownsRow B e 1 (.slice (some ⟨g, 0, none⟩) n c) n xs) (hm : m ≤ n) : u.ownsRow B e 1 (.slice (some ⟨g, 0, none⟩) m c) m (xs.take m) := by
  obtain ⟨hl, h2⟩ := h
  refine ⟨by rw [List.length_take, hl]; omega, ?_⟩
  rcases h2 with ⟨hv, _⟩ | ⟨g', cap, cur, hv, hb, hg, hnc, hcm, hcs, htake⟩
  · simp at hv
  · simp only [Value.slice.injEq, Option.some.injEq, Addr.mk.injEq, and_true, true_and] at hv
    obtain ⟨rfl, rfl⟩ := hv
    refine .inr ⟨g, c, cur, rfl, hb, hg, by omega, hcm, hcs, ?_⟩
    rw [← htake, List.take_take]
    congr 1
    omega

/-- two rows of ints in the making, each in a block of its own; nothing of wb has turned -/
structure Two (wb : World) (g n c : Nat) (ls : List Int) (g' n' c' : Nat) (ls' : List Int) (u : World) : Prop where
  one : u.ownsRow wb.heap.size 3 1 (.slice (some ⟨g, 0, none⟩) n c) n (ic ls)
  two : u.ownsRow wb.heap.size 3 1 (.slice (some ⟨g', 0, none⟩) n' c') n' (ic ls')
  ne : g ≠ g'
  bel : Below wb.heap.size wb u
theorem Two.size {wb : World} {g n c g' n' c' : Nat} {ls ls' : List Int} {u : World} (h : Two wb g n c ls g' n' c' ls' u) : wb.heap.size ≤ u.heap.size := h.bel.size
theorem Two.len {wb : World} {g n c g' n' c' : Nat} {ls ls' : List Int} {u : World} (h : Two wb g n c ls g' n' c' ls' u) : ls.length = n ∧ ls'.length = n' := by
  have h1 := h.one.1
  have h2 := h.two.1
  rw [ic_len] at h1 h2
  omega
theorem Two.swap {wb : World} {g n c g' n' c' : Nat} {ls ls' : List Int} {u : World} (h : Two wb g n c ls g' n' c' ls' u) : Two wb g' n' c' ls' g n c ls u := ⟨h.two, h.one, h.ne.symm, h.bel⟩
theorem Two.up {wb : World} {g n c g' n' c' : Nat} {ls ls' : List Int} {u v : World} (h : Two wb g n c ls g' n' c' ls' u) (hb : Below u.heap.size u v) : Two wb g n c ls g' n' c' ls' v :=
  ⟨own_up h.one hb, own_up h.two hb, h.ne, h.bel.trans (hb.mono h.size)⟩
theorem Two.cut {wb : World} {g n c g' n' c' m : Nat} {ls ls' : List Int} {u : World} (h : Two wb g n c ls g' n' c' ls' u) (hm : m ≤ n) : Two wb g m c (ls.take m) g' n' c' ls' u :=
  ⟨by have := own_cut h.one hm; rw [ic, ← List.map_take] at this; exact this, h.two, h.ne, h.bel⟩
theorem Two.app {wb : World} {g n c g' n' c' : Nat} {ls ls' : List Int} {u : World} (h : Two wb g n c ls g' n' c' ls' u) {x : Int} {o : Obj} {G cap : Nat} {u' : World}
    (ho : u'.ownsRow wb.heap.size 3 1 (.slice (some ⟨G, 0, none⟩) (n + 1) cap) (n + 1) (ic ls ++ [.int .i64 x])) (hg : (u.alloc o).grownBy u' (some g)) (hG : (some g : Option Nat) = some G ∨ G = u.heap.size + 1) :
    Two wb G (n + 1) cap (ls ++ [x]) g' n' c' ls' u' := by
  have hl := (h.two.lt g' rfl).2
  refine ⟨by rw [ic_snoc]; exact ho, World.ownsRow.kept (h.two.alloc o) hg (.inr (by simp [Value.ownBlock]; exact fun e => h.ne e.symm)), ?_, ?_⟩
  · rcases hG with hG | hG
    · simp at hG; rw [← hG]; exact h.ne
    · omega
  · exact (h.bel.alloc h.size _).grown hg (by have := h.size; simp; omega) (fun j hj => by simp at hj; subst hj; exact (h.one.lt g rfl).1)
theorem Two.cell {wb : World} {g n c g' n' c' : Nat} {ls ls' : List Int} {u : World} (h : Two wb g n c ls g' n' c' ls' u) {j : Nat} {x : Int} (hx : ls[j]? = some x) : u.cell? ⟨g, j, none⟩ = some (.int .i64 x) := by
  have hj := (List.getElem?_eq_some_iff.1 hx).1
  have := h.len.1
  rw [h.one.cellAt j (by omega)]
  exact ic_at hx
theorem Two.cap {wb : World} {g n c g' n' c' : Nat} {ls ls' : List Int} {u : World} (h : Two wb g n c ls g' n' c' ls' u) : n ≤ c := by
  rcases h.one.2 with ⟨hv, _⟩ | ⟨g2, cap, cur, hv, hb, hg, hnc, _⟩
  · simp at hv
  · simp only [Value.slice.injEq, Option.some.injEq, Addr.mk.injEq, and_true, true_and] at hv
    obtain ⟨rfl, rfl⟩ := hv
    exact hnc
theorem Two.is {wb : World} {g n c g' n' c' : Nat} {ls ls' : List Int} {u : World} (h : Two wb g n c ls g' n' c' ls' u) : Is u u.heap.size (some ⟨g, 0, none⟩) n ls := Is_of_own h.one

theorem Two.snoc {wb : World} {g n c g' n' c' : Nat} {ls ls' wy sn : List Int} {f : Int} {u : World} (h : Two wb g n c (ls ++ [f]) g' n' c' (ls' ++ [f]) u) (h1 : ls = wy.reverse) (h2 : ls' = sn.reverse) : Two wb g n c (f :: wy).reverse g' n' c' (f :: sn).reverse u := by
  subst h1 h2
  rw [List.reverse_cons, List.reverse_cons]
  exact h

/-- the walk comes to its end at the root -/
def openB (t : List Int) : Bool := match trun [] [] t with | some x => x.1.length == 1 | none => false
theorem tB_eq (t : List Int) : tB t = (t.all vB && openB t) := rfl
theorem trun_none {t : List Int} {k : Nat} (h : trun [] [] (t.take k) = none) : openB t = false := by
  have : trun [] [] t = none := by
    rw [← List.take_append_drop k t, trun_append, h]; rfl
  unfold openB
  rw [this]
theorem trun_snoc (w s a : List Int) (v : Int) : trun w s (a ++ [v]) = (trun w s a).bind fun x => tstep x.1 x.2 v := by
  rw [trun_append]
  cases trun w s a with
  | none => rfl
  | some x =>
    show (match tstep x.1 x.2 v with | none => none | some y => trun y.1 y.2 []) = _
    cases h : tstep x.1 x.2 v with
    | none => simp [h]
    | some y => simp [h, trun]
theorem tstep_up {q s : List Int} {c p v : Int} (h : v = p) : tstep (c :: p :: q) s v = some (p :: q, s) := by simp [tstep, isUp, h]
theorem tstep_bad2 {q s : List Int} {c p v : Int} (h : v ≠ p) (hs : v ∈ s) : tstep (c :: p :: q) s v = none := by simp [tstep, isUp, Ne.symm h, hs]
theorem tstep_down2 {q s : List Int} {c p v : Int} (h : v ≠ p) (hs : v ∉ s) : tstep (c :: p :: q) s v = some (v :: c :: p :: q, v :: s) := by simp [tstep, isUp, Ne.symm h, hs]
theorem tstep_bad1 {w s : List Int} {v : Int} (h : w.length ≤ 1) (hs : v ∈ s) : tstep w s v = none := by
  match w, h with
  | [], _ => simp [tstep, isUp, hs]
  | [c], _ => simp [tstep, isUp, hs]
theorem tstep_down1 {w s : List Int} {v : Int} (h : w.length ≤ 1) (hs : v ∉ s) : tstep w s v = some (v :: w, v :: s) := by
  match w, h with
  | [], _ => simp [tstep, isUp, hs]
  | [c], _ => simp [tstep, isUp, hs]
theorem rev_at2 (q : List Int) (c p : Int) : (c :: p :: q).reverse[q.length]? = some p := by
  simp
theorem rev_take1 (q : List Int) (c p : Int) : (c :: p :: q).reverse.take (q.length + 1) = (p :: q).reverse := by
  rw [List.reverse_cons, List.take_append_of_le_length (by simp)]
  exact List.take_of_length_le (by simp)

set_option maxRecDepth 100000 in
set_option maxHeartbeats 4000000 in
theorem l06Open_any (t : List Int) (n : Nat) (a : Option Addr) (c : Nat) (hn : n ≤ 3000000) (h0 : 0 < n) (w : World) (h : Is w w.heap.size a n t) :
    Calls Tryz.prog 282 #[.slice a n c] w fun e w' => e = .returned (.bool (openB t)) ∧ Below w.heap.size w w' := by
  obtain ⟨i0, hi, hz0, hz1, hz2⟩ := info_parts info3i
  obtain ⟨hlen, hrow⟩ := h
  rcases hrow with hz | ⟨b, off, rfl, hbl, hc⟩
  · omega
  · obtain ⟨x0, hx0⟩ : ∃ f, t[0]? = some f := ⟨t[0]'(by omega), List.getElem?_eq_getElem (by omega)⟩
    have e0 := hc 0 x0 hx0
    rw [Nat.add_zero] at e0
    have g0 : (0 : Int) < (n : Int) := by omega
    have HC := hideIt hc
    have hst0 : Two w w.heap.size 1 1 [x0] (w.heap.size + 1) 1 1 [x0] ((w.alloc (.cells #[.int .i64 x0] 3)).alloc (.cells #[.int .i64 x0] 3)) := by
      have p1 := World.ownsRow_lit (base := w.heap.size) (e := 3) (size := 1) w #[.int .i64 x0] 1 (Nat.le_refl _) (by unfold maxLen; omega) (by simp)
      have p2 := World.ownsRow_lit (base := w.heap.size) (e := 3) (size := 1) (w.alloc (.cells #[.int .i64 x0] 3)) #[.int .i64 x0] 1 (by simp) (by unfold maxLen; omega) (by simp)
      refine ⟨by simpa [ic] using p1.alloc _, by simpa [ic] using p2, by omega, ((Below.refl _ _).alloc (Nat.le_refl _) _).alloc (by simp) _⟩
    have H1 : Hid (trun [] [] (t.take 1) = some ([x0], [x0])) := by
      show _ = _
      rw [show t.take 1 = [x0] by rw [take_snocF t 0 x0 hx0]; rfl]
      rfl
    have e0' : (w.alloc (.cells #[.int .i64 x0] 3)).cell? ⟨b, off, none⟩ = some (.int .i64 x0) := by rw [World.cell?_of_block (w := w) (Below.heap_alloc w _ b hbl)]; exact e0
    clear hc hx0
    go_enter Tryz.func282, Tryz.ntmps282
    go_wp2
    go_loopw [3, 4, 5] (fun r s i wr => ∃ (k n1 g1 c1 n2 g2 c2 : Nat) (wy sn : List Int), 1 ≤ k ∧ k ≤ n ∧ i = .int .i64 (k : Int) ∧ r = .slice (some ⟨g1, 0, none⟩) n1 c1 ∧ s = .slice (some ⟨g2, 0, none⟩) n2 c2 ∧ n1 ≤ k ∧ n2 ≤ k ∧ 1 ≤ n1 ∧ Hid (trun [] [] (t.take k) = some (wy, sn)) ∧ Two w g1 n1 c1 wy.reverse g2 n2 c2 sn.reverse wr) (fun _ _ i _ => n - (intOf i).toNat)
    case atStart => exact ⟨1, 1, _, 1, 1, _, 1, [x0], [x0], by omega, by omega, rfl, rfl, by rfl, by omega, by omega, by omega, H1, hst0⟩
    case round =>
      obtain ⟨k, n1, g1, c1, n2, g2, c2, wy, sn, hk1, hk, rfl, rfl, rfl, hn1, hn2, hn0, HT, hst⟩ := hrel
      clear hst0 e0' e0
      by_cases hlt : k < n
      · obtain ⟨f, hf⟩ : ∃ f, t[k]? = some f := ⟨t[k]'(by omega), List.getElem?_eq_getElem (by omega)⟩
        have e0 : wr.cell? ⟨b, off + k, none⟩ = some (.int .i64 f) := by rw [hst.bel.cell hbl]; exact HC.out k f hf
        have b1 : (0 : Int) ≤ (k : Int) := by omega
        have b2 : (k : Int) < (n : Int) := by omega
        have HS := hideIt (show trun [] [] (t.take (k + 1)) = tstep wy sn f by rw [take_snocF t k f hf, trun_snoc, HT.out]; rfl)
        match wy, hst, HS with
        | [], hst, _ => exact absurd hst.len.1 (by simp; omega)
        | [c0], hst, HS =>
          have hl1 := hst.len.1
          simp only [List.length_reverse, List.length_cons, List.length_nil] at hl1
          have d0 : decide ((1 : Int) < (n1 : Int)) = false := decide_eq_false (by omega)
          obtain ⟨lw, hlw⟩ : ∃ l, l = [c0].reverse := ⟨_, rfl⟩
          obtain ⟨lsn, hlsn⟩ : ∃ l, l = sn.reverse := ⟨_, rfl⟩
          rw [← hlw, ← hlsn] at hst
          have HLW := hideIt hlw
          have HLS := hideIt hlsn
          have hmem : ∀ x, x ∈ lsn ↔ x ∈ sn := fun x => by rw [hlsn]; exact List.mem_reverse
          clear hlw hlsn
          have HSd := hideIt (fun x => hst.up (below_drewN (Below.refl wr.heap.size wr) x))
          by_cases hs : f ∈ sn
          · have HS2 := hideIt (trun_none (HS.out.trans (tstep_bad1 (by simp) hs)))
            have HIn := hideIt (fun x => l05In_any lsn f n2 (some ⟨g2, 0, none⟩) c2 (by omega) (wr.drewN x) (HSd.out x).swap.is)
            have d2 : decide (f ∈ lsn) = true := decide_eq_true ((hmem f).2 hs)
            rw [d2] at HIn
            clear HS HT hf hst d2 hs hmem
            go_wp2
            go_quiet (fail)
            go_wp2_with (go_at_call 171; refine (HIn.out _).mono ?_; rintro e w1 ⟨rfl, rfl⟩)
            go_ret
            exact ⟨by rw [HS2.out]; rfl, (HSd.out _).bel⟩
          · have HS2 := hideIt (HS.out.trans (tstep_down1 (by simp) hs))
            have HIn := hideIt (fun x => l05In_any lsn f n2 (some ⟨g2, 0, none⟩) c2 (by omega) (wr.drewN x) (HSd.out x).swap.is)
            have d2 : decide (f ∈ lsn) = false := decide_eq_false (fun h => hs ((hmem f).1 h))
            rw [d2] at HIn
            have HE := hideIt (fun (u : World) (hu : Below w.heap.size w u) => show u.cell? ⟨b, off + k, none⟩ = some (.int .i64 f) by rw [hu.cell hbl]; exact HC.out k f hf)
            clear HS HT hf hst d2 hs hmem
            go_wp2
            go_quiet (fail)
            go_wp2_with (go_at_call 171; refine (HIn.out _).mono ?_; rintro e w1 ⟨rfl, rfl⟩; refine Hid.out ?_)
            refine (show ∀ {p : Prop}, p → Hid p from fun h => h) ?_
            have S1 := HSd.out nq
            clear HIn HSd e0
            generalize wr.drewN nq = wd at *
            have e0 := HE.out wd S1.bel
            have z1 := S1.size
            go_wp2_with (at_builtin; refine wpList_append_lies _ rfl _ _ 44 rfl w.heap.size 3 i0 _ 1 8 Tryz.underlying44 hi hz0 hz1 hz2 rfl (by decide) _ _ _ rfl (S1.swap.one.alloc _) ⟨wd.heap.size, 0, none⟩ 1 1 [.int .i64 f] rfl rfl (newsI wd f) (by intro u hu; simp at hu; subst hu; rfl) (by omega) (by unfold maxLen; omega) (by omega) (by simp; omega) (wd.heap.size + 1) (by simp) ?_)
            intro g3 c3 w3 hown3 hg3 hG3 _
            have S3 := (S1.swap.app hown3 hg3 hG3).swap
            clear hown3 hg3 hG3 S1 e0 z1
            refine Hid.out ?_
            refine (show ∀ {p : Prop}, p → Hid p from fun h => h) ?_
            have e0 := HE.out w3 S3.bel
            have z1 := S3.size
            go_wp2_with (at_builtin; refine wpList_append_lies _ rfl _ _ 44 rfl w.heap.size 3 i0 _ 1 8 Tryz.underlying44 hi hz0 hz1 hz2 rfl (by decide) _ _ _ rfl (S3.one.alloc _) ⟨w3.heap.size, 0, none⟩ 1 1 [.int .i64 f] rfl rfl (newsI w3 f) (by intro u hu; simp at hu; subst hu; rfl) (by omega) (by unfold maxLen; omega) (by omega) (by simp; omega) (w3.heap.size + 1) (by simp) ?_)
            intro g4 c4 w4 hown4 hg4 hG4 _
            have S4 := S3.app hown4 hg4 hG4
            clear hown4 hg4 hG4 S3 e0 z1
            go_wp2
            exact ⟨⟨k + 1, n1 + 1, g4, c4, n2 + 1, g3, c3, f :: [c0], f :: sn, by omega, by omega, by go_num, rfl, rfl, by omega, by omega, by omega, HS2, S4.snoc HLW.out HLS.out⟩, by simp [intOf]; omega⟩
        | c0 :: p :: q, hst, HS =>
          have hl1 := hst.len.1
          simp only [List.length_reverse, List.length_cons] at hl1
          have m1 : wr.cell? ⟨g1, n1 - 2, none⟩ = some (.int .i64 p) := hst.cell (by rw [show n1 - 2 = q.length by omega]; exact rev_at2 q c0 p)
          have e1 : (((n1 : Int) - 2).toNat) = n1 - 2 := by omega
          have d0 : decide ((1 : Int) < (n1 : Int)) = true := decide_eq_true (by omega)
          have b3 : (0 : Int) ≤ (n1 : Int) - 2 := by omega
          have b4 : (n1 : Int) - 2 < (n1 : Int) := by omega
          by_cases hp : f = p
          · have d1 : (f == p) = true := by simpa using hp
            have hcap := hst.cap
            have b5 : (0 : Int) ≤ (n1 : Int) - 1 := by omega
            have b6 : (n1 : Int) - 1 ≤ (c1 : Int) := by omega
            have e2 : (((n1 : Int) - 1).toNat) = n1 - 1 := by omega
            have HS2 := hideIt (HS.out.trans (tstep_up hp))
            have HST := hideIt (fun x => (hst.cut (m := n1 - 1) (by omega)).up (below_drewN (Below.refl wr.heap.size wr) x))
            rw [show (c0 :: p :: q).reverse.take (n1 - 1) = (p :: q).reverse by rw [show n1 - 1 = q.length + 1 by omega]; exact rev_take1 q c0 p] at HST
            clear HS HT hf hst hp
            go_wp2
            go_quiet (fail)
            go_wp2
            exact ⟨⟨k + 1, n1 - 1, g1, c1, n2, g2, c2, p :: q, sn, by omega, by omega, by go_num, rfl, rfl, by omega, by omega, by omega, HS2, HST.out _⟩, by simp [intOf]; omega⟩
          · have d1 : (f == p) = false := by simpa using hp
            obtain ⟨lw, hlw⟩ : ∃ l, l = (c0 :: p :: q).reverse := ⟨_, rfl⟩
            obtain ⟨lsn, hlsn⟩ : ∃ l, l = sn.reverse := ⟨_, rfl⟩
            rw [← hlw, ← hlsn] at hst
            have HLW := hideIt hlw
            have HLS := hideIt hlsn
            have hmem : ∀ x, x ∈ lsn ↔ x ∈ sn := fun x => by rw [hlsn]; exact List.mem_reverse
            clear hlw hlsn
            have HSd := hideIt (fun x => hst.up (below_drewN (Below.refl wr.heap.size wr) x))
            by_cases hs : f ∈ sn
            · have HS2 := hideIt (trun_none (HS.out.trans (tstep_bad2 hp hs)))
              have HIn := hideIt (fun x => l05In_any lsn f n2 (some ⟨g2, 0, none⟩) c2 (by omega) (wr.drewN x) (HSd.out x).swap.is)
              have d2 : decide (f ∈ lsn) = true := decide_eq_true ((hmem f).2 hs)
              rw [d2] at HIn
              clear HS HT hf hst d2 hs hmem
              go_wp2
              go_quiet (fail)
              go_wp2_with (go_at_call 171; refine (HIn.out _).mono ?_; rintro e w1 ⟨rfl, rfl⟩)
              go_ret
              exact ⟨by rw [HS2.out]; rfl, (HSd.out _).bel⟩
            · have HS2 := hideIt (HS.out.trans (tstep_down2 hp hs))
              have HIn := hideIt (fun x => l05In_any lsn f n2 (some ⟨g2, 0, none⟩) c2 (by omega) (wr.drewN x) (HSd.out x).swap.is)
              have d2 : decide (f ∈ lsn) = false := decide_eq_false (fun h => hs ((hmem f).1 h))
              rw [d2] at HIn
              have HE := hideIt (fun (u : World) (hu : Below w.heap.size w u) => show u.cell? ⟨b, off + k, none⟩ = some (.int .i64 f) by rw [hu.cell hbl]; exact HC.out k f hf)
              clear HS HT hf hst d2 hs hmem
              go_wp2
              go_quiet (fail)
              go_wp2_with (go_at_call 171; refine (HIn.out _).mono ?_; rintro e w1 ⟨rfl, rfl⟩; refine Hid.out ?_)
              refine (show ∀ {p : Prop}, p → Hid p from fun h => h) ?_
              have S1 := HSd.out nq
              clear HIn HSd e0
              generalize wr.drewN nq = wd at *
              have e0 := HE.out wd S1.bel
              have z1 := S1.size
              go_wp2_with (at_builtin; refine wpList_append_lies _ rfl _ _ 44 rfl w.heap.size 3 i0 _ 1 8 Tryz.underlying44 hi hz0 hz1 hz2 rfl (by decide) _ _ _ rfl (S1.swap.one.alloc _) ⟨wd.heap.size, 0, none⟩ 1 1 [.int .i64 f] rfl rfl (newsI wd f) (by intro u hu; simp at hu; subst hu; rfl) (by omega) (by unfold maxLen; omega) (by omega) (by simp; omega) (wd.heap.size + 1) (by simp) ?_)
              intro g3 c3 w3 hown3 hg3 hG3 _
              have S3 := (S1.swap.app hown3 hg3 hG3).swap
              clear hown3 hg3 hG3 S1 e0 z1
              refine Hid.out ?_
              refine (show ∀ {p : Prop}, p → Hid p from fun h => h) ?_
              have e0 := HE.out w3 S3.bel
              have z1 := S3.size
              go_wp2_with (at_builtin; refine wpList_append_lies _ rfl _ _ 44 rfl w.heap.size 3 i0 _ 1 8 Tryz.underlying44 hi hz0 hz1 hz2 rfl (by decide) _ _ _ rfl (S3.one.alloc _) ⟨w3.heap.size, 0, none⟩ 1 1 [.int .i64 f] rfl rfl (newsI w3 f) (by intro u hu; simp at hu; subst hu; rfl) (by omega) (by unfold maxLen; omega) (by omega) (by simp; omega) (w3.heap.size + 1) (by simp) ?_)
              intro g4 c4 w4 hown4 hg4 hG4 _
              have S4 := S3.app hown4 hg4 hG4
              clear hown4 hg4 hG4 S3 e0 z1
              go_wp2
              exact ⟨⟨k + 1, n1 + 1, g4, c4, n2 + 1, g3, c3, f :: c0 :: p :: q, f :: sn, by omega, by omega, by go_num, rfl, rfl, by omega, by omega, by omega, HS2, S4.snoc HLW.out HLS.out⟩, by simp [intOf]; omega⟩
      · obtain rfl : k = n := by omega
        have HO : Hid (openB t = ((n1 : Int) == 1)) := by
          show _ = _
          have h1 := HT.out
          rw [List.take_of_length_le (by omega)] at h1
          have h2 := hst.len.1
          simp only [List.length_reverse] at h2
          unfold openB
          rw [h1]
          show (wy.length == 1) = _
          rw [h2, Bool.eq_iff_iff]
          simp
          omega
        have HB := hideIt hst.bel
        clear HT hst
        go_wp2
        go_ret
        exact ⟨by rw [HO.out]; rfl, HB.out⟩
end Go.Proofs.YtkkplppcgnikoaaGreat
namespace Go.Proofs.YtkkplppcgnikoaaGreat
open Go.RowKit

theorem tB_bad {t : List Int} {k : Nat} {f : Int} (hf : t[k]? = some f) (hv : vB f = false) : tB t = false := by
  cases h : tB t with
  | false => rfl
  | true =>
    have := ((tB_iff t).1 h).1 f (List.mem_of_getElem? hf)
    rw [hv] at this
    exact this.symm
theorem all_of_at {t : List Int} (h : ∀ (k : Nat) (f : Int), t[k]? = some f → vB f = true) : t.all vB = true := by
  rw [List.all_eq_true]
  intro x hx
  obtain ⟨k, hk⟩ := List.mem_iff_getElem?.1 hx
  exact h k x hk

set_option maxRecDepth 100000 in
set_option maxHeartbeats 4000000 in
theorem sTourOk_any (t : List Int) (n : Nat) (a : Option Addr) (c : Nat) (hn : n ≤ 3000000) (w : World) (h : Is w w.heap.size a n t) :
    Calls Tryz.prog 245 #[.slice a n c] w fun e w' => e = .returned (.bool (tB t)) ∧ Below w.heap.size w w' := by
  have HI := hideIt l01In_any
  by_cases hr : 1 ≤ n ∧ n ≤ 23
  · have r1 : decide (1 ≤ (n : Int) ∧ (n : Int) ≤ 23) = true := decide_eq_true (by omega)
    have HOp := hideIt (l06Open_any t n a c (by omega) (by omega) w h)
    obtain ⟨hlen, hrow⟩ := h
    have HR := hideIt hrow
    clear hrow
    go_enter Tryz.func245, Tryz.ntmps245
    go_wp2_with (go_at_call 81; refine (HI.out _ _ _ _).mono ?_; rintro e w1 ⟨rfl, hw⟩; have hw' := hw.symm; subst hw'; clear hw)
    go_loopw [3] (fun i wr => ∃ (k : Nat), k ≤ n ∧ i = .int .i64 (k : Int) ∧ Hid (∀ (j : Nat) (f : Int), j < k → t[j]? = some f → vB f = true) ∧ wr = w) (fun i _ => n - (intOf i).toNat)
    case atStart => exact ⟨0, by omega, rfl, fun j _ hj => by omega, rfl⟩
    case round =>
      obtain ⟨k, hk, rfl, HF, hw⟩ := hrel
      have hw' := hw.symm
      subst hw'
      clear hw
      by_cases hlt : k < n
      · rcases HR.out with hz | ⟨b, off, rfl, hbl, hc⟩
        · omega
        · obtain ⟨f, hf⟩ : ∃ f, t[k]? = some f := ⟨t[k]'(by omega), List.getElem?_eq_getElem (by omega)⟩
          have e0 := hc k f hf
          have b1 : (0 : Int) ≤ (k : Int) := by omega
          have b2 : (k : Int) < (n : Int) := by omega
          cases hv : vB f with
          | true =>
            have HF2 : Hid (∀ (j : Nat) (x : Int), j < k + 1 → t[j]? = some x → vB x = true) := fun j x hj hx => by
              by_cases h7 : j = k
              · rw [h7, hf] at hx; simp at hx; rw [← hx]; exact hv
              · exact HF.out j x (by omega) hx
            have r2 : decide (0 ≤ f ∧ f ≤ 11) = true := decide_eq_true (by simp [vB] at hv; omega)
            clear hc hf hv HF HOp
            go_wp2_with (go_at_call 81; refine (HI.out _ _ _ _).mono ?_; rintro e w1 ⟨rfl, hw⟩; have hw' := hw.symm; subst hw'; clear hw)
            exact ⟨⟨k + 1, by omega, by go_num, HF2, by first | trivial | rfl⟩, by simp [intOf]; omega⟩
          | false =>
            have HB := hideIt (tB_bad hf hv)
            have r2 : decide (0 ≤ f ∧ f ≤ 11) = false := decide_eq_false (by simp [vB] at hv; omega)
            clear hc hf hv HF HOp
            go_wp2_with (go_at_call 81; refine (HI.out _ _ _ _).mono ?_; rintro e w1 ⟨rfl, hw⟩; have hw' := hw.symm; subst hw'; clear hw)
            go_ret
            exact ⟨by rw [HB.out]; rfl, Below.refl _ _⟩
      · obtain rfl : k = n := by omega
        have HB : Hid (tB t = openB t) := by
          show _ = _
          rw [tB_eq, all_of_at (fun j f hf => HF.out j f (by have := (List.getElem?_eq_some_iff.1 hf).1; omega) hf), Bool.true_and]
        clear HF HR
        go_wp2_with (go_at_call 282; refine HOp.out.mono ?_; rintro e w1 ⟨rfl, hb1⟩)
        go_ret
        exact ⟨by rw [HB.out]; rfl, hb1⟩
  · have r1 : decide (1 ≤ (n : Int) ∧ (n : Int) ≤ 23) = false := decide_eq_false (by omega)
    have HB : Hid (tB t = false) := by
      show _ = _
      cases hT : tB t with
      | false => rfl
      | true => have := tB_len hT; have := h.1; omega
    clear h
    go_enter Tryz.func245, Tryz.ntmps245
    go_wp2_with (go_at_call 81; refine (HI.out _ _ _ _).mono ?_; rintro e w1 ⟨rfl, hw⟩; have hw' := hw.symm; subst hw'; clear hw)
    go_ret
    exact ⟨by rw [HB.out]; rfl, Below.refl _ _⟩
end Go.Proofs.YtkkplppcgnikoaaGreat
namespace Go.Proofs.YtkkplppcgnikoaaGreat
open Go.Lib

/-- the vertices below k that stand in t, ascending -/
def vsK (t : List Int) (k : Nat) : List Int := ((List.range k).map fun j : Nat => (j : Int)).filter fun x => decide (x ∈ t)
/-- the vertices that stand in t, ascending -/
def vsL (t : List Int) : List Int := vsK t 12
theorem vsK_zero (t : List Int) : vsK t 0 = [] := by simp [vsK]
theorem vsK_yes {t : List Int} {k : Nat} (h : (k : Int) ∈ t) : vsK t (k + 1) = vsK t k ++ [(k : Int)] := by simp [vsK, List.range_succ, h]
theorem vsK_no {t : List Int} {k : Nat} (h : (k : Int) ∉ t) : vsK t (k + 1) = vsK t k := by simp [vsK, List.range_succ, h]
theorem vsK_len (t : List Int) (k : Nat) : (vsK t k).length ≤ k := by
  have := List.length_filter_le (fun x : Int => decide (x ∈ t)) ((List.range k).map fun j : Nat => (j : Int))
  simpa [vsK] using this
theorem vsL_len (t : List Int) : (vsL t).length ≤ 12 := vsK_len t 12
theorem vsL_mem (t : List Int) (x : Int) : x ∈ vsL t ↔ vB x = true ∧ x ∈ t := by
  simp only [vsL, vsK, List.mem_filter, List.mem_map, List.mem_range, vB, decide_eq_true_eq]
  constructor
  · rintro ⟨⟨j, hj, rfl⟩, h⟩
    exact ⟨by simp; omega, h⟩
  · rintro ⟨h1, h2⟩
    exact ⟨⟨x.toNat, by omega, by omega⟩, h2⟩
theorem vsK_asc (t : List Int) (k : Nat) : (vsK t k).Pairwise (· < ·) := by
  refine List.Pairwise.filter _ ?_
  rw [List.pairwise_map]
  exact List.Pairwise.imp (fun h => by omega) (List.pairwise_lt_range (n := k))
/-- two ascending lists with the same members are one -/
theorem asc_ext : ∀ {a b : List Int}, a.Pairwise (· < ·) → b.Pairwise (· < ·) → (∀ x, x ∈ a ↔ x ∈ b) → a = b
  | [], [], _, _, _ => rfl
  | [], y :: b, _, _, h => by have := (h y).2 (by simp); simp at this
  | x :: a, [], _, _, h => by have := (h x).1 (by simp); simp at this
  | x :: a, y :: b, ha, hb, h => by
    rw [List.pairwise_cons] at ha hb
    have hxy : x = y := by
      have h1 := (h x).1 (by simp)
      have h2 := (h y).2 (by simp)
      rcases List.mem_cons.1 h1 with h1 | h1
      · exact h1
      · rcases List.mem_cons.1 h2 with h2 | h2
        · exact h2.symm
        · have := hb.1 x h1; have := ha.1 y h2; omega
    subst hxy
    have : a = b := asc_ext ha.2 hb.2 fun z => by
      have hz := h z
      simp only [List.mem_cons] at hz
      constructor
      · intro h3
        rcases hz.1 (.inr h3) with h4 | h4
        · have := ha.1 z h3; omega
        · exact h4
      · intro h3
        rcases hz.2 (.inr h3) with h4 | h4
        · have := hb.1 z h3; omega
        · exact h4
    rw [this]
theorem comp_asc (d : Array Int) (hs : ∀ i j, i ≤ j → j < d.size → d[i]! ≤ d[j]!) : ∀ m, m ≤ d.size → (compactUpTo d m).Pairwise (· < ·) ∧ ∀ x, x ∈ compactUpTo d m ↔ ∃ j, j < m ∧ d[j]! = x
  | 0, _ => by simp [compactUpTo]
  | m + 1, hm => by
    obtain ⟨h1, h2⟩ := comp_asc d hs m (by omega)
    rw [compactUpTo_succ]
    by_cases hk : keeps d m = true
    · rw [if_pos hk]
      constructor
      · rw [List.pairwise_append]
        refine ⟨h1, by simp, fun x hx y hy => ?_⟩
        obtain ⟨j, hj, rfl⟩ := (h2 x).1 hx
        simp only [List.mem_singleton] at hy
        subst hy
        simp only [keeps, decide_eq_true_eq] at hk
        rcases hk with hk | hk
        · omega
        · have a1 := hs j (m - 1) (by omega) (by omega)
          have a2 := hs (m - 1) m (by omega) (by omega)
          omega
      · intro x
        simp only [List.mem_append, h2, List.mem_singleton]
        constructor
        · rintro (⟨j, hj, rfl⟩ | rfl)
          · exact ⟨j, by omega, rfl⟩
          · exact ⟨m, by omega, rfl⟩
        · rintro ⟨j, hj, rfl⟩
          by_cases e : j = m
          · exact .inr (by rw [e])
          · exact .inl ⟨j, by omega, rfl⟩
    · rw [if_neg hk, List.append_nil]
      refine ⟨h1, fun x => ?_⟩
      rw [h2]
      have hk' : m ≠ 0 ∧ d[m]! = d[m - 1]! := by
        simp only [keeps, decide_eq_true_eq] at hk
        exact ⟨fun e => hk (.inl e), Classical.not_not.1 (fun e => hk (.inr e))⟩
      constructor
      · rintro ⟨j, hj, rfl⟩; exact ⟨j, by omega, rfl⟩
      · rintro ⟨j, hj, rfl⟩
        by_cases e : j = m
        · exact ⟨m - 1, by omega, by rw [e, hk'.2]⟩
        · exact ⟨j, by omega, rfl⟩
/-- sorted, without repetitions, without what is no vertex -/
def vsI (t : List Int) : List Int := (compactUpTo (t.mergeSort fun x y => decide (x ≤ y)).toArray (t.mergeSort fun x y => decide (x ≤ y)).toArray.size).filter fun x => !(!vB x)
theorem vsI_eq (t : List Int) : vsI t = vsL t := by
  have hp : (t.mergeSort fun x y => decide (x ≤ y)).Pairwise (fun x y => decide (x ≤ y) = true) := List.pairwise_mergeSort (fun a b c h1 h2 => by simp at h1 h2 ⊢; omega) (fun a b => by simp; omega) t
  have hm := fun x => (List.mergeSort_perm t fun x y : Int => decide (x ≤ y)).mem_iff (a := x)
  unfold vsI
  generalize (t.mergeSort fun x y => decide (x ≤ y)) = s at hp hm ⊢
  have hs : ∀ i j, i ≤ j → j < s.toArray.size → s.toArray[i]! ≤ s.toArray[j]! := by
    intro i j hij hj
    have hj' : j < s.length := by simpa using hj
    by_cases e : i = j
    · rw [e]; exact Int.le_refl _
    · have := List.pairwise_iff_getElem.1 hp i j (by omega) hj' (by omega)
      simp at this
      simpa [getElem!_pos, hj', show i < s.length by omega] using this
  obtain ⟨h1, h2⟩ := comp_asc s.toArray hs s.toArray.size (Nat.le_refl _)
  refine asc_ext (List.Pairwise.filter _ h1) (vsK_asc t 12) fun x => ?_
  rw [vsL_mem, List.mem_filter, h2]
  have h3 : (∃ j, j < s.toArray.size ∧ s.toArray[j]! = x) ↔ x ∈ t := by
    rw [← hm x]
    constructor
    · rintro ⟨j, hj, rfl⟩
      have hj' : j < s.length := by simpa using hj
      simp [hj']
    · intro hx
      obtain ⟨j, hj, e⟩ := List.getElem_of_mem hx
      exact ⟨j, by simpa using hj, by simp [hj, e]⟩
  rw [h3]
  simp
  exact And.comm
end Go.Proofs.YtkkplppcgnikoaaGreat
namespace Go.Proofs.YtkkplppcgnikoaaGreat
open Go.RowKit

/-- a list of lists of numbers stands at a -/
def Ts (w : World) (B : Nat) (a : Option Addr) (n : Nat) (ts : List (List Int)) : Prop :=
  ts.length = n ∧ (n = 0 ∨ ∃ b off, a = some ⟨b, off, none⟩ ∧ b < B ∧ ∀ (j : Nat) (t : List Int), ts[j]? = some t →
    ∃ (a' : Option Addr) (c' : Nat), w.cell? ⟨b, off + j, none⟩ = some (.slice a' t.length c') ∧ Is w B a' t.length t ∧ t.length ≤ c')
theorem Ts.below {w w' : World} {B C : Nat} {a : Option Addr} {n : Nat} {ts : List (List Int)} (h : Ts w B a n ts) (hb : Below C w w') (hB : B ≤ C) : Ts w' B a n ts := by
  refine ⟨h.1, h.2.imp id ?_⟩
  rintro ⟨b, off, ha, hbl, hc⟩
  refine ⟨b, off, ha, hbl, fun j t ht => ?_⟩
  obtain ⟨a', c', h1, h2, h3⟩ := hc j t ht
  exact ⟨a', c', by rw [hb.cell (p := ⟨b, _, none⟩) (by show b < C; omega)]; exact h1, h2.below hb hB, h3⟩
theorem Ts.mono {w : World} {B C : Nat} {a : Option Addr} {n : Nat} {ts : List (List Int)} (h : Ts w B a n ts) (hB : B ≤ C) : Ts w C a n ts := by
  refine ⟨h.1, h.2.imp id ?_⟩
  rintro ⟨b, off, ha, hbl, hc⟩
  refine ⟨b, off, ha, by omega, fun j t ht => ?_⟩
  obtain ⟨a', c', h1, h2, h3⟩ := hc j t ht
  exact ⟨a', c', h1, h2.mono hB, h3⟩
theorem Ts.up {w w' : World} {a : Option Addr} {n : Nat} {ts : List (List Int)} (h : Ts w w.heap.size a n ts) (hb : Below w.heap.size w w') : Ts w' w'.heap.size a n ts := (h.below hb (Nat.le_refl _)).mono hb.size
/-- the least vertex of a tour -/
def mnV (t : List Int) : Int := (vsL t).headD 0
/-- the tour at i is right beside those before it -/
def FAt (N : Int) (ts : List (List Int)) (i : Nat) : Prop := ∀ t, ts[i]? = some t →
  tB t = true ∧ (∀ x ∈ t, x < N) ∧ (∀ j s, j + 1 = i → ts[j]? = some s → mnV s < mnV t) ∧ ∀ k s, k < i → ts[k]? = some s → ∀ x ∈ t, x ∉ s
/-- the vertices of the first k tours, counted -/
def cntV (ts : List (List Int)) (k : Nat) : Nat := ((ts.take k).map fun t => (vsL t).length).sum
/-- N vertices and these tours are a right forest -/
def FP (N : Int) (ts : List (List Int)) : Prop := 1 ≤ N ∧ N ≤ 12 ∧ ts.length ≤ 12 ∧ (∀ i, FAt N ts i) ∧ (cntV ts ts.length : Int) = N
theorem cntV_zero (ts : List (List Int)) : cntV ts 0 = 0 := by simp [cntV]
theorem cntV_succ {ts : List (List Int)} {k : Nat} {t : List Int} (h : ts[k]? = some t) : cntV ts (k + 1) = cntV ts k + (vsL t).length := by
  unfold cntV
  rw [List.take_add_one, h]
  simp
theorem vs_mem_of {t : List Int} (hB : tB t = true) {x : Int} : x ∈ vsL t ↔ x ∈ t := by
  rw [vsL_mem]
  exact ⟨fun h => h.2, fun h => ⟨((tB_iff t).1 hB).1 x h, h⟩⟩
theorem tB_pos {t : List Int} (hB : tB t = true) : 0 < t.length := by
  obtain ⟨_, x, s, h⟩ := (tB_iff t).1 hB
  cases t with
  | nil => simp [trun] at h
  | cons a t => simp
theorem vs_pos {t : List Int} (hB : tB t = true) : 0 < (vsL t).length := by
  have := tB_pos hB
  exact List.length_pos_of_mem ((vs_mem_of hB).2 (List.getElem_mem this))
theorem vs_last {t : List Int} (hB : tB t = true) {N x : Int} (hx : (vsL t)[(vsL t).length - 1]? = some x) : (∀ y ∈ t, y < N) ↔ x < N := by
  constructor
  · exact fun h => h x ((vs_mem_of hB).1 (List.mem_of_getElem? hx))
  · intro h y hy
    obtain ⟨p, hp⟩ := List.mem_iff_getElem?.1 ((vs_mem_of hB).2 hy)
    obtain ⟨p0, p1⟩ := List.getElem?_eq_some_iff.1 hp
    obtain ⟨q0, q1⟩ := List.getElem?_eq_some_iff.1 hx
    by_cases e : p = (vsL t).length - 1
    · subst e
      rw [p1] at q1
      omega
    · have := List.pairwise_iff_getElem.1 (vsK_asc t 12) p ((vsL t).length - 1) p0 q0 (by omega)
      rw [show (vsK t 12)[p]'p0 = y from p1, show (vsK t 12)[(vsL t).length - 1]'q0 = x from q1] at this
      omega
theorem mn_first {t : List Int} {x : Int} (hx : (vsL t)[0]? = some x) : mnV t = x := by
  unfold mnV
  cases h : vsL t with
  | nil => rw [h] at hx; simp at hx
  | cons a l => rw [h] at hx; simp at hx; simpa using hx
end Go.Proofs.YtkkplppcgnikoaaGreat
namespace Go.Proofs.YtkkplppcgnikoaaGreat
open Go.RowKit

/-- a row: its block, its room, its numbers -/
structure Rw where
  g : Nat
  cp : Nat
  t : List Int
def Rw.hdr (r : Rw) : Value := .slice (some ⟨r.g, 0, none⟩) r.t.length r.cp
def rts (R : List Rw) : List (List Int) := R.map Rw.t
def rhs (R : List Rw) : List Value := R.map Rw.hdr
theorem rts_len (R : List Rw) : (rts R).length = R.length := by simp [rts]
theorem rts_at {R : List Rw} {j : Nat} {r : Rw} (h : R[j]? = some r) : (rts R)[j]? = some r.t := by simp [rts, h]
theorem rhs_at {R : List Rw} {j : Nat} {r : Rw} (h : R[j]? = some r) : (rhs R)[j]? = some r.hdr := by simp [rhs, h]
theorem rhs_snoc (R : List Rw) (r : Rw) : rhs (R ++ [r]) = rhs R ++ [r.hdr] := by simp [rhs]
theorem rts_snoc (R : List Rw) (r : Rw) : rts (R ++ [r]) = rts R ++ [r.t] := by simp [rts]

/-- a row that is ours -/
abbrev RwB (u : World) (r : Rw) : Prop := RBox u r.g (r.g + 1) (some ⟨r.g, 0, none⟩) r.t.length r.cp r.t
theorem RwB.of_own {u : World} {B g m c : Nat} {t : List Int} (h : u.ownsRow B 3 1 (.slice (some ⟨g, 0, none⟩) m c) m (ic t)) : RwB u ⟨g, c, t⟩ := by
  have hl := h.1
  rw [ic_len] at hl
  have hm : m = t.length := by omega
  subst hm
  have hlt := h.lt g rfl
  refine ⟨⟨h.1, ?_⟩, fun x hx => by simp [Value.ownBlock] at hx; show x < g + 1; omega, by show g + 1 ≤ _; omega⟩
  rcases h.2 with ⟨hv, _⟩ | ⟨g2, cap, cur, hv, hb, hrest⟩
  · simp at hv
  · simp at hv
    obtain ⟨rfl, rfl⟩ := hv
    exact .inr ⟨g, c, cur, rfl, Nat.le_refl _, hrest⟩
theorem RwB.cap {u : World} {r : Rw} (h : RwB u r) : r.t.length ≤ r.cp := by
  rcases h.own.2 with ⟨hv, _⟩ | ⟨g2, cap, cur, hv, hb, hg, hnc, _⟩
  · simp at hv
  · simp only [Value.slice.injEq, Option.some.injEq, Addr.mk.injEq, and_true, true_and] at hv
    obtain ⟨rfl, rfl⟩ := hv
    exact hnc
theorem RwB.lt {u : World} {r : Rw} (h : RwB u r) : r.g < u.heap.size := (h.own.lt r.g rfl).2
theorem RwB.blk {u : World} {r : Rw} (h : RwB u r) : ∃ cur, u.heap[r.g]? = some (.cells cur 3 (0, 0)) := by
  rcases h.own.2 with ⟨hv, _⟩ | ⟨g2, cap, cur, hv, hb, hg, hnc, _⟩
  · simp at hv
  · simp only [Value.slice.injEq, Option.some.injEq, Addr.mk.injEq, and_true, true_and] at hv
    obtain ⟨rfl, rfl⟩ := hv
    exact ⟨cur, hg⟩
theorem RwB.grown {u v : World} {r : Rw} {row : Option Nat} (h : RwB u r) (hg : u.grownBy v row) (hr : row ≠ some r.g) : RwB v r :=
  ⟨h.own.kept hg (.inr (by simp [Value.ownBlock]; exact fun e => hr e.symm)), h.row, Nat.le_trans h.there hg.size⟩

/-- rows that are ours, in blocks lo .. hi, each in a block of its own -/
structure FB (u : World) (lo hi : Nat) (a : Option Addr) (n c : Nat) (R : List Rw) : Prop where
  len : R.length = n
  own : u.ownsRow lo 44 1 (.slice a n c) n (rhs R)
  row : ∀ g, (Value.slice a n c).ownBlock = some g → g < hi
  there : hi ≤ u.heap.size
  ins : ∀ r ∈ R, RwB u r ∧ lo ≤ r.g ∧ r.g < hi
  nod : R.Pairwise fun r s => r.g ≠ s.g

theorem own_blk {u : World} {lo e s g n c : Nat} {xs : List Value} (h : u.ownsRow lo e s (.slice (some ⟨g, 0, none⟩) n c) n xs) : ∃ cur, u.heap[g]? = some (.cells cur e (0, 0)) := by
  rcases h.2 with ⟨hv, _⟩ | ⟨g2, cap, cur, hv, hb, hg, hnc, _⟩
  · simp at hv
  · simp only [Value.slice.injEq, Option.some.injEq, Addr.mk.injEq, and_true, true_and] at hv
    obtain ⟨rfl, rfl⟩ := hv
    exact ⟨cur, hg⟩
/-- a row of rows is no row of numbers -/
theorem own_ne {u : World} {lo s g n c : Nat} {xs : List Value} {r : Rw} (h : u.ownsRow lo 44 s (.slice (some ⟨g, 0, none⟩) n c) n xs) (hr : RwB u r) : g ≠ r.g := by
  obtain ⟨c1, h1⟩ := own_blk h
  obtain ⟨c2, h2⟩ := hr.blk
  intro e
  rw [e, h2] at h1
  simp at h1
theorem own_ne' {u : World} {lo s n : Nat} {v : Value} {xs : List Value} {r : Rw} (h : u.ownsRow lo 44 s v n xs) (hr : RwB u r) : v.ownBlock ≠ some r.g := by
  rcases h.2 with ⟨rfl, _⟩ | ⟨g, cap, cur, rfl, _⟩
  · simp [Value.ownBlock]
  · intro e
    simp [Value.ownBlock] at e
    exact own_ne h hr e
theorem own_rng {u v : World} {lo e s l2 h2 n : Nat} {x : Value} {xs : List Value} (h : u.ownsRow lo e s x n xs) (hr : Rng l2 h2 u v) (ho : ∀ g, x.ownBlock = some g → g < l2 ∨ h2 ≤ g) : v.ownsRow lo e s x n xs := by
  refine ⟨h.1, ?_⟩
  rcases h.2 with h3 | ⟨g, cap, cur, hv, hg, hcur, hrest⟩
  · exact .inl h3
  · have hgl := h.lt g (by rw [hv]; rfl)
    refine .inr ⟨g, cap, cur, hv, hg, ?_, hrest⟩
    rw [hr.block g (by omega) (ho g (by rw [hv]; rfl))]
    exact hcur
theorem FB.rng {u v : World} {lo hi l2 h2 : Nat} {a : Option Addr} {n c : Nat} {R : List Rw} (h : FB u lo hi a n c R) (hr : Rng l2 h2 u v) (ho : hi ≤ l2 ∨ h2 ≤ lo) : FB v lo hi a n c R := by
  refine ⟨h.len, own_rng h.own hr (fun g hg => by have := h.row g hg; have := (h.own.lt g hg).1; omega), h.row, Nat.le_trans h.there hr.size, fun r hr2 => ?_, h.nod⟩
  have hb := h.ins r hr2
  exact ⟨hb.1.rng hr (by omega), hb.2⟩
theorem FB.up {u v : World} {lo hi : Nat} {a : Option Addr} {n c : Nat} {R : List Rw} (h : FB u lo hi a n c R) (hb : Below u.heap.size u v) : FB v lo hi a n c R :=
  h.rng (l2 := hi) (h2 := hi) (Rng.of_below hb) (.inl (Nat.le_refl _))
theorem FB.hi {u : World} {lo hi hi' : Nat} {a : Option Addr} {n c : Nat} {R : List Rw} (h : FB u lo hi a n c R) (h1 : hi ≤ hi') (h2 : hi' ≤ u.heap.size) : FB u lo hi' a n c R :=
  ⟨h.len, h.own, fun g hg => Nat.lt_of_lt_of_le (h.row g hg) h1, h2, fun r hr => ⟨(h.ins r hr).1, (h.ins r hr).2.1, Nat.lt_of_lt_of_le (h.ins r hr).2.2 h1⟩, h.nod⟩
theorem FB.lo {u : World} {lo lo' hi : Nat} {a : Option Addr} {n c : Nat} {R : List Rw} (h : FB u lo hi a n c R) (h1 : lo' ≤ lo) : FB u lo' hi a n c R :=
  ⟨h.len, own_mono h.own h1, h.row, h.there, fun r hr => ⟨(h.ins r hr).1, Nat.le_trans h1 (h.ins r hr).2.1, (h.ins r hr).2.2⟩, h.nod⟩
theorem FB.ts {u : World} {lo hi : Nat} {a : Option Addr} {n c : Nat} {R : List Rw} (h : FB u lo hi a n c R) : Ts u u.heap.size a n (rts R) := by
  refine ⟨by rw [rts_len]; exact h.len, ?_⟩
  rcases h.own.2 with ⟨_, h0⟩ | ⟨g, cap, cur, hv, hg, hcur, hrest⟩
  · exact .inl h0
  · simp at hv
    obtain ⟨rfl, rfl⟩ := hv
    refine .inr ⟨g, 0, rfl, (h.own.lt g rfl).2, fun j t ht => ?_⟩
    have hj : j < R.length := by rw [← rts_len]; exact (List.getElem?_eq_some_iff.1 ht).1
    have hr : R[j]? = some R[j] := List.getElem?_eq_getElem hj
    have e := rts_at hr
    rw [ht] at e
    obtain rfl := Option.some.inj e
    have hi2 := h.ins _ (List.mem_of_getElem? hr)
    refine ⟨some ⟨R[j].g, 0, none⟩, R[j].cp, ?_, hi2.1.is, hi2.1.cap⟩
    rw [Nat.zero_add, h.own.cellAt j (by have := h.len; omega)]
    exact rhs_at hr
/-- one row more behind them -/
theorem FB.app {u u' : World} {lo : Nat} {a : Option Addr} {n c : Nat} {R : List Rw} (h : FB u lo u.heap.size a n c R) {r : Rw} (hr : RwB u r) (hl : lo ≤ r.g) (hne : ∀ x ∈ R, x.g ≠ r.g) {o : Obj} {v : Value}
    (ho : u'.ownsRow lo 44 1 v (n + 1) (rhs R ++ [r.hdr])) (hg : (u.alloc o).grownBy u' (Value.slice a n c).ownBlock) : ∃ a' c', v = .slice a' (n + 1) c' ∧ FB u' lo u'.heap.size a' (n + 1) c' (R ++ [r]) := by
  obtain ⟨a', c', rfl⟩ := own_form ho
  have hsz := hg.size
  have hkeep : ∀ x, RwB u x → RwB u' x := fun x hx => by
    have hx2 : RwB (u.alloc o) x := hx.rng (l2 := x.g + 1) (h2 := x.g + 1) (Rng.of_below ((Below.refl _ _).alloc (Nat.le_refl _) _)) (.inl (Nat.le_refl _))
    exact hx2.grown hg (own_ne' h.own hx)
  refine ⟨a', c', rfl, by simp [h.len], by rw [rhs_snoc]; exact ho, fun g hg2 => (ho.lt g hg2).2, Nat.le_refl _, fun x hx => ?_, ?_⟩
  · rcases List.mem_append.1 hx with hx | hx
    · have := h.ins x hx
      have h2 := hkeep x this.1
      exact ⟨h2, this.2.1, h2.lt⟩
    · simp at hx
      subst hx
      have h2 := hkeep x hr
      exact ⟨h2, hl, h2.lt⟩
  · rw [List.pairwise_append]
    refine ⟨h.nod, by simp, fun x hx y hy => ?_⟩
    simp at hy
    subst hy
    exact hne x hx
theorem FB.setLow {u : World} {lo hi : Nat} {a : Option Addr} {n c : Nat} {R : List Rw} (h : FB u lo hi a n c R) {x : Nat} (hx : x < lo) (j : Nat) (v : Value) : FB (u.setCell ⟨x, j, none⟩ v) lo hi a n c R :=
  h.rng (l2 := x) (h2 := x + 1) ⟨rfl, rfl, rfl, by simp [World.setCell], fun k _ hk => heap_setCell_other u ⟨x, j, none⟩ k v (by show k ≠ x; omega)⟩ (.inr hx)
theorem FB.nil (u : World) (lo : Nat) : FB u lo u.heap.size none 0 0 [] := ⟨rfl, World.ownsRow_nil _ _ _ _, fun g hg => by simp [Value.ownBlock] at hg, Nat.le_refl _, by simp, List.Pairwise.nil⟩
theorem FB.start (wb : World) : FB (wb.alloc (.cells #[] 44)) wb.heap.size (wb.alloc (.cells #[] 44)).heap.size (some ⟨wb.heap.size, 0, none⟩) 0 0 [] := by
  have h0 := World.ownsRow_lit (base := wb.heap.size) (e := 44) (size := 1) wb #[] 0 (Nat.le_refl _) (by unfold maxLen; omega) (by simp)
  exact ⟨rfl, by simpa [rhs] using h0, fun g hg => (h0.lt g hg).2, Nat.le_refl _, by simp, List.Pairwise.nil⟩
theorem FB.keep {u v : World} {lo : Nat} {a : Option Addr} {n c : Nat} {R : List Rw} (h : FB u lo u.heap.size a n c R) (hb : Below u.heap.size u v) : FB v lo v.heap.size a n c R :=
  (h.up hb).hi hb.size (Nat.le_refl _)
end Go.Proofs.YtkkplppcgnikoaaGreat
