/- Bridges, and edges that close no ring: pure. Places in a list of ints: the first one of a number, the last one, the first step from one number to another. The specification's TourOk. The specification's TourOk: the whole of it. The program's TourOk. The program's laid: pieces of tours, one behind the other, in memory of their own. -/
import Derived.Test.YtgjnlhdgekfieaaGreatKWk
import Derived.Test.YtgjnlhdgekfieaaGreatKBx7
import Derived.Laws.CopyOwn
namespace Go.Proofs.YtgjnlhdgekfieaaGreat
open Go.RowKit

theorem Bridge.sub {es fs : List EdgeV} (h : Bridge es) (hs : ∀ e ∈ fs, e ∈ es) : Bridge fs := fun e he => by
  obtain ⟨S, a, b, c⟩ := h e (hs e he)
  exact ⟨S, a, b, fun d hd => c d (hs d hd)⟩
theorem flip_iff {a b c d : Prop} (h1 : ¬ (a ↔ b)) (h2 : ¬ (c ↔ d)) : (a ↔ ¬ c) ↔ (b ↔ ¬ d) := by
  by_cases ha : a <;> by_cases hb : b <;> by_cases hc : c <;> by_cases hd : d <;> simp_all
theorem flip_same {a b c d : Prop} (h1 : a ↔ b) (h2 : c ↔ d) : (a ↔ ¬ c) ↔ (b ↔ ¬ d) := by rw [h1, h2]
/-- one more edge, between what does not hang together -/
theorem Bridge.add {es : List EdgeV} (h : Bridge es) {f : EdgeV} (hf : ¬ Conn es f.1 f.2) {fs : List EdgeV} (hs : ∀ e ∈ fs, e ∈ es ∨ e = f) : Bridge fs := by
  intro e he
  by_cases hef : e = f
  · subst hef
    refine ⟨fun x => ¬ Conn es e.1 x, hf, fun h => h (Conn.refl _ _), fun d hd hne => ?_⟩
    rcases hs d hd with h1 | h1
    · exact not_congr ⟨fun h2 => h2.trans (Conn.edge h1), fun h2 => h2.trans (Conn.edge h1).symm⟩
    · exact absurd h1 hne
  · have he1 : e ∈ es := (hs e he).resolve_right hef
    obtain ⟨S, a, b, c⟩ := h e he1
    by_cases hS : S f.1 ↔ S f.2
    · refine ⟨S, a, b, fun d hd hne => ?_⟩
      rcases hs d hd with h1 | h1
      · exact c d h1 hne
      · subst h1; exact hS
    · have key : ∀ g : Int, ¬ Conn es g e.1 → ¬ (Conn es g f.1 ↔ Conn es g f.2) → ∃ S : Int → Prop, S e.2 ∧ ¬ S e.1 ∧ ∀ d ∈ fs, d ≠ e → (S d.1 ↔ S d.2) := fun g hg hC => by
        have hg2 : ¬ Conn es g e.2 := fun h2 => hg (h2.trans (Conn.edge he1).symm)
        refine ⟨fun x => S x ↔ ¬ Conn es g x, ⟨fun _ => hg2, fun _ => a⟩, fun h2 => b (h2.2 hg), fun d hd hne => ?_⟩
        rcases hs d hd with h1 | h1
        · exact flip_same (c d h1 hne) ⟨fun h2 => h2.trans (Conn.edge h1), fun h2 => h2.trans (Conn.edge h1).symm⟩
        · subst h1; exact flip_iff hS hC
      by_cases hC : Conn es f.1 e.1
      · exact key f.2 (fun h2 => hf (hC.trans h2.symm)) (fun h2 => hf (h2.2 (Conn.refl _ _)).symm)
      · exact key f.1 hC (fun h2 => hf (h2.1 (Conn.refl _ _)))
theorem TreeP.bridge {es : List EdgeV} (h : TreeP es) : Bridge es := by
  have key : ∀ k, Bridge (es.take k) := by
    intro k
    induction k with
    | zero => intro e he; simp at he
    | succ k ih =>
      cases hk : es[k]? with
      | none =>
        rw [List.take_add_one, hk]
        simpa using ih
      | some f =>
        refine ih.add (h k f hk) fun e he => ?_
        rw [List.take_add_one, hk] at he
        simpa using he
  have := key es.length
  rwa [List.take_length] at this
theorem Bridge.tree {es : List EdgeV} (h : Bridge es) (hn : es.Nodup) : TreeP es := fun q f hf hc => by
  obtain ⟨S, a, b, c⟩ := h f (List.mem_of_getElem? hf)
  have hq := (List.getElem?_eq_some_iff.1 hf).1
  refine hc (fun x => ¬ S x) (fun e he => not_congr (c e (List.mem_of_mem_take he) fun e2 => ?_)) b a
  subst e2
  obtain ⟨i, hi⟩ := List.mem_iff_getElem?.1 he
  have hi1 := (List.getElem?_eq_some_iff.1 hi).1
  rw [List.length_take] at hi1
  rw [List.getElem?_take_of_lt (by omega)] at hi
  obtain ⟨_, e3⟩ := List.getElem?_eq_some_iff.1 hi
  obtain ⟨_, e4⟩ := List.getElem?_eq_some_iff.1 hf
  have := (List.pairwise_iff_getElem.1 hn) i q (by omega) hq (by omega)
  rw [e3, e4] at this
  exact this rfl
theorem treeP_iff {es : List EdgeV} (hn : es.Nodup) : TreeP es ↔ Bridge es := ⟨fun h => h.bridge, fun h => h.tree hn⟩
end Go.Proofs.YtgjnlhdgekfieaaGreat
namespace Go.Proofs.YtgjnlhdgekfieaaGreat
open Go.RowKit

def firstN (p : Nat → Bool) (n : Nat) : Int := match (List.range n).find? p with | some k => (k : Int) | none => -1
def lastN (p : Nat → Bool) : Nat → Int
  | 0 => -1
  | n + 1 => if p n = true then (n : Int) else lastN p n
theorem firstN_yes {p : Nat → Bool} {n k : Nat} (hk : k < n) (h : p k = true) (hn : ∀ j, j < k → p j = false) : firstN p n = (k : Int) := by
  have : (List.range n).find? p = some k := by
    rw [List.find?_range_eq_some]
    exact ⟨h, by simpa using hk, fun j hj => by simp [hn j hj]⟩
  unfold firstN
  rw [this]
theorem firstN_no {p : Nat → Bool} {n : Nat} (hn : ∀ j, j < n → p j = false) : firstN p n = -1 := by
  have : (List.range n).find? p = none := by
    rw [List.find?_range_eq_none]
    exact fun j hj => by simp [hn j hj]
  unfold firstN
  rw [this]
theorem firstN_cases (p : Nat → Bool) (n : Nat) : (∃ k, k < n ∧ p k = true ∧ (∀ j, j < k → p j = false) ∧ firstN p n = (k : Int)) ∨ ((∀ j, j < n → p j = false) ∧ firstN p n = -1) := by
  cases h : (List.range n).find? p with
  | none =>
    rw [List.find?_range_eq_none] at h
    exact .inr ⟨fun j hj => by simpa using h j hj, by unfold firstN; rw [show (List.range n).find? p = none by rw [List.find?_range_eq_none]; exact h]⟩
  | some k =>
    have h' := h
    rw [List.find?_range_eq_some] at h
    exact .inl ⟨k, by simpa using h.2.1, h.1, fun j hj => by simpa using h.2.2 j hj, by unfold firstN; rw [h']⟩
theorem lastN_cases (p : Nat → Bool) (n : Nat) : (∃ k, k < n ∧ p k = true ∧ (∀ j, k < j → j < n → p j = false) ∧ lastN p n = (k : Int)) ∨ ((∀ j, j < n → p j = false) ∧ lastN p n = -1) := by
  induction n with
  | zero => exact .inr ⟨fun j hj => by omega, rfl⟩
  | succ n ih =>
    by_cases h : p n = true
    · exact .inl ⟨n, by omega, h, fun j h1 h2 => by omega, by simp [lastN, h]⟩
    · have h' : p n = false := by simpa using h
      rcases ih with ⟨k, h1, h2, h3, h4⟩ | ⟨h1, h2⟩
      · refine .inl ⟨k, by omega, h2, fun j h5 h6 => ?_, by simp [lastN, h', h4]⟩
        by_cases h7 : j = n
        · rw [h7]; exact h'
        · exact h3 j h5 (by omega)
      · refine .inr ⟨fun j hj => ?_, by simp [lastN, h', h2]⟩
        by_cases h7 : j = n
        · rw [h7]; exact h'
        · exact h1 j (by omega)
theorem lastN_step {p : Nat → Bool} {n k : Nat} (h : lastN p n = lastN p (k + 1)) (hp : p k = false) : lastN p n = lastN p k := by rw [h]; simp [lastN, hp]
theorem lastN_hit {p : Nat → Bool} {n k : Nat} (h : lastN p n = lastN p (k + 1)) (hp : p k = true) : lastN p n = (k : Int) := by rw [h]; simp [lastN, hp]

/-- the number v stands at the place k -/
def atP (ls : List Int) (v : Int) (k : Nat) : Bool := ls[k]? == some v
/-- there the list goes from u to v -/
def goP (ls : List Int) (u v : Int) (k : Nat) : Bool := ls[k]? == some u && ls[k + 1]? == some v
def fstI (ls : List Int) (v : Int) : Int := firstN (atP ls v) ls.length
def lstI (ls : List Int) (v : Int) : Int := lastN (atP ls v) ls.length
def goI (ls : List Int) (u v : Int) : Int := firstN (goP ls u v) (ls.length - 1)
theorem atP_yes {ls : List Int} {v : Int} {k : Nat} (h : ls[k]? = some v) : atP ls v k = true := by simp [atP, h]
theorem atP_no {ls : List Int} {v f : Int} {k : Nat} (h : ls[k]? = some f) (hn : f ≠ v) : atP ls v k = false := by simp [atP, h, hn]
theorem fstI_mem (ls : List Int) (v : Int) : decide (fstI ls v < 0) = decide (v ∉ ls) := by
  rcases firstN_cases (atP ls v) ls.length with ⟨k, _, h, _, e⟩ | ⟨h, e⟩
  · have hm : v ∈ ls := List.mem_of_getElem? (by simpa [atP] using h)
    have e' : fstI ls v = (k : Int) := e
    rw [e', decide_eq_decide]
    simp [hm]
  · have hm : v ∉ ls := fun hm => by
      obtain ⟨k, hk⟩ := List.mem_iff_getElem?.1 hm
      have := h k (List.getElem?_eq_some_iff.1 hk).1
      rw [atP_yes hk] at this
      simp at this
    have e' : fstI ls v = -1 := e
    rw [e', decide_eq_decide]
    simp [hm]
theorem lstI_mem (ls : List Int) (v : Int) : decide (lstI ls v < 0) = decide (v ∉ ls) := by
  rcases lastN_cases (atP ls v) ls.length with ⟨k, _, h, _, e⟩ | ⟨h, e⟩
  · have hm : v ∈ ls := List.mem_of_getElem? (by simpa [atP] using h)
    have e' : lstI ls v = (k : Int) := e
    rw [e', decide_eq_decide]
    simp [hm]
  · have hm : v ∉ ls := fun hm => by
      obtain ⟨k, hk⟩ := List.mem_iff_getElem?.1 hm
      have := h k (List.getElem?_eq_some_iff.1 hk).1
      rw [atP_yes hk] at this
      simp at this
    have e' : lstI ls v = -1 := e
    rw [e', decide_eq_decide]
    simp [hm]
theorem mem_of_atP {ls : List Int} {v : Int} {n : Nat} (hn : ls.length = n) (h : ∀ j, j < n → atP ls v j = false) : v ∉ ls := fun hm => by
  obtain ⟨k, hk⟩ := List.mem_iff_getElem?.1 hm
  have := h k (by have := (List.getElem?_eq_some_iff.1 hk).1; omega)
  rw [atP_yes hk] at this
  simp at this
theorem all_step {p : Nat → Bool} {k : Nat} (h : ∀ j, j < k → p j = false) (hp : p k = false) : ∀ j, j < k + 1 → p j = false := fun j hj => by
  by_cases h7 : j = k
  · rw [h7]; exact hp
  · exact h j (by omega)

theorem retT {p : Prop} [Decidable p] (h : p) : Ending.returned (.bool true) = Ending.returned (.bool (decide p)) := by rw [decide_eq_true h]
theorem retF {p : Prop} [Decidable p] (h : ¬ p) : Ending.returned (.bool false) = Ending.returned (.bool (decide p)) := by rw [decide_eq_false h]
theorem retI {x y : Int} (h : y = x) : Ending.returned (.int .i64 x) = Ending.returned (.int .i64 y) := by rw [h]

set_option maxHeartbeats 1000000 in
theorem l05In_any (ls : List Int) (v : Int) (n : Nat) (a : Option Addr) (c : Nat) (hn : n ≤ 3000000) (w : World) (h : Is w w.heap.size a n ls) :
    Calls Tryz.prog 101 #[.slice a n c, .int .i64 v] w fun e w' => e = .returned (.bool (decide (v ∈ ls))) ∧ w' = w := by
  obtain ⟨hlen, hrow⟩ := h
  have HR := hideIt hrow
  clear hrow
  go_enter Tryz.func101, Tryz.ntmps101
  go_wp2
  go_loopw [5] (fun i wr => ∃ (k : Nat), k ≤ n ∧ i = .int .i64 (k : Int) ∧ Hid (∀ j, j < k → atP ls v j = false) ∧ wr = w) (fun i _ => n - (intOf i).toNat)
  case atStart => exact ⟨0, by omega, rfl, fun j hj => by omega, rfl⟩
  case round =>
    obtain ⟨k, hk, rfl, HF, hw⟩ := hrel
    have hw' := hw.symm
    subst hw'
    clear hw
    by_cases hlt : k < n
    · rcases HR.out with hz | ⟨b, off, rfl, hbl, hc⟩
      · omega
      · obtain ⟨f, hf⟩ : ∃ f, ls[k]? = some f := ⟨ls[k]'(by omega), List.getElem?_eq_getElem (by omega)⟩
        have e0 := hc k f hf
        have b1 : (0 : Int) ≤ (k : Int) := by omega
        have b2 : (k : Int) < (n : Int) := by omega
        by_cases hv : f = v
        · have d1 : (f == v) = true := by simpa using hv
          have hm := hideIt (show v ∈ ls from hv ▸ List.mem_of_getElem? hf)
          clear hc hf hv
          go_wp2
          go_ret
          exact ⟨retT hm.out, rfl⟩
        · have d1 : (f == v) = false := by simpa using hv
          have HF2 := hideIt (all_step HF.out (atP_no hf hv))
          clear hc hf hv HF
          go_wp2
          exact ⟨⟨k + 1, by omega, by go_num, HF2, by first | trivial | rfl⟩, by simp [intOf]; omega⟩
    · obtain rfl : k = n := by omega
      have hm := hideIt (mem_of_atP hlen HF.out)
      clear HF
      go_wp2
      go_ret
      exact ⟨retF hm.out, rfl⟩

set_option maxHeartbeats 1000000 in
theorem idxI_any (ls : List Int) (v : Int) (n : Nat) (a : Option Addr) (c : Nat) (hn : n ≤ 3000000) (w : World) (h : Is w w.heap.size a n ls) :
    Calls Tryz.prog 219 #[.slice a n c, .int .i64 v] w fun e w' => e = .returned (.int .i64 (fstI ls v)) ∧ w' = w := by
  obtain ⟨hlen, hrow⟩ := h
  have HR := hideIt hrow
  have HL := hideIt hlen
  clear hrow
  go_enter Tryz.func219, Tryz.ntmps219
  go_wp2
  go_loopw [8] (fun i wr => ∃ (k : Nat), k ≤ n ∧ i = .int .i64 (k : Int) ∧ Hid (∀ j, j < k → atP ls v j = false) ∧ wr = w) (fun i _ => n - (intOf i).toNat)
  case atStart => exact ⟨0, by omega, rfl, fun j hj => by omega, rfl⟩
  case round =>
    obtain ⟨k, hk, rfl, HF, hw⟩ := hrel
    have hw' := hw.symm
    subst hw'
    clear hw
    by_cases hlt : k < n
    · rcases HR.out with hz | ⟨b, off, rfl, hbl, hc⟩
      · omega
      · obtain ⟨f, hf⟩ : ∃ f, ls[k]? = some f := ⟨ls[k]'(by omega), List.getElem?_eq_getElem (by omega)⟩
        have e0 := hc k f hf
        have b1 : (0 : Int) ≤ (k : Int) := by omega
        have b2 : (k : Int) < (n : Int) := by omega
        by_cases hv : v = f
        · have d1 : (v == f) = true := by simpa using hv
          have hm := hideIt (show fstI ls v = (k : Int) from firstN_yes (by omega) (atP_yes (hv ▸ hf)) HF.out)
          clear hc hf hv HF
          go_wp2
          go_ret
          exact ⟨retI hm.out, rfl⟩
        · have d1 : (v == f) = false := by simpa using hv
          have HF2 := hideIt (all_step HF.out (atP_no hf (fun e => hv e.symm)))
          clear hc hf hv HF
          go_wp2
          exact ⟨⟨k + 1, by omega, by go_num, HF2, by first | trivial | rfl⟩, by simp [intOf]; omega⟩
    · obtain rfl : k = n := by omega
      have hm := hideIt (show fstI ls v = -1 from firstN_no (by rw [hlen]; exact HF.out))
      clear HF
      go_wp2
      go_ret
      exact ⟨retI hm.out, rfl⟩

theorem conI_any (ls : List Int) (v : Int) (n : Nat) (a : Option Addr) (c : Nat) (hn : n ≤ 3000000) (w : World) (h : Is w w.heap.size a n ls) :
    Calls Tryz.prog 191 #[.slice a n c, .int .i64 v] w fun e w' => e = .returned (.bool (decide (v ∈ ls))) ∧ w' = w := by
  have HI := hideIt (idxI_any ls v n a c hn w h)
  have HM := hideIt (fstI_mem ls v)
  clear h
  go_enter Tryz.func191, Tryz.ntmps191
  go_wp2_with (go_at_call 219; refine HI.out.mono ?_; rintro e w1 ⟨rfl, rfl⟩)
  go_ret
  refine ⟨?_, rfl⟩
  have := HM.out
  rw [decide_eq_decide] at this
  exact bret (by
    constructor
    · intro h0
      exact Classical.byContradiction fun hm => by have := this.2 hm; omega
    · intro hm
      exact Classical.byContradiction fun h0 => this.1 (by omega) hm)

end Go.Proofs.YtgjnlhdgekfieaaGreat
namespace Go.Proofs.YtgjnlhdgekfieaaGreat
open Go.RowKit

theorem own_cut {u : World} {B e g n m c : Nat} {xs : List Value} (h : u.ownsRow B e 1 (.slice (some ⟨g, 0, none⟩) n c) n xs) (hm : m ≤ n) : u.ownsRow B e 1 (.slice (some ⟨g, 0, none⟩) m c) m (xs.take m) := by
  obtain ⟨hl, h2⟩ := h
  refine ⟨by rw [List.length_take, hl]; omega, ?_⟩
  rcases h2 with ⟨hv, _⟩ | ⟨g', cap, cur, hv, hb, hg, hnc, hcm, hcs, htake⟩
  · simp at hv
  · simp only [Value.slice.injEq, Option.some.injEq, Addr.mk.injEq, and_true, true_and] at hv
    obtain ⟨rfl, rfl⟩ := hv
    refine .inr ⟨g, c, cur, rfl, hb, hg, by omega, hcm, hcs, ?_⟩
    rw [← htake, List.take_take]
    congr 1
    omega

/-- two rows of ints in the making, each in a block of its own; nothing of wb has turned -/
structure Two (wb : World) (g n c : Nat) (ls : List Int) (g' n' c' : Nat) (ls' : List Int) (u : World) : Prop where
  one : u.ownsRow wb.heap.size 3 1 (.slice (some ⟨g, 0, none⟩) n c) n (ic ls)
  two : u.ownsRow wb.heap.size 3 1 (.slice (some ⟨g', 0, none⟩) n' c') n' (ic ls')
  ne : g ≠ g'
  bel : Below wb.heap.size wb u
theorem Two.size {wb : World} {g n c g' n' c' : Nat} {ls ls' : List Int} {u : World} (h : Two wb g n c ls g' n' c' ls' u) : wb.heap.size ≤ u.heap.size := h.bel.size
theorem Two.len {wb : World} {g n c g' n' c' : Nat} {ls ls' : List Int} {u : World} (h : Two wb g n c ls g' n' c' ls' u) : ls.length = n ∧ ls'.length = n' := by
  have h1 := h.one.1
  have h2 := h.two.1
  rw [ic_len] at h1 h2
  omega
theorem Two.swap {wb : World} {g n c g' n' c' : Nat} {ls ls' : List Int} {u : World} (h : Two wb g n c ls g' n' c' ls' u) : Two wb g' n' c' ls' g n c ls u := ⟨h.two, h.one, h.ne.symm, h.bel⟩
theorem Two.up {wb : World} {g n c g' n' c' : Nat} {ls ls' : List Int} {u v : World} (h : Two wb g n c ls g' n' c' ls' u) (hb : Below u.heap.size u v) : Two wb g n c ls g' n' c' ls' v :=
  ⟨own_up h.one hb, own_up h.two hb, h.ne, h.bel.trans (hb.mono h.size)⟩
theorem Two.cut {wb : World} {g n c g' n' c' m : Nat} {ls ls' : List Int} {u : World} (h : Two wb g n c ls g' n' c' ls' u) (hm : m ≤ n) : Two wb g m c (ls.take m) g' n' c' ls' u :=
  ⟨by have := own_cut h.one hm; rw [ic, ← List.map_take] at this; exact this, h.two, h.ne, h.bel⟩
theorem Two.app {wb : World} {g n c g' n' c' : Nat} {ls ls' : List Int} {u : World} (h : Two wb g n c ls g' n' c' ls' u) {x : Int} {o : Obj} {G cap : Nat} {u' : World}
    (ho : u'.ownsRow wb.heap.size 3 1 (.slice (some ⟨G, 0, none⟩) (n + 1) cap) (n + 1) (ic ls ++ [.int .i64 x])) (hg : (u.alloc o).grownBy u' (some g)) (hG : (some g : Option Nat) = some G ∨ G = u.heap.size + 1) :
    Two wb G (n + 1) cap (ls ++ [x]) g' n' c' ls' u' := by
  have hl := (h.two.lt g' rfl).2
  refine ⟨by rw [ic_snoc]; exact ho, World.ownsRow.kept (h.two.alloc o) hg (.inr (by simp [Value.ownBlock]; exact fun e => h.ne e.symm)), ?_, ?_⟩
  · rcases hG with hG | hG
    · simp at hG; rw [← hG]; exact h.ne
    · omega
  · exact (h.bel.alloc h.size _).grown hg (by have := h.size; simp; omega) (fun j hj => by simp at hj; subst hj; exact (h.one.lt g rfl).1)
theorem Two.cell {wb : World} {g n c g' n' c' : Nat} {ls ls' : List Int} {u : World} (h : Two wb g n c ls g' n' c' ls' u) {j : Nat} {x : Int} (hx : ls[j]? = some x) : u.cell? ⟨g, j, none⟩ = some (.int .i64 x) := by
  have hj := (List.getElem?_eq_some_iff.1 hx).1
  have := h.len.1
  rw [h.one.cellAt j (by omega)]
  exact ic_at hx
theorem Two.cap {wb : World} {g n c g' n' c' : Nat} {ls ls' : List Int} {u : World} (h : Two wb g n c ls g' n' c' ls' u) : n ≤ c := by
  rcases h.one.2 with ⟨hv, _⟩ | ⟨g2, cap, cur, hv, hb, hg, hnc, _⟩
  · simp at hv
  · simp only [Value.slice.injEq, Option.some.injEq, Addr.mk.injEq, and_true, true_and] at hv
    obtain ⟨rfl, rfl⟩ := hv
    exact hnc
theorem Two.is {wb : World} {g n c g' n' c' : Nat} {ls ls' : List Int} {u : World} (h : Two wb g n c ls g' n' c' ls' u) : Is u u.heap.size (some ⟨g, 0, none⟩) n ls := Is_of_own h.one

theorem Two.snoc {wb : World} {g n c g' n' c' : Nat} {ls ls' wy sn : List Int} {f : Int} {u : World} (h : Two wb g n c (ls ++ [f]) g' n' c' (ls' ++ [f]) u) (h1 : ls = wy.reverse) (h2 : ls' = sn.reverse) : Two wb g n c (f :: wy).reverse g' n' c' (f :: sn).reverse u := by
  subst h1 h2
  rw [List.reverse_cons, List.reverse_cons]
  exact h

/-- the walk comes to its end at the root -/
def openB (t : List Int) : Bool := match trun [] [] t with | some x => x.1.length == 1 | none => false
theorem tB_eq (t : List Int) : tB t = (t.all vB && openB t) := rfl
theorem trun_none {t : List Int} {k : Nat} (h : trun [] [] (t.take k) = none) : openB t = false := by
  have : trun [] [] t = none := by
    rw [← List.take_append_drop k t, trun_append, h]; rfl
  unfold openB
  rw [this]
theorem trun_snoc (w s a : List Int) (v : Int) : trun w s (a ++ [v]) = (trun w s a).bind fun x => tstep x.1 x.2 v := by
  rw [trun_append]
  cases trun w s a with
  | none => rfl
  | some x =>
    show (match tstep x.1 x.2 v with | none => none | some y => trun y.1 y.2 []) = _
    cases h : tstep x.1 x.2 v with
    | none => simp [h]
    | some y => simp [h, trun]
theorem tstep_up {q s : List Int} {c p v : Int} (h : v = p) : tstep (c :: p :: q) s v = some (p :: q, s) := by simp [tstep, isUp, h]
theorem tstep_bad2 {q s : List Int} {c p v : Int} (h : v ≠ p) (hs : v ∈ s) : tstep (c :: p :: q) s v = none := by simp [tstep, isUp, Ne.symm h, hs]
theorem tstep_down2 {q s : List Int} {c p v : Int} (h : v ≠ p) (hs : v ∉ s) : tstep (c :: p :: q) s v = some (v :: c :: p :: q, v :: s) := by simp [tstep, isUp, Ne.symm h, hs]
theorem tstep_bad1 {w s : List Int} {v : Int} (h : w.length ≤ 1) (hs : v ∈ s) : tstep w s v = none := by
  match w, h with
  | [], _ => simp [tstep, isUp, hs]
  | [c], _ => simp [tstep, isUp, hs]
theorem tstep_down1 {w s : List Int} {v : Int} (h : w.length ≤ 1) (hs : v ∉ s) : tstep w s v = some (v :: w, v :: s) := by
  match w, h with
  | [], _ => simp [tstep, isUp, hs]
  | [c], _ => simp [tstep, isUp, hs]
theorem rev_at2 (q : List Int) (c p : Int) : (c :: p :: q).reverse[q.length]? = some p := by
  simp
theorem rev_take1 (q : List Int) (c p : Int) : (c :: p :: q).reverse.take (q.length + 1) = (p :: q).reverse := by
  rw [List.reverse_cons, List.take_append_of_le_length (by simp)]
  exact List.take_of_length_le (by simp)

set_option maxRecDepth 100000 in
set_option maxHeartbeats 4000000 in
theorem l06Open_any (t : List Int) (n : Nat) (a : Option Addr) (c : Nat) (hn : n ≤ 3000000) (h0 : 0 < n) (w : World) (h : Is w w.heap.size a n t) :
    Calls Tryz.prog 160 #[.slice a n c] w fun e w' => e = .returned (.bool (openB t)) ∧ Below w.heap.size w w' := by
  obtain ⟨i0, hi, hz0, hz1, hz2⟩ := info_parts info3i
  obtain ⟨hlen, hrow⟩ := h
  rcases hrow with hz | ⟨b, off, rfl, hbl, hc⟩
  · omega
  · obtain ⟨x0, hx0⟩ : ∃ f, t[0]? = some f := ⟨t[0]'(by omega), List.getElem?_eq_getElem (by omega)⟩
    have e0 := hc 0 x0 hx0
    rw [Nat.add_zero] at e0
    have g0 : (0 : Int) < (n : Int) := by omega
    have HC := hideIt hc
    have hst0 : Two w w.heap.size 1 1 [x0] (w.heap.size + 1) 1 1 [x0] ((w.alloc (.cells #[.int .i64 x0] 3)).alloc (.cells #[.int .i64 x0] 3)) := by
      have p1 := World.ownsRow_lit (base := w.heap.size) (e := 3) (size := 1) w #[.int .i64 x0] 1 (Nat.le_refl _) (by unfold maxLen; omega) (by simp)
      have p2 := World.ownsRow_lit (base := w.heap.size) (e := 3) (size := 1) (w.alloc (.cells #[.int .i64 x0] 3)) #[.int .i64 x0] 1 (by simp) (by unfold maxLen; omega) (by simp)
      refine ⟨by simpa [ic] using p1.alloc _, by simpa [ic] using p2, by omega, ((Below.refl _ _).alloc (Nat.le_refl _) _).alloc (by simp) _⟩
    have H1 : Hid (trun [] [] (t.take 1) = some ([x0], [x0])) := by
      show _ = _
      rw [show t.take 1 = [x0] by rw [take_snocF t 0 x0 hx0]; rfl]
      rfl
    have e0' : (w.alloc (.cells #[.int .i64 x0] 3)).cell? ⟨b, off, none⟩ = some (.int .i64 x0) := by rw [World.cell?_of_block (w := w) (Below.heap_alloc w _ b hbl)]; exact e0
    clear hc hx0
    go_enter Tryz.func160, Tryz.ntmps160
    go_wp2
    go_loopw [3, 4, 5] (fun r s i wr => ∃ (k n1 g1 c1 n2 g2 c2 : Nat) (wy sn : List Int), 1 ≤ k ∧ k ≤ n ∧ i = .int .i64 (k : Int) ∧ r = .slice (some ⟨g1, 0, none⟩) n1 c1 ∧ s = .slice (some ⟨g2, 0, none⟩) n2 c2 ∧ n1 ≤ k ∧ n2 ≤ k ∧ 1 ≤ n1 ∧ Hid (trun [] [] (t.take k) = some (wy, sn)) ∧ Two w g1 n1 c1 wy.reverse g2 n2 c2 sn.reverse wr) (fun _ _ i _ => n - (intOf i).toNat)
    case atStart => exact ⟨1, 1, _, 1, 1, _, 1, [x0], [x0], by omega, by omega, rfl, rfl, by rfl, by omega, by omega, by omega, H1, hst0⟩
    case round =>
      obtain ⟨k, n1, g1, c1, n2, g2, c2, wy, sn, hk1, hk, rfl, rfl, rfl, hn1, hn2, hn0, HT, hst⟩ := hrel
      clear hst0 e0' e0
      by_cases hlt : k < n
      · obtain ⟨f, hf⟩ : ∃ f, t[k]? = some f := ⟨t[k]'(by omega), List.getElem?_eq_getElem (by omega)⟩
        have e0 : wr.cell? ⟨b, off + k, none⟩ = some (.int .i64 f) := by rw [hst.bel.cell hbl]; exact HC.out k f hf
        have b1 : (0 : Int) ≤ (k : Int) := by omega
        have b2 : (k : Int) < (n : Int) := by omega
        have HS := hideIt (show trun [] [] (t.take (k + 1)) = tstep wy sn f by rw [take_snocF t k f hf, trun_snoc, HT.out]; rfl)
        match wy, hst, HS with
        | [], hst, _ => exact absurd hst.len.1 (by simp; omega)
        | [c0], hst, HS =>
          have hl1 := hst.len.1
          simp only [List.length_reverse, List.length_cons, List.length_nil] at hl1
          have d0 : decide ((1 : Int) < (n1 : Int)) = false := decide_eq_false (by omega)
          obtain ⟨lw, hlw⟩ : ∃ l, l = [c0].reverse := ⟨_, rfl⟩
          obtain ⟨lsn, hlsn⟩ : ∃ l, l = sn.reverse := ⟨_, rfl⟩
          rw [← hlw, ← hlsn] at hst
          have HLW := hideIt hlw
          have HLS := hideIt hlsn
          have hmem : ∀ x, x ∈ lsn ↔ x ∈ sn := fun x => by rw [hlsn]; exact List.mem_reverse
          clear hlw hlsn
          have HSd := hideIt (fun x => hst.up (below_drewN (Below.refl wr.heap.size wr) x))
          by_cases hs : f ∈ sn
          · have HS2 := hideIt (trun_none (HS.out.trans (tstep_bad1 (by simp) hs)))
            have HIn := hideIt (fun x => l05In_any lsn f n2 (some ⟨g2, 0, none⟩) c2 (by omega) (wr.drewN x) (HSd.out x).swap.is)
            have d2 : decide (f ∈ lsn) = true := decide_eq_true ((hmem f).2 hs)
            rw [d2] at HIn
            clear HS HT hf hst d2 hs hmem
            go_wp2
            go_quiet (fail)
            go_wp2_with (go_at_call 101; refine (HIn.out _).mono ?_; rintro e w1 ⟨rfl, rfl⟩)
            go_ret
            exact ⟨by rw [HS2.out]; rfl, (HSd.out _).bel⟩
          · have HS2 := hideIt (HS.out.trans (tstep_down1 (by simp) hs))
            have HIn := hideIt (fun x => l05In_any lsn f n2 (some ⟨g2, 0, none⟩) c2 (by omega) (wr.drewN x) (HSd.out x).swap.is)
            have d2 : decide (f ∈ lsn) = false := decide_eq_false (fun h => hs ((hmem f).1 h))
            rw [d2] at HIn
            have HE := hideIt (fun (u : World) (hu : Below w.heap.size w u) => show u.cell? ⟨b, off + k, none⟩ = some (.int .i64 f) by rw [hu.cell hbl]; exact HC.out k f hf)
            clear HS HT hf hst d2 hs hmem
            go_wp2
            go_quiet (fail)
            go_wp2_with (go_at_call 101; refine (HIn.out _).mono ?_; rintro e w1 ⟨rfl, rfl⟩; refine Hid.out ?_)
            refine (show ∀ {p : Prop}, p → Hid p from fun h => h) ?_
            have S1 := HSd.out nq
            clear HIn HSd e0
            generalize wr.drewN nq = wd at *
            have e0 := HE.out wd S1.bel
            have z1 := S1.size
            go_wp2_with (at_builtin; refine wpList_append_lies _ rfl _ _ 44 rfl w.heap.size 3 i0 _ 1 8 Tryz.underlying44 hi hz0 hz1 hz2 rfl (by decide) _ _ _ rfl (S1.swap.one.alloc _) ⟨wd.heap.size, 0, none⟩ 1 1 [.int .i64 f] rfl rfl (newsI wd f) (by intro u hu; simp at hu; subst hu; rfl) (by omega) (by unfold maxLen; omega) (by omega) (by simp; omega) (wd.heap.size + 1) (by simp) ?_)
            intro g3 c3 w3 hown3 hg3 hG3 _
            have S3 := (S1.swap.app hown3 hg3 hG3).swap
            clear hown3 hg3 hG3 S1 e0 z1
            refine Hid.out ?_
            refine (show ∀ {p : Prop}, p → Hid p from fun h => h) ?_
            have e0 := HE.out w3 S3.bel
            have z1 := S3.size
            go_wp2_with (at_builtin; refine wpList_append_lies _ rfl _ _ 44 rfl w.heap.size 3 i0 _ 1 8 Tryz.underlying44 hi hz0 hz1 hz2 rfl (by decide) _ _ _ rfl (S3.one.alloc _) ⟨w3.heap.size, 0, none⟩ 1 1 [.int .i64 f] rfl rfl (newsI w3 f) (by intro u hu; simp at hu; subst hu; rfl) (by omega) (by unfold maxLen; omega) (by omega) (by simp; omega) (w3.heap.size + 1) (by simp) ?_)
            intro g4 c4 w4 hown4 hg4 hG4 _
            have S4 := S3.app hown4 hg4 hG4
            clear hown4 hg4 hG4 S3 e0 z1
            go_wp2
            exact ⟨⟨k + 1, n1 + 1, g4, c4, n2 + 1, g3, c3, f :: [c0], f :: sn, by omega, by omega, by go_num, rfl, rfl, by omega, by omega, by omega, HS2, S4.snoc HLW.out HLS.out⟩, by simp [intOf]; omega⟩
        | c0 :: p :: q, hst, HS =>
          have hl1 := hst.len.1
          simp only [List.length_reverse, List.length_cons] at hl1
          have m1 : wr.cell? ⟨g1, n1 - 2, none⟩ = some (.int .i64 p) := hst.cell (by rw [show n1 - 2 = q.length by omega]; exact rev_at2 q c0 p)
          have e1 : (((n1 : Int) - 2).toNat) = n1 - 2 := by omega
          have d0 : decide ((1 : Int) < (n1 : Int)) = true := decide_eq_true (by omega)
          have b3 : (0 : Int) ≤ (n1 : Int) - 2 := by omega
          have b4 : (n1 : Int) - 2 < (n1 : Int) := by omega
          by_cases hp : f = p
          · have d1 : (f == p) = true := by simpa using hp
            have hcap := hst.cap
            have b5 : (0 : Int) ≤ (n1 : Int) - 1 := by omega
            have b6 : (n1 : Int) - 1 ≤ (c1 : Int) := by omega
            have e2 : (((n1 : Int) - 1).toNat) = n1 - 1 := by omega
            have HS2 := hideIt (HS.out.trans (tstep_up hp))
            have HST := hideIt (fun x => (hst.cut (m := n1 - 1) (by omega)).up (below_drewN (Below.refl wr.heap.size wr) x))
            rw [show (c0 :: p :: q).reverse.take (n1 - 1) = (p :: q).reverse by rw [show n1 - 1 = q.length + 1 by omega]; exact rev_take1 q c0 p] at HST
            clear HS HT hf hst hp
            go_wp2
            go_quiet (fail)
            go_wp2
            exact ⟨⟨k + 1, n1 - 1, g1, c1, n2, g2, c2, p :: q, sn, by omega, by omega, by go_num, rfl, rfl, by omega, by omega, by omega, HS2, HST.out _⟩, by simp [intOf]; omega⟩
          · have d1 : (f == p) = false := by simpa using hp
            obtain ⟨lw, hlw⟩ : ∃ l, l = (c0 :: p :: q).reverse := ⟨_, rfl⟩
            obtain ⟨lsn, hlsn⟩ : ∃ l, l = sn.reverse := ⟨_, rfl⟩
            rw [← hlw, ← hlsn] at hst
            have HLW := hideIt hlw
            have HLS := hideIt hlsn
            have hmem : ∀ x, x ∈ lsn ↔ x ∈ sn := fun x => by rw [hlsn]; exact List.mem_reverse
            clear hlw hlsn
            have HSd := hideIt (fun x => hst.up (below_drewN (Below.refl wr.heap.size wr) x))
            by_cases hs : f ∈ sn
            · have HS2 := hideIt (trun_none (HS.out.trans (tstep_bad2 hp hs)))
              have HIn := hideIt (fun x => l05In_any lsn f n2 (some ⟨g2, 0, none⟩) c2 (by omega) (wr.drewN x) (HSd.out x).swap.is)
              have d2 : decide (f ∈ lsn) = true := decide_eq_true ((hmem f).2 hs)
              rw [d2] at HIn
              clear HS HT hf hst d2 hs hmem
              go_wp2
              go_quiet (fail)
              go_wp2_with (go_at_call 101; refine (HIn.out _).mono ?_; rintro e w1 ⟨rfl, rfl⟩)
              go_ret
              exact ⟨by rw [HS2.out]; rfl, (HSd.out _).bel⟩
            · have HS2 := hideIt (HS.out.trans (tstep_down2 hp hs))
              have HIn := hideIt (fun x => l05In_any lsn f n2 (some ⟨g2, 0, none⟩) c2 (by omega) (wr.drewN x) (HSd.out x).swap.is)
              have d2 : decide (f ∈ lsn) = false := decide_eq_false (fun h => hs ((hmem f).1 h))
              rw [d2] at HIn
              have HE := hideIt (fun (u : World) (hu : Below w.heap.size w u) => show u.cell? ⟨b, off + k, none⟩ = some (.int .i64 f) by rw [hu.cell hbl]; exact HC.out k f hf)
              clear HS HT hf hst d2 hs hmem
              go_wp2
              go_quiet (fail)
              go_wp2_with (go_at_call 101; refine (HIn.out _).mono ?_; rintro e w1 ⟨rfl, rfl⟩; refine Hid.out ?_)
              refine (show ∀ {p : Prop}, p → Hid p from fun h => h) ?_
              have S1 := HSd.out nq
              clear HIn HSd e0
              generalize wr.drewN nq = wd at *
              have e0 := HE.out wd S1.bel
              have z1 := S1.size
              go_wp2_with (at_builtin; refine wpList_append_lies _ rfl _ _ 44 rfl w.heap.size 3 i0 _ 1 8 Tryz.underlying44 hi hz0 hz1 hz2 rfl (by decide) _ _ _ rfl (S1.swap.one.alloc _) ⟨wd.heap.size, 0, none⟩ 1 1 [.int .i64 f] rfl rfl (newsI wd f) (by intro u hu; simp at hu; subst hu; rfl) (by omega) (by unfold maxLen; omega) (by omega) (by simp; omega) (wd.heap.size + 1) (by simp) ?_)
              intro g3 c3 w3 hown3 hg3 hG3 _
              have S3 := (S1.swap.app hown3 hg3 hG3).swap
              clear hown3 hg3 hG3 S1 e0 z1
              refine Hid.out ?_
              refine (show ∀ {p : Prop}, p → Hid p from fun h => h) ?_
              have e0 := HE.out w3 S3.bel
              have z1 := S3.size
              go_wp2_with (at_builtin; refine wpList_append_lies _ rfl _ _ 44 rfl w.heap.size 3 i0 _ 1 8 Tryz.underlying44 hi hz0 hz1 hz2 rfl (by decide) _ _ _ rfl (S3.one.alloc _) ⟨w3.heap.size, 0, none⟩ 1 1 [.int .i64 f] rfl rfl (newsI w3 f) (by intro u hu; simp at hu; subst hu; rfl) (by omega) (by unfold maxLen; omega) (by omega) (by simp; omega) (w3.heap.size + 1) (by simp) ?_)
              intro g4 c4 w4 hown4 hg4 hG4 _
              have S4 := S3.app hown4 hg4 hG4
              clear hown4 hg4 hG4 S3 e0 z1
              go_wp2
              exact ⟨⟨k + 1, n1 + 1, g4, c4, n2 + 1, g3, c3, f :: c0 :: p :: q, f :: sn, by omega, by omega, by go_num, rfl, rfl, by omega, by omega, by omega, HS2, S4.snoc HLW.out HLS.out⟩, by simp [intOf]; omega⟩
      · obtain rfl : k = n := by omega
        have HO : Hid (openB t = ((n1 : Int) == 1)) := by
          show _ = _
          have h1 := HT.out
          rw [List.take_of_length_le (by omega)] at h1
          have h2 := hst.len.1
          simp only [List.length_reverse] at h2
          unfold openB
          rw [h1]
          show (wy.length == 1) = _
          rw [h2, Bool.eq_iff_iff]
          simp
          omega
        have HB := hideIt hst.bel
        clear HT hst
        go_wp2
        go_ret
        exact ⟨by rw [HO.out]; rfl, HB.out⟩
end Go.Proofs.YtgjnlhdgekfieaaGreat
namespace Go.Proofs.YtgjnlhdgekfieaaGreat
open Go.RowKit

theorem tB_bad {t : List Int} {k : Nat} {f : Int} (hf : t[k]? = some f) (hv : vB f = false) : tB t = false := by
  cases h : tB t with
  | false => rfl
  | true =>
    have := ((tB_iff t).1 h).1 f (List.mem_of_getElem? hf)
    rw [hv] at this
    exact this.symm
theorem all_of_at {t : List Int} (h : ∀ (k : Nat) (f : Int), t[k]? = some f → vB f = true) : t.all vB = true := by
  rw [List.all_eq_true]
  intro x hx
  obtain ⟨k, hk⟩ := List.mem_iff_getElem?.1 hx
  exact h k x hk

set_option maxRecDepth 100000 in
set_option maxHeartbeats 4000000 in
theorem sTourOk_any (t : List Int) (n : Nat) (a : Option Addr) (c : Nat) (hn : n ≤ 3000000) (w : World) (h : Is w w.heap.size a n t) :
    Calls Tryz.prog 100 #[.slice a n c] w fun e w' => e = .returned (.bool (tB t)) ∧ Below w.heap.size w w' := by
  have HI := hideIt l01In_any
  by_cases hr : 1 ≤ n ∧ n ≤ 23
  · have r1 : decide (1 ≤ (n : Int) ∧ (n : Int) ≤ 23) = true := decide_eq_true (by omega)
    have HOp := hideIt (l06Open_any t n a c (by omega) (by omega) w h)
    obtain ⟨hlen, hrow⟩ := h
    have HR := hideIt hrow
    clear hrow
    go_enter Tryz.func100, Tryz.ntmps100
    go_wp2_with (go_at_call 88; refine (HI.out _ _ _ _).mono ?_; rintro e w1 ⟨rfl, hw⟩; have hw' := hw.symm; subst hw'; clear hw)
    go_loopw [3] (fun i wr => ∃ (k : Nat), k ≤ n ∧ i = .int .i64 (k : Int) ∧ Hid (∀ (j : Nat) (f : Int), j < k → t[j]? = some f → vB f = true) ∧ wr = w) (fun i _ => n - (intOf i).toNat)
    case atStart => exact ⟨0, by omega, rfl, fun j _ hj => by omega, rfl⟩
    case round =>
      obtain ⟨k, hk, rfl, HF, hw⟩ := hrel
      have hw' := hw.symm
      subst hw'
      clear hw
      by_cases hlt : k < n
      · rcases HR.out with hz | ⟨b, off, rfl, hbl, hc⟩
        · omega
        · obtain ⟨f, hf⟩ : ∃ f, t[k]? = some f := ⟨t[k]'(by omega), List.getElem?_eq_getElem (by omega)⟩
          have e0 := hc k f hf
          have b1 : (0 : Int) ≤ (k : Int) := by omega
          have b2 : (k : Int) < (n : Int) := by omega
          cases hv : vB f with
          | true =>
            have HF2 : Hid (∀ (j : Nat) (x : Int), j < k + 1 → t[j]? = some x → vB x = true) := fun j x hj hx => by
              by_cases h7 : j = k
              · rw [h7, hf] at hx; simp at hx; rw [← hx]; exact hv
              · exact HF.out j x (by omega) hx
            have r2 : decide (0 ≤ f ∧ f ≤ 11) = true := decide_eq_true (by simp [vB] at hv; omega)
            clear hc hf hv HF HOp
            go_wp2_with (go_at_call 88; refine (HI.out _ _ _ _).mono ?_; rintro e w1 ⟨rfl, hw⟩; have hw' := hw.symm; subst hw'; clear hw)
            exact ⟨⟨k + 1, by omega, by go_num, HF2, by first | trivial | rfl⟩, by simp [intOf]; omega⟩
          | false =>
            have HB := hideIt (tB_bad hf hv)
            have r2 : decide (0 ≤ f ∧ f ≤ 11) = false := decide_eq_false (by simp [vB] at hv; omega)
            clear hc hf hv HF HOp
            go_wp2_with (go_at_call 88; refine (HI.out _ _ _ _).mono ?_; rintro e w1 ⟨rfl, hw⟩; have hw' := hw.symm; subst hw'; clear hw)
            go_ret
            exact ⟨by rw [HB.out]; rfl, Below.refl _ _⟩
      · obtain rfl : k = n := by omega
        have HB : Hid (tB t = openB t) := by
          show _ = _
          rw [tB_eq, all_of_at (fun j f hf => HF.out j f (by have := (List.getElem?_eq_some_iff.1 hf).1; omega) hf), Bool.true_and]
        clear HF HR
        go_wp2_with (go_at_call 160; refine HOp.out.mono ?_; rintro e w1 ⟨rfl, hb1⟩)
        go_ret
        exact ⟨by rw [HB.out]; rfl, hb1⟩
  · have r1 : decide (1 ≤ (n : Int) ∧ (n : Int) ≤ 23) = false := decide_eq_false (by omega)
    have HB : Hid (tB t = false) := by
      show _ = _
      cases hT : tB t with
      | false => rfl
      | true => have := tB_len hT; have := h.1; omega
    clear h
    go_enter Tryz.func100, Tryz.ntmps100
    go_wp2_with (go_at_call 88; refine (HI.out _ _ _ _).mono ?_; rintro e w1 ⟨rfl, hw⟩; have hw' := hw.symm; subst hw'; clear hw)
    go_ret
    exact ⟨by rw [HB.out]; rfl, Below.refl _ _⟩
end Go.Proofs.YtgjnlhdgekfieaaGreat
namespace Go.Proofs.YtgjnlhdgekfieaaGreat
open Go.RowKit

theorem openBad {t : List Int} (h : openB t = false) : tB t = false := by rw [tB_eq, h, Bool.and_false]

/-- the path in the making and the table of what was seen -/
structure PSt (wb : World) (g n c : Nat) (ls : List Int) (gs : Nat) (ss : List Int) (u : World) : Prop where
  own : u.ownsRow wb.heap.size 3 1 (.slice (some ⟨g, 0, none⟩) n c) n (ic ls)
  arr : ∀ j : Nat, j < 12 → u.cell? ⟨gs, j, none⟩ = some (.bool (decide ((j : Int) ∈ ss)))
  frz : ∀ j : Nat, u.frozen? ⟨gs, j, none⟩ = false
  ne : g ≠ gs
  lo : wb.heap.size ≤ gs
  hi : gs < u.heap.size
  bel : Below wb.heap.size wb u

theorem PSt.size {wb : World} {g n c gs : Nat} {ls ss : List Int} {u : World} (h : PSt wb g n c ls gs ss u) : wb.heap.size ≤ u.heap.size := h.bel.size
theorem PSt.len {wb : World} {g n c gs : Nat} {ls ss : List Int} {u : World} (h : PSt wb g n c ls gs ss u) : ls.length = n := by have := h.own.1; rw [ic_len] at this; omega
theorem PSt.cut {wb : World} {g n c gs m : Nat} {ls ss : List Int} {u : World} (h : PSt wb g n c ls gs ss u) (hm : m ≤ n) : PSt wb g m c (ls.take m) gs ss u :=
  ⟨by have := own_cut h.own hm; rw [ic, ← List.map_take] at this; exact this, h.arr, h.frz, h.ne, h.lo, h.hi, h.bel⟩
theorem PSt.cell {wb : World} {g n c gs : Nat} {ls ss : List Int} {u : World} (h : PSt wb g n c ls gs ss u) {j : Nat} {x : Int} (hx : ls[j]? = some x) : u.cell? ⟨g, j, none⟩ = some (.int .i64 x) := by
  have hj := (List.getElem?_eq_some_iff.1 hx).1
  have := h.len
  rw [h.own.cellAt j (by omega)]
  exact ic_at hx
theorem PSt.cap {wb : World} {g n c gs : Nat} {ls ss : List Int} {u : World} (h : PSt wb g n c ls gs ss u) : n ≤ c := by
  rcases h.own.2 with ⟨hv, _⟩ | ⟨g2, cap, cur, hv, hb, hg, hnc, _⟩
  · simp at hv
  · simp only [Value.slice.injEq, Option.some.injEq, Addr.mk.injEq, and_true, true_and] at hv
    obtain ⟨rfl, rfl⟩ := hv
    exact hnc
theorem PSt.app {wb : World} {g n c gs : Nat} {ls ss : List Int} {u : World} (h : PSt wb g n c ls gs ss u) {x : Int} {o : Obj} {G cap : Nat} {u' : World}
    (ho : u'.ownsRow wb.heap.size 3 1 (.slice (some ⟨G, 0, none⟩) (n + 1) cap) (n + 1) (ic ls ++ [.int .i64 x])) (hg : (u.alloc o).grownBy u' (some g)) (hG : (some g : Option Nat) = some G ∨ G = u.heap.size + 1) :
    PSt wb G (n + 1) cap (ls ++ [x]) gs ss u' := by
  have hhi := h.hi
  have hb : u'.heap[gs]? = u.heap[gs]? := by
    rw [hg.block gs (by simp; omega) (by simp; exact fun e => h.ne e.symm)]
    exact Below.heap_alloc u o gs hhi
  refine ⟨by rw [ic_snoc]; exact ho, fun j hj => ?_, fun j => ?_, ?_, h.lo, by have := hg.size; simp at this; omega, ?_⟩
  · rw [World.cell?_of_block (w := u) (a := ⟨gs, j, none⟩) hb]; exact h.arr j hj
  · rw [World.frozen?_of_block (w := u) (a := ⟨gs, j, none⟩) hb]; exact h.frz j
  · rcases hG with hG | hG
    · simp at hG; rw [← hG]; exact h.ne
    · omega
  · exact (h.bel.alloc h.size _).grown hg (by have := h.size; simp; omega) (fun j hj => by simp at hj; subst hj; exact (h.own.lt g rfl).1)
theorem PSt.put {wb : World} {g n c gs : Nat} {ls ss : List Int} {u : World} (h : PSt wb g n c ls gs ss u) (x : Nat) (hx : x < 12) : PSt wb g n c ls gs ((x : Int) :: ss) (u.setCell ⟨gs, x, none⟩ (.bool true)) := by
  refine ⟨own_setOther h.own gs x _ h.ne, fun j hj => ?_, fun j => ?_, h.ne, h.lo, by simp [World.setCell]; exact h.hi, h.bel.setCell (p := ⟨gs, x, none⟩) h.lo _⟩
  · by_cases hjx : j = x
    · subst hjx
      rw [World.cell?_setCell_same u ⟨gs, j, none⟩ _ (h.arr j hj)]
      simp
    · rw [World.cell?_setCell_other]
      · rw [h.arr j hj]
        have : ¬ ((j : Int) = (x : Int)) := by omega
        simp [this]
      · exact fun e => hjx (by simpa using e.symm)
  · rw [World.frozen?_setCell]; exact h.frz j
theorem PSt.start (wb : World) (o : Array Value) (ho : o = #[.bool false, .bool false, .bool false, .bool false, .bool false, .bool false, .bool false, .bool false, .bool false, .bool false, .bool false, .bool false]) :
    PSt wb wb.heap.size 0 0 [] (wb.heap.size + 1) [] ((wb.alloc (.cells #[] 3)).alloc (.cells o 269)) := by
  have hs : (wb.alloc (.cells #[] 3)).heap.size = wb.heap.size + 1 := by simp
  have hb : ((wb.alloc (.cells #[] 3)).alloc (.cells o 269)).heap[wb.heap.size + 1]? = some (.cells o 269 (0, 0)) := by
    have := heap_alloc_new (wb.alloc (.cells #[] 3)) (.cells o 269)
    rw [hs] at this
    exact this
  have h0 := World.ownsRow_lit (base := wb.heap.size) (e := 3) (size := 1) wb #[] 0 (Nat.le_refl _) (by unfold maxLen; omega) (by simp)
  refine ⟨by simpa [ic] using h0.alloc _, fun j hj => ?_, fun j => frozen_of_row _ _ j _ _ hb, by omega, by omega, by simp, ((Below.refl _ _).alloc (Nat.le_refl _) _).alloc (by simp) _⟩
  rw [cell_of_row _ _ j _ _ _ hb, ho]
  rcases (show j = 0 ∨ j = 1 ∨ j = 2 ∨ j = 3 ∨ j = 4 ∨ j = 5 ∨ j = 6 ∨ j = 7 ∨ j = 8 ∨ j = 9 ∨ j = 10 ∨ j = 11 by omega) with h | h | h | h | h | h | h | h | h | h | h | h <;> subst h <;> rfl

theorem beyond_no (f : Int) (h : vB f = true) (w : World) : Calls Tryz.prog 165 #[.int .i64 f] w fun e w' => e = .returned (.bool false) ∧ w' = w := by
  simp [vB] at h
  have d1 : decide (f < 0) = false := decide_eq_false (by omega)
  have d2 : decide (12 ≤ f) = false := decide_eq_false (by omega)
  go_enter Tryz.func165, Tryz.ntmps165
  go_wp2
  go_ret
  exact ⟨rfl, rfl⟩
theorem beyond_yes (f : Int) (h : vB f = false) (w : World) : Calls Tryz.prog 165 #[.int .i64 f] w fun e w' => e = .returned (.bool true) ∧ w' = w := by
  simp [vB] at h
  by_cases h0 : f < 0
  · have d1 : decide (f < 0) = true := decide_eq_true h0
    go_enter Tryz.func165, Tryz.ntmps165
    go_wp2
    go_ret
    exact ⟨rfl, rfl⟩
  · have d1 : decide (f < 0) = false := decide_eq_false h0
    have d2 : decide (12 ≤ f) = true := decide_eq_true (by omega)
    go_enter Tryz.func165, Tryz.ntmps165
    go_wp2
    go_ret
    exact ⟨rfl, rfl⟩

set_option maxRecDepth 100000 in
set_option maxHeartbeats 4000000 in
theorem iTourOk_any (t : List Int) (n : Nat) (a : Option Addr) (c : Nat) (hn : n ≤ 3000000) (w : World) (h : Is w w.heap.size a n t) :
    Calls Tryz.prog 220 #[.slice a n c] w fun e w' => e = .returned (.bool (tB t)) ∧ Below w.heap.size w w' := by
  obtain ⟨i0, hi, hz0, hz1, hz2⟩ := info_parts info3i
  obtain ⟨hlen, hrow⟩ := h
  have HR := hideIt hrow
  clear hrow
  have hst0 := PSt.start w _ rfl
  go_enter Tryz.func220, Tryz.ntmps220
  go_wp2
  go_loopw [3, 12] (fun r i wr => ∃ (k n1 g1 c1 : Nat) (wy sn : List Int), k ≤ n ∧ i = .int .i64 (k : Int) ∧ r = .slice (some ⟨g1, 0, none⟩) n1 c1 ∧ n1 ≤ k ∧ Hid (trun [] [] (t.take k) = some (wy, sn)) ∧ Hid (∀ (j : Nat) (f : Int), j < k → t[j]? = some f → vB f = true) ∧ PSt w g1 n1 c1 wy.reverse (w.heap.size + 1) sn wr) (fun _ i _ => n - (intOf i).toNat)
  case atStart => exact ⟨0, 0, _, 0, [], [], by omega, rfl, rfl, by omega, by show _ = _; rfl, fun j _ hj => by omega, hst0⟩
  case round =>
    obtain ⟨k, n1, g1, c1, wy, sn, hk, rfl, rfl, hn1, HT, HV, hst⟩ := hrel
    clear hst0
    by_cases hlt : k < n
    · rcases HR.out with hz | ⟨b, off, rfl, hbl, hc⟩
      · omega
      · obtain ⟨f, hf⟩ : ∃ f, t[k]? = some f := ⟨t[k]'(by omega), List.getElem?_eq_getElem (by omega)⟩
        have e0 : wr.cell? ⟨b, off + k, none⟩ = some (.int .i64 f) := by rw [hst.bel.cell hbl]; exact hc k f hf
        have b1 : (0 : Int) ≤ (k : Int) := by omega
        have b2 : (k : Int) < (n : Int) := by omega
        cases hv : vB f with
        | false =>
          have HB := hideIt (tB_bad hf hv)
          have HW := hideIt hst.bel
          have HY := hideIt (beyond_yes f hv wr)
          clear hc hf HT HV hst hv
          go_wp2_with (go_at_call 165; refine HY.out.mono ?_; rintro e w1 ⟨rfl, hw⟩; have hw' := hw.symm; subst hw'; clear hw)
          go_ret
          exact ⟨by rw [HB.out]; rfl, HW.out⟩
        | true =>
          have hv' := hv
          simp [vB] at hv'
          obtain ⟨vn, rfl⟩ : ∃ vn : Nat, f = (vn : Int) := ⟨f.toNat, by omega⟩
          have hvn : vn < 12 := by omega
          have HV2 : Hid (∀ (j : Nat) (x : Int), j < k + 1 → t[j]? = some x → vB x = true) := fun j x hj hx => by
            by_cases h7 : j = k
            · rw [h7, hf] at hx; simp at hx; rw [← hx]; exact hv
            · exact HV.out j x (by omega) hx
          have HS := hideIt (show trun [] [] (t.take (k + 1)) = tstep wy sn (vn : Int) by rw [take_snocF t k _ hf, trun_snoc, HT.out]; rfl)
          have d1 : decide ((vn : Int) < 0) = false := decide_eq_false (by omega)
          have d2 : decide (12 ≤ (vn : Int)) = false := decide_eq_false (by omega)
          have v1 : (0 : Int) ≤ (vn : Int) := by omega
          have v2 : (vn : Int) < 12 := by omega
          have HY := hideIt (beyond_no (vn : Int) hv wr)
          clear hv hv' HV hc
          go_wp2_with (go_at_call 165; refine HY.out.mono ?_; rintro e w1 ⟨rfl, hw⟩; have hw' := hw.symm; subst hw'; clear hw; refine Hid.out ?_)
          refine (show ∀ {p : Prop}, p → Hid p from fun h => h) ?_
          clear HY
          by_cases hw1 : wy.length ≤ 1
          · have hl1 := hst.len
            rw [List.length_reverse] at hl1
            have d0 : decide (0 < (n1 : Int) - 1) = false := decide_eq_false (by omega)
            obtain ⟨lw, hlw⟩ : ∃ l, l = wy.reverse := ⟨_, rfl⟩
            rw [← hlw] at hst
            have HLW := hideIt hlw
            clear hlw
            have ha := hst.arr vn (by omega)
            by_cases hs : (vn : Int) ∈ sn
            · have HS2 := hideIt (openBad (trun_none (HS.out.trans (tstep_bad1 hw1 hs))))
              rw [decide_eq_true hs] at ha
              have HB := hideIt hst.bel
              clear HS HT hf hst hs
              go_wp2
              go_ret
              exact ⟨by rw [HS2.out]; rfl, HB.out⟩
            · have HS2 := hideIt (HS.out.trans (tstep_down1 hw1 hs))
              rw [decide_eq_false hs] at ha
              have z1 := hst.size
              have HST := hideIt hst
              have HA := hideIt (fun g3 c3 u' (ho : u'.ownsRow w.heap.size 3 1 (.slice (some ⟨g3, 0, none⟩) (n1 + 1) c3) (n1 + 1) (ic lw ++ [.int .i64 (vn : Int)])) (hg : (wr.alloc (.cells #[.int .i64 (vn : Int)] 3)).grownBy u' (some g1)) hG => hst.app ho hg hG)
              clear HS HT hf hst hs
              go_wp2_with (at_builtin; refine wpList_append_lies _ rfl _ _ 44 rfl w.heap.size 3 i0 _ 1 8 Tryz.underlying44 hi hz0 hz1 hz2 rfl (by decide) _ _ _ rfl (HST.out.own.alloc _) ⟨wr.heap.size, 0, none⟩ 1 1 [.int .i64 (vn : Int)] rfl rfl (newsI wr (vn : Int)) (by intro u hu; simp at hu; subst hu; rfl) (by omega) (by unfold maxLen; omega) (by omega) (by simp; omega) (wr.heap.size + 1) (by simp) ?_)
              intro g3 c3 w3 hown3 hg3 hG3 _
              have S3 := HA.out g3 c3 w3 hown3 hg3 hG3
              clear hown3 hg3 hG3 HST HA z1 ha
              have q0 := S3.arr vn (by omega)
              have q1 := S3.frz vn
              have HS4 := hideIt (S3.put vn (by omega))
              clear S3
              go_wp2
              exact ⟨⟨k + 1, n1 + 1, g3, c3, (vn : Int) :: wy, (vn : Int) :: sn, by omega, by go_num, rfl, by omega, HS2, HV2, by rw [List.reverse_cons, ← HLW.out]; exact HS4.out⟩, by simp [intOf]; omega⟩
          · match wy, hst, HS, hw1 with
            | [], _, _, hw1 => exact absurd (by simp) hw1
            | [_], _, _, hw1 => exact absurd (by simp) hw1
            | c0 :: p :: q, hst, HS, _ =>
              have hl1 := hst.len
              simp only [List.length_reverse, List.length_cons] at hl1
              have m1 : wr.cell? ⟨g1, n1 - 2, none⟩ = some (.int .i64 p) := hst.cell (by rw [show n1 - 2 = q.length by omega]; exact rev_at2 q c0 p)
              have e1 : (((n1 : Int) - 1 - 1).toNat) = n1 - 2 := by omega
              have d0 : decide (0 < (n1 : Int) - 1) = true := decide_eq_true (by omega)
              have b3 : (0 : Int) ≤ (n1 : Int) - 1 - 1 := by omega
              have b4 : (n1 : Int) - 1 - 1 < (n1 : Int) := by omega
              by_cases hp : (vn : Int) = p
              · have d3 : (p == (vn : Int)) = true := by simpa using hp.symm
                have hcap := hst.cap
                have b5 : (0 : Int) ≤ (n1 : Int) - 1 := by omega
                have b6 : (n1 : Int) - 1 ≤ (c1 : Int) := by omega
                have e2 : (((n1 : Int) - 1).toNat) = n1 - 1 := by omega
                have HS2 := hideIt (HS.out.trans (tstep_up hp))
                have HST := hideIt (hst.cut (m := n1 - 1) (by omega))
                rw [show (c0 :: p :: q).reverse.take (n1 - 1) = (p :: q).reverse by rw [show n1 - 1 = q.length + 1 by omega]; exact rev_take1 q c0 p] at HST
                clear HS HT hf hst hp
                go_wp2
                exact ⟨⟨k + 1, n1 - 1, g1, c1, p :: q, sn, by omega, by go_num, rfl, by omega, HS2, HV2, HST.out⟩, by simp [intOf]; omega⟩
              · have d3 : (p == (vn : Int)) = false := by simpa using Ne.symm hp
                obtain ⟨lw, hlw⟩ : ∃ l, l = (c0 :: p :: q).reverse := ⟨_, rfl⟩
                rw [← hlw] at hst
                have HLW := hideIt hlw
                clear hlw
                have ha := hst.arr vn (by omega)
                by_cases hs : (vn : Int) ∈ sn
                · have HS2 := hideIt (openBad (trun_none (HS.out.trans (tstep_bad2 hp hs))))
                  rw [decide_eq_true hs] at ha
                  have HB := hideIt hst.bel
                  clear HS HT hf hst hs
                  go_wp2
                  go_ret
                  exact ⟨by rw [HS2.out]; rfl, HB.out⟩
                · have HS2 := hideIt (HS.out.trans (tstep_down2 hp hs))
                  rw [decide_eq_false hs] at ha
                  have z1 := hst.size
                  have HST := hideIt hst
                  have HA := hideIt (fun g3 c3 u' (ho : u'.ownsRow w.heap.size 3 1 (.slice (some ⟨g3, 0, none⟩) (n1 + 1) c3) (n1 + 1) (ic lw ++ [.int .i64 (vn : Int)])) (hg : (wr.alloc (.cells #[.int .i64 (vn : Int)] 3)).grownBy u' (some g1)) hG => hst.app ho hg hG)
                  clear HS HT hf hst hs
                  go_wp2_with (at_builtin; refine wpList_append_lies _ rfl _ _ 44 rfl w.heap.size 3 i0 _ 1 8 Tryz.underlying44 hi hz0 hz1 hz2 rfl (by decide) _ _ _ rfl (HST.out.own.alloc _) ⟨wr.heap.size, 0, none⟩ 1 1 [.int .i64 (vn : Int)] rfl rfl (newsI wr (vn : Int)) (by intro u hu; simp at hu; subst hu; rfl) (by omega) (by unfold maxLen; omega) (by omega) (by simp; omega) (wr.heap.size + 1) (by simp) ?_)
                  intro g3 c3 w3 hown3 hg3 hG3 _
                  have S3 := HA.out g3 c3 w3 hown3 hg3 hG3
                  clear hown3 hg3 hG3 HST HA z1 ha
                  have q0 := S3.arr vn (by omega)
                  have q1 := S3.frz vn
                  have HS4 := hideIt (S3.put vn (by omega))
                  clear S3
                  go_wp2
                  exact ⟨⟨k + 1, n1 + 1, g3, c3, (vn : Int) :: (c0 :: p :: q), (vn : Int) :: sn, by omega, by go_num, rfl, by omega, HS2, HV2, by rw [List.reverse_cons, ← HLW.out]; exact HS4.out⟩, by simp [intOf]; omega⟩
    · obtain rfl : k = n := by omega
      have HO : Hid (tB t = ((n1 : Int) == 1)) := by
        show _ = _
        have h1 := HT.out
        rw [List.take_of_length_le (by omega)] at h1
        have h2 := hst.len
        simp only [List.length_reverse] at h2
        rw [tB_eq, all_of_at (fun j f hf => HV.out j f (by have := (List.getElem?_eq_some_iff.1 hf).1; omega) hf), Bool.true_and]
        unfold openB
        rw [h1]
        show (wy.length == 1) = _
        rw [h2, Bool.eq_iff_iff]
        simp
        omega
      have HB := hideIt hst.bel
      clear HT HV hst
      go_wp2
      go_ret
      exact ⟨by rw [HO.out]; rfl, HB.out⟩
end Go.Proofs.YtgjnlhdgekfieaaGreat
namespace Go.Proofs.YtgjnlhdgekfieaaGreat
open Go.RowKit

/-- one of the pieces -/
structure PartI where
  a : Option Addr
  m : Nat
  c : Nat
  ls : List Int
/-- the pieces stand in block b -/
def PartsI (w : World) (b : Nat) (ps : List PartI) : Prop :=
  b < w.heap.size ∧ ∀ (j : Nat) (p : PartI), ps[j]? = some p → w.cell? ⟨b, j, none⟩ = some (.slice p.a p.m p.c) ∧ Is w w.heap.size p.a p.m p.ls
def qLen (ps : List PartI) : Nat := (ps.map fun p => p.m).sum
def qAll (ps : List PartI) : List Int := ps.flatMap fun p => p.ls
theorem qLen_snoc (ps : List PartI) (p : PartI) : qLen (ps ++ [p]) = qLen ps + p.m := by simp [qLen]
theorem qAll_snoc (ps : List PartI) (p : PartI) : qAll (ps ++ [p]) = qAll ps ++ p.ls := by simp [qAll]
theorem qLen_take (ps : List PartI) (k : Nat) : qLen (ps.take k) ≤ qLen ps := by
  have h := congrArg qLen (List.take_append_drop k ps)
  have e : ∀ a b : List PartI, qLen (a ++ b) = qLen a + qLen b := fun a b => by simp [qLen]
  rw [e] at h
  omega
theorem ic_append (a b : List Int) : ic (a ++ b) = ic a ++ ic b := by simp [ic]
theorem ic_one {ls : List Int} : ∀ u ∈ ic ls, u.oneCell' = true := by
  intro u hu
  simp [ic] at hu
  obtain ⟨x, _, rfl⟩ := hu
  rfl
theorem Is.news {w : World} {B b off n : Nat} {ls : List Int} (h : Is w B (some ⟨b, off, none⟩) n ls) : ∀ j u, (ic ls)[j]? = some u → w.cell? ((⟨b, off, none⟩ : Addr).add j) = some u := by
  intro j u hj
  have hl : j < ls.length := by have := (List.getElem?_eq_some_iff.1 hj).1; rw [ic_len] at this; exact this
  have hn := h.1
  rcases h.2 with h0 | ⟨b', off', hb, _, hc⟩
  · omega
  · simp at hb
    obtain ⟨rfl, rfl⟩ := hb
    obtain ⟨f, hf⟩ : ∃ f, ls[j]? = some f := ⟨ls[j], List.getElem?_eq_getElem hl⟩
    rw [show ((⟨b, off, none⟩ : Addr).add j) = ⟨b, off + j, none⟩ by by_cases h0 : j = 0 <;> simp [Addr.add, h0]]
    rw [hc j f hf, ← hj, ic_at hf]
theorem splice_take {X cs : List Value} {q : Nat} (h : q + cs.length ≤ X.length) : (splice X q cs).take (q + cs.length) = X.take q ++ cs := by
  unfold splice
  rw [← List.append_assoc, List.take_append_of_le_length (by simp; omega)]
  exact List.take_of_length_le (by simp; omega)
theorem info3s : (Tryz.prog.info? 3).map (fun i => i.size) = some 1 := by kernel_rfl

/-- one piece is moved -/
theorem copy_piece {w wr : World} {G x dl m pm pc : Nat} {pa : Option Addr} {X cs : List Value} (hg : wr.heap[G]? = some (.cells X.toArray 3 (0, 0))) (hl : cs.length = pm) (hd : pm ≤ dl)
    (hpos : 0 < cs.length → (some ⟨G, x, none⟩ : Option Addr) = some ⟨G, m, none⟩ ∧ ∃ ad, pa = some ad ∧ ∀ j v, cs[j]? = some v → wr.cell? (ad.add j) = some v)
    (hfit : m + cs.length ≤ X.length) (h1 : ∀ v ∈ cs, v.oneCell' = true) (hb : Below G w wr) :
    ∃ w2, (Builtin.copy_ #[44, 44] 3 #[.slice (some ⟨G, x, none⟩) dl dl, .slice pa pm pc]).run Tryz.prog wr = .ok (.int .i64 (pm : Int)) w2 ∧ w2.heap[G]? = some (.cells (splice X m cs).toArray 3 (0, 0)) ∧ Below G w w2 := by
  have hmin : Nat.min pm dl = pm := Nat.min_eq_left hd
  by_cases h0 : cs.length = 0
  · obtain rfl : cs = [] := List.eq_nil_of_length_eq_zero h0
    have hp0 : pm = 0 := by simpa using hl.symm
    subst hp0
    have hrun := run_copy_none (P := Tryz.prog) wr 44 44 3 3 (some ⟨G, x, none⟩) pa dl dl 0 pc Tryz.underlying44 info3s (by simp)
    exact ⟨wr, hrun, by simpa [splice] using hg, hb⟩
  · obtain ⟨e, ad, rfl, hsrc⟩ := hpos (by omega)
    simp at e
    subst e
    have hrun := run_copy_row (P := Tryz.prog) wr 44 44 3 3 G x dl dl ad pm pc X.toArray 3 cs Tryz.underlying44 info3s hg (by rw [hmin]; exact hl) hsrc (by simpa using hfit) h1
    rw [hl] at hrun
    exact ⟨_, hrun, by simpa [splice, hl] using setRow_heap wr G _ _ 3 _ hg, below_setRow hb (Nat.le_refl _) _⟩

set_option maxRecDepth 100000 in
set_option maxHeartbeats 2000000 in
theorem laid_any (ps : List PartI) (b k0 : Nat) (hk0 : ps.length = k0) (hsm : k0 ≤ 10) (w : World) (h : PartsI w b ps) (hlen : qLen ps ≤ 3000000) :
    Calls Tryz.prog 202 #[.slice (some ⟨b, 0, none⟩) k0 k0] w fun e w' => ∃ g m, e = .returned (.slice (some ⟨g, 0, none⟩) m m) ∧ w'.ownsRow w.heap.size 3 1 (.slice (some ⟨g, 0, none⟩) m m) m (ic (qAll ps)) ∧ Below w.heap.size w w' := by
  obtain ⟨i0, hi, hz0, hz1, hz2⟩ := info_parts info3i
  have HP := hideIt h
  have HL := hideIt hlen
  have HK := hideIt hk0
  have hbw := h.1
  clear h hlen hk0
  have HM : Hid (∀ (n : Nat), n ≤ 3000000 → ∀ u : World, (Instr.makeSlice 44 (.int .i64 (n : Int)) (.int .i64 (n : Int))).run Tryz.prog u =
      .ok (.slice (some ⟨u.heap.size, 0, none⟩) n n) (u.alloc (.cells (madeCells #[.int .i64 0] n) 3))) := fun n hn u => by
    have h := run_make (P := Tryz.prog) u 44 3 i0 _ Tryz.underlying44 hi hz0 .i64 .i64 (n : Int) (n : Int) (by omega) (by omega) (by rw [hz2]; omega) (by omega)
    rw [Int.toNat_natCast] at h
    simpa [hz1, Value.cells] using h
  go_enter Tryz.func202, Tryz.ntmps202
  go_wp2
  go_loopw [3, 12] (fun s i wr => ∃ (k q : Nat), k ≤ k0 ∧ i = .int .i64 (k : Int) ∧ s = .int .i64 (q : Int) ∧ Hid (q = qLen (ps.take k)) ∧ q ≤ 3000000 ∧ wr = w) (fun _ i _ => k0 - (intOf i).toNat)
  case atStart => exact ⟨0, 0, by omega, rfl, rfl, by show _ = _; simp [qLen], by omega, rfl⟩
  case round =>
    obtain ⟨k, q, hk, rfl, rfl, hq, hq1, hw⟩ := hrel
    have hw' := hw.symm
    subst hw'
    clear hw
    by_cases hlt : k < k0
    · obtain ⟨p, hp⟩ : ∃ p, ps[k]? = some p := ⟨ps[k]'(by have := HK.out; omega), List.getElem?_eq_getElem _⟩
      obtain ⟨c0, _⟩ := HP.out.2 k p hp
      have HQ : Hid (q + p.m = qLen (ps.take (k + 1))) := by show _ = _; rw [take_snocF ps k p hp, qLen_snoc, hq.out]
      have hqm : q + p.m ≤ 3000000 := by have := HQ.out; have := qLen_take ps (k + 1); have := HL.out; omega
      have b1 : (0 : Int) ≤ (k : Int) := by omega
      have b2 : (k : Int) < (k0 : Int) := by omega
      clear hq hp
      go_wp2
      exact ⟨⟨k + 1, q + p.m, by omega, by go_num, by go_num, HQ, hqm, by first | trivial | rfl⟩, by simp [intOf]; omega⟩
    · obtain rfl : k = k0 := by omega
      have HQ : Hid (q = qLen ps) := by show _ = _; rw [hq.out, List.take_of_length_le (by have := HK.out; omega)]
      clear hq
      have hmk := HM.out q hq1
      go_wp2
      clear hmk
      go_loopw [7, 26] (fun r i wr => ∃ (j m dl : Nat) (x : Nat) (X : List Value), j ≤ k ∧ i = .int .i64 (j : Int) ∧ r = .slice (some ⟨w.heap.size, x, none⟩) dl dl ∧ m + dl = q ∧ Hid (m = qLen (ps.take j)) ∧ (0 < dl → x = m) ∧ Hid (X.length = q) ∧ Hid (X.take m = ic (qAll (ps.take j))) ∧ Hid (wr.heap[w.heap.size]? = some (.cells X.toArray 3 (0, 0))) ∧ Below w.heap.size w wr) (fun _ i _ => k - (intOf i).toNat)
      case atStart =>
        refine ⟨0, 0, q, 0, (madeCells #[.int .i64 0] q).toList, by omega, rfl, rfl, by omega, by show _ = _; simp [qLen], fun _ => rfl, by show _ = _; simp [madeCells], by show _ = _; simp [qAll, ic], ?_, (Below.refl _ _).alloc (Nat.le_refl _) _⟩
        show _ = _
        rw [Array.toArray_toList]
        exact heap_alloc_new w _
      case round =>
        obtain ⟨j, m, dl, x, X, hj, rfl, rfl, hmd, hm, hx, hXl, hX, hg, hb⟩ := hrel
        by_cases hlt2 : j < k
        · obtain ⟨p, hp⟩ : ∃ p, ps[j]? = some p := ⟨ps[j]'(by have := HK.out; omega), List.getElem?_eq_getElem _⟩
          obtain ⟨c0, his⟩ := HP.out.2 j p hp
          have c1 : wr.cell? ⟨b, j, none⟩ = some (.slice p.a p.m p.c) := by rw [hb.cell hbw]; exact c0
          have HMm : Hid (m + p.m = qLen (ps.take (j + 1))) := by show _ = _; rw [take_snocF ps j p hp, qLen_snoc, hm.out]
          have hmp : m + p.m ≤ q := by have := HMm.out; have := qLen_take ps (j + 1); have := HQ.out; omega
          have HA : Hid (ic (qAll (ps.take (j + 1))) = ic (qAll (ps.take j)) ++ ic p.ls) := by show _ = _; rw [take_snocF ps j p hp, qAll_snoc, ic_append]
          have b1 : (0 : Int) ≤ (j : Int) := by omega
          have b2 : (j : Int) < (k : Int) := by omega
          have hisw := (his.below hb (Nat.le_refl _)).mono hb.size
          have hl2 : (ic p.ls).length = p.m := by rw [ic_len, his.1]
          obtain ⟨cs, hcs⟩ : ∃ cs, cs = ic p.ls := ⟨_, rfl⟩
          rw [← hcs] at hl2 HA
          have HN : Hid (0 < cs.length → (some ⟨w.heap.size, x, none⟩ : Option Addr) = some ⟨w.heap.size, m, none⟩ ∧ ∃ ad, p.a = some ad ∧ ∀ j v, cs[j]? = some v → wr.cell? (ad.add j) = some v) := fun h0 => by
            refine ⟨by rw [hx (by omega)], ?_⟩
            rcases hisw.2 with hz | ⟨b2, off2, hpa, _, _⟩
            · omega
            · exact ⟨_, hpa, by rw [hcs]; rw [hpa] at hisw; exact hisw.news⟩
          have H1 : Hid (∀ v ∈ cs, v.oneCell' = true) := by rw [hcs]; exact ic_one
          have HX2 : Hid ((splice X m cs).take (m + p.m) = ic (qAll (ps.take (j + 1)))) := by
            show _ = _
            rw [← hl2, splice_take (by have := hXl.out; omega), hX.out, HA.out]
          have HXl2 : Hid ((splice X m cs).length = q) := by show _ = _; rw [length_splice _ _ _ (by have := hXl.out; omega)]; exact hXl.out
          have HXq := hXl
          obtain ⟨pa, pm, pc, pls⟩ := p
          dsimp only at *
          clear hm hp c0 his hisw HA hX hXl hcs
          obtain ⟨w2, hcp, hg2, hB2⟩ := copy_piece (pc := pc) hg.out hl2 (show pm ≤ dl by omega) HN.out (by have := HXq.out; omega) H1.out hb
          have HG2 := hideIt hg2
          clear hg2 hg HN H1 HXq
          by_cases hfull : pm = dl
          · subst hfull
            have b3 : (0 : Int) ≤ (pm : Int) := by omega
            go_wp2
            exact ⟨⟨j + 1, m + pm, 0, x, splice X m cs, by omega, by go_num, rfl, by omega, HMm, fun h => by omega, HXl2, HX2, HG2, hB2⟩, by simp [intOf]; omega⟩
          · have b3 : (0 : Int) ≤ (pm : Int) := by omega
            have b4 : (pm : Int) ≤ (dl : Int) := by omega
            have hx2 : 0 < dl - pm → x + pm = m + pm := fun h => by rw [hx (by omega)]
            go_wp2
            exact ⟨⟨j + 1, m + pm, dl - pm, x + pm, splice X m cs, by omega, by go_num, rfl, by omega, HMm, hx2, HXl2, HX2, HG2, hB2⟩, by simp [intOf]; omega⟩
        · obtain rfl : j = k := by omega
          have HE : Hid (m = q) := by show _ = _; have h1 := hm.out; have h2 := HQ.out; rw [List.take_of_length_le (by have := HK.out; omega)] at h1; omega
          have HO : Hid (wr.ownsRow w.heap.size 3 1 (.slice (some ⟨w.heap.size, 0, none⟩) q q) q (ic (qAll ps))) := by
            show World.ownsRow _ _ _ _ _ _ _
            have h1 := hX.out
            have h3 := hXl.out
            rw [List.take_of_length_le (by have := HE.out; omega), List.take_of_length_le (by have := HK.out; omega)] at h1
            rw [← h1]
            exact ⟨by omega, .inr ⟨w.heap.size, q, X.toArray, rfl, Nat.le_refl _, hg.out, Nat.le_refl _, by unfold maxLen; omega, by simpa using h3, by rw [List.take_of_length_le (by simp; omega)]⟩⟩
          clear hm hX hXl hg
          go_wp2
          go_ret
          exact ⟨_, _, rfl, HO.out, hb⟩
end Go.Proofs.YtgjnlhdgekfieaaGreat
