/- Lists of ints in memory; what the texts of chapter 6 share. Lists of edges in memory; what the drawn laws of chapter 6 have of chapter 5. Edges with their levels: pure. Lists of edges with their levels in memory. The laws' own functions over webs. A struct of two fields in a block of its own. -/
import Derived.Test.YtgjnlhdgekfieaaGreatProg
import GoSem.Claim
import GoSem.ClaimJoined
import GoSem.ClaimMapViews
import Derived.JoinedTies
import Derived.KernelRfl
import Derived.RowKit
import Derived.WalkKit
import Derived.WalkSpells
import Derived.WalkSmall
import Derived.OwnWalk
import Derived.BigQuiet
import Derived.Deep.QuietTactic
import Derived.Deep.MidRow
import Derived.Deep.RegionHeld3
import Derived.Deep.AppendLies
import Derived.Deep.DeepCutAuto
namespace Go.Proofs.YtgjnlhdgekfieaaGreat
open Go.RowKit

theorem hideIt {p : Prop} (h : p) : Hid p := h

/-- an operation that its guard passes over is taken first -/
theorem skipOp {P : Program} {ops : Array Oper} {Q : Exit → Go.Act → World → Prop} {md : Region.Mode} {i : Nat} {oi : Oper} {fuel : Nat} {listed : Array Bool} {a : Go.Act} {w : World} (hi : ops[i]? = some oi)
    (hs : Region.noSelect ops = true) (hf : Region.free md ops listed i = true) (hr : (Region.ready md ops listed).contains i = true) (hQ : ∀ c a w, Q (.panic c) (a.put oi.dst undef) w → Q (.panic c) a w)
    (hw : Region.wanted oi (yielded ops a.tmps) = false) (h : wpAny P md ops Q fuel (listed.setIfInBounds i true) (a.put oi.dst undef) w) : wpAny P md ops Q (fuel + 1) listed a w :=
  wpAny_take hi hs hf hr hQ (.inr ⟨hw, rfl⟩) h

/-- an operation that looks at no memory is taken first -/
theorem takeOp {P : Program} {ops : Array Oper} {Q : Exit → Go.Act → World → Prop} {md : Region.Mode} {i : Nat} {oi : Oper} {v : Value} {fuel : Nat} {listed : Array Bool} {a : Go.Act} {w : World} (hi : ops[i]? = some oi)
    (hs : Region.noSelect ops = true) (hf : Region.free md ops listed i = true) (hr : (Region.ready md ops listed).contains i = true) (hQ : ∀ c a w, Q (.panic c) (a.put oi.dst v) w → Q (.panic c) a w)
    (hw : Region.wanted oi (yielded ops a.tmps) = true) (hv : ∀ w, (execOp a.eval oi).run P w = .ok (.value v) w) (h : wpAny P md ops Q fuel (listed.setIfInBounds i true) (a.put oi.dst v) w) : wpAny P md ops Q (fuel + 1) listed a w :=
  wpAny_take hi hs hf hr hQ (.inl ⟨hw, hv⟩) h

theorem bret {p q : Prop} [Decidable p] [Decidable q] (h : p ↔ q) : Ending.returned (.bool (decide p)) = Ending.returned (.bool (decide q)) := by rw [decide_eq_decide.2 h]

theorem l01In_any (x a b : Int) (w : World) : Calls Tryz.prog 88 #[.int .i64 x, .int .i64 a, .int .i64 b] w fun e w' => e = .returned (.bool (decide (a ≤ x ∧ x ≤ b))) ∧ w' = w := by
  by_cases h1 : a ≤ x
  · by_cases h2 : x ≤ b
    · have d1 : decide (a ≤ x) = true := by simpa using h1
      have d2 : decide (x ≤ b) = true := by simpa using h2
      go_enter Tryz.func88, Tryz.ntmps88
      go_wp2
      go_ret
      exact ⟨by simp [h1, h2], rfl⟩
    · have d1 : decide (a ≤ x) = true := by simpa using h1
      have d2 : decide (x ≤ b) = false := by simpa using h2
      go_enter Tryz.func88, Tryz.ntmps88
      go_wp2
      go_ret
      exact ⟨by simp, rfl⟩
  · have d1 : decide (a ≤ x) = false := by simpa using h1
    go_enter Tryz.func88, Tryz.ntmps88
    go_wp2
    go_ret
    exact ⟨by simp, rfl⟩

theorem take_snocF {α : Type} (fs : List α) (k : Nat) (f : α) (h : fs[k]? = some f) : fs.take (k + 1) = fs.take k ++ [f] := by
  obtain ⟨hk, rfl⟩ := List.getElem?_eq_some_iff.1 h
  rw [List.take_succ_eq_append_getElem hk]

theorem own_mono {w : World} {B B' e s n : Nat} {v : Value} {xs : List Value} (h : w.ownsRow B e s v n xs) (hB : B' ≤ B) : w.ownsRow B' e s v n xs :=
  ⟨h.1, h.2.imp id (fun ⟨g, cap, cur, a, b, rest⟩ => ⟨g, cap, cur, a, Nat.le_trans hB b, rest⟩)⟩

theorem grownSet (w : World) (G j : Nat) (u : Value) : w.grownBy (w.setCell ⟨G, j, none⟩ u) (some G) :=
  ⟨rfl, rfl, rfl, by simp [World.setCell], fun k _ hk => heap_setCell_other w ⟨G, j, none⟩ k u (fun e => hk (by simp [e]))⟩

theorem own_setOther {w : World} {B e s g n cap : Nat} {xs : List Value} (h : w.ownsRow B e s (.slice (some ⟨g, 0, none⟩) n cap) n xs) (G j : Nat) (u : Value) (hG : g ≠ G) :
    (w.setCell ⟨G, j, none⟩ u).ownsRow B e s (.slice (some ⟨g, 0, none⟩) n cap) n xs :=
  World.ownsRow.kept h (grownSet w G j u) (.inr (by simp [Value.ownBlock]; exact fun e => hG e))

theorem bcell {W w1 : World} (hb : Below W.heap.size W w1) : (∀ b o, b < W.heap.size → w1.cell? ⟨b, o, none⟩ = W.cell? ⟨b, o, none⟩) ∧ (∀ b o, b < W.heap.size → w1.frozen? ⟨b, o, none⟩ = W.frozen? ⟨b, o, none⟩) :=
  ⟨fun b o h => hb.cell (p := ⟨b, o, none⟩) h, fun b o h => hb.frozen (p := ⟨b, o, none⟩) h⟩

theorem grown_of_below {w w' : World} (h : Below w.heap.size w w') (row : Option Nat) : w.grownBy w' row :=
  ⟨h.os, h.tape, h.output, h.size, fun k hk _ => h.block k hk⟩

theorem grown_trans {a b c : World} {row : Option Nat} (h : a.grownBy b row) (k : b.grownBy c row) : a.grownBy c row :=
  ⟨k.os.trans h.os, k.tape.trans h.tape, k.output.trans h.output, Nat.le_trans h.size k.size, fun i hi hr => (k.block i (Nat.lt_of_lt_of_le hi h.size) hr).trans (h.block i hi hr)⟩

theorem own_form {w : World} {B e s n : Nat} {v : Value} {xs : List Value} (h : w.ownsRow B e s v n xs) : ∃ a c, v = .slice a n c := by
  rcases h.2 with ⟨hv, h0⟩ | ⟨g, cap, cur, hv, _⟩
  · subst h0; exact ⟨none, 0, hv⟩
  · exact ⟨_, cap, hv⟩

/-- nothing below has turned since w -/
def Good (w u : World) : Prop := Below w.heap.size w u

theorem Good.refl (w : World) : Good w w := Below.refl _ _

theorem Good.size {w u : World} (h : Good w u) : w.heap.size ≤ u.heap.size := Below.size h

theorem Good.up {w u v : World} (h : Good w u) (hb : Below u.heap.size u v) : Good w v := Below.trans h (hb.mono h.size)

theorem Good.alloc {w u : World} (h : Good w u) (o : Obj) : Good w (u.alloc o) := h.up ((Below.refl _ _).alloc (Nat.le_refl _) _)

theorem Good.drew {w u : World} (h : Good w u) : Good w u.drew := Below.drew h

theorem Good.cell {w u : World} (h : Good w u) {b o : Nat} (hb : b < w.heap.size) : u.cell? ⟨b, o, none⟩ = w.cell? ⟨b, o, none⟩ := Below.cell h hb

/-- what lies outside lo .. hi has not turned -/
structure Rng (lo hi : Nat) (u v : World) : Prop where
  os : v.os = u.os
  tape : v.tape = u.tape
  output : v.output = u.output
  size : u.heap.size ≤ v.heap.size
  block : ∀ k, k < u.heap.size → (k < lo ∨ hi ≤ k) → v.heap[k]? = u.heap[k]?

theorem Rng.of_below {u v : World} {lo hi : Nat} (h : Below u.heap.size u v) : Rng lo hi u v := ⟨h.os, h.tape, h.output, h.size, fun k hk _ => h.block k hk⟩

theorem Rng.of_grown {u v : World} {lo hi g : Nat} (h : u.grownBy v (some g)) (h1 : lo ≤ g) (h2 : g < hi) : Rng lo hi u v :=
  ⟨h.os, h.tape, h.output, h.size, fun k hk ho => h.block k hk (by simp; omega)⟩

theorem Rng.below {u v : World} {lo hi B : Nat} (h : Rng lo hi u v) (h1 : B ≤ lo) (h2 : B ≤ u.heap.size) : Below B u v := ⟨h.os, h.tape, h.output, h.size, fun k hk => h.block k (by omega) (.inl (by omega))⟩

theorem own_up {w w' : World} {B e s n : Nat} {v : Value} {xs : List Value} (h : w.ownsRow B e s v n xs) (hb : Below w.heap.size w w') : w'.ownsRow B e s v n xs :=
  World.ownsRow.kept h (grown_of_below hb none) (by cases hv : v.ownBlock <;> simp)

/-- a slice as the machine has them -/
def Sl (a : Option Addr) (n c : Nat) : Prop := n ≤ c ∧ c ≤ maxLen ∧ (a = none ∧ n = 0 ∧ c = 0 ∨ ∃ b off, a = some ⟨b, off, none⟩)

theorem set_other {u : World} {G j x o : Nat} {v : Value} (h : x ≠ G) : (u.setCell ⟨G, j, none⟩ v).cell? ⟨x, o, none⟩ = u.cell? ⟨x, o, none⟩ := World.cell?_of_block (w := u) (heap_setCell_other u ⟨G, j, none⟩ x v h)

theorem own_setLow {w : World} {B e s n : Nat} {v : Value} {xs : List Value} (h : w.ownsRow B e s v n xs) (G j : Nat) (u : Value) (hG : G < B) : (w.setCell ⟨G, j, none⟩ u).ownsRow B e s v n xs :=
  World.ownsRow.kept h (grownSet w G j u) (.inr (fun e => by have := (h.lt G (by simpa using e)).1; omega))

/-- a list of ints stands in memory below B -/
def Is (w : World) (B : Nat) (a : Option Addr) (n : Nat) (ls : List Int) : Prop :=
  ls.length = n ∧ (n = 0 ∨ ∃ b off, a = some ⟨b, off, none⟩ ∧ b < B ∧ ∀ (j : Nat) (x : Int), ls[j]? = some x → w.cell? ⟨b, off + j, none⟩ = some (.int .i64 x))

theorem Is.below {w w' : World} {B C : Nat} {a : Option Addr} {n : Nat} {ls : List Int} (h : Is w B a n ls) (hb : Below C w w') (hB : B ≤ C) : Is w' B a n ls := by
  refine ⟨h.1, h.2.imp id ?_⟩
  rintro ⟨b, off, h1, h2, h3⟩
  exact ⟨b, off, h1, h2, fun j x hx => by rw [hb.cell (p := ⟨b, _, none⟩) (by show b < _; omega)]; exact h3 j x hx⟩

theorem Is.mono {w : World} {B C : Nat} {a : Option Addr} {n : Nat} {ls : List Int} (h : Is w B a n ls) (hB : B ≤ C) : Is w C a n ls := by
  refine ⟨h.1, h.2.imp id ?_⟩
  rintro ⟨b, off, h1, h2, h3⟩
  exact ⟨b, off, h1, by omega, h3⟩

theorem Is.up {w w' : World} {a : Option Addr} {n : Nat} {ls : List Int} (h : Is w w.heap.size a n ls) (hb : Below w.heap.size w w') : Is w' w'.heap.size a n ls :=
  (h.below hb (Nat.le_refl _)).mono hb.size

def ic (ls : List Int) : List Value := ls.map fun x => Value.int .i64 x

theorem ic_len (ls : List Int) : (ic ls).length = ls.length := by simp [ic]

theorem ic_snoc (ls : List Int) (x : Int) : ic (ls ++ [x]) = ic ls ++ [.int .i64 x] := by simp [ic]

theorem ic_at {ls : List Int} {j : Nat} {x : Int} (h : ls[j]? = some x) : (ic ls)[j]? = some (.int .i64 x) := by rw [ic, List.getElem?_map, h]; rfl

theorem Is_of_own {w : World} {B n c : Nat} {a : Option Addr} {ls : List Int} (h : w.ownsRow B 3 1 (.slice a n c) n (ic ls)) : Is w w.heap.size a n ls := by
  have hl := h.1
  rw [ic_len] at hl
  refine ⟨by omega, ?_⟩
  rcases h.2 with ⟨hv, h0⟩ | ⟨g, cap, cur, hv, hrest⟩
  · exact .inl h0
  · simp at hv
    obtain ⟨rfl, rfl⟩ := hv
    refine .inr ⟨g, 0, rfl, (h.lt g rfl).2, fun j x hx => ?_⟩
    have hj : j < ls.length := (List.getElem?_eq_some_iff.1 hx).1
    rw [Nat.zero_add, h.cellAt j (by omega)]
    exact ic_at hx

theorem info3i : (Tryz.prog.info? 3).map (fun i => (i.zero, i.size, i.bytes)) = some (some (.int .i64 0), 1, 8) := by kernel_rfl

set_option maxHeartbeats 1000000 in
theorem eqIntS_same (ls : List Int) (n : Nat) (a a' : Option Addr) (c c' : Nat) (hn : n ≤ 1048576) (w : World) (h : Is w w.heap.size a n ls) (h' : Is w w.heap.size a' n ls) :
    Calls Tryz.prog 135 #[.slice a n c, .slice a' n c'] w fun e w' => e = .returned (.bool true) ∧ Below w.heap.size w w' := by
  obtain ⟨hlen, hrow⟩ := h
  obtain ⟨_, hrow'⟩ := h'
  have HR := hideIt hrow
  have HR' := hideIt hrow'
  clear hrow hrow'
  have dn : ((n : Int) != (n : Int)) = false := by simp
  go_enter Tryz.func135, Tryz.ntmps135
  go_wp2
  go_loopw [5] (fun i wr => ∃ (k : Nat), k ≤ n ∧ i = .int .i64 (k : Int) ∧ Below w.heap.size w wr) (fun i _ => n - (intOf i).toNat)
  case atStart => exact ⟨0, by omega, rfl, Below.refl _ _⟩
  case round =>
    obtain ⟨k, hk, rfl, hb⟩ := hrel
    by_cases hlt : k < n
    · rcases HR.out with hz | ⟨b, off, rfl, hbl, hc⟩
      · omega
      · rcases HR'.out with hz | ⟨b', off', rfl, hbl', hc'⟩
        · omega
        · obtain ⟨f, hf⟩ : ∃ f, ls[k]? = some f := ⟨ls[k]'(by omega), List.getElem?_eq_getElem (by omega)⟩
          have e0 : wr.cell? ⟨b, off + k, none⟩ = some (.int .i64 f) := by rw [hb.cell hbl]; exact hc k f hf
          have e1 : wr.cell? ⟨b', off' + k, none⟩ = some (.int .i64 f) := by rw [hb.cell hbl']; exact hc' k f hf
          have b1 : (0 : Int) ≤ (k : Int) := by omega
          have b2 : (k : Int) < (n : Int) := by omega
          have d1 : (f != f) = false := by simp
          clear hc hc' hf
          go_wp2
          go_quiet (fail)
          go_wp2
          exact ⟨⟨k + 1, by omega, by go_num, below_drewN hb _⟩, by simp [intOf]; omega⟩
    · go_wp2
      go_ret
      exact ⟨rfl, hb⟩

/-- n marks from k0 on -/
def imarks (k0 n : Nat) : List Int := (List.range n).map fun (t : Nat) => (k0 : Int) + (t : Int)

theorem imarks_snoc (k0 n : Nat) : imarks k0 (n + 1) = imarks k0 n ++ [(k0 : Int) + (n : Int)] := by simp [imarks, List.range_succ]

theorem imarks_at (k0 n j : Nat) (h : j < n) : (imarks k0 n)[j]? = some ((k0 : Int) + (j : Int)) := by simp [imarks, h]

theorem markIntS_zero (a : Option Addr) (c : Nat) (k0 : Int) (w : World) :
    Calls Tryz.prog 137 #[.slice a 0 c, .int .i64 k0] w fun e w' => e = .returned (.int .i64 k0) ∧ w' = w := by
  go_enter Tryz.func137, Tryz.ntmps137
  go_wp2
  refine wp_loop_rounds 1 ?_
  rw [rounds_succ]
  go_wp2
  go_ret
  exact ⟨rfl, rfl⟩

set_option maxHeartbeats 1000000 in
theorem markIntS_any (base g c n k0 : Nat) (xs0 : List Value) (hn : n ≤ 1048576) (hk1 : k0 ≤ 10000000) (w : World) (h : w.ownsRow base 3 1 (.slice (some ⟨g, 0, none⟩) n c) n xs0) :
    Calls Tryz.prog 137 #[.slice (some ⟨g, 0, none⟩) n c, .int .i64 (k0 : Int)] w fun e w' => e = .returned (.int .i64 ((k0 : Int) + (n : Int))) ∧ w'.ownsRow base 3 1 (.slice (some ⟨g, 0, none⟩) n c) n (ic (imarks k0 n)) ∧ w.grownBy w' (some g) := by
  have H0 := hideIt h
  clear h
  go_enter Tryz.func137, Tryz.ntmps137
  go_wp2
  go_loopw [1, 5] (fun q i wr => ∃ (k : Nat) (xs : List Value), k ≤ n ∧ i = .int .i64 (k : Int) ∧ q = .int .i64 ((k0 : Int) + (k : Int)) ∧ Hid (xs.take k = ic (imarks k0 k)) ∧ wr.ownsRow base 3 1 (.slice (some ⟨g, 0, none⟩) n c) n xs ∧ w.grownBy wr (some g)) (fun _ i _ => n - (intOf i).toNat)
  case atStart => exact ⟨0, xs0, by omega, rfl, by simp, by show _ = _; simp [ic, imarks], H0.out, ⟨rfl, rfl, rfl, Nat.le_refl _, fun _ _ _ => rfl⟩⟩
  case round =>
    obtain ⟨k, xs, hk, rfl, rfl, hx, hown, hg⟩ := hrel
    have hl3 : xs.length = n * 1 := hown.1
    by_cases hlt : k < n
    · have b1 : (0 : Int) ≤ (k : Int) := by omega
      have b2 : (k : Int) < (n : Int) := by omega
      have f0 := hown.frozenAt k
      obtain ⟨y0, x0⟩ : ∃ y, wr.cell? ⟨g, k, none⟩ = some y := ⟨_, by rw [hown.cellAt k (by omega)]; exact List.getElem?_eq_getElem (by omega)⟩
      have hst := hown.stored k (.int .i64 ((k0 : Int) + (k : Int)))
      have HO2 := hideIt hst.1
      have HG2 := hideIt (grown_trans hg hst.2)
      have HX : Hid ((xs.set k (.int .i64 ((k0 : Int) + (k : Int)))).take (k + 1) = ic (imarks k0 (k + 1))) := by
        show _ = _
        rw [List.take_add_one, List.take_set_of_le (Nat.le_refl _), hx.out, imarks_snoc, ic_snoc]
        simp [show k < xs.length by omega]
      clear hst hx hown hg
      go_wp2
      exact ⟨⟨k + 1, _, by omega, by go_num, by go_num, HX, HO2.out, HG2.out⟩, by simp [intOf]; omega⟩
    · obtain rfl : k = n := by omega
      have HX : Hid (xs = ic (imarks k0 k)) := by
        show _ = _
        have := hx.out
        rw [List.take_of_length_le (by omega)] at this
        exact this
      have HO := hideIt hown
      clear hx hown
      go_wp2
      go_ret
      exact ⟨rfl, by rw [← HX.out]; exact HO.out, hg⟩

set_option maxHeartbeats 1000000 in
theorem heldIntS_any (n k0 : Nat) (a : Option Addr) (c : Nat) (hn : n ≤ 1048576) (hk1 : k0 ≤ 10000000) (w : World) (h : Is w w.heap.size a n (imarks k0 n)) :
    Calls Tryz.prog 139 #[.slice a n c, .int .i64 (k0 : Int)] w fun e w' => e = .returned (.int .i64 ((k0 : Int) + (n : Int))) ∧ w' = w := by
  obtain ⟨_, hrow⟩ := h
  have HR := hideIt hrow
  clear hrow
  go_enter Tryz.func139, Tryz.ntmps139
  go_wp2
  go_loopw [1, 5] (fun kk i wr => ∃ j : Nat, j ≤ n ∧ i = .int .i64 (j : Int) ∧ kk = .int .i64 ((k0 : Int) + (j : Int)) ∧ wr = w) (fun _ i _ => n - (intOf i).toNat)
  case atStart => exact ⟨0, by omega, rfl, by simp, rfl⟩
  case round =>
    obtain ⟨j, hj, rfl, rfl, hw⟩ := hrel
    have hw' := hw.symm
    subst hw'
    clear hw
    by_cases hlt : j < n
    · rcases HR.out with hz | ⟨b, off, rfl, hbl, hc⟩
      · omega
      · have c0 := hc j _ (imarks_at k0 n j hlt)
        have b1 : (0 : Int) ≤ (j : Int) := by omega
        have b2 : (j : Int) < (n : Int) := by omega
        have d1 : ((k0 : Int) + (j : Int) != (k0 : Int) + (j : Int)) = false := by simp
        clear hc
        go_wp2
        exact ⟨⟨j + 1, by omega, by go_num, by go_num, by first | trivial | rfl⟩, by simp [intOf]; omega⟩
    · obtain rfl : j = n := by omega
      go_wp2
      go_ret
      exact ⟨rfl, rfl⟩

/-- the answer of Around, Labels: a list of the answer's own -/
def IAns (w : World) (ls : List Int) (e : Ending) (w' : World) : Prop :=
  ∃ a m c, e = .returned (.slice a m c) ∧ w'.ownsRow w.heap.size 3 1 (.slice a m c) m (ic ls) ∧ Below w.heap.size w w'

/-- a list that is ours, in blocks lo .. hi -/
structure RBox (u : World) (lo hi : Nat) (a : Option Addr) (m c : Nat) (ls : List Int) : Prop where
  own : u.ownsRow lo 3 1 (.slice a m c) m (ic ls)
  row : ∀ g, (Value.slice a m c).ownBlock = some g → g < hi
  there : hi ≤ u.heap.size

theorem RBox.rng {u v : World} {lo hi l2 h2 : Nat} {a : Option Addr} {m c : Nat} {ls : List Int} (h : RBox u lo hi a m c ls) (hr : Rng l2 h2 u v) (ho : hi ≤ l2 ∨ h2 ≤ lo) : RBox v lo hi a m c ls := by
  have hth := h.there
  refine ⟨⟨h.own.1, ?_⟩, h.row, Nat.le_trans hth hr.size⟩
  rcases h.own.2 with h3 | ⟨g, cap, cur, hv, hg, hcur, hrest⟩
  · exact .inl h3
  · have hgh := h.row g (by rw [hv]; rfl)
    refine .inr ⟨g, cap, cur, hv, hg, ?_, hrest⟩
    rw [hr.block g (by omega) (by omega)]
    exact hcur

theorem RBox.up {u v : World} {lo hi : Nat} {a : Option Addr} {m c : Nat} {ls : List Int} (h : RBox u lo hi a m c ls) (hb : Below u.heap.size u v) : RBox v lo hi a m c ls :=
  h.rng (l2 := hi) (h2 := hi) (Rng.of_below hb) (.inl (Nat.le_refl _))

theorem RBox.is {u : World} {lo hi : Nat} {a : Option Addr} {m c : Nat} {ls : List Int} (h : RBox u lo hi a m c ls) : Is u u.heap.size a m ls := Is_of_own h.own

theorem RBox.len {u : World} {lo hi : Nat} {a : Option Addr} {m c : Nat} {ls : List Int} (h : RBox u lo hi a m c ls) : ls.length = m := by
  have := h.own.1; rw [ic_len] at this; omega

theorem RBox.laid {u : World} {lo : Nat} {a : Option Addr} {m c : Nat} {ls : List Int} (ho : u.ownsRow lo 3 1 (.slice a m c) m (ic ls)) : RBox u lo u.heap.size a m c ls :=
  ⟨ho, fun g hg => (ho.lt g hg).2, Nat.le_refl _⟩

theorem eqRB {u : World} {lo hi lo' hi' : Nat} {a a' : Option Addr} {m c m' c' : Nat} {ls : List Int} (h : RBox u lo hi a m c ls) (h' : RBox u lo' hi' a' m' c' ls) (hm : m ≤ 1048576) :
    Calls Tryz.prog 135 #[.slice a m c, .slice a' m' c'] u fun e v => e = .returned (.bool true) ∧ Below u.heap.size u v := by
  have e : m' = m := by rw [← h.len, ← h'.len]
  subst e
  exact eqIntS_same ls m' a a' c c' hm u h.is h'.is

theorem markRB {u : World} {lo hi : Nat} {a : Option Addr} {m c : Nat} {ls : List Int} (h : RBox u lo hi a m c ls) (k0 : Nat) (hm : m ≤ 1048576) (h1 : k0 ≤ 10000000) :
    Calls Tryz.prog 137 #[.slice a m c, .int .i64 (k0 : Int)] u fun e v => e = .returned (.int .i64 ((k0 : Int) + (m : Int))) ∧ RBox v lo hi a m c (imarks k0 m) ∧ Rng lo hi u v := by
  have hth := h.there
  rcases h.own.2 with ⟨hv, hm0⟩ | ⟨g, cap, cur, hv, hg, hcur, hrest⟩
  · subst hm0
    refine (markIntS_zero a c (k0 : Int) u).mono fun e v ⟨he, hb⟩ => ⟨by rw [he]; simp, ?_, by rw [hb]; exact Rng.of_below (Below.refl _ _)⟩
    have hg0 : ls = [] := List.length_eq_zero_iff.1 h.len
    subst hg0
    rw [hb]
    exact h
  · have hv' := hv
    simp at hv'
    obtain ⟨rfl, rfl⟩ := hv'
    have hgh := h.row g rfl
    refine (markIntS_any lo g c m k0 _ hm h1 u h.own).mono fun e v ⟨he, ho, hgr⟩ => ⟨he, ⟨ho, h.row, Nat.le_trans hth hgr.size⟩, Rng.of_grown hgr hg hgh⟩

theorem heldRB {u : World} {lo hi : Nat} {a : Option Addr} {m c : Nat} (k0 : Nat) (h : RBox u lo hi a m c (imarks k0 m)) (hm : m ≤ 1048576) (h1 : k0 ≤ 10000000) :
    Calls Tryz.prog 139 #[.slice a m c, .int .i64 (k0 : Int)] u fun e v => e = .returned (.int .i64 ((k0 : Int) + (m : Int))) ∧ v = u :=
  heldIntS_any m k0 a c hm h1 u h.is

/-- nothing of wb has turned, and the row is ours -/
structure ISt (wb : World) (a : Option Addr) (m c : Nat) (ls : List Int) (u : World) : Prop where
  own : u.ownsRow wb.heap.size 3 1 (.slice a m c) m (ic ls)
  bel : Below wb.heap.size wb u

theorem ISt.size {wb : World} {a : Option Addr} {m c : Nat} {ls : List Int} {u : World} (h : ISt wb a m c ls u) : wb.heap.size ≤ u.heap.size := h.bel.size

theorem ISt.len {wb : World} {a : Option Addr} {m c : Nat} {ls : List Int} {u : World} (h : ISt wb a m c ls u) : ls.length = m := by have := h.own.1; rw [ic_len] at this; omega

theorem ISt.up {wb : World} {a : Option Addr} {m c : Nat} {ls : List Int} {u v : World} (h : ISt wb a m c ls u) (hb : Below u.heap.size u v) : ISt wb a m c ls v :=
  ⟨own_up h.own hb, h.bel.trans (hb.mono h.size)⟩

theorem ISt.app {wb : World} {a : Option Addr} {m c : Nat} {ls : List Int} {u : World} (h : ISt wb a m c ls u) {x : Int} {o : Obj} {v : Value} {u' : World}
    (ho : u'.ownsRow wb.heap.size 3 1 v (m + 1) (ic ls ++ [.int .i64 x])) (hg : (u.alloc o).grownBy u' (Value.slice a m c).ownBlock) :
    ∃ a' c', v = .slice a' (m + 1) c' ∧ ISt wb a' (m + 1) c' (ls ++ [x]) u' := by
  obtain ⟨a', c', rfl⟩ := own_form ho
  rw [← ic_snoc] at ho
  refine ⟨a', c', rfl, ho, ?_⟩
  exact (h.bel.alloc h.size _).grown hg (by have := h.size; simp; omega) (fun j hj => (h.own.lt j hj).1)

theorem ISt.start (wb : World) : ISt wb (some ⟨wb.heap.size, 0, none⟩) 0 0 [] (wb.alloc (.cells #[] 3)) := by
  refine ⟨?_, (Below.refl _ _).alloc (Nat.le_refl _) _⟩
  have h0 := World.ownsRow_lit (base := wb.heap.size) (e := 3) (size := 1) wb #[] 0 (Nat.le_refl _) (by unfold maxLen; omega) (by simp)
  simpa [ic] using h0

theorem newsI (w : World) (x : Int) : ∀ j u, ([Value.int .i64 x] : List Value)[j]? = some u → (w.alloc (.cells #[.int .i64 x] 3)).cell? ((⟨w.heap.size, 0, none⟩ : Addr).add j) = some u := by
  intro j u hj
  rcases j with _ | j
  · simp at hj; subst hj; simp [Addr.add]
  · simp at hj

theorem ians_nil {w u : World} (h : Below w.heap.size w u) : IAns w [] (.returned (.slice none 0 0)) u := ⟨none, 0, 0, rfl, World.ownsRow_nil _ _ _ _, h⟩

end Go.Proofs.YtgjnlhdgekfieaaGreat
namespace Go.Proofs.YtgjnlhdgekfieaaGreat
open Go.RowKit

/-- an edge -/
abbrev EdgeV := Int × Int

/-- the edge is right -/
def eB (n : Int) (e : EdgeV) : Bool := decide (1 ≤ n ∧ n ≤ 12 ∧ 0 ≤ e.1 ∧ e.1 < e.2 ∧ e.2 < n)

theorem sEdgeOk_any (n : Int) (e : EdgeV) (w : World) :
    Calls Tryz.prog 84 #[.int .i64 n, .agg #[.int .i64 e.1, .int .i64 e.2]] w fun x w' => x = .returned (.bool (eB n e)) ∧ Below w.heap.size w w' := by
  obtain ⟨a, b⟩ := e
  dsimp only
  have HI := hideIt l01In_any
  by_cases h1 : 1 ≤ n ∧ n ≤ 12
  · have r1 : decide (1 ≤ n ∧ n ≤ 12) = true := by simpa using h1
    by_cases h2 : 0 ≤ a ∧ a ≤ n - 1
    · have r2 : decide (0 ≤ a ∧ a ≤ n - 1) = true := by simpa using h2
      by_cases h3 : 0 ≤ b ∧ b ≤ n - 1
      · have r3 : decide (0 ≤ b ∧ b ≤ n - 1) = true := by simpa using h3
        go_enter Tryz.func84, Tryz.ntmps84
        go_wp2_with (go_at_call 88; refine (HI.out _ _ _ _).mono ?_; rintro e w1 ⟨rfl, rfl⟩)
        go_ret
        exact ⟨bret (by dsimp only; omega), (Below.refl _ _).alloc (Nat.le_refl _) _⟩
      · have r3 : decide (0 ≤ b ∧ b ≤ n - 1) = false := by simpa using h3
        go_enter Tryz.func84, Tryz.ntmps84
        go_wp2_with (go_at_call 88; refine (HI.out _ _ _ _).mono ?_; rintro e w1 ⟨rfl, rfl⟩)
        go_ret
        exact ⟨by simp [eB]; omega, (Below.refl _ _).alloc (Nat.le_refl _) _⟩
    · have r2 : decide (0 ≤ a ∧ a ≤ n - 1) = false := by simpa using h2
      go_enter Tryz.func84, Tryz.ntmps84
      go_wp2_with (go_at_call 88; refine (HI.out _ _ _ _).mono ?_; rintro e w1 ⟨rfl, rfl⟩)
      go_ret
      exact ⟨by simp [eB]; omega, (Below.refl _ _).alloc (Nat.le_refl _) _⟩
  · have r1 : decide (1 ≤ n ∧ n ≤ 12) = false := by simpa using h1
    go_enter Tryz.func84, Tryz.ntmps84
    go_wp2_with (go_at_call 88; refine (HI.out _ _ _ _).mono ?_; rintro e w1 ⟨rfl, rfl⟩)
    go_ret
    exact ⟨by simp [eB]; omega, (Below.refl _ _).alloc (Nat.le_refl _) _⟩

/-- the list of edges es stands at a, n of them, below block B -/
def Es (w : World) (B : Nat) (a : Option Addr) (n : Nat) (es : List EdgeV) : Prop :=
  es.length = n ∧ (n = 0 ∨ ∃ b off, a = some ⟨b, off, none⟩ ∧ b < B ∧ ∀ (j : Nat) (f : EdgeV), es[j]? = some f →
    w.cell? ⟨b, off + j * 2, none⟩ = some (.int .i64 f.1) ∧ w.cell? ⟨b, off + j * 2 + 1, none⟩ = some (.int .i64 f.2))

theorem Es.alloc {w : World} {B : Nat} {a : Option Addr} {n : Nat} {fs : List EdgeV} (h : Es w B a n fs) (hB : B ≤ w.heap.size) (o : Obj) : Es (w.alloc o) B a n fs := by
  refine ⟨h.1, h.2.imp id ?_⟩
  rintro ⟨b, off, ha, hb, hc⟩
  refine ⟨b, off, ha, hb, fun j f hf => ?_⟩
  have hbl : b < w.heap.size := by omega
  obtain ⟨c0, c1⟩ := hc j f hf
  exact ⟨by rw [World.cell?_of_block (w := w) (Below.heap_alloc w o b hbl)]; exact c0, by rw [World.cell?_of_block (w := w) (Below.heap_alloc w o b hbl)]; exact c1⟩

theorem Es.below {w w' : World} {B C : Nat} {a : Option Addr} {n : Nat} {fs : List EdgeV} (h : Es w B a n fs) (hb : Below C w w') (hB : B ≤ C) : Es w' B a n fs := by
  refine ⟨h.1, h.2.imp id ?_⟩
  rintro ⟨b, off, ha, hbl, hc⟩
  refine ⟨b, off, ha, hbl, fun j f hf => ?_⟩
  obtain ⟨c0, c1⟩ := hc j f hf
  have hl : b < C := by omega
  exact ⟨by rw [hb.cell (p := ⟨b, _, none⟩) hl]; exact c0, by rw [hb.cell (p := ⟨b, _, none⟩) hl]; exact c1⟩

theorem Es.mono {w : World} {B C : Nat} {a : Option Addr} {n : Nat} {fs : List EdgeV} (h : Es w B a n fs) (hB : B ≤ C) : Es w C a n fs := by
  refine ⟨h.1, h.2.imp id ?_⟩
  rintro ⟨b, off, ha, hbl, hc⟩
  exact ⟨b, off, ha, by omega, hc⟩

theorem Es.up {w w' : World} {a : Option Addr} {n : Nat} {fs : List EdgeV} (h : Es w w.heap.size a n fs) (hb : Below w.heap.size w w') : Es w' w'.heap.size a n fs :=
  (h.below hb (Nat.le_refl _)).mono hb.size

/-- the cells of an edge -/
def ecell (f : EdgeV) : List Value := [.int .i64 f.1, .int .i64 f.2]

/-- the cells of a list of edges -/
def ecells (fs : List EdgeV) : List Value := fs.flatMap ecell

theorem ecells_length (fs : List EdgeV) : (ecells fs).length = fs.length * 2 := by
  induction fs with
  | nil => rfl
  | cons f fs ih => simp only [ecells, List.flatMap_cons, List.length_append, List.length_cons] at ih ⊢; rw [ih]; simp [ecell]; omega

theorem ecells_at (fs : List EdgeV) (j : Nat) (f : EdgeV) (h : fs[j]? = some f) :
    (ecells fs)[j * 2]? = some (.int .i64 f.1) ∧ (ecells fs)[j * 2 + 1]? = some (.int .i64 f.2) := by
  induction fs generalizing j with
  | nil => simp at h
  | cons g fs ih =>
    cases j with
    | zero => simp at h; subst h; simp [ecells, ecell]
    | succ j =>
      have h2 := ih j (by simpa using h)
      have e : ∀ m, (ecells (g :: fs))[m + 2]? = (ecells fs)[m]? := fun m => by simp [ecells, ecell]
      refine ⟨?_, ?_⟩
      · rw [show (j + 1) * 2 = j * 2 + 2 by omega, e]; exact h2.1
      · rw [show (j + 1) * 2 + 1 = j * 2 + 1 + 2 by omega, e]; exact h2.2

theorem ecells_snoc (fs : List EdgeV) (f : EdgeV) : ecells (fs ++ [f]) = ecells fs ++ [.int .i64 f.1, .int .i64 f.2] := by simp [ecells, ecell]

theorem ecells_append (fs gs : List EdgeV) : ecells (fs ++ gs) = ecells fs ++ ecells gs := by simp [ecells]

theorem infoIE : (Tryz.prog.info? 28).map (fun i => (i.zero, i.size, i.bytes)) = some (some (.agg #[.int .i64 0, .int .i64 0]), 2, 16) := by kernel_rfl

/-- a list of one's own reads as its edges -/
theorem Es_of_own {w : World} {B n c : Nat} {a : Option Addr} {fs : List EdgeV} (h : w.ownsRow B 28 2 (.slice a n c) n (ecells fs)) : Es w w.heap.size a n fs := by
  have hl := h.1
  rw [ecells_length] at hl
  refine ⟨by omega, ?_⟩
  rcases h.2 with ⟨hv, h0⟩ | ⟨g, cap, cur, hv, hrest⟩
  · exact .inl h0
  · simp at hv
    obtain ⟨rfl, rfl⟩ := hv
    by_cases h0 : n = 0
    · exact .inl h0
    · refine .inr ⟨g, 0, rfl, (h.lt g rfl).2, fun j f hf => ?_⟩
      have hj : j < fs.length := (List.getElem?_eq_some_iff.1 hf).1
      obtain ⟨c0, c1⟩ := ecells_at fs j f hf
      rw [Nat.zero_add]
      exact ⟨by rw [h.cellAt (j * 2) (by omega)]; exact c0, by rw [h.cellAt (j * 2 + 1) (by omega)]; exact c1⟩

/-- the one edge comes ahead of the other -/
def lt (d e : EdgeV) : Bool := decide (d.1 < e.1 ∨ d.1 = e.1 ∧ d.2 < e.2)

theorem l05Less_any (d e : EdgeV) (w : World) :
    Calls Tryz.prog 153 #[.agg #[.int .i64 d.1, .int .i64 d.2], .agg #[.int .i64 e.1, .int .i64 e.2]] w fun x w' => x = .returned (.bool (lt d e)) ∧ Below w.heap.size w w' := by
  obtain ⟨a, b⟩ := d
  obtain ⟨c, f⟩ := e
  dsimp only
  by_cases h1 : a < c
  · have r1 : decide (a < c) = true := by simpa using h1
    go_enter Tryz.func153, Tryz.ntmps153
    go_wp2
    go_ret
    exact ⟨by simp [lt]; omega, ((Below.refl _ _).alloc (Nat.le_refl _) _).alloc (by simp) _⟩
  · have r1 : decide (a < c) = false := by simpa using h1
    by_cases h2 : a = c
    · subst h2
      go_enter Tryz.func153, Tryz.ntmps153
      go_wp2
      go_ret
      exact ⟨bret (by dsimp only; omega), ((Below.refl _ _).alloc (Nat.le_refl _) _).alloc (by simp) _⟩
    · have r2 : (a == c) = false := by simpa using h2
      go_enter Tryz.func153, Tryz.ntmps153
      go_wp2
      go_ret
      exact ⟨by simp [lt]; omega, ((Below.refl _ _).alloc (Nat.le_refl _) _).alloc (by simp) _⟩

/-- it is one of them -/
def hasB (es : List EdgeV) (e : EdgeV) : Bool := decide (e ∈ es)

theorem hasB_yes {es : List EdgeV} {e : EdgeV} {k : Nat} (h : es[k]? = some e) : hasB es e = true := decide_eq_true (List.mem_of_getElem? h)

theorem hasB_no {es : List EdgeV} {e : EdgeV} (h : ∀ j, j < es.length → es[j]? ≠ some e) : hasB es e = false := decide_eq_false fun hm => by
  obtain ⟨j, hj, rfl⟩ := List.getElem_of_mem hm
  exact h j hj (List.getElem?_eq_getElem hj)

set_option maxHeartbeats 1000000 in
theorem l05Has_any (es : List EdgeV) (e : EdgeV) (n : Nat) (a : Option Addr) (c : Nat) (hn : n ≤ 1048576) (w : World) (h : Es w w.heap.size a n es) :
    Calls Tryz.prog 75 #[.slice a n c, .agg #[.int .i64 e.1, .int .i64 e.2]] w fun x w' => x = .returned (.bool (hasB es e)) ∧ Below w.heap.size w w' := by
  obtain ⟨hlen, hrow⟩ := h
  have HR := hideIt hrow
  clear hrow
  go_enter Tryz.func75, Tryz.ntmps75
  go_wp2
  go_loopw [5] (fun i wr => ∃ k : Nat, k ≤ n ∧ i = .int .i64 (k : Int) ∧ Hid (∀ j, j < k → es[j]? ≠ some e) ∧ Below w.heap.size w wr ∧ wr.cell? ⟨w.heap.size, 0, none⟩ = some (.int .i64 e.1) ∧ wr.cell? ⟨w.heap.size, 1, none⟩ = some (.int .i64 e.2)) (fun i _ => n - (intOf i).toNat)
  case atStart => exact ⟨0, by omega, rfl, fun j hj => by omega, (Below.refl _ _).alloc (Nat.le_refl _) _, by simp, by simp⟩
  case round =>
    obtain ⟨k, hk, rfl, hck, hb, x0, x1⟩ := hrel
    by_cases hlt : k < n
    · rcases HR.out with hz | ⟨b, off, rfl, hbl, hc⟩
      · omega
      · obtain ⟨f, hf⟩ : ∃ f, es[k]? = some f := ⟨es[k]'(by omega), List.getElem?_eq_getElem (by omega)⟩
        obtain ⟨c0, c1⟩ := hc k f hf
        have e0 : wr.cell? ⟨b, off + k * 2, none⟩ = some (.int .i64 f.1) := by rw [hb.cell hbl]; exact c0
        have e1 : wr.cell? ⟨b, off + k * 2 + 1, none⟩ = some (.int .i64 f.2) := by rw [hb.cell hbl]; exact c1
        have b1 : (0 : Int) ≤ (k : Int) := by omega
        have b2 : (k : Int) < (n : Int) := by omega
        by_cases hfe : f = e
        · subst hfe
          have HY := hideIt (hasB_yes hf)
          clear hf hc c0 c1 hck
          go_wp2
          go_quiet (fail)
          go_wp2
          go_ret
          exact ⟨by rw [HY.out]; rfl, below_drewN hb _⟩
        · have HN : Hid (∀ j, j < k + 1 → es[j]? ≠ some e) := fun j hj => by
            by_cases hjk : j = k
            · subst hjk; rw [hf]; exact fun hh => hfe (Option.some.inj hh)
            · exact hck.out j (by omega)
          clear hf hc c0 c1 hck
          by_cases h1 : f.1 = e.1
          · have h2 : ¬ f.2 = e.2 := fun h2 => hfe (Prod.ext h1 h2)
            rw [h1] at e0
            have d2 : (f.2 == e.2) = false := by simpa using h2
            clear hfe
            go_wp2
            go_quiet (fail)
            go_wp2
            exact ⟨⟨k + 1, by omega, by go_num, HN, below_drewN hb _, x0, x1⟩, by simp [intOf]; omega⟩
          · have d1 : (f.1 == e.1) = false := by simpa using h1
            clear hfe
            go_wp2
            go_quiet (fail)
            go_wp2
            exact ⟨⟨k + 1, by omega, by go_num, HN, below_drewN hb _, x0, x1⟩, by simp [intOf]; omega⟩
    · have HN := hideIt (hasB_no (es := es) (e := e) (fun j hj => hck.out j (by omega)))
      clear hck
      go_wp2
      go_ret
      exact ⟨by rw [HN.out]; rfl, hb⟩

theorem lt_iff (d e : EdgeV) : lt d e = true ↔ (d.1 < e.1 ∨ d.1 = e.1 ∧ d.2 < e.2) := by unfold lt; rw [decide_eq_true_iff]

theorem lt_trans' {a b c : EdgeV} (h1 : lt a b = true) (h2 : lt b c = true) : lt a c = true := by rw [lt_iff] at *; omega

theorem lt_asymm' {a b : EdgeV} (h1 : lt a b = true) : lt b a = false := by
  cases h : lt b a with
  | false => rfl
  | true => rw [lt_iff] at *; omega

theorem lt_irrefl' (a : EdgeV) : lt a a = false := by
  cases h : lt a a with
  | false => rfl
  | true => rw [lt_iff] at h; omega

theorem lt_total' {a b : EdgeV} (h1 : lt a b = false) (h2 : a ≠ b) : lt b a = true := by
  have h3 : ¬ (a.1 < b.1 ∨ a.1 = b.1 ∧ a.2 < b.2) := fun h => by rw [(lt_iff a b).2 h] at h1; cases h1
  rw [lt_iff]
  by_cases h4 : a.1 = b.1
  · have h5 : ¬ a.2 = b.2 := fun h5 => h2 (Prod.ext h4 h5)
    omega
  · omega

/-- they ascend -/
def Asc (es : List EdgeV) : Prop := ∀ (i j : Nat) (d e : EdgeV), i < j → es[i]? = some d → es[j]? = some e → lt d e = true

/-- the edge in its place, as the specification puts it -/
def putE (es : List EdgeV) (e : EdgeV) : List EdgeV := es.filter (fun d => lt d e) ++ [e] ++ es.filter (fun d => lt e d)

end Go.Proofs.YtgjnlhdgekfieaaGreat
namespace Go.Proofs.YtgjnlhdgekfieaaGreat
open Go.RowKit

/-- an edge with its level, of the forest or beside it -/
structure Ld where
  a : Int
  b : Int
  l : Int
  t : Bool
def Ld.e (x : Ld) : EdgeV := (x.a, x.b)
/-- the graph's edges -/
def gE (ls : List Ld) : List EdgeV := ls.map Ld.e
def fP (i : Int) (x : Ld) : Bool := x.t && decide (i ≤ x.l)
/-- the edges of F(i) -/
def fE (ls : List Ld) (i : Int) : List EdgeV := (ls.filter (fP i)).map Ld.e
theorem gE_len (ls : List Ld) : (gE ls).length = ls.length := by simp [gE]
theorem gE_at {ls : List Ld} {j : Nat} {x : Ld} (h : ls[j]? = some x) : (gE ls)[j]? = some x.e := by simp [gE, h]
theorem gE_mem {ls : List Ld} {x : Ld} (h : x ∈ ls) : x.e ∈ gE ls := List.mem_map.2 ⟨x, h, rfl⟩
theorem fE_mem {ls : List Ld} {i : Int} {e : EdgeV} : e ∈ fE ls i ↔ ∃ x ∈ ls, x.t = true ∧ i ≤ x.l ∧ x.e = e := by
  unfold fE
  simp only [List.mem_map, List.mem_filter, fP, Bool.and_eq_true, decide_eq_true_eq]
  constructor
  · rintro ⟨x, ⟨h1, h2, h3⟩, h4⟩; exact ⟨x, h1, h2, h3, h4⟩
  · rintro ⟨x, h1, h2, h3, h4⟩; exact ⟨x, ⟨h1, h2, h3⟩, h4⟩
theorem fE_g {ls : List Ld} {i : Int} {e : EdgeV} (h : e ∈ fE ls i) : e ∈ gE ls := by
  obtain ⟨x, hx, _, _, rfl⟩ := fE_mem.1 h
  exact gE_mem hx
theorem fE_low {ls : List Ld} {i j : Int} (h : i ≤ j) {e : EdgeV} (he : e ∈ fE ls j) : e ∈ fE ls i := by
  obtain ⟨x, hx, h1, h2, rfl⟩ := fE_mem.1 he
  exact fE_mem.2 ⟨x, hx, h1, by omega, rfl⟩
theorem fE_len (ls : List Ld) (i : Int) : (fE ls i).length ≤ ls.length := by unfold fE; rw [List.length_map]; exact List.length_filter_le _ _
theorem fE_take_yes {ls : List Ld} {i : Int} {k : Nat} {x : Ld} (h : ls[k]? = some x) (hp : fP i x = true) : fE (ls.take (k + 1)) i = fE (ls.take k) i ++ [x.e] := by
  unfold fE
  rw [List.take_add_one, h]
  simp [hp]
theorem fE_take_no {ls : List Ld} {i : Int} {k : Nat} {x : Ld} (h : ls[k]? = some x) (hp : fP i x = false) : fE (ls.take (k + 1)) i = fE (ls.take k) i := by
  unfold fE
  rw [List.take_add_one, h]
  simp [hp]
end Go.Proofs.YtgjnlhdgekfieaaGreat
namespace Go.Proofs.YtgjnlhdgekfieaaGreat
open Go.RowKit

/-- the list ls stands at a, n of them, below block B -/
def Ls (w : World) (B : Nat) (a : Option Addr) (n : Nat) (ls : List Ld) : Prop :=
  ls.length = n ∧ (n = 0 ∨ ∃ b off, a = some ⟨b, off, none⟩ ∧ b < B ∧ ∀ (j : Nat) (x : Ld), ls[j]? = some x →
    w.cell? ⟨b, off + j * 4, none⟩ = some (.int .i64 x.a) ∧ w.cell? ⟨b, off + j * 4 + 1, none⟩ = some (.int .i64 x.b) ∧ w.cell? ⟨b, off + j * 4 + 2, none⟩ = some (.int .i64 x.l) ∧ w.cell? ⟨b, off + j * 4 + 3, none⟩ = some (.bool x.t))
theorem Ls.below {w w' : World} {B C : Nat} {a : Option Addr} {n : Nat} {ls : List Ld} (h : Ls w B a n ls) (hb : Below C w w') (hB : B ≤ C) : Ls w' B a n ls := by
  refine ⟨h.1, h.2.imp id ?_⟩
  rintro ⟨b, off, ha, hbl, hc⟩
  refine ⟨b, off, ha, hbl, fun j x hx => ?_⟩
  have hl : b < C := by omega
  have e : ∀ o, w'.cell? ⟨b, o, none⟩ = w.cell? ⟨b, o, none⟩ := fun o => hb.cell (p := ⟨b, o, none⟩) hl
  rw [e, e, e, e]
  exact hc j x hx
theorem Ls.mono {w : World} {B C : Nat} {a : Option Addr} {n : Nat} {ls : List Ld} (h : Ls w B a n ls) (hB : B ≤ C) : Ls w C a n ls := by
  refine ⟨h.1, h.2.imp id ?_⟩
  rintro ⟨b, off, ha, hbl, hc⟩
  exact ⟨b, off, ha, by omega, hc⟩
theorem Ls.up {w w' : World} {a : Option Addr} {n : Nat} {ls : List Ld} (h : Ls w w.heap.size a n ls) (hb : Below w.heap.size w w') : Ls w' w'.heap.size a n ls :=
  (h.below hb (Nat.le_refl _)).mono hb.size
/-- the cells of one -/
def lcell (x : Ld) : List Value := [.int .i64 x.a, .int .i64 x.b, .int .i64 x.l, .bool x.t]
def lcells (ls : List Ld) : List Value := ls.flatMap lcell
theorem lcells_length (ls : List Ld) : (lcells ls).length = ls.length * 4 := by
  induction ls with
  | nil => rfl
  | cons f fs ih => simp only [lcells, List.flatMap_cons, List.length_append, List.length_cons] at ih ⊢; rw [ih]; simp [lcell]; omega
theorem lcells_at (ls : List Ld) (j : Nat) (x : Ld) (h : ls[j]? = some x) :
    (lcells ls)[j * 4]? = some (.int .i64 x.a) ∧ (lcells ls)[j * 4 + 1]? = some (.int .i64 x.b) ∧ (lcells ls)[j * 4 + 2]? = some (.int .i64 x.l) ∧ (lcells ls)[j * 4 + 3]? = some (.bool x.t) := by
  induction ls generalizing j with
  | nil => simp at h
  | cons g fs ih =>
    cases j with
    | zero => simp at h; subst h; simp [lcells, lcell]
    | succ j =>
      have h2 := ih j (by simpa using h)
      have e : ∀ m, (lcells (g :: fs))[m + 4]? = (lcells fs)[m]? := fun m => by simp [lcells, lcell]
      refine ⟨?_, ?_, ?_, ?_⟩
      · rw [show (j + 1) * 4 = j * 4 + 4 by omega, e]; exact h2.1
      · rw [show (j + 1) * 4 + 1 = j * 4 + 1 + 4 by omega, e]; exact h2.2.1
      · rw [show (j + 1) * 4 + 2 = j * 4 + 2 + 4 by omega, e]; exact h2.2.2.1
      · rw [show (j + 1) * 4 + 3 = j * 4 + 3 + 4 by omega, e]; exact h2.2.2.2
theorem lcells_snoc (ls : List Ld) (x : Ld) : lcells (ls ++ [x]) = lcells ls ++ [.int .i64 x.a, .int .i64 x.b, .int .i64 x.l, .bool x.t] := by simp [lcells, lcell]
theorem lcells_append (fs gs : List Ld) : lcells (fs ++ gs) = lcells fs ++ lcells gs := by simp [lcells]
theorem infoIL : (Tryz.prog.info? 52).map (fun i => (i.zero, i.size, i.bytes)) = some (some (.agg #[.int .i64 0, .int .i64 0, .int .i64 0, .bool false]), 4, 32) := by kernel_rfl
/-- a list of one's own reads as its edges -/
theorem Ls_of_own {w : World} {B n c : Nat} {a : Option Addr} {ls : List Ld} (h : w.ownsRow B 52 4 (.slice a n c) n (lcells ls)) : Ls w w.heap.size a n ls := by
  have hl := h.1
  rw [lcells_length] at hl
  refine ⟨by omega, ?_⟩
  rcases h.2 with ⟨hv, h0⟩ | ⟨g, cap, cur, hv, hrest⟩
  · exact .inl h0
  · simp at hv
    obtain ⟨rfl, rfl⟩ := hv
    by_cases h0 : n = 0
    · exact .inl h0
    · refine .inr ⟨g, 0, rfl, (h.lt g rfl).2, fun j x hx => ?_⟩
      have hj : j < ls.length := (List.getElem?_eq_some_iff.1 hx).1
      obtain ⟨c0, c1, c2, c3⟩ := lcells_at ls j x hx
      rw [Nat.zero_add]
      exact ⟨by rw [h.cellAt (j * 4) (by omega)]; exact c0, by rw [h.cellAt (j * 4 + 1) (by omega)]; exact c1, by rw [h.cellAt (j * 4 + 2) (by omega)]; exact c2, by rw [h.cellAt (j * 4 + 3) (by omega)]; exact c3⟩
/-- one of them, as a walk reads it -/
structure LdAt (w : World) (b o : Nat) (x : Ld) : Prop where
  ca : w.cell? ⟨b, o, none⟩ = some (.int .i64 x.a)
  cb : w.cell? ⟨b, o + 1, none⟩ = some (.int .i64 x.b)
  cl : w.cell? ⟨b, o + 2, none⟩ = some (.int .i64 x.l)
  ct : w.cell? ⟨b, o + 3, none⟩ = some (.bool x.t)
theorem LdAt.below {w u : World} {b o C : Nat} {x : Ld} (h : LdAt w b o x) (hb : Below C w u) (hC : b < C) : LdAt u b o x := by
  have e : ∀ o, u.cell? ⟨b, o, none⟩ = w.cell? ⟨b, o, none⟩ := fun o => hb.cell (p := ⟨b, o, none⟩) hC
  exact ⟨by rw [e]; exact h.ca, by rw [e]; exact h.cb, by rw [e]; exact h.cl, by rw [e]; exact h.ct⟩
theorem Ls.at {w : World} {B : Nat} {a : Option Addr} {n : Nat} {ls : List Ld} (h : Ls w B a n ls) {k : Nat} (hk : k < n) : ∃ b off x, a = some ⟨b, off, none⟩ ∧ b < B ∧ ls[k]? = some x ∧ LdAt w b (off + k * 4) x := by
  rcases h.2 with hz | ⟨b, off, ha, hb, hc⟩
  · omega
  · have hl := h.1
    have hx : ls[k]? = some (ls[k]'(by omega)) := List.getElem?_eq_getElem (by omega)
    obtain ⟨h0, h1, h2, h3⟩ := hc k _ hx
    exact ⟨b, off, _, ha, hb, hx, h0, h1, h2, h3⟩
/-- the world behind a web's box -/
def wW (w : World) (N : Int) (a : Option Addr) (n c : Nat) : World := w.alloc (.cells #[.int .i64 N, .slice a n c] 26)
theorem wW_size (w : World) (N : Int) (a : Option Addr) (n c : Nat) : (wW w N a n c).heap.size = w.heap.size + 1 := by simp [wW]
theorem wW_good (w : World) (N : Int) (a : Option Addr) (n c : Nat) : Good w (wW w N a n c) := (Good.refl w).alloc _
theorem wW_cells {w : World} {N : Int} {a : Option Addr} {n c : Nat} {u : World} (h : Below (w.heap.size + 1) (wW w N a n c) u) : u.cell? ⟨w.heap.size, 0, none⟩ = some (.int .i64 N) ∧ u.cell? ⟨w.heap.size, 1, none⟩ = some (.slice a n c) := by
  refine ⟨?_, ?_⟩
  · rw [h.cell (p := ⟨w.heap.size, 0, none⟩) (by show w.heap.size < _; omega)]; simp [wW]
  · rw [h.cell (p := ⟨w.heap.size, 1, none⟩) (by show w.heap.size < _; omega)]; simp [wW]
theorem ledgeEdge_any (x : Ld) (w : World) : Calls Tryz.prog 74 #[.agg #[.int .i64 x.a, .int .i64 x.b, .int .i64 x.l, .bool x.t]] w fun e w' => e = .returned (.agg #[.int .i64 x.a, .int .i64 x.b]) ∧ Below w.heap.size w w' := by
  obtain ⟨a, b, l, t⟩ := x
  dsimp only
  go_enter Tryz.func74, Tryz.ntmps74
  go_wp2
  exact bodyPost_ret (v := .agg #[.int .i64 a, .int .i64 b]) (by simp [results, Tryz.results74, go_sem]) rfl ⟨rfl, ((Below.refl w.heap.size w).alloc (Nat.le_refl _) _).alloc (by simp) _⟩
theorem levelAbove_any (l : Int) (hl : 0 ≤ l) (hl2 : l ≤ 4) (w : World) : Calls Tryz.prog 146 #[.int .i64 l] w fun e w' => e = .returned (.int .i64 (if l < 4 then l + 1 else 4)) ∧ w' = w := by
  by_cases h : l < 4
  · rw [if_pos h]
    go_enter Tryz.func146, Tryz.ntmps146
    go_wp2
    go_ret
    exact ⟨by congr 2, rfl⟩
  · rw [if_neg h]
    go_enter Tryz.func146, Tryz.ntmps146
    go_wp2
    go_ret
    exact ⟨by congr 2, rfl⟩
end Go.Proofs.YtgjnlhdgekfieaaGreat
namespace Go.Proofs.YtgjnlhdgekfieaaGreat
open Go.RowKit

theorem take_set4 (xs : List Value) (m : Nat) (a b c d : Value) (h : m + 4 ≤ xs.length) : ((((xs.set m a).set (m + 1) b).set (m + 2) c).set (m + 3) d).take (m + 4) = xs.take m ++ [a, b, c, d] := by
  apply List.ext_getElem?
  intro i
  have hl : (xs.take m).length = m := by simp; omega
  by_cases h1 : i < m
  · rw [List.getElem?_append_left (by omega), List.getElem?_take_of_lt h1, List.getElem?_take_of_lt (by omega), List.getElem?_set_ne (by omega), List.getElem?_set_ne (by omega), List.getElem?_set_ne (by omega), List.getElem?_set_ne (by omega)]
  · rw [List.getElem?_append_right (by omega), hl]
    by_cases h2 : i < m + 4
    · rw [List.getElem?_take_of_lt h2]
      rcases (show i = m ∨ i = m + 1 ∨ i = m + 2 ∨ i = m + 3 by omega) with rfl | rfl | rfl | rfl
      · rw [List.getElem?_set_ne (by omega), List.getElem?_set_ne (by omega), List.getElem?_set_ne (by omega), List.getElem?_set_self (by omega)]; simp
      · rw [List.getElem?_set_ne (by omega), List.getElem?_set_ne (by omega), List.getElem?_set_self (by simp; omega)]; simp
      · rw [List.getElem?_set_ne (by omega), List.getElem?_set_self (by simp; omega)]; simp
      · rw [List.getElem?_set_self (by simp; omega)]; simp
    · rw [List.getElem?_eq_none (by simp; omega), List.getElem?_eq_none (by simp; omega)]

/-- what is left of the room -/
def szw (n : Nat) : Int := if n ≤ 1048576 then 1048576 - (n : Int) else -1
theorem szLedgeS_any (n : Nat) (a : Option Addr) (c : Nat) (hn : n ≤ maxLen) (w : World) : Calls Tryz.prog 122 #[.slice a n c, .int .i64 1048576] w fun e w' => e = .returned (.int .i64 (szw n)) ∧ w' = w := by
  unfold maxLen at hn
  by_cases h : n ≤ 1048576
  · have d1 : decide (1048576 - (n : Int) < 0) = false := decide_eq_false (by omega)
    have HS : Hid (szw n = 1048576 - (n : Int)) := by show _ = _; unfold szw; rw [if_pos h]
    go_enter Tryz.func122, Tryz.ntmps122
    go_wp2
    go_ret
    exact ⟨by rw [HS.out]; rfl, rfl⟩
  · have d1 : decide (1048576 - (n : Int) < 0) = true := decide_eq_true (by omega)
    have HS : Hid (szw n = -1) := by show _ = _; unfold szw; rw [if_neg h]
    go_enter Tryz.func122, Tryz.ntmps122
    go_wp2
    go_ret
    exact ⟨by rw [HS.out]; rfl, rfl⟩
theorem szWeb_any (N : Int) (n : Nat) (a : Option Addr) (c : Nat) (hn : n ≤ maxLen) (w : World) : Calls Tryz.prog 49 #[.agg #[.int .i64 N, .slice a n c], .int .i64 1048576] w fun e w' => e = .returned (.int .i64 (szw n)) ∧ Below w.heap.size w w' := by
  have HS := hideIt (szLedgeS_any n a c hn)
  by_cases h : n ≤ 1048576
  · have e1 : szw n = 1048576 - (n : Int) := by unfold szw; rw [if_pos h]
    rw [e1] at HS ⊢
    have d1 : decide (1048576 - (n : Int) < 0) = false := decide_eq_false (by omega)
    clear e1
    go_enter Tryz.func49, Tryz.ntmps49
    go_wp2_with (go_at_call 122; refine (HS.out _).mono ?_; rintro e w1 ⟨rfl, rfl⟩)
    go_ret
    exact ⟨rfl, (Below.refl _ _).alloc (Nat.le_refl _) _⟩
  · have e1 : szw n = -1 := by unfold szw; rw [if_neg h]
    rw [e1] at HS ⊢
    clear e1
    go_enter Tryz.func49, Tryz.ntmps49
    go_wp2_with (go_at_call 122; refine (HS.out _).mono ?_; rintro e w1 ⟨rfl, rfl⟩)
    go_ret
    exact ⟨rfl, (Below.refl _ _).alloc (Nat.le_refl _) _⟩

theorem toLedge_any (x : Ld) (w : World) : Calls Tryz.prog 185 #[.agg #[.int .i64 x.a, .int .i64 x.b, .int .i64 x.l, .bool x.t]] w fun e w' => e = .returned (.agg #[.int .i64 x.a, .int .i64 x.b, .int .i64 x.l, .bool x.t]) ∧ Below w.heap.size w w' := by
  obtain ⟨a, b, l, t⟩ := x
  dsimp only
  go_enter Tryz.func185, Tryz.ntmps185
  go_wp2
  exact bodyPost_ret (v := .agg #[.int .i64 a, .int .i64 b, .int .i64 l, .bool t]) (by simp [results, Tryz.results185, go_sem]) rfl ⟨rfl, (((Below.refl _ _).alloc (Nat.le_refl _) _).alloc (by simp) _).alloc (by simp; omega) _⟩

set_option maxRecDepth 100000 in
set_option maxHeartbeats 4000000 in
theorem toLedgeS_any (ls : List Ld) (n : Nat) (a : Option Addr) (cap : Nat) (hn : n ≤ 1048576) (w : World) (h : Ls w w.heap.size a n ls) :
    Calls Tryz.prog 123 #[.slice a n cap] w fun e w' => ∃ g, e = .returned (.slice (some ⟨g, 0, none⟩) n n) ∧ w'.ownsRow w.heap.size 52 4 (.slice (some ⟨g, 0, none⟩) n n) n (lcells ls) ∧ Below w.heap.size w w' := by
  obtain ⟨i0, hi, hz0, hz1, hz2⟩ := info_parts infoIL
  have hmk : ∀ u : World, (Instr.makeSlice 24 (.int .i64 (n : Int)) (.int .i64 (n : Int))).run Tryz.prog u =
      .ok (.slice (some ⟨u.heap.size, 0, none⟩) n n) (u.alloc (.cells (madeCells #[.int .i64 0, .int .i64 0, .int .i64 0, .bool false] (n * 4)) 52)) := fun u => by
    have h := run_make (P := Tryz.prog) u 24 52 i0 _ Tryz.underlying24 hi hz0 .i64 .i64 (n : Int) (n : Int) (by omega) (by omega) (by rw [hz2]; omega) (by omega)
    rw [Int.toNat_natCast] at h
    simpa [hz1, Value.cells] using h
  have HR := hideIt h
  have hlen := h.1
  clear h
  go_enter Tryz.func123, Tryz.ntmps123
  go_wp2
  go_loopw [4] (fun i wr => ∃ (k : Nat) (xs : List Value), k ≤ n ∧ i = .int .i64 (k : Int) ∧ Hid (xs.take (k * 4) = lcells (ls.take k)) ∧ wr.ownsRow w.heap.size 52 4 (.slice (some ⟨w.heap.size, 0, none⟩) n n) n xs ∧ Below w.heap.size w wr)
    (fun i _ => n - (intOf i).toNat)
  case atStart => exact ⟨0, _, by omega, rfl, by show _ = _; simp [lcells], World.ownsRow_lit (base := w.heap.size) (e := 52) (size := 4) w (madeCells #[.int .i64 0, .int .i64 0, .int .i64 0, .bool false] (n * 4)) n (Nat.le_refl _) (by unfold maxLen; omega) (by simp [madeCells]), (Below.refl _ _).alloc (Nat.le_refl _) _⟩
  case round =>
    obtain ⟨k, xs, hk, rfl, hx, hown, hb⟩ := hrel
    by_cases hlt : k < n
    · obtain ⟨b, off, x, rfl, hbl, hxk, hat⟩ := (HR.out.below hb (Nat.le_refl _)).at hlt
      have e0 := hat.ca
      have e1 := hat.cb
      have e2 := hat.cl
      have e3 := hat.ct
      have b1 : (0 : Int) ≤ (k : Int) := by omega
      have b2 : (k : Int) < (n : Int) := by omega
      have HT := hideIt (toLedge_any x wr)
      have HTk := hideIt (take_snocF ls k x hxk)
      clear hat hxk
      go_wp2_with (go_at_call 185; refine HT.out.mono ?_; rintro e w1 ⟨rfl, hb1⟩; refine Hid.out ?_)
      refine (show ∀ {p : Prop}, p → Hid p from fun h => h) ?_
      have hown1 := own_up hown hb1
      have hl3 : xs.length = n * 4 := hown1.1
      have f0 := hown1.frozenAt (k * 4)
      have f1 := hown1.frozenAt (k * 4 + 1)
      have f2 := hown1.frozenAt (k * 4 + 2)
      have f3 := hown1.frozenAt (k * 4 + 3)
      have x0 : w1.cell? ⟨w.heap.size, k * 4, none⟩ = some (xs[k * 4]'(by omega)) := by rw [hown1.cellAt (k * 4) (by omega)]; exact List.getElem?_eq_getElem (by omega)
      have x1 : w1.cell? ⟨w.heap.size, k * 4 + 1, none⟩ = some (xs[k * 4 + 1]'(by omega)) := by rw [hown1.cellAt (k * 4 + 1) (by omega)]; exact List.getElem?_eq_getElem (by omega)
      have x2 : w1.cell? ⟨w.heap.size, k * 4 + 2, none⟩ = some (xs[k * 4 + 2]'(by omega)) := by rw [hown1.cellAt (k * 4 + 2) (by omega)]; exact List.getElem?_eq_getElem (by omega)
      have x3 : w1.cell? ⟨w.heap.size, k * 4 + 3, none⟩ = some (xs[k * 4 + 3]'(by omega)) := by rw [hown1.cellAt (k * 4 + 3) (by omega)]; exact List.getElem?_eq_getElem (by omega)
      clear e0 e1 e2 e3 HT
      go_wp2
      refine ⟨⟨k + 1, (((xs.set (k * 4) (.int .i64 x.a)).set (k * 4 + 1) (.int .i64 x.b)).set (k * 4 + 2) (.int .i64 x.l)).set (k * 4 + 3) (.bool x.t), by omega, by go_num, ?_, ?_, ?_⟩, by simp [intOf]; omega⟩
      · show _ = _
        rw [show (k + 1) * 4 = k * 4 + 4 by omega, take_set4 _ _ _ _ _ _ (by omega), hx.out, HTk.out, lcells_snoc]
      · exact ((((hown1.stored (k * 4) _).1.stored (k * 4 + 1) _).1.stored (k * 4 + 2) _).1.stored (k * 4 + 3) _).1
      · exact ((((hb.trans (hb1.mono hb.size)).setCell (Nat.le_refl _) _).setCell (Nat.le_refl _) _).setCell (Nat.le_refl _) _).setCell (Nat.le_refl _) _
    · have e : ls.take k = ls := List.take_of_length_le (by omega)
      have hl3 : xs.length = n * 4 := hown.1
      have HX : Hid (xs = lcells ls) := by
        show _ = _
        have := hx.out
        rw [e, List.take_of_length_le (by omega)] at this
        exact this
      have HO := hideIt hown
      clear hx e hown hl3
      go_wp2
      go_ret
      exact ⟨w.heap.size, rfl, by rw [← HX.out]; exact HO.out, hb⟩
theorem toWeb_any (N : Int) (ls : List Ld) (n : Nat) (a : Option Addr) (cap : Nat) (hn : n ≤ 1048576) (w : World) (h : Ls w w.heap.size a n ls) :
    Calls Tryz.prog 50 #[.agg #[.int .i64 N, .slice a n cap]] w fun e w' => ∃ g, e = .returned (.agg #[.int .i64 N, .slice (some ⟨g, 0, none⟩) n n]) ∧ w'.ownsRow w.heap.size 52 4 (.slice (some ⟨g, 0, none⟩) n n) n (lcells ls) ∧ Below w.heap.size w w' := by
  have g3 : Good w (((w.alloc (.cells #[.int .i64 N, .slice a n cap] 84)).alloc (.cells #[.int .i64 0, .slice none 0 0] 26)).alloc (.cells #[.int .i64 N, .slice none 0 0] 26)) := (((Good.refl w).alloc _).alloc _).alloc _
  have HT := hideIt (toLedgeS_any ls n a cap hn _ (h.up g3))
  clear h g3
  go_enter Tryz.func50, Tryz.ntmps50
  go_wp2_with (go_at_call 123; refine HT.out.mono ?_; rintro e w1 ⟨g, rfl, hown, hb1⟩; refine Hid.out ?_)
  refine (show ∀ {p : Prop}, p → Hid p from fun h => h) ?_
  obtain ⟨hc, hf⟩ := bcell hb1
  have HO := hideIt hown
  have hgl := hown.lt g rfl
  have hz := hb1.size
  clear hown HT
  simp at hz hgl
  go_wp2
  refine bodyPost_ret (v := .agg #[.int .i64 N, .slice (some ⟨g, 0, none⟩) n n]) (by simp [results, Tryz.results50, go_sem, hc]) rfl ⟨g, rfl, ?_, ?_⟩
  · exact own_mono (own_setOther (own_setOther (own_setOther HO.out _ _ _ (by omega)) _ _ _ (by omega)) _ _ _ (by omega)) (by simp; omega)
  · exact ((((((((Below.refl _ _).alloc (Nat.le_refl _) _).alloc (by simp) _).alloc (by simp; omega) _).trans (hb1.mono (by simp; omega))).setCell (by simp; omega) _).setCell (by simp) _)).setCell (by simp) _

theorem eqLedge_yes (x : Ld) (w : World) :
    Calls Tryz.prog 186 #[.agg #[.int .i64 x.a, .int .i64 x.b, .int .i64 x.l, .bool x.t], .agg #[.int .i64 x.a, .int .i64 x.b, .int .i64 x.l, .bool x.t]] w fun e w' => e = .returned (.bool true) ∧ Below w.heap.size w w' := by
  obtain ⟨a, b, l, t⟩ := x
  dsimp only
  cases t with
  | true =>
    go_enter Tryz.func186, Tryz.ntmps186
    go_wp2
    go_ret
    exact ⟨rfl, ((Below.refl _ _).alloc (Nat.le_refl _) _).alloc (by simp) _⟩
  | false =>
    go_enter Tryz.func186, Tryz.ntmps186
    go_wp2
    go_ret
    exact ⟨rfl, ((Below.refl _ _).alloc (Nat.le_refl _) _).alloc (by simp) _⟩

set_option maxRecDepth 100000 in
set_option maxHeartbeats 4000000 in
theorem eqLedgeS_same (ls : List Ld) (n : Nat) (a a' : Option Addr) (c c' : Nat) (hn : n ≤ 1048576) (w : World) (h : Ls w w.heap.size a n ls) (h' : Ls w w.heap.size a' n ls) :
    Calls Tryz.prog 124 #[.slice a n c, .slice a' n c'] w fun e w' => e = .returned (.bool true) ∧ Below w.heap.size w w' := by
  have HR := hideIt h
  have HR' := hideIt h'
  clear h h'
  go_enter Tryz.func124, Tryz.ntmps124
  go_wp2
  go_loopw [5] (fun i wr => ∃ k : Nat, k ≤ n ∧ i = .int .i64 (k : Int) ∧ Below w.heap.size w wr) (fun i _ => n - (intOf i).toNat)
  case atStart => exact ⟨0, by omega, rfl, Below.refl _ _⟩
  case round =>
    obtain ⟨k, hk, rfl, hb⟩ := hrel
    by_cases hlt : k < n
    · obtain ⟨b, off, x, rfl, hbl, hxk, hat⟩ := HR.out.at hlt
      obtain ⟨b', off', x', rfl, hbl', hxk', hat'⟩ := HR'.out.at hlt
      rw [hxk] at hxk'
      obtain rfl := Option.some.inj hxk'
      have b1 : (0 : Int) ≤ (k : Int) := by omega
      have b2 : (k : Int) < (n : Int) := by omega
      have HT : Hid (∀ W : World, Below w.heap.size w W → Calls Tryz.prog 186 #[.agg #[.int .i64 x.a, .int .i64 x.b, .int .i64 x.l, .bool x.t], .agg #[.int .i64 x.a, .int .i64 x.b, .int .i64 x.l, .bool x.t]] W fun e w' => e = .returned (.bool true) ∧ Below w.heap.size w w') := fun W hW =>
        (eqLedge_yes x W).mono fun _ _ ⟨he, hb'⟩ => ⟨he, hW.trans (hb'.mono hW.size)⟩
      have HK : Hid (∀ W : World, Below w.heap.size w W → ((W.cell? ⟨b, off + k * 4, none⟩ = some (.int .i64 x.a) ∧ W.cell? ⟨b, off + k * 4 + 1, none⟩ = some (.int .i64 x.b)) ∧ (W.cell? ⟨b, off + k * 4 + 2, none⟩ = some (.int .i64 x.l) ∧ W.cell? ⟨b, off + k * 4 + 3, none⟩ = some (.bool x.t))) ∧ ((W.cell? ⟨b', off' + k * 4, none⟩ = some (.int .i64 x.a) ∧ W.cell? ⟨b', off' + k * 4 + 1, none⟩ = some (.int .i64 x.b)) ∧ (W.cell? ⟨b', off' + k * 4 + 2, none⟩ = some (.int .i64 x.l) ∧ W.cell? ⟨b', off' + k * 4 + 3, none⟩ = some (.bool x.t)))) := fun W hW => by
        have h1 := hat.below hW hbl
        have h2 := hat'.below hW hbl'
        exact ⟨⟨⟨h1.ca, h1.cb⟩, h1.cl, h1.ct⟩, ⟨h2.ca, h2.cb⟩, h2.cl, h2.ct⟩
      have e := HK.out wr hb
      obtain ⟨⟨⟨e0, e1⟩, e2, e3⟩, ⟨e4, e5⟩, e6, e7⟩ := e
      have hbd := hb.drew
      clear hat hat' hxk hxk'
      go_wp2
      go_region_held3 (fun W => Below w.heap.size w W ∧ ((W.cell? ⟨b, off + k * 4, none⟩ = some (.int .i64 x.a) ∧ W.cell? ⟨b, off + k * 4 + 1, none⟩ = some (.int .i64 x.b)) ∧ (W.cell? ⟨b, off + k * 4 + 2, none⟩ = some (.int .i64 x.l) ∧ W.cell? ⟨b, off + k * 4 + 3, none⟩ = some (.bool x.t))) ∧ ((W.cell? ⟨b', off' + k * 4, none⟩ = some (.int .i64 x.a) ∧ W.cell? ⟨b', off' + k * 4 + 1, none⟩ = some (.int .i64 x.b)) ∧ (W.cell? ⟨b', off' + k * 4 + 2, none⟩ = some (.int .i64 x.l) ∧ W.cell? ⟨b', off' + k * 4 + 3, none⟩ = some (.bool x.t))))
        (first | exact ⟨hb3, HK.out _ hb3⟩ | exact ⟨hbd, HK.out _ hbd⟩)
        ((go_at_call 186; refine (HT.out _ hbd).mono ?_; rintro e w1 ⟨rfl, hb3⟩))
      clear hbd
      go_wp2
      exact ⟨⟨k + 1, by omega, by go_num, hb3⟩, by simp [intOf]; omega⟩
    · go_wp2
      go_ret
      exact ⟨rfl, hb⟩
theorem eqWeb_same (N : Int) (ls : List Ld) (n : Nat) (a a' : Option Addr) (c c' : Nat) (hn : n ≤ 1048576) (w : World) (h : Ls w w.heap.size a n ls) (h' : Ls w w.heap.size a' n ls) :
    Calls Tryz.prog 52 #[.agg #[.int .i64 N, .slice a n c], .agg #[.int .i64 N, .slice a' n c']] w fun e w' => e = .returned (.bool true) ∧ Below w.heap.size w w' := by
  have g2 : Good w ((w.alloc (.cells #[.int .i64 N, .slice a n c] 26)).alloc (.cells #[.int .i64 N, .slice a' n c'] 26)) := ((Good.refl w).alloc _).alloc _
  have HT := hideIt (eqLedgeS_same ls n a a' c c' hn _ (h.up g2) (h'.up g2))
  clear h h'
  go_enter Tryz.func52, Tryz.ntmps52
  go_wp2_with (go_at_call 124; refine HT.out.mono ?_; rintro e w1 ⟨rfl, hb1⟩)
  go_ret
  exact ⟨rfl, g2.up hb1⟩

/-- n marked ones from k0 on -/
def lmarks (k0 n : Nat) : List Ld := (List.range n).map fun (t : Nat) => ⟨(k0 : Int) + (t : Int) * 4, (k0 : Int) + (t : Int) * 4 + 1, (k0 : Int) + (t : Int) * 4 + 1 + 1, decide (((k0 : Int) + (t : Int) * 4 + 1 + 1 + 1) % 3 = 0)⟩
theorem lmarks_snoc (k0 n : Nat) : lmarks k0 (n + 1) = lmarks k0 n ++ [⟨(k0 : Int) + (n : Int) * 4, (k0 : Int) + (n : Int) * 4 + 1, (k0 : Int) + (n : Int) * 4 + 1 + 1, decide (((k0 : Int) + (n : Int) * 4 + 1 + 1 + 1) % 3 = 0)⟩] := by simp [lmarks, List.range_succ]
theorem lmarks_length (k0 n : Nat) : (lmarks k0 n).length = n := by simp [lmarks]
theorem lmarks_at (k0 n j : Nat) (h : j < n) : (lmarks k0 n)[j]? = some ⟨(k0 : Int) + (j : Int) * 4, (k0 : Int) + (j : Int) * 4 + 1, (k0 : Int) + (j : Int) * 4 + 1 + 1, decide (((k0 : Int) + (j : Int) * 4 + 1 + 1 + 1) % 3 = 0)⟩ := by simp [lmarks, h]
theorem markLedgeS_zero (a : Option Addr) (c : Nat) (k0 : Int) (w : World) :
    Calls Tryz.prog 125 #[.slice a 0 c, .int .i64 k0] w fun e w' => e = .returned (.int .i64 k0) ∧ w' = w := by
  go_enter Tryz.func125, Tryz.ntmps125
  go_wp2
  refine wp_loop_rounds 1 ?_
  rw [rounds_succ]
  go_wp2
  go_ret
  exact ⟨rfl, rfl⟩
set_option maxRecDepth 100000 in
set_option maxHeartbeats 4000000 in
theorem markLedgeS_any (base g c n k0 : Nat) (ls : List Ld) (hn : n ≤ 1048576) (hk1 : k0 ≤ 10000000) (w : World)
    (h : w.ownsRow base 52 4 (.slice (some ⟨g, 0, none⟩) n c) n (lcells ls)) :
    Calls Tryz.prog 125 #[.slice (some ⟨g, 0, none⟩) n c, .int .i64 (k0 : Int)] w fun e w' => e = .returned (.int .i64 ((k0 : Int) + (n : Int) * 4)) ∧
      w'.ownsRow base 52 4 (.slice (some ⟨g, 0, none⟩) n c) n (lcells (lmarks k0 n)) ∧ w.grownBy w' (some g) := by
  have HO0 := hideIt h
  clear h
  go_enter Tryz.func125, Tryz.ntmps125
  go_wp2
  go_loopw [1, 5] (fun kk i wr => ∃ (j : Nat) (xs : List Value), j ≤ n ∧ i = .int .i64 (j : Int) ∧ kk = .int .i64 ((k0 : Int) + (j : Int) * 4) ∧ Hid (xs.take (j * 4) = lcells (lmarks k0 j)) ∧
      wr.ownsRow base 52 4 (.slice (some ⟨g, 0, none⟩) n c) n xs ∧ w.grownBy wr (some g)) (fun _ i _ => n - (intOf i).toNat)
  case atStart => exact ⟨0, _, by omega, rfl, by simp, by show _ = _; simp [lcells, lmarks], HO0.out, ⟨rfl, rfl, rfl, Nat.le_refl _, fun _ _ _ => rfl⟩⟩
  case round =>
    obtain ⟨j, xs, hj, rfl, rfl, hx, hown, hgr⟩ := hrel
    clear HO0
    have hl3 : xs.length = n * 4 := hown.1
    by_cases hlt : j < n
    · have b1 : (0 : Int) ≤ (j : Int) := by omega
      have b2 : (j : Int) < (n : Int) := by omega
      have cc : ∀ q, q < 4 → ∃ y, wr.cell? ⟨g, j * 4 + q, none⟩ = some y := fun q hq => ⟨_, by rw [hown.cellAt (j * 4 + q) (by omega)]; exact List.getElem?_eq_getElem (by omega)⟩
      obtain ⟨y0, c0⟩ := cc 0 (by omega)
      rw [Nat.add_zero] at c0
      obtain ⟨y1, c1⟩ := cc 1 (by omega)
      obtain ⟨y2, c2⟩ := cc 2 (by omega)
      obtain ⟨y3, c3⟩ := cc 3 (by omega)
      have f0 := hown.frozenAt (j * 4)
      have f1 := hown.frozenAt (j * 4 + 1)
      have f2 := hown.frozenAt (j * 4 + 2)
      have f3 := hown.frozenAt (j * 4 + 3)
      obtain ⟨B, hB⟩ : ∃ B, decide (((k0 : Int) + (j : Int) * 4 + 1 + 1 + 1) % 3 = 0) = B := ⟨_, rfl⟩
      have hst1 := hown.stored (j * 4) (.int .i64 ((k0 : Int) + (j : Int) * 4))
      have hst2 := hst1.1.stored (j * 4 + 1) (.int .i64 ((k0 : Int) + (j : Int) * 4 + 1))
      have hst3 := hst2.1.stored (j * 4 + 2) (.int .i64 ((k0 : Int) + (j : Int) * 4 + 1 + 1))
      have hst4 := hst3.1.stored (j * 4 + 3) (.bool B)
      have HO2 := hideIt hst4.1
      have HG2 := hideIt (grown_trans (grown_trans (grown_trans (grown_trans hgr hst1.2) hst2.2) hst3.2) hst4.2)
      have HX : Hid (((((xs.set (j * 4) (.int .i64 ((k0 : Int) + (j : Int) * 4))).set (j * 4 + 1) (.int .i64 ((k0 : Int) + (j : Int) * 4 + 1))).set (j * 4 + 2) (.int .i64 ((k0 : Int) + (j : Int) * 4 + 1 + 1))).set (j * 4 + 3) (.bool B)).take ((j + 1) * 4) = lcells (lmarks k0 (j + 1))) := by
        show _ = _
        rw [show (j + 1) * 4 = j * 4 + 4 by omega, take_set4 _ _ _ _ _ _ (by omega), hx.out, lmarks_snoc, lcells_snoc, hB]
      have dB : ((((k0 : Int) + (j : Int) * 4 + 1 + 1 + 1) % 3) == 0) = B := by rw [← hB]; rfl
      clear hst1 hst2 hst3 hst4 hx hown hgr hB cc
      go_wp2
      all_goals exact ⟨⟨j + 1, _, by omega, by go_num, by go_num, HX, HO2.out, HG2.out⟩, by simp [intOf]; omega⟩
    · obtain rfl : j = n := by omega
      have HX : Hid (xs = lcells (lmarks k0 j)) := by
        show _ = _
        have := hx.out
        rw [List.take_of_length_le (by omega)] at this
        exact this
      have HO := hideIt hown
      clear hx hown
      go_wp2
      go_ret
      exact ⟨rfl, by rw [← HX.out]; exact HO.out, hgr⟩
set_option maxRecDepth 100000 in
set_option maxHeartbeats 4000000 in
theorem heldLedgeS_any (n k0 : Nat) (a : Option Addr) (c : Nat) (hn : n ≤ 1048576) (hk1 : k0 ≤ 10000000) (w : World) (h : Ls w w.heap.size a n (lmarks k0 n)) :
    Calls Tryz.prog 126 #[.slice a n c, .int .i64 (k0 : Int)] w fun e w' => e = .returned (.int .i64 ((k0 : Int) + (n : Int) * 4)) ∧ w' = w := by
  have HR := hideIt h
  clear h
  go_enter Tryz.func126, Tryz.ntmps126
  go_wp2
  go_loopw [1, 5] (fun kk i wr => ∃ j : Nat, j ≤ n ∧ i = .int .i64 (j : Int) ∧ kk = .int .i64 ((k0 : Int) + (j : Int) * 4) ∧ wr = w) (fun _ i _ => n - (intOf i).toNat)
  case atStart => exact ⟨0, by omega, rfl, by simp, rfl⟩
  case round =>
    obtain ⟨j, hj, rfl, rfl, hw⟩ := hrel
    have hw' := hw.symm
    subst hw'
    clear hw
    by_cases hlt : j < n
    · obtain ⟨b, off, x, rfl, hbl, hxk, hat⟩ := HR.out.at hlt
      rw [lmarks_at k0 n j hlt] at hxk
      obtain rfl := Option.some.inj hxk
      have c0 := hat.ca
      have c1 := hat.cb
      have c2 := hat.cl
      have c3 := hat.ct
      dsimp only at c0 c1 c2 c3
      obtain ⟨B, hB⟩ : ∃ B, decide (((k0 : Int) + (j : Int) * 4 + 1 + 1 + 1) % 3 = 0) = B := ⟨_, rfl⟩
      rw [hB] at c3
      have dB : ((((k0 : Int) + (j : Int) * 4 + 1 + 1 + 1) % 3) == 0) = B := by rw [← hB]; rfl
      have b1 : (0 : Int) ≤ (j : Int) := by omega
      have b2 : (j : Int) < (n : Int) := by omega
      clear hat hxk hB
      cases B
      all_goals
        go_wp2
        exact ⟨⟨j + 1, by omega, by go_num, by go_num, by first | trivial | rfl⟩, by simp [intOf]; omega⟩
    · obtain rfl : j = n := by omega
      go_wp2
      go_ret
      exact ⟨rfl, rfl⟩
theorem markWeb_zero (N : Int) (a : Option Addr) (c : Nat) (k0 : Int) (w : World) :
    Calls Tryz.prog 54 #[.agg #[.int .i64 N, .slice a 0 c], .int .i64 k0] w fun e w' => e = .returned (.int .i64 k0) ∧ Below w.heap.size w w' := by
  have HT := hideIt (markLedgeS_zero a c k0)
  go_enter Tryz.func54, Tryz.ntmps54
  go_wp2_with (go_at_call 125; refine (HT.out _).mono ?_; rintro e w1 ⟨rfl, rfl⟩)
  go_ret
  exact ⟨rfl, (Below.refl _ _).alloc (Nat.le_refl _) _⟩
theorem markWeb_any (N : Int) (base g c n k0 : Nat) (ls : List Ld) (hn : n ≤ 1048576) (hk1 : k0 ≤ 10000000) (w : World)
    (h : w.ownsRow base 52 4 (.slice (some ⟨g, 0, none⟩) n c) n (lcells ls)) :
    Calls Tryz.prog 54 #[.agg #[.int .i64 N, .slice (some ⟨g, 0, none⟩) n c], .int .i64 (k0 : Int)] w fun e w' => e = .returned (.int .i64 ((k0 : Int) + (n : Int) * 4)) ∧
      w'.ownsRow base 52 4 (.slice (some ⟨g, 0, none⟩) n c) n (lcells (lmarks k0 n)) ∧ w.grownBy w' (some g) := by
  have HT := hideIt (markLedgeS_any base g c n k0 ls hn hk1 _ (h.alloc (.cells #[.int .i64 N, .slice (some ⟨g, 0, none⟩) n c] 26)))
  clear h
  go_enter Tryz.func54, Tryz.ntmps54
  go_wp2_with (go_at_call 125; refine HT.out.mono ?_; rintro e w1 ⟨rfl, ho, hg⟩; refine Hid.out ?_)
  refine (show ∀ {p : Prop}, p → Hid p from fun h => h) ?_
  have HO := hideIt ho
  have HG := hideIt hg
  clear ho hg HT
  go_wp2
  go_ret
  exact ⟨rfl, HO.out, grown_trans (grown_of_below ((Below.refl _ _).alloc (Nat.le_refl _) _) _) HG.out⟩
theorem heldWeb_any (N : Int) (n k0 : Nat) (a : Option Addr) (c : Nat) (hn : n ≤ 1048576) (hk1 : k0 ≤ 10000000) (w : World) (h : Ls w w.heap.size a n (lmarks k0 n)) :
    Calls Tryz.prog 55 #[.agg #[.int .i64 N, .slice a n c], .int .i64 (k0 : Int)] w fun e w' => e = .returned (.int .i64 ((k0 : Int) + (n : Int) * 4)) ∧ Below w.heap.size w w' := by
  have g1 : Good w (w.alloc (.cells #[.int .i64 N, .slice a n c] 26)) := (Good.refl w).alloc _
  have HT := hideIt (heldLedgeS_any n k0 a c hn hk1 _ (h.up g1))
  have d1 : decide ((k0 : Int) + (n : Int) * 4 < 0) = false := decide_eq_false (by omega)
  clear h
  go_enter Tryz.func55, Tryz.ntmps55
  go_wp2_with (go_at_call 126; refine HT.out.mono ?_; rintro e w1 ⟨rfl, rfl⟩)
  go_ret
  exact ⟨rfl, (Below.refl _ _).alloc (Nat.le_refl _) _⟩
end Go.Proofs.YtgjnlhdgekfieaaGreat
namespace Go.Proofs.YtgjnlhdgekfieaaGreat
open Go.RowKit

/-- a forest in a block of its own -/
def Box7 (w : World) (b : Nat) (t : TypeId) (v0 v1 : Value) : Prop := w.heap[b]? = some (.cells #[v0, v1] t (0, 0))
theorem Box7.cell0 {w : World} {b : Nat} {t : TypeId} {v0 v1 : Value} (h : Box7 w b t v0 v1) : w.cell? ⟨b, 0, none⟩ = some v0 := by rw [cell_of_row w b 0 _ _ _ h]; rfl
theorem Box7.cell1 {w : World} {b : Nat} {t : TypeId} {v0 v1 : Value} (h : Box7 w b t v0 v1) : w.cell? ⟨b, 1, none⟩ = some v1 := by rw [cell_of_row w b 1 _ _ _ h]; rfl
theorem Box7.frozen {w : World} {b : Nat} {t : TypeId} {v0 v1 : Value} (h : Box7 w b t v0 v1) (j : Nat) : w.frozen? ⟨b, j, none⟩ = false := frozen_of_row w b j _ _ h
theorem Box7.lt {w : World} {b : Nat} {t : TypeId} {v0 v1 : Value} (h : Box7 w b t v0 v1) : b < w.heap.size := (Array.getElem?_eq_some_iff.1 h).1
theorem Box7.new (w : World) (t : TypeId) (v0 v1 : Value) (b : Nat) (hb : w.heap.size = b) : Box7 (w.alloc (.cells #[v0, v1] t)) b t v0 v1 := by subst hb; exact heap_alloc_new w _
theorem Box7.below {w w' : World} {b C : Nat} {t : TypeId} {v0 v1 : Value} (h : Box7 w b t v0 v1) (hb : Below C w w') (hC : b < C) : Box7 w' b t v0 v1 := by
  unfold Box7; rw [hb.block b hC]; exact h
theorem Box7.up {w w' : World} {b : Nat} {t : TypeId} {v0 v1 : Value} (h : Box7 w b t v0 v1) (hb : Below w.heap.size w w') : Box7 w' b t v0 v1 := h.below hb h.lt
theorem Box7.grown {w w' : World} {b : Nat} {t : TypeId} {v0 v1 : Value} {row : Option Nat} (h : Box7 w b t v0 v1) (hg : w.grownBy w' row) (hr : some b ≠ row) : Box7 w' b t v0 v1 := by
  unfold Box7; rw [hg.block b h.lt hr]; exact h
theorem Box7.alloc {w : World} {b : Nat} {t : TypeId} {v0 v1 : Value} (h : Box7 w b t v0 v1) (o : Obj) : Box7 (w.alloc o) b t v0 v1 := by
  unfold Box7; rw [Below.heap_alloc w o b h.lt]; exact h
theorem Box7.set1 {w : World} {b : Nat} {t : TypeId} {v0 v1 : Value} (h : Box7 w b t v0 v1) (u1 : Value) : Box7 (w.setCell ⟨b, 1, none⟩ u1) b t v0 u1 := by
  unfold Box7
  rw [heap_setCell_same _ b 1 _ t u1 h]; rfl
theorem Box7.setOther {w : World} {b x j : Nat} {t : TypeId} {v0 v1 : Value} (h : Box7 w b t v0 v1) (v : Value) (hx : b ≠ x) : Box7 (w.setCell ⟨x, j, none⟩ v) b t v0 v1 := by
  unfold Box7
  rw [heap_setCell_other w ⟨x, j, none⟩ b v hx]; exact h

theorem Box7.set2 {w : World} {b : Nat} {t : TypeId} {v0 v1 : Value} (h : Box7 w b t v0 v1) (u0 u1 : Value) : Box7 ((w.setCell ⟨b, 0, none⟩ u0).setCell ⟨b, 1, none⟩ u1) b t u0 u1 := by
  have h1 : (w.setCell ⟨b, 0, none⟩ u0).heap[b]? = some (.cells #[u0, v1] t (0, 0)) := by rw [heap_setCell_same w b 0 _ t u0 h]; rfl
  unfold Box7
  rw [heap_setCell_same _ b 1 _ t u1 h1]; rfl
end Go.Proofs.YtgjnlhdgekfieaaGreat
