/- Lists of ints in memory; what the texts of chapter 6 share. ShardNew on both sides, and the law's looks at a shard without any edges. ShardNew on both sides, and the walk of FnExactShardNew. -/
import Derived.Test.YtgjnlhdgekfieaaProg
import GoSem.Claim
import GoSem.ClaimJoined
import GoSem.ClaimMapViews
import Derived.JoinedTies
import Derived.KernelRfl
import Derived.RowKit
import Derived.WalkKit
import Derived.WalkSpells
import Derived.WalkSmall
import Derived.OwnWalk
import Derived.BigQuiet
import Derived.Deep.QuietTactic
import Derived.Deep.MidRow
import Derived.Deep.RegionHeld3
import Derived.Deep.AppendLies
import Derived.Deep.DeepCutAuto
namespace Go.Proofs.Ytgjnlhdgekfieaa
open Go.RowKit

theorem hideIt {p : Prop} (h : p) : Hid p := h

/-- an operation that its guard passes over is taken first -/
theorem skipOp {P : Program} {ops : Array Oper} {Q : Exit → Go.Act → World → Prop} {md : Region.Mode} {i : Nat} {oi : Oper} {fuel : Nat} {listed : Array Bool} {a : Go.Act} {w : World} (hi : ops[i]? = some oi)
    (hs : Region.noSelect ops = true) (hf : Region.free md ops listed i = true) (hr : (Region.ready md ops listed).contains i = true) (hQ : ∀ c a w, Q (.panic c) (a.put oi.dst undef) w → Q (.panic c) a w)
    (hw : Region.wanted oi (yielded ops a.tmps) = false) (h : wpAny P md ops Q fuel (listed.setIfInBounds i true) (a.put oi.dst undef) w) : wpAny P md ops Q (fuel + 1) listed a w :=
  wpAny_take hi hs hf hr hQ (.inr ⟨hw, rfl⟩) h

/-- an operation that looks at no memory is taken first -/
theorem takeOp {P : Program} {ops : Array Oper} {Q : Exit → Go.Act → World → Prop} {md : Region.Mode} {i : Nat} {oi : Oper} {v : Value} {fuel : Nat} {listed : Array Bool} {a : Go.Act} {w : World} (hi : ops[i]? = some oi)
    (hs : Region.noSelect ops = true) (hf : Region.free md ops listed i = true) (hr : (Region.ready md ops listed).contains i = true) (hQ : ∀ c a w, Q (.panic c) (a.put oi.dst v) w → Q (.panic c) a w)
    (hw : Region.wanted oi (yielded ops a.tmps) = true) (hv : ∀ w, (execOp a.eval oi).run P w = .ok (.value v) w) (h : wpAny P md ops Q fuel (listed.setIfInBounds i true) (a.put oi.dst v) w) : wpAny P md ops Q (fuel + 1) listed a w :=
  wpAny_take hi hs hf hr hQ (.inl ⟨hw, hv⟩) h

theorem bret {p q : Prop} [Decidable p] [Decidable q] (h : p ↔ q) : Ending.returned (.bool (decide p)) = Ending.returned (.bool (decide q)) := by rw [decide_eq_decide.2 h]

theorem l01In_any (x a b : Int) (w : World) : Calls Try.prog 10 #[.int .i64 x, .int .i64 a, .int .i64 b] w fun e w' => e = .returned (.bool (decide (a ≤ x ∧ x ≤ b))) ∧ w' = w := by
  by_cases h1 : a ≤ x
  · by_cases h2 : x ≤ b
    · have d1 : decide (a ≤ x) = true := by simpa using h1
      have d2 : decide (x ≤ b) = true := by simpa using h2
      go_enter Try.func10, Try.ntmps10
      go_wp2
      go_ret
      exact ⟨by simp [h1, h2], rfl⟩
    · have d1 : decide (a ≤ x) = true := by simpa using h1
      have d2 : decide (x ≤ b) = false := by simpa using h2
      go_enter Try.func10, Try.ntmps10
      go_wp2
      go_ret
      exact ⟨by simp, rfl⟩
  · have d1 : decide (a ≤ x) = false := by simpa using h1
    go_enter Try.func10, Try.ntmps10
    go_wp2
    go_ret
    exact ⟨by simp, rfl⟩

theorem take_snocF {α : Type} (fs : List α) (k : Nat) (f : α) (h : fs[k]? = some f) : fs.take (k + 1) = fs.take k ++ [f] := by
  obtain ⟨hk, rfl⟩ := List.getElem?_eq_some_iff.1 h
  rw [List.take_succ_eq_append_getElem hk]

theorem own_mono {w : World} {B B' e s n : Nat} {v : Value} {xs : List Value} (h : w.ownsRow B e s v n xs) (hB : B' ≤ B) : w.ownsRow B' e s v n xs :=
  ⟨h.1, h.2.imp id (fun ⟨g, cap, cur, a, b, rest⟩ => ⟨g, cap, cur, a, Nat.le_trans hB b, rest⟩)⟩

theorem grownSet (w : World) (G j : Nat) (u : Value) : w.grownBy (w.setCell ⟨G, j, none⟩ u) (some G) :=
  ⟨rfl, rfl, rfl, by simp [World.setCell], fun k _ hk => heap_setCell_other w ⟨G, j, none⟩ k u (fun e => hk (by simp [e]))⟩

theorem own_setOther {w : World} {B e s g n cap : Nat} {xs : List Value} (h : w.ownsRow B e s (.slice (some ⟨g, 0, none⟩) n cap) n xs) (G j : Nat) (u : Value) (hG : g ≠ G) :
    (w.setCell ⟨G, j, none⟩ u).ownsRow B e s (.slice (some ⟨g, 0, none⟩) n cap) n xs :=
  World.ownsRow.kept h (grownSet w G j u) (.inr (by simp [Value.ownBlock]; exact fun e => hG e))

theorem bcell {W w1 : World} (hb : Below W.heap.size W w1) : (∀ b o, b < W.heap.size → w1.cell? ⟨b, o, none⟩ = W.cell? ⟨b, o, none⟩) ∧ (∀ b o, b < W.heap.size → w1.frozen? ⟨b, o, none⟩ = W.frozen? ⟨b, o, none⟩) :=
  ⟨fun b o h => hb.cell (p := ⟨b, o, none⟩) h, fun b o h => hb.frozen (p := ⟨b, o, none⟩) h⟩

theorem grown_of_below {w w' : World} (h : Below w.heap.size w w') (row : Option Nat) : w.grownBy w' row :=
  ⟨h.os, h.tape, h.output, h.size, fun k hk _ => h.block k hk⟩

theorem grown_trans {a b c : World} {row : Option Nat} (h : a.grownBy b row) (k : b.grownBy c row) : a.grownBy c row :=
  ⟨k.os.trans h.os, k.tape.trans h.tape, k.output.trans h.output, Nat.le_trans h.size k.size, fun i hi hr => (k.block i (Nat.lt_of_lt_of_le hi h.size) hr).trans (h.block i hi hr)⟩

theorem own_form {w : World} {B e s n : Nat} {v : Value} {xs : List Value} (h : w.ownsRow B e s v n xs) : ∃ a c, v = .slice a n c := by
  rcases h.2 with ⟨hv, h0⟩ | ⟨g, cap, cur, hv, _⟩
  · subst h0; exact ⟨none, 0, hv⟩
  · exact ⟨_, cap, hv⟩

/-- nothing below has turned since w -/
def Good (w u : World) : Prop := Below w.heap.size w u

theorem Good.refl (w : World) : Good w w := Below.refl _ _

theorem Good.size {w u : World} (h : Good w u) : w.heap.size ≤ u.heap.size := Below.size h

theorem Good.up {w u v : World} (h : Good w u) (hb : Below u.heap.size u v) : Good w v := Below.trans h (hb.mono h.size)

theorem Good.alloc {w u : World} (h : Good w u) (o : Obj) : Good w (u.alloc o) := h.up ((Below.refl _ _).alloc (Nat.le_refl _) _)

theorem Good.drew {w u : World} (h : Good w u) : Good w u.drew := Below.drew h

theorem Good.cell {w u : World} (h : Good w u) {b o : Nat} (hb : b < w.heap.size) : u.cell? ⟨b, o, none⟩ = w.cell? ⟨b, o, none⟩ := Below.cell h hb

/-- what lies outside lo .. hi has not turned -/
structure Rng (lo hi : Nat) (u v : World) : Prop where
  os : v.os = u.os
  tape : v.tape = u.tape
  output : v.output = u.output
  size : u.heap.size ≤ v.heap.size
  block : ∀ k, k < u.heap.size → (k < lo ∨ hi ≤ k) → v.heap[k]? = u.heap[k]?

theorem Rng.of_below {u v : World} {lo hi : Nat} (h : Below u.heap.size u v) : Rng lo hi u v := ⟨h.os, h.tape, h.output, h.size, fun k hk _ => h.block k hk⟩

theorem Rng.of_grown {u v : World} {lo hi g : Nat} (h : u.grownBy v (some g)) (h1 : lo ≤ g) (h2 : g < hi) : Rng lo hi u v :=
  ⟨h.os, h.tape, h.output, h.size, fun k hk ho => h.block k hk (by simp; omega)⟩

theorem Rng.below {u v : World} {lo hi B : Nat} (h : Rng lo hi u v) (h1 : B ≤ lo) (h2 : B ≤ u.heap.size) : Below B u v := ⟨h.os, h.tape, h.output, h.size, fun k hk => h.block k (by omega) (.inl (by omega))⟩

theorem own_up {w w' : World} {B e s n : Nat} {v : Value} {xs : List Value} (h : w.ownsRow B e s v n xs) (hb : Below w.heap.size w w') : w'.ownsRow B e s v n xs :=
  World.ownsRow.kept h (grown_of_below hb none) (by cases hv : v.ownBlock <;> simp)

/-- a slice as the machine has them -/
def Sl (a : Option Addr) (n c : Nat) : Prop := n ≤ c ∧ c ≤ maxLen ∧ (a = none ∧ n = 0 ∧ c = 0 ∨ ∃ b off, a = some ⟨b, off, none⟩)

theorem set_other {u : World} {G j x o : Nat} {v : Value} (h : x ≠ G) : (u.setCell ⟨G, j, none⟩ v).cell? ⟨x, o, none⟩ = u.cell? ⟨x, o, none⟩ := World.cell?_of_block (w := u) (heap_setCell_other u ⟨G, j, none⟩ x v h)

theorem own_setLow {w : World} {B e s n : Nat} {v : Value} {xs : List Value} (h : w.ownsRow B e s v n xs) (G j : Nat) (u : Value) (hG : G < B) : (w.setCell ⟨G, j, none⟩ u).ownsRow B e s v n xs :=
  World.ownsRow.kept h (grownSet w G j u) (.inr (fun e => by have := (h.lt G (by simpa using e)).1; omega))

/-- a list of ints stands in memory below B -/
def Is (w : World) (B : Nat) (a : Option Addr) (n : Nat) (ls : List Int) : Prop :=
  ls.length = n ∧ (n = 0 ∨ ∃ b off, a = some ⟨b, off, none⟩ ∧ b < B ∧ ∀ (j : Nat) (x : Int), ls[j]? = some x → w.cell? ⟨b, off + j, none⟩ = some (.int .i64 x))

theorem Is.below {w w' : World} {B C : Nat} {a : Option Addr} {n : Nat} {ls : List Int} (h : Is w B a n ls) (hb : Below C w w') (hB : B ≤ C) : Is w' B a n ls := by
  refine ⟨h.1, h.2.imp id ?_⟩
  rintro ⟨b, off, h1, h2, h3⟩
  exact ⟨b, off, h1, h2, fun j x hx => by rw [hb.cell (p := ⟨b, _, none⟩) (by show b < _; omega)]; exact h3 j x hx⟩

theorem Is.mono {w : World} {B C : Nat} {a : Option Addr} {n : Nat} {ls : List Int} (h : Is w B a n ls) (hB : B ≤ C) : Is w C a n ls := by
  refine ⟨h.1, h.2.imp id ?_⟩
  rintro ⟨b, off, h1, h2, h3⟩
  exact ⟨b, off, h1, by omega, h3⟩

theorem Is.up {w w' : World} {a : Option Addr} {n : Nat} {ls : List Int} (h : Is w w.heap.size a n ls) (hb : Below w.heap.size w w') : Is w' w'.heap.size a n ls :=
  (h.below hb (Nat.le_refl _)).mono hb.size

def ic (ls : List Int) : List Value := ls.map fun x => Value.int .i64 x

theorem ic_len (ls : List Int) : (ic ls).length = ls.length := by simp [ic]

theorem ic_snoc (ls : List Int) (x : Int) : ic (ls ++ [x]) = ic ls ++ [.int .i64 x] := by simp [ic]

theorem ic_at {ls : List Int} {j : Nat} {x : Int} (h : ls[j]? = some x) : (ic ls)[j]? = some (.int .i64 x) := by rw [ic, List.getElem?_map, h]; rfl

theorem Is_of_own {w : World} {B n c : Nat} {a : Option Addr} {ls : List Int} (h : w.ownsRow B 3 1 (.slice a n c) n (ic ls)) : Is w w.heap.size a n ls := by
  have hl := h.1
  rw [ic_len] at hl
  refine ⟨by omega, ?_⟩
  rcases h.2 with ⟨hv, h0⟩ | ⟨g, cap, cur, hv, hrest⟩
  · exact .inl h0
  · simp at hv
    obtain ⟨rfl, rfl⟩ := hv
    refine .inr ⟨g, 0, rfl, (h.lt g rfl).2, fun j x hx => ?_⟩
    have hj : j < ls.length := (List.getElem?_eq_some_iff.1 hx).1
    rw [Nat.zero_add, h.cellAt j (by omega)]
    exact ic_at hx

theorem info3i : (Try.prog.info? 3).map (fun i => (i.zero, i.size, i.bytes)) = some (some (.int .i64 0), 1, 8) := by kernel_rfl

set_option maxHeartbeats 1000000 in
theorem eqIntS_same (ls : List Int) (n : Nat) (a a' : Option Addr) (c c' : Nat) (hn : n ≤ 1048576) (w : World) (h : Is w w.heap.size a n ls) (h' : Is w w.heap.size a' n ls) :
    Calls Try.prog 22 #[.slice a n c, .slice a' n c'] w fun e w' => e = .returned (.bool true) ∧ Below w.heap.size w w' := by
  obtain ⟨hlen, hrow⟩ := h
  obtain ⟨_, hrow'⟩ := h'
  have HR := hideIt hrow
  have HR' := hideIt hrow'
  clear hrow hrow'
  have dn : ((n : Int) != (n : Int)) = false := by simp
  go_enter Try.func22, Try.ntmps22
  go_wp2
  go_loopw [5] (fun i wr => ∃ (k : Nat), k ≤ n ∧ i = .int .i64 (k : Int) ∧ Below w.heap.size w wr) (fun i _ => n - (intOf i).toNat)
  case atStart => exact ⟨0, by omega, rfl, Below.refl _ _⟩
  case round =>
    obtain ⟨k, hk, rfl, hb⟩ := hrel
    by_cases hlt : k < n
    · rcases HR.out with hz | ⟨b, off, rfl, hbl, hc⟩
      · omega
      · rcases HR'.out with hz | ⟨b', off', rfl, hbl', hc'⟩
        · omega
        · obtain ⟨f, hf⟩ : ∃ f, ls[k]? = some f := ⟨ls[k]'(by omega), List.getElem?_eq_getElem (by omega)⟩
          have e0 : wr.cell? ⟨b, off + k, none⟩ = some (.int .i64 f) := by rw [hb.cell hbl]; exact hc k f hf
          have e1 : wr.cell? ⟨b', off' + k, none⟩ = some (.int .i64 f) := by rw [hb.cell hbl']; exact hc' k f hf
          have b1 : (0 : Int) ≤ (k : Int) := by omega
          have b2 : (k : Int) < (n : Int) := by omega
          have d1 : (f != f) = false := by simp
          clear hc hc' hf
          go_wp2
          go_quiet (fail)
          go_wp2
          exact ⟨⟨k + 1, by omega, by go_num, below_drewN hb _⟩, by simp [intOf]; omega⟩
    · go_wp2
      go_ret
      exact ⟨rfl, hb⟩

/-- n marks from k0 on -/
def imarks (k0 n : Nat) : List Int := (List.range n).map fun (t : Nat) => (k0 : Int) + (t : Int)

theorem imarks_snoc (k0 n : Nat) : imarks k0 (n + 1) = imarks k0 n ++ [(k0 : Int) + (n : Int)] := by simp [imarks, List.range_succ]

theorem imarks_at (k0 n j : Nat) (h : j < n) : (imarks k0 n)[j]? = some ((k0 : Int) + (j : Int)) := by simp [imarks, h]

theorem markIntS_zero (a : Option Addr) (c : Nat) (k0 : Int) (w : World) :
    Calls Try.prog 25 #[.slice a 0 c, .int .i64 k0] w fun e w' => e = .returned (.int .i64 k0) ∧ w' = w := by
  go_enter Try.func25, Try.ntmps25
  go_wp2
  refine wp_loop_rounds 1 ?_
  rw [rounds_succ]
  go_wp2
  go_ret
  exact ⟨rfl, rfl⟩

set_option maxHeartbeats 1000000 in
theorem markIntS_any (base g c n k0 : Nat) (xs0 : List Value) (hn : n ≤ 1048576) (hk1 : k0 ≤ 10000000) (w : World) (h : w.ownsRow base 3 1 (.slice (some ⟨g, 0, none⟩) n c) n xs0) :
    Calls Try.prog 25 #[.slice (some ⟨g, 0, none⟩) n c, .int .i64 (k0 : Int)] w fun e w' => e = .returned (.int .i64 ((k0 : Int) + (n : Int))) ∧ w'.ownsRow base 3 1 (.slice (some ⟨g, 0, none⟩) n c) n (ic (imarks k0 n)) ∧ w.grownBy w' (some g) := by
  have H0 := hideIt h
  clear h
  go_enter Try.func25, Try.ntmps25
  go_wp2
  go_loopw [1, 5] (fun q i wr => ∃ (k : Nat) (xs : List Value), k ≤ n ∧ i = .int .i64 (k : Int) ∧ q = .int .i64 ((k0 : Int) + (k : Int)) ∧ Hid (xs.take k = ic (imarks k0 k)) ∧ wr.ownsRow base 3 1 (.slice (some ⟨g, 0, none⟩) n c) n xs ∧ w.grownBy wr (some g)) (fun _ i _ => n - (intOf i).toNat)
  case atStart => exact ⟨0, xs0, by omega, rfl, by simp, by show _ = _; simp [ic, imarks], H0.out, ⟨rfl, rfl, rfl, Nat.le_refl _, fun _ _ _ => rfl⟩⟩
  case round =>
    obtain ⟨k, xs, hk, rfl, rfl, hx, hown, hg⟩ := hrel
    have hl3 : xs.length = n * 1 := hown.1
    by_cases hlt : k < n
    · have b1 : (0 : Int) ≤ (k : Int) := by omega
      have b2 : (k : Int) < (n : Int) := by omega
      have f0 := hown.frozenAt k
      obtain ⟨y0, x0⟩ : ∃ y, wr.cell? ⟨g, k, none⟩ = some y := ⟨_, by rw [hown.cellAt k (by omega)]; exact List.getElem?_eq_getElem (by omega)⟩
      have hst := hown.stored k (.int .i64 ((k0 : Int) + (k : Int)))
      have HO2 := hideIt hst.1
      have HG2 := hideIt (grown_trans hg hst.2)
      have HX : Hid ((xs.set k (.int .i64 ((k0 : Int) + (k : Int)))).take (k + 1) = ic (imarks k0 (k + 1))) := by
        show _ = _
        rw [List.take_add_one, List.take_set_of_le (Nat.le_refl _), hx.out, imarks_snoc, ic_snoc]
        simp [show k < xs.length by omega]
      clear hst hx hown hg
      go_wp2
      exact ⟨⟨k + 1, _, by omega, by go_num, by go_num, HX, HO2.out, HG2.out⟩, by simp [intOf]; omega⟩
    · obtain rfl : k = n := by omega
      have HX : Hid (xs = ic (imarks k0 k)) := by
        show _ = _
        have := hx.out
        rw [List.take_of_length_le (by omega)] at this
        exact this
      have HO := hideIt hown
      clear hx hown
      go_wp2
      go_ret
      exact ⟨rfl, by rw [← HX.out]; exact HO.out, hg⟩

set_option maxHeartbeats 1000000 in
theorem heldIntS_any (n k0 : Nat) (a : Option Addr) (c : Nat) (hn : n ≤ 1048576) (hk1 : k0 ≤ 10000000) (w : World) (h : Is w w.heap.size a n (imarks k0 n)) :
    Calls Try.prog 28 #[.slice a n c, .int .i64 (k0 : Int)] w fun e w' => e = .returned (.int .i64 ((k0 : Int) + (n : Int))) ∧ w' = w := by
  obtain ⟨_, hrow⟩ := h
  have HR := hideIt hrow
  clear hrow
  go_enter Try.func28, Try.ntmps28
  go_wp2
  go_loopw [1, 5] (fun kk i wr => ∃ j : Nat, j ≤ n ∧ i = .int .i64 (j : Int) ∧ kk = .int .i64 ((k0 : Int) + (j : Int)) ∧ wr = w) (fun _ i _ => n - (intOf i).toNat)
  case atStart => exact ⟨0, by omega, rfl, by simp, rfl⟩
  case round =>
    obtain ⟨j, hj, rfl, rfl, hw⟩ := hrel
    have hw' := hw.symm
    subst hw'
    clear hw
    by_cases hlt : j < n
    · rcases HR.out with hz | ⟨b, off, rfl, hbl, hc⟩
      · omega
      · have c0 := hc j _ (imarks_at k0 n j hlt)
        have b1 : (0 : Int) ≤ (j : Int) := by omega
        have b2 : (j : Int) < (n : Int) := by omega
        have d1 : ((k0 : Int) + (j : Int) != (k0 : Int) + (j : Int)) = false := by simp
        clear hc
        go_wp2
        exact ⟨⟨j + 1, by omega, by go_num, by go_num, by first | trivial | rfl⟩, by simp [intOf]; omega⟩
    · obtain rfl : j = n := by omega
      go_wp2
      go_ret
      exact ⟨rfl, rfl⟩

/-- the answer of Around, Labels: a list of the answer's own -/
def IAns (w : World) (ls : List Int) (e : Ending) (w' : World) : Prop :=
  ∃ a m c, e = .returned (.slice a m c) ∧ w'.ownsRow w.heap.size 3 1 (.slice a m c) m (ic ls) ∧ Below w.heap.size w w'

/-- a list that is ours, in blocks lo .. hi -/
structure RBox (u : World) (lo hi : Nat) (a : Option Addr) (m c : Nat) (ls : List Int) : Prop where
  own : u.ownsRow lo 3 1 (.slice a m c) m (ic ls)
  row : ∀ g, (Value.slice a m c).ownBlock = some g → g < hi
  there : hi ≤ u.heap.size

theorem RBox.rng {u v : World} {lo hi l2 h2 : Nat} {a : Option Addr} {m c : Nat} {ls : List Int} (h : RBox u lo hi a m c ls) (hr : Rng l2 h2 u v) (ho : hi ≤ l2 ∨ h2 ≤ lo) : RBox v lo hi a m c ls := by
  have hth := h.there
  refine ⟨⟨h.own.1, ?_⟩, h.row, Nat.le_trans hth hr.size⟩
  rcases h.own.2 with h3 | ⟨g, cap, cur, hv, hg, hcur, hrest⟩
  · exact .inl h3
  · have hgh := h.row g (by rw [hv]; rfl)
    refine .inr ⟨g, cap, cur, hv, hg, ?_, hrest⟩
    rw [hr.block g (by omega) (by omega)]
    exact hcur

theorem RBox.up {u v : World} {lo hi : Nat} {a : Option Addr} {m c : Nat} {ls : List Int} (h : RBox u lo hi a m c ls) (hb : Below u.heap.size u v) : RBox v lo hi a m c ls :=
  h.rng (l2 := hi) (h2 := hi) (Rng.of_below hb) (.inl (Nat.le_refl _))

theorem RBox.is {u : World} {lo hi : Nat} {a : Option Addr} {m c : Nat} {ls : List Int} (h : RBox u lo hi a m c ls) : Is u u.heap.size a m ls := Is_of_own h.own

theorem RBox.len {u : World} {lo hi : Nat} {a : Option Addr} {m c : Nat} {ls : List Int} (h : RBox u lo hi a m c ls) : ls.length = m := by
  have := h.own.1; rw [ic_len] at this; omega

theorem RBox.laid {u : World} {lo : Nat} {a : Option Addr} {m c : Nat} {ls : List Int} (ho : u.ownsRow lo 3 1 (.slice a m c) m (ic ls)) : RBox u lo u.heap.size a m c ls :=
  ⟨ho, fun g hg => (ho.lt g hg).2, Nat.le_refl _⟩

theorem eqRB {u : World} {lo hi lo' hi' : Nat} {a a' : Option Addr} {m c m' c' : Nat} {ls : List Int} (h : RBox u lo hi a m c ls) (h' : RBox u lo' hi' a' m' c' ls) (hm : m ≤ 1048576) :
    Calls Try.prog 22 #[.slice a m c, .slice a' m' c'] u fun e v => e = .returned (.bool true) ∧ Below u.heap.size u v := by
  have e : m' = m := by rw [← h.len, ← h'.len]
  subst e
  exact eqIntS_same ls m' a a' c c' hm u h.is h'.is

theorem markRB {u : World} {lo hi : Nat} {a : Option Addr} {m c : Nat} {ls : List Int} (h : RBox u lo hi a m c ls) (k0 : Nat) (hm : m ≤ 1048576) (h1 : k0 ≤ 10000000) :
    Calls Try.prog 25 #[.slice a m c, .int .i64 (k0 : Int)] u fun e v => e = .returned (.int .i64 ((k0 : Int) + (m : Int))) ∧ RBox v lo hi a m c (imarks k0 m) ∧ Rng lo hi u v := by
  have hth := h.there
  rcases h.own.2 with ⟨hv, hm0⟩ | ⟨g, cap, cur, hv, hg, hcur, hrest⟩
  · subst hm0
    refine (markIntS_zero a c (k0 : Int) u).mono fun e v ⟨he, hb⟩ => ⟨by rw [he]; simp, ?_, by rw [hb]; exact Rng.of_below (Below.refl _ _)⟩
    have hg0 : ls = [] := List.length_eq_zero_iff.1 h.len
    subst hg0
    rw [hb]
    exact h
  · have hv' := hv
    simp at hv'
    obtain ⟨rfl, rfl⟩ := hv'
    have hgh := h.row g rfl
    refine (markIntS_any lo g c m k0 _ hm h1 u h.own).mono fun e v ⟨he, ho, hgr⟩ => ⟨he, ⟨ho, h.row, Nat.le_trans hth hgr.size⟩, Rng.of_grown hgr hg hgh⟩

theorem heldRB {u : World} {lo hi : Nat} {a : Option Addr} {m c : Nat} (k0 : Nat) (h : RBox u lo hi a m c (imarks k0 m)) (hm : m ≤ 1048576) (h1 : k0 ≤ 10000000) :
    Calls Try.prog 28 #[.slice a m c, .int .i64 (k0 : Int)] u fun e v => e = .returned (.int .i64 ((k0 : Int) + (m : Int))) ∧ v = u :=
  heldIntS_any m k0 a c hm h1 u h.is

/-- nothing of wb has turned, and the row is ours -/
structure ISt (wb : World) (a : Option Addr) (m c : Nat) (ls : List Int) (u : World) : Prop where
  own : u.ownsRow wb.heap.size 3 1 (.slice a m c) m (ic ls)
  bel : Below wb.heap.size wb u

theorem ISt.size {wb : World} {a : Option Addr} {m c : Nat} {ls : List Int} {u : World} (h : ISt wb a m c ls u) : wb.heap.size ≤ u.heap.size := h.bel.size

theorem ISt.len {wb : World} {a : Option Addr} {m c : Nat} {ls : List Int} {u : World} (h : ISt wb a m c ls u) : ls.length = m := by have := h.own.1; rw [ic_len] at this; omega

theorem ISt.up {wb : World} {a : Option Addr} {m c : Nat} {ls : List Int} {u v : World} (h : ISt wb a m c ls u) (hb : Below u.heap.size u v) : ISt wb a m c ls v :=
  ⟨own_up h.own hb, h.bel.trans (hb.mono h.size)⟩

theorem ISt.app {wb : World} {a : Option Addr} {m c : Nat} {ls : List Int} {u : World} (h : ISt wb a m c ls u) {x : Int} {o : Obj} {v : Value} {u' : World}
    (ho : u'.ownsRow wb.heap.size 3 1 v (m + 1) (ic ls ++ [.int .i64 x])) (hg : (u.alloc o).grownBy u' (Value.slice a m c).ownBlock) :
    ∃ a' c', v = .slice a' (m + 1) c' ∧ ISt wb a' (m + 1) c' (ls ++ [x]) u' := by
  obtain ⟨a', c', rfl⟩ := own_form ho
  rw [← ic_snoc] at ho
  refine ⟨a', c', rfl, ho, ?_⟩
  exact (h.bel.alloc h.size _).grown hg (by have := h.size; simp; omega) (fun j hj => (h.own.lt j hj).1)

theorem ISt.start (wb : World) : ISt wb (some ⟨wb.heap.size, 0, none⟩) 0 0 [] (wb.alloc (.cells #[] 3)) := by
  refine ⟨?_, (Below.refl _ _).alloc (Nat.le_refl _) _⟩
  have h0 := World.ownsRow_lit (base := wb.heap.size) (e := 3) (size := 1) wb #[] 0 (Nat.le_refl _) (by unfold maxLen; omega) (by simp)
  simpa [ic] using h0

theorem newsI (w : World) (x : Int) : ∀ j u, ([Value.int .i64 x] : List Value)[j]? = some u → (w.alloc (.cells #[.int .i64 x] 3)).cell? ((⟨w.heap.size, 0, none⟩ : Addr).add j) = some u := by
  intro j u hj
  rcases j with _ | j
  · simp at hj; subst hj; simp [Addr.add]
  · simp at hj

theorem ians_nil {w u : World} (h : Below w.heap.size w u) : IAns w [] (.returned (.slice none 0 0)) u := ⟨none, 0, 0, rfl, World.ownsRow_nil _ _ _ _, h⟩

end Go.Proofs.Ytgjnlhdgekfieaa
namespace Go.Proofs.Ytgjnlhdgekfieaa
open Go.RowKit

/-- a shard without edges, its Last zero -/
abbrev sv (i n : Int) : Value := .agg #[.int .i64 i, .int .i64 n, .slice none 0 0, .int .i64 0, .bool false, .slice none 0 0, .slice none 0 0]
set_option maxRecDepth 100000 in
theorem eqLedgeS_nil (w : World) : Calls Try.prog 20 #[.slice none 0 0, .slice none 0 0] w fun e w' => e = .returned (.bool true) ∧ w' = w := by
  go_enter Try.func20, Try.ntmps20
  go_wp2
  go_loopw [5] (fun q wr => q = .int .i64 0 ∧ wr = w) (fun _ _ => 0)
  case atStart => exact ⟨rfl, rfl⟩
  case round =>
    obtain ⟨rfl, rfl⟩ := hrel
    go_wp2
    go_ret
    exact ⟨rfl, rfl⟩
set_option maxRecDepth 100000 in
theorem eqEdgeS_nil (w : World) : Calls Try.prog 21 #[.slice none 0 0, .slice none 0 0] w fun e w' => e = .returned (.bool true) ∧ w' = w := by
  go_enter Try.func21, Try.ntmps21
  go_wp2
  go_loopw [5] (fun q wr => q = .int .i64 0 ∧ wr = w) (fun _ _ => 0)
  case atStart => exact ⟨rfl, rfl⟩
  case round =>
    obtain ⟨rfl, rfl⟩ := hrel
    go_wp2
    go_ret
    exact ⟨rfl, rfl⟩
set_option maxRecDepth 100000 in
theorem eqIntS_nil (w : World) : Calls Try.prog 22 #[.slice none 0 0, .slice none 0 0] w fun e w' => e = .returned (.bool true) ∧ w' = w := by
  go_enter Try.func22, Try.ntmps22
  go_wp2
  go_loopw [5] (fun q wr => q = .int .i64 0 ∧ wr = w) (fun _ _ => 0)
  case atStart => exact ⟨rfl, rfl⟩
  case round =>
    obtain ⟨rfl, rfl⟩ := hrel
    go_wp2
    go_ret
    exact ⟨rfl, rfl⟩
set_option maxRecDepth 100000 in
theorem markLedgeS_nil (k : Int) (w : World) : Calls Try.prog 23 #[.slice none 0 0, .int .i64 k] w fun e w' => e = .returned (.int .i64 k) ∧ w' = w := by
  go_enter Try.func23, Try.ntmps23
  go_wp2
  go_loopw [1, 5] (fun p q wr => p = .int .i64 k ∧ q = .int .i64 0 ∧ wr = w) (fun _ _ _ => 0)
  case atStart => exact ⟨rfl, rfl, rfl⟩
  case round =>
    obtain ⟨rfl, rfl, rfl⟩ := hrel
    go_wp2
    go_ret
    exact ⟨rfl, rfl⟩
set_option maxRecDepth 100000 in
theorem markEdgeS_nil (k : Int) (w : World) : Calls Try.prog 24 #[.slice none 0 0, .int .i64 k] w fun e w' => e = .returned (.int .i64 k) ∧ w' = w := by
  go_enter Try.func24, Try.ntmps24
  go_wp2
  go_loopw [1, 5] (fun p q wr => p = .int .i64 k ∧ q = .int .i64 0 ∧ wr = w) (fun _ _ _ => 0)
  case atStart => exact ⟨rfl, rfl, rfl⟩
  case round =>
    obtain ⟨rfl, rfl, rfl⟩ := hrel
    go_wp2
    go_ret
    exact ⟨rfl, rfl⟩
set_option maxRecDepth 100000 in
theorem markIntS_nil (k : Int) (w : World) : Calls Try.prog 25 #[.slice none 0 0, .int .i64 k] w fun e w' => e = .returned (.int .i64 k) ∧ w' = w := by
  go_enter Try.func25, Try.ntmps25
  go_wp2
  go_loopw [1, 5] (fun p q wr => p = .int .i64 k ∧ q = .int .i64 0 ∧ wr = w) (fun _ _ _ => 0)
  case atStart => exact ⟨rfl, rfl, rfl⟩
  case round =>
    obtain ⟨rfl, rfl, rfl⟩ := hrel
    go_wp2
    go_ret
    exact ⟨rfl, rfl⟩
set_option maxRecDepth 100000 in
theorem heldLedgeS_nil (k : Int) (w : World) : Calls Try.prog 26 #[.slice none 0 0, .int .i64 k] w fun e w' => e = .returned (.int .i64 k) ∧ w' = w := by
  go_enter Try.func26, Try.ntmps26
  go_wp2
  go_loopw [1, 5] (fun p q wr => p = .int .i64 k ∧ q = .int .i64 0 ∧ wr = w) (fun _ _ _ => 0)
  case atStart => exact ⟨rfl, rfl, rfl⟩
  case round =>
    obtain ⟨rfl, rfl, rfl⟩ := hrel
    go_wp2
    go_ret
    exact ⟨rfl, rfl⟩
set_option maxRecDepth 100000 in
theorem heldEdgeS_nil (k : Int) (w : World) : Calls Try.prog 27 #[.slice none 0 0, .int .i64 k] w fun e w' => e = .returned (.int .i64 k) ∧ w' = w := by
  go_enter Try.func27, Try.ntmps27
  go_wp2
  go_loopw [1, 5] (fun p q wr => p = .int .i64 k ∧ q = .int .i64 0 ∧ wr = w) (fun _ _ _ => 0)
  case atStart => exact ⟨rfl, rfl, rfl⟩
  case round =>
    obtain ⟨rfl, rfl, rfl⟩ := hrel
    go_wp2
    go_ret
    exact ⟨rfl, rfl⟩
set_option maxRecDepth 100000 in
theorem heldIntS_nil (k : Int) (w : World) : Calls Try.prog 28 #[.slice none 0 0, .int .i64 k] w fun e w' => e = .returned (.int .i64 k) ∧ w' = w := by
  go_enter Try.func28, Try.ntmps28
  go_wp2
  go_loopw [1, 5] (fun p q wr => p = .int .i64 k ∧ q = .int .i64 0 ∧ wr = w) (fun _ _ _ => 0)
  case atStart => exact ⟨rfl, rfl, rfl⟩
  case round =>
    obtain ⟨rfl, rfl, rfl⟩ := hrel
    go_wp2
    go_ret
    exact ⟨rfl, rfl⟩
set_option maxRecDepth 100000 in
theorem eqWeb0 (n : Int) (w : World) : Calls Try.prog 13 #[.agg #[.int .i64 n, .slice none 0 0], .agg #[.int .i64 n, .slice none 0 0]] w fun e w' => e = .returned (.bool true) ∧ Below w.heap.size w w' := by
  go_enter Try.func13, Try.ntmps13
  go_wp2_with (go_at_call 20; refine (eqLedgeS_nil _).mono ?_; rintro e w1 ⟨rfl, hw1⟩; have hw1' := hw1.symm; subst hw1')
  go_ret
  exact ⟨rfl, ((Below.refl _ _).alloc (Nat.le_refl _) _).alloc (by simp) _⟩
set_option maxRecDepth 100000 in
theorem eqAnswer0 (w : World) : Calls Try.prog 14 #[.agg #[.int .i64 0, .bool false, .slice none 0 0, .slice none 0 0], .agg #[.int .i64 0, .bool false, .slice none 0 0, .slice none 0 0]] w fun e w' => e = .returned (.bool true) ∧ Below w.heap.size w w' := by
  go_enter Try.func14, Try.ntmps14
  go_wp2_with (first | (go_at_call 21; refine (eqEdgeS_nil _).mono ?_; rintro e w1 ⟨rfl, hw1⟩; have hw1' := hw1.symm; subst hw1') | (go_at_call 22; refine (eqIntS_nil _).mono ?_; rintro e w1 ⟨rfl, hw1⟩; have hw1' := hw1.symm; subst hw1'))
  go_ret
  exact ⟨rfl, ((Below.refl _ _).alloc (Nat.le_refl _) _).alloc (by simp) _⟩
set_option maxRecDepth 100000 in
theorem markWeb0 (n k : Int) (w : World) : Calls Try.prog 15 #[.agg #[.int .i64 n, .slice none 0 0], .int .i64 k] w fun e w' => e = .returned (.int .i64 k) ∧ Below w.heap.size w w' := by
  go_enter Try.func15, Try.ntmps15
  go_wp2_with (go_at_call 23; refine (markLedgeS_nil _ _).mono ?_; rintro e w1 ⟨rfl, hw1⟩; have hw1' := hw1.symm; subst hw1')
  go_ret
  exact ⟨rfl, (Below.refl _ _).alloc (Nat.le_refl _) _⟩
set_option maxRecDepth 100000 in
theorem markAnswer0 (k : Int) (w : World) : Calls Try.prog 16 #[.agg #[.int .i64 0, .bool false, .slice none 0 0, .slice none 0 0], .int .i64 k] w fun e w' => e = .returned (.int .i64 k) ∧ Below w.heap.size w w' := by
  go_enter Try.func16, Try.ntmps16
  go_wp2_with (first | (go_at_call 24; refine (markEdgeS_nil _ _).mono ?_; rintro e w1 ⟨rfl, hw1⟩; have hw1' := hw1.symm; subst hw1') | (go_at_call 25; refine (markIntS_nil _ _).mono ?_; rintro e w1 ⟨rfl, hw1⟩; have hw1' := hw1.symm; subst hw1'))
  go_ret
  exact ⟨rfl, (Below.refl _ _).alloc (Nat.le_refl _) _⟩
set_option maxRecDepth 100000 in
theorem heldWeb0 (n : Int) (w : World) : Calls Try.prog 17 #[.agg #[.int .i64 n, .slice none 0 0], .int .i64 1] w fun e w' => e = .returned (.int .i64 1) ∧ Below w.heap.size w w' := by
  go_enter Try.func17, Try.ntmps17
  go_wp2_with (go_at_call 26; refine (heldLedgeS_nil _ _).mono ?_; rintro e w1 ⟨rfl, hw1⟩; have hw1' := hw1.symm; subst hw1')
  go_ret
  exact ⟨rfl, (Below.refl _ _).alloc (Nat.le_refl _) _⟩
set_option maxRecDepth 100000 in
theorem heldAnswer0 (w : World) : Calls Try.prog 18 #[.agg #[.int .i64 0, .bool false, .slice none 0 0, .slice none 0 0], .int .i64 1] w fun e w' => e = .returned (.int .i64 1) ∧ Below w.heap.size w w' := by
  go_enter Try.func18, Try.ntmps18
  go_wp2_with (first | (go_at_call 27; refine (heldEdgeS_nil _ _).mono ?_; rintro e w1 ⟨rfl, hw1⟩; have hw1' := hw1.symm; subst hw1') | (go_at_call 28; refine (heldIntS_nil _ _).mono ?_; rintro e w1 ⟨rfl, hw1⟩; have hw1' := hw1.symm; subst hw1'))
  go_ret
  exact ⟨rfl, (Below.refl _ _).alloc (Nat.le_refl _) _⟩
/-- a shard without edges in a block of its own -/
def Bk7 (w : World) (b : Nat) (i n : Int) : Prop := w.heap[b]? = some (.cells #[.int .i64 i, .int .i64 n, .slice none 0 0, .int .i64 0, .bool false, .slice none 0 0, .slice none 0 0] 30 (0, 0))
theorem Bk7.new (w : World) (i n : Int) (b : Nat) (hb : w.heap.size = b) : Bk7 (w.alloc (.cells #[.int .i64 i, .int .i64 n, .slice none 0 0, .int .i64 0, .bool false, .slice none 0 0, .slice none 0 0] 30)) b i n := by subst hb; exact heap_alloc_new w _
theorem Bk7.lt {w : World} {b : Nat} {i n : Int} (h : Bk7 w b i n) : b < w.heap.size := (Array.getElem?_eq_some_iff.1 h).1
theorem Bk7.up {w w' : World} {b : Nat} {i n : Int} (h : Bk7 w b i n) (hb : Below w.heap.size w w') : Bk7 w' b i n := by unfold Bk7; rw [hb.block b h.lt]; exact h
theorem Bk7.alloc {w : World} {b : Nat} {i n : Int} (h : Bk7 w b i n) (o : Obj) : Bk7 (w.alloc o) b i n := h.up ((Below.refl _ _).alloc (Nat.le_refl _) _)
theorem Bk7.frozen {w : World} {b : Nat} {i n : Int} (h : Bk7 w b i n) (j : Nat) : w.frozen? ⟨b, j, none⟩ = false := frozen_of_row w b j _ _ h
theorem Bk7.cells {w : World} {b : Nat} {i n : Int} (h : Bk7 w b i n) : w.cell? ⟨b, 0, none⟩ = some (.int .i64 i) ∧ w.cell? ⟨b, 1, none⟩ = some (.int .i64 n) ∧ w.cell? ⟨b, 2, none⟩ = some (.slice none 0 0) ∧ w.cell? ⟨b, 3, none⟩ = some (.int .i64 0) ∧ w.cell? ⟨b, 4, none⟩ = some (.bool false) ∧ w.cell? ⟨b, 5, none⟩ = some (.slice none 0 0) ∧ w.cell? ⟨b, 6, none⟩ = some (.slice none 0 0) := by
  refine ⟨?_, ?_, ?_, ?_, ?_, ?_, ?_⟩
  · rw [cell_of_row w b 0 _ _ _ h]; rfl
  · rw [cell_of_row w b 1 _ _ _ h]; rfl
  · rw [cell_of_row w b 2 _ _ _ h]; rfl
  · rw [cell_of_row w b 3 _ _ _ h]; rfl
  · rw [cell_of_row w b 4 _ _ _ h]; rfl
  · rw [cell_of_row w b 5 _ _ _ h]; rfl
  · rw [cell_of_row w b 6 _ _ _ h]; rfl
/-- a shard laid into its block -/
def s7 (u : World) (b : Nat) (i n : Int) : World := ((((((u.setCell ⟨b, 0, none⟩ (.int .i64 i)).setCell ⟨b, 1, none⟩ (.int .i64 n)).setCell ⟨b, 2, none⟩ (.slice none 0 0)).setCell ⟨b, 3, none⟩ (.int .i64 0)).setCell ⟨b, 4, none⟩ (.bool false)).setCell ⟨b, 5, none⟩ (.slice none 0 0)).setCell ⟨b, 6, none⟩ (.slice none 0 0)
theorem Bk7.set7 {u : World} {b : Nat} {i' n' : Int} (h : Bk7 u b i' n') (i n : Int) : Bk7 (s7 u b i n) b i n := by
  have h0 : (u.setCell ⟨b, 0, none⟩ (.int .i64 i)).heap[b]? = some (.cells #[.int .i64 i, .int .i64 n', .slice none 0 0, .int .i64 0, .bool false, .slice none 0 0, .slice none 0 0] 30 (0, 0)) := by rw [heap_setCell_same _ b 0 _ _ _ h]; rfl
  have h1 : ((u.setCell ⟨b, 0, none⟩ (.int .i64 i)).setCell ⟨b, 1, none⟩ (.int .i64 n)).heap[b]? = some (.cells #[.int .i64 i, .int .i64 n, .slice none 0 0, .int .i64 0, .bool false, .slice none 0 0, .slice none 0 0] 30 (0, 0)) := by rw [heap_setCell_same _ b 1 _ _ _ h0]; rfl
  have h2 : (((u.setCell ⟨b, 0, none⟩ (.int .i64 i)).setCell ⟨b, 1, none⟩ (.int .i64 n)).setCell ⟨b, 2, none⟩ (.slice none 0 0)).heap[b]? = some (.cells #[.int .i64 i, .int .i64 n, .slice none 0 0, .int .i64 0, .bool false, .slice none 0 0, .slice none 0 0] 30 (0, 0)) := by rw [heap_setCell_same _ b 2 _ _ _ h1]; rfl
  have h3 : ((((u.setCell ⟨b, 0, none⟩ (.int .i64 i)).setCell ⟨b, 1, none⟩ (.int .i64 n)).setCell ⟨b, 2, none⟩ (.slice none 0 0)).setCell ⟨b, 3, none⟩ (.int .i64 0)).heap[b]? = some (.cells #[.int .i64 i, .int .i64 n, .slice none 0 0, .int .i64 0, .bool false, .slice none 0 0, .slice none 0 0] 30 (0, 0)) := by rw [heap_setCell_same _ b 3 _ _ _ h2]; rfl
  have h4 : (((((u.setCell ⟨b, 0, none⟩ (.int .i64 i)).setCell ⟨b, 1, none⟩ (.int .i64 n)).setCell ⟨b, 2, none⟩ (.slice none 0 0)).setCell ⟨b, 3, none⟩ (.int .i64 0)).setCell ⟨b, 4, none⟩ (.bool false)).heap[b]? = some (.cells #[.int .i64 i, .int .i64 n, .slice none 0 0, .int .i64 0, .bool false, .slice none 0 0, .slice none 0 0] 30 (0, 0)) := by rw [heap_setCell_same _ b 4 _ _ _ h3]; rfl
  have h5 : ((((((u.setCell ⟨b, 0, none⟩ (.int .i64 i)).setCell ⟨b, 1, none⟩ (.int .i64 n)).setCell ⟨b, 2, none⟩ (.slice none 0 0)).setCell ⟨b, 3, none⟩ (.int .i64 0)).setCell ⟨b, 4, none⟩ (.bool false)).setCell ⟨b, 5, none⟩ (.slice none 0 0)).heap[b]? = some (.cells #[.int .i64 i, .int .i64 n, .slice none 0 0, .int .i64 0, .bool false, .slice none 0 0, .slice none 0 0] 30 (0, 0)) := by rw [heap_setCell_same _ b 5 _ _ _ h4]; rfl
  have h6 : (((((((u.setCell ⟨b, 0, none⟩ (.int .i64 i)).setCell ⟨b, 1, none⟩ (.int .i64 n)).setCell ⟨b, 2, none⟩ (.slice none 0 0)).setCell ⟨b, 3, none⟩ (.int .i64 0)).setCell ⟨b, 4, none⟩ (.bool false)).setCell ⟨b, 5, none⟩ (.slice none 0 0)).setCell ⟨b, 6, none⟩ (.slice none 0 0)).heap[b]? = some (.cells #[.int .i64 i, .int .i64 n, .slice none 0 0, .int .i64 0, .bool false, .slice none 0 0, .slice none 0 0] 30 (0, 0)) := by rw [heap_setCell_same _ b 6 _ _ _ h5]; rfl
  unfold Bk7 s7
  exact h6
theorem s7_below {w u : World} {b : Nat} {i n : Int} (h : Below w.heap.size w u) (hb : w.heap.size ≤ b) : Below w.heap.size w (s7 u b i n) :=
  ((((((h.setCell (p := ⟨b, 0, none⟩) hb _).setCell (p := ⟨b, 1, none⟩) hb _).setCell (p := ⟨b, 2, none⟩) hb _).setCell (p := ⟨b, 3, none⟩) hb _).setCell (p := ⟨b, 4, none⟩) hb _).setCell (p := ⟨b, 5, none⟩) hb _).setCell (p := ⟨b, 6, none⟩) hb _
set_option maxRecDepth 100000 in
theorem eqShard0 (i n : Int) (w : World) : Calls Try.prog 6 #[sv i n, sv i n] w fun e w' => e = .returned (.bool true) ∧ Below w.heap.size w w' := by
  have A0 : Bk7 ((w.alloc (.cells #[.int .i64 i, .int .i64 n, .slice none 0 0, .int .i64 0, .bool false, .slice none 0 0, .slice none 0 0] 30)).alloc (.cells #[.int .i64 i, .int .i64 n, .slice none 0 0, .int .i64 0, .bool false, .slice none 0 0, .slice none 0 0] 30)) w.heap.size i n := (Bk7.new w i n _ rfl).alloc _
  have A1 : Bk7 ((w.alloc (.cells #[.int .i64 i, .int .i64 n, .slice none 0 0, .int .i64 0, .bool false, .slice none 0 0, .slice none 0 0] 30)).alloc (.cells #[.int .i64 i, .int .i64 n, .slice none 0 0, .int .i64 0, .bool false, .slice none 0 0, .slice none 0 0] 30)) (w.heap.size + 1) i n := Bk7.new _ i n _ (by simp)
  have G2 : Good w ((w.alloc (.cells #[.int .i64 i, .int .i64 n, .slice none 0 0, .int .i64 0, .bool false, .slice none 0 0, .slice none 0 0] 30)).alloc (.cells #[.int .i64 i, .int .i64 n, .slice none 0 0, .int .i64 0, .bool false, .slice none 0 0, .slice none 0 0] 30)) := ((Good.refl w).alloc _).alloc _
  have HA0 := hideIt A0
  have HA1 := hideIt A1
  have HG2 := hideIt G2
  clear A0 A1 G2
  go_enter Try.func6, Try.ntmps6
  go_wp2_with (go_at_call 13; refine (eqWeb0 n _).mono ?_; rintro e w1 ⟨rfl, hb1⟩; refine Hid.out ?_)
  refine (show ∀ {p : Prop}, p → Hid p from fun h => h) ?_
  obtain ⟨a0, a1, a2, a3, a4, a5, a6⟩ := (HA0.out.up hb1).cells
  obtain ⟨c0, c1, c2, c3, c4, c5, c6⟩ := (HA1.out.up hb1).cells
  have HG := hideIt (HG2.out.up hb1)
  clear hb1 HG2
  go_wp2_with (go_at_call 14; refine (eqAnswer0 _).mono ?_; rintro e w2 ⟨rfl, hb2⟩; refine Hid.out ?_)
  refine (show ∀ {p : Prop}, p → Hid p from fun h => h) ?_
  have HF := hideIt (HG.out.up hb2)
  clear hb2 a0 a1 a2 a3 a4 a5 a6 c0 c1 c2 c3 c4 c5 c6 HG
  go_wp2
  go_ret
  exact ⟨rfl, HF.out⟩
set_option maxRecDepth 100000 in
theorem markShard0 (i n : Int) (w : World) : Calls Try.prog 7 #[sv i n, .int .i64 1] w fun e w' => e = .returned (.int .i64 1) ∧ Below w.heap.size w w' := by
  have HA0 := hideIt (Bk7.new w i n _ rfl)
  have HG2 : Hid (Good w (w.alloc (.cells #[.int .i64 i, .int .i64 n, .slice none 0 0, .int .i64 0, .bool false, .slice none 0 0, .slice none 0 0] 30))) := (Good.refl w).alloc _
  go_enter Try.func7, Try.ntmps7
  go_wp2_with (go_at_call 15; refine (markWeb0 n 1 _).mono ?_; rintro e w1 ⟨rfl, hb1⟩; refine Hid.out ?_)
  refine (show ∀ {p : Prop}, p → Hid p from fun h => h) ?_
  obtain ⟨a0, a1, a2, a3, a4, a5, a6⟩ := (HA0.out.up hb1).cells
  have HG := hideIt (HG2.out.up hb1)
  clear hb1 HG2
  go_wp2_with (go_at_call 16; refine (markAnswer0 1 _).mono ?_; rintro e w2 ⟨rfl, hb2⟩; refine Hid.out ?_)
  refine (show ∀ {p : Prop}, p → Hid p from fun h => h) ?_
  have HF := hideIt (HG.out.up hb2)
  clear hb2 a0 a1 a2 a3 a4 a5 a6 HG
  go_wp2
  go_ret
  exact ⟨rfl, HF.out⟩
set_option maxRecDepth 100000 in
theorem heldShard0 (i n : Int) (w : World) : Calls Try.prog 8 #[sv i n, .int .i64 1] w fun e w' => e = .returned (.int .i64 1) ∧ Below w.heap.size w w' := by
  have HA0 := hideIt (Bk7.new w i n _ rfl)
  have HG2 : Hid (Good w (w.alloc (.cells #[.int .i64 i, .int .i64 n, .slice none 0 0, .int .i64 0, .bool false, .slice none 0 0, .slice none 0 0] 30))) := (Good.refl w).alloc _
  go_enter Try.func8, Try.ntmps8
  go_wp2_with (go_at_call 17; refine (heldWeb0 n _).mono ?_; rintro e w1 ⟨rfl, hb1⟩; refine Hid.out ?_)
  refine (show ∀ {p : Prop}, p → Hid p from fun h => h) ?_
  obtain ⟨a0, a1, a2, a3, a4, a5, a6⟩ := (HA0.out.up hb1).cells
  have HG := hideIt (HG2.out.up hb1)
  clear hb1 HG2
  go_wp2_with (go_at_call 18; refine (heldAnswer0 _).mono ?_; rintro e w2 ⟨rfl, hb2⟩; refine Hid.out ?_)
  refine (show ∀ {p : Prop}, p → Hid p from fun h => h) ?_
  have HF := hideIt (HG.out.up hb2)
  clear hb2 a0 a1 a2 a3 a4 a5 a6 HG
  go_wp2
  go_ret
  exact ⟨rfl, HF.out⟩
end Go.Proofs.Ytgjnlhdgekfieaa
namespace Go.Proofs.Ytgjnlhdgekfieaa
open Go.RowKit

theorem vertsOk_any (x : Int) (w : World) : Calls Try.prog 19 #[.int .i64 x] w fun e w' => e = .returned (.bool (decide (1 ≤ x ∧ x ≤ 12))) ∧ w' = w := by
  by_cases h1 : 1 ≤ x
  · by_cases h2 : x ≤ 12
    · have d1 : decide (1 ≤ x) = true := by simpa using h1
      have d2 : decide (x ≤ 12) = true := by simpa using h2
      go_enter Try.func19, Try.ntmps19
      go_wp2
      go_ret
      exact ⟨by simp [h1, h2], rfl⟩
    · have d1 : decide (1 ≤ x) = true := by simpa using h1
      have d2 : decide (x ≤ 12) = false := by simpa using h2
      go_enter Try.func19, Try.ntmps19
      go_wp2
      go_ret
      exact ⟨by simp, rfl⟩
  · have d1 : decide (1 ≤ x) = false := by simpa using h1
    go_enter Try.func19, Try.ntmps19
    go_wp2
    go_ret
    exact ⟨by simp, rfl⟩

theorem shardIdOk_any (x : Int) (w : World) : Calls Try.prog 12 #[.int .i64 x] w fun e w' => e = .returned (.bool (decide (1 ≤ x ∧ x ≤ 3))) ∧ w' = w := by
  by_cases h1 : 1 ≤ x
  · by_cases h2 : x ≤ 3
    · have d1 : decide (1 ≤ x) = true := by simpa using h1
      have d2 : decide (x ≤ 3) = true := by simpa using h2
      go_enter Try.func12, Try.ntmps12
      go_wp2
      go_ret
      exact ⟨by simp [h1, h2], rfl⟩
    · have d1 : decide (1 ≤ x) = true := by simpa using h1
      have d2 : decide (x ≤ 3) = false := by simpa using h2
      go_enter Try.func12, Try.ntmps12
      go_wp2
      go_ret
      exact ⟨by simp, rfl⟩
  · have d1 : decide (1 ≤ x) = false := by simpa using h1
    go_enter Try.func12, Try.ntmps12
    go_wp2
    go_ret
    exact ⟨by simp, rfl⟩

/-- what WebNew answers -/
def wnM (n : Int) : Int := if 1 ≤ n ∧ n ≤ 12 then n else 0
def wnB (n : Int) : Bool := decide (1 ≤ n ∧ n ≤ 12)
theorem sWebNew_any (n : Int) (w : World) : Calls Try.prog 9 #[.int .i64 n] w fun e w' => e = .returned (.tuple #[.agg #[.int .i64 (wnM n), .slice none 0 0], .bool (wnB n)]) ∧ Below w.heap.size w w' := by
  by_cases h : 1 ≤ n ∧ n ≤ 12
  · have e1 : wnM n = n := by unfold wnM; rw [if_pos h]
    have e2 : wnB n = true := decide_eq_true h
    rw [e1, e2]
    have HI : Hid (∀ u, Calls Try.prog 10 #[.int .i64 n, .int .i64 1, .int .i64 12] u fun e w' => e = .returned (.bool true) ∧ w' = u) := fun u => by
      have := l01In_any n 1 12 u
      rw [decide_eq_true h] at this
      exact this
    clear e1 e2
    go_enter Try.func9, Try.ntmps9
    go_wp2_with (go_at_call 10; refine (HI.out _).mono ?_; rintro e w1 ⟨rfl, rfl⟩)
    exact bodyPost_ret (v := .tuple #[.agg #[.int .i64 n, .slice none 0 0], .bool true]) (by simp [results, Try.results9, go_sem]) rfl ⟨rfl, (Below.refl _ _).alloc (Nat.le_refl _) _⟩
  · have e1 : wnM n = 0 := by unfold wnM; rw [if_neg h]
    have e2 : wnB n = false := decide_eq_false h
    rw [e1, e2]
    have HI : Hid (∀ u, Calls Try.prog 10 #[.int .i64 n, .int .i64 1, .int .i64 12] u fun e w' => e = .returned (.bool false) ∧ w' = u) := fun u => by
      have := l01In_any n 1 12 u
      rw [decide_eq_false h] at this
      exact this
    clear e1 e2
    go_enter Try.func9, Try.ntmps9
    go_wp2_with (go_at_call 10; refine (HI.out _).mono ?_; rintro e w1 ⟨rfl, rfl⟩)
    exact bodyPost_ret (v := .tuple #[.agg #[.int .i64 0, .slice none 0 0], .bool false]) (by simp [results, Try.results9, go_sem]) rfl ⟨rfl, (Below.refl _ _).alloc (Nat.le_refl _) _⟩
theorem iWebNew_any (n : Int) (w : World) : Calls Try.prog 11 #[.int .i64 n] w fun e w' => e = .returned (.tuple #[.agg #[.int .i64 (wnM n), .slice none 0 0], .bool (wnB n)]) ∧ Below w.heap.size w w' := by
  by_cases h : 1 ≤ n ∧ n ≤ 12
  · have e1 : wnM n = n := by unfold wnM; rw [if_pos h]
    have e2 : wnB n = true := decide_eq_true h
    rw [e1, e2]
    have HI : Hid (∀ u, Calls Try.prog 19 #[.int .i64 n] u fun e w' => e = .returned (.bool true) ∧ w' = u) := fun u => by
      have := vertsOk_any n u
      rw [decide_eq_true h] at this
      exact this
    clear e1 e2
    go_enter Try.func11, Try.ntmps11
    go_wp2_with (go_at_call 19; refine (HI.out _).mono ?_; rintro e w1 ⟨rfl, rfl⟩)
    exact bodyPost_ret (v := .tuple #[.agg #[.int .i64 n, .slice none 0 0], .bool true]) (by simp [results, Try.results11, go_sem]) rfl ⟨rfl, (Below.refl _ _).alloc (Nat.le_refl _) _⟩
  · have e1 : wnM n = 0 := by unfold wnM; rw [if_neg h]
    have e2 : wnB n = false := decide_eq_false h
    rw [e1, e2]
    have HI : Hid (∀ u, Calls Try.prog 19 #[.int .i64 n] u fun e w' => e = .returned (.bool false) ∧ w' = u) := fun u => by
      have := vertsOk_any n u
      rw [decide_eq_false h] at this
      exact this
    clear e1 e2
    go_enter Try.func11, Try.ntmps11
    go_wp2_with (go_at_call 19; refine (HI.out _).mono ?_; rintro e w1 ⟨rfl, rfl⟩)
    exact bodyPost_ret (v := .tuple #[.agg #[.int .i64 0, .slice none 0 0], .bool false]) (by simp [results, Try.results11, go_sem]) rfl ⟨rfl, (Below.refl _ _).alloc (Nat.le_refl _) _⟩

/-- what ShardNew answers -/
def snB (i n : Int) : Bool := decide ((1 ≤ n ∧ n ≤ 12) ∧ 1 ≤ i ∧ i ≤ 3)
def snI (i n : Int) : Int := if snB i n then i else 0
def snN (i n : Int) : Int := if snB i n then n else 0
set_option maxRecDepth 100000 in
theorem iShardNew_any (i n : Int) (w : World) : Calls Try.prog 5 #[.int .i64 i, .int .i64 n] w fun e w' => e = .returned (.tuple #[sv (snI i n) (snN i n), .bool (snB i n)]) ∧ Below w.heap.size w w' := by
  have HWn := hideIt (fun u => iWebNew_any n u)
  by_cases hn : 1 ≤ n ∧ n ≤ 12
  · have q1 : wnM n = n := by unfold wnM; rw [if_pos hn]
    have q2 : wnB n = true := decide_eq_true hn
    rw [q1, q2] at HWn
    by_cases hi : 1 ≤ i ∧ i ≤ 3
    · have e0 : snB i n = true := decide_eq_true ⟨hn, hi⟩
      have e1 : snI i n = i := by unfold snI; rw [if_pos e0]
      have e2 : snN i n = n := by unfold snN; rw [if_pos e0]
      have HI : Hid (∀ u, Calls Try.prog 12 #[.int .i64 i] u fun e w' => e = .returned (.bool true) ∧ w' = u) := fun u => by
        have := shardIdOk_any i u
        rw [decide_eq_true hi] at this
        exact this
      rw [e0, e1, e2]
      clear e0 e1 e2 q1 q2 hn hi
      go_enter Try.func5, Try.ntmps5
      go_wp2_with (go_at_call 11; refine (HWn.out _).mono ?_; rintro e w1 ⟨rfl, hb1⟩; refine Hid.out ?_)
      refine (show ∀ {p : Prop}, p → Hid p from fun h => h) ?_
      have g1 : Below w.heap.size w w1 := ((Below.refl _ w).alloc (Nat.le_refl _) _).trans (hb1.mono (by simp))
      have B7 : Bk7 w1 w.heap.size 0 0 := (Bk7.new w 0 0 _ rfl).up hb1
      obtain ⟨c0, c1, c2, c3, c4, c5, c6⟩ := B7.cells
      have f0 := B7.frozen 0
      have f1 := B7.frozen 1
      have f2 := B7.frozen 2
      have f3 := B7.frozen 3
      have f4 := B7.frozen 4
      have f5 := B7.frozen 5
      have f6 := B7.frozen 6
      have lt1 := B7.lt
      obtain ⟨t0, t1, t2, t3, t4, t5, t6⟩ := ((B7.set7 (i) (n)).alloc (.cells #[.int .i64 (n), .slice none 0 0] 24)).cells
      have HZ := hideIt ((s7_below (i := i) (n := n) g1 (Nat.le_refl _)).alloc (by simp [s7]; omega) (.cells #[.int .i64 (n), .slice none 0 0] 24))
      unfold s7 at t0 t1 t2 t3 t4 t5 t6 HZ
      clear hb1 HWn B7 g1
      go_wp2_with (go_at_call 12; refine (HI.out _).mono ?_; rintro e w2 ⟨rfl, hw2⟩; have hw2' := hw2.symm; subst hw2')
      exact bodyPost_ret (v := .tuple #[sv (i) (n), .bool true]) (by simp [results, Try.results5, go_sem, t0, t1, t2, t3, t4, t5, t6]) rfl ⟨rfl, HZ.out⟩
    · have e0 : snB i n = false := decide_eq_false fun h => hi h.2
      have e1 : snI i n = 0 := by unfold snI; rw [if_neg (by rw [e0]; simp)]
      have e2 : snN i n = 0 := by unfold snN; rw [if_neg (by rw [e0]; simp)]
      have HI : Hid (∀ u, Calls Try.prog 12 #[.int .i64 i] u fun e w' => e = .returned (.bool false) ∧ w' = u) := fun u => by
        have := shardIdOk_any i u
        rw [decide_eq_false hi] at this
        exact this
      rw [e0, e1, e2]
      clear e0 e1 e2 q1 q2 hn hi
      go_enter Try.func5, Try.ntmps5
      go_wp2_with (go_at_call 11; refine (HWn.out _).mono ?_; rintro e w1 ⟨rfl, hb1⟩; refine Hid.out ?_)
      refine (show ∀ {p : Prop}, p → Hid p from fun h => h) ?_
      have g1 : Below w.heap.size w w1 := ((Below.refl _ w).alloc (Nat.le_refl _) _).trans (hb1.mono (by simp))
      have B7 : Bk7 w1 w.heap.size 0 0 := (Bk7.new w 0 0 _ rfl).up hb1
      obtain ⟨c0, c1, c2, c3, c4, c5, c6⟩ := B7.cells
      have f0 := B7.frozen 0
      have f1 := B7.frozen 1
      have f2 := B7.frozen 2
      have f3 := B7.frozen 3
      have f4 := B7.frozen 4
      have f5 := B7.frozen 5
      have f6 := B7.frozen 6
      have lt1 := B7.lt
      obtain ⟨t0, t1, t2, t3, t4, t5, t6⟩ := ((B7.set7 (0) (0)).alloc (.cells #[.int .i64 (n), .slice none 0 0] 24)).cells
      have HZ := hideIt ((s7_below (i := 0) (n := 0) g1 (Nat.le_refl _)).alloc (by simp [s7]; omega) (.cells #[.int .i64 (n), .slice none 0 0] 24))
      unfold s7 at t0 t1 t2 t3 t4 t5 t6 HZ
      clear hb1 HWn B7 g1
      go_wp2_with (go_at_call 12; refine (HI.out _).mono ?_; rintro e w2 ⟨rfl, hw2⟩; have hw2' := hw2.symm; subst hw2')
      exact bodyPost_ret (v := .tuple #[sv (0) (0), .bool false]) (by simp [results, Try.results5, go_sem, t0, t1, t2, t3, t4, t5, t6]) rfl ⟨rfl, HZ.out⟩
  · have q1 : wnM n = 0 := by unfold wnM; rw [if_neg hn]
    have q2 : wnB n = false := decide_eq_false hn
    rw [q1, q2] at HWn
    have e0 : snB i n = false := decide_eq_false fun h => hn h.1
    have e1 : snI i n = 0 := by unfold snI; rw [if_neg (by rw [e0]; simp)]
    have e2 : snN i n = 0 := by unfold snN; rw [if_neg (by rw [e0]; simp)]
    rw [e0, e1, e2]
    clear e0 e1 e2 q1 q2 hn
    go_enter Try.func5, Try.ntmps5
    go_wp2_with (go_at_call 11; refine (HWn.out _).mono ?_; rintro e w1 ⟨rfl, hb1⟩; refine Hid.out ?_)
    refine (show ∀ {p : Prop}, p → Hid p from fun h => h) ?_
    have g1 : Below w.heap.size w w1 := ((Below.refl _ w).alloc (Nat.le_refl _) _).trans (hb1.mono (by simp))
    have B7 : Bk7 w1 w.heap.size 0 0 := (Bk7.new w 0 0 _ rfl).up hb1
    obtain ⟨c0, c1, c2, c3, c4, c5, c6⟩ := B7.cells
    have f0 := B7.frozen 0
    have f1 := B7.frozen 1
    have f2 := B7.frozen 2
    have f3 := B7.frozen 3
    have f4 := B7.frozen 4
    have f5 := B7.frozen 5
    have f6 := B7.frozen 6
    have lt1 := B7.lt
    obtain ⟨t0, t1, t2, t3, t4, t5, t6⟩ := ((B7.set7 (0) (0)).alloc (.cells #[.int .i64 (0), .slice none 0 0] 24)).cells
    have HZ := hideIt ((s7_below (i := 0) (n := 0) g1 (Nat.le_refl _)).alloc (by simp [s7]; omega) (.cells #[.int .i64 (0), .slice none 0 0] 24))
    unfold s7 at t0 t1 t2 t3 t4 t5 t6 HZ
    clear hb1 HWn B7 g1
    go_wp2
    exact bodyPost_ret (v := .tuple #[sv (0) (0), .bool false]) (by simp [results, Try.results5, go_sem, t0, t1, t2, t3, t4, t5, t6]) rfl ⟨rfl, HZ.out⟩
set_option maxRecDepth 100000 in
theorem sShardNew_any (i n : Int) (w : World) : Calls Try.prog 4 #[.int .i64 i, .int .i64 n] w fun e w' => e = .returned (.tuple #[sv (snI i n) (snN i n), .bool (snB i n)]) ∧ Below w.heap.size w w' := by
  have HWn := hideIt (fun u => sWebNew_any n u)
  by_cases hn : 1 ≤ n ∧ n ≤ 12
  · have q1 : wnM n = n := by unfold wnM; rw [if_pos hn]
    have q2 : wnB n = true := decide_eq_true hn
    rw [q1, q2] at HWn
    by_cases hi : 1 ≤ i ∧ i ≤ 3
    · have e0 : snB i n = true := decide_eq_true ⟨hn, hi⟩
      have e1 : snI i n = i := by unfold snI; rw [if_pos e0]
      have e2 : snN i n = n := by unfold snN; rw [if_pos e0]
      have HI : Hid (∀ u, Calls Try.prog 10 #[.int .i64 i, .int .i64 1, .int .i64 3] u fun e w' => e = .returned (.bool true) ∧ w' = u) := fun u => by
        have := l01In_any i 1 3 u
        rw [decide_eq_true hi] at this
        exact this
      rw [e0, e1, e2]
      clear e0 e1 e2 q1 q2 hn hi
      go_enter Try.func4, Try.ntmps4
      go_wp2_with (go_at_call 9; refine (HWn.out _).mono ?_; rintro e w1 ⟨rfl, hb1⟩; refine Hid.out ?_)
      refine (show ∀ {p : Prop}, p → Hid p from fun h => h) ?_
      have g1 : Below w.heap.size w w1 := ((Below.refl _ w).alloc (Nat.le_refl _) _).trans (hb1.mono (by simp))
      have B7 : Bk7 w1 w.heap.size 0 0 := (Bk7.new w 0 0 _ rfl).up hb1
      obtain ⟨c0, c1, c2, c3, c4, c5, c6⟩ := B7.cells
      have f0 := B7.frozen 0
      have f1 := B7.frozen 1
      have f2 := B7.frozen 2
      have f3 := B7.frozen 3
      have f4 := B7.frozen 4
      have f5 := B7.frozen 5
      have f6 := B7.frozen 6
      have lt1 := B7.lt
      obtain ⟨t0, t1, t2, t3, t4, t5, t6⟩ := ((B7.set7 (i) (n)).alloc (.cells #[.int .i64 (n), .slice none 0 0] 24)).cells
      have HZ := hideIt ((s7_below (i := i) (n := n) g1 (Nat.le_refl _)).alloc (by simp [s7]; omega) (.cells #[.int .i64 (n), .slice none 0 0] 24))
      unfold s7 at t0 t1 t2 t3 t4 t5 t6 HZ
      clear hb1 HWn B7 g1
      go_wp2_with (go_at_call 10; refine (HI.out _).mono ?_; rintro e w2 ⟨rfl, hw2⟩; have hw2' := hw2.symm; subst hw2')
      exact bodyPost_ret (v := .tuple #[sv (i) (n), .bool true]) (by simp [results, Try.results4, go_sem, t0, t1, t2, t3, t4, t5, t6]) rfl ⟨rfl, HZ.out⟩
    · have e0 : snB i n = false := decide_eq_false fun h => hi h.2
      have e1 : snI i n = 0 := by unfold snI; rw [if_neg (by rw [e0]; simp)]
      have e2 : snN i n = 0 := by unfold snN; rw [if_neg (by rw [e0]; simp)]
      have HI : Hid (∀ u, Calls Try.prog 10 #[.int .i64 i, .int .i64 1, .int .i64 3] u fun e w' => e = .returned (.bool false) ∧ w' = u) := fun u => by
        have := l01In_any i 1 3 u
        rw [decide_eq_false hi] at this
        exact this
      rw [e0, e1, e2]
      clear e0 e1 e2 q1 q2 hn hi
      go_enter Try.func4, Try.ntmps4
      go_wp2_with (go_at_call 9; refine (HWn.out _).mono ?_; rintro e w1 ⟨rfl, hb1⟩; refine Hid.out ?_)
      refine (show ∀ {p : Prop}, p → Hid p from fun h => h) ?_
      have g1 : Below w.heap.size w w1 := ((Below.refl _ w).alloc (Nat.le_refl _) _).trans (hb1.mono (by simp))
      have B7 : Bk7 w1 w.heap.size 0 0 := (Bk7.new w 0 0 _ rfl).up hb1
      obtain ⟨c0, c1, c2, c3, c4, c5, c6⟩ := B7.cells
      have f0 := B7.frozen 0
      have f1 := B7.frozen 1
      have f2 := B7.frozen 2
      have f3 := B7.frozen 3
      have f4 := B7.frozen 4
      have f5 := B7.frozen 5
      have f6 := B7.frozen 6
      have lt1 := B7.lt
      obtain ⟨t0, t1, t2, t3, t4, t5, t6⟩ := ((B7.set7 (0) (0)).alloc (.cells #[.int .i64 (n), .slice none 0 0] 24)).cells
      have HZ := hideIt ((s7_below (i := 0) (n := 0) g1 (Nat.le_refl _)).alloc (by simp [s7]; omega) (.cells #[.int .i64 (n), .slice none 0 0] 24))
      unfold s7 at t0 t1 t2 t3 t4 t5 t6 HZ
      clear hb1 HWn B7 g1
      go_wp2_with (go_at_call 10; refine (HI.out _).mono ?_; rintro e w2 ⟨rfl, hw2⟩; have hw2' := hw2.symm; subst hw2')
      exact bodyPost_ret (v := .tuple #[sv (0) (0), .bool false]) (by simp [results, Try.results4, go_sem, t0, t1, t2, t3, t4, t5, t6]) rfl ⟨rfl, HZ.out⟩
  · have q1 : wnM n = 0 := by unfold wnM; rw [if_neg hn]
    have q2 : wnB n = false := decide_eq_false hn
    rw [q1, q2] at HWn
    have e0 : snB i n = false := decide_eq_false fun h => hn h.1
    have e1 : snI i n = 0 := by unfold snI; rw [if_neg (by rw [e0]; simp)]
    have e2 : snN i n = 0 := by unfold snN; rw [if_neg (by rw [e0]; simp)]
    rw [e0, e1, e2]
    clear e0 e1 e2 q1 q2 hn
    go_enter Try.func4, Try.ntmps4
    go_wp2_with (go_at_call 9; refine (HWn.out _).mono ?_; rintro e w1 ⟨rfl, hb1⟩; refine Hid.out ?_)
    refine (show ∀ {p : Prop}, p → Hid p from fun h => h) ?_
    have g1 : Below w.heap.size w w1 := ((Below.refl _ w).alloc (Nat.le_refl _) _).trans (hb1.mono (by simp))
    have B7 : Bk7 w1 w.heap.size 0 0 := (Bk7.new w 0 0 _ rfl).up hb1
    obtain ⟨c0, c1, c2, c3, c4, c5, c6⟩ := B7.cells
    have f0 := B7.frozen 0
    have f1 := B7.frozen 1
    have f2 := B7.frozen 2
    have f3 := B7.frozen 3
    have f4 := B7.frozen 4
    have f5 := B7.frozen 5
    have f6 := B7.frozen 6
    have lt1 := B7.lt
    obtain ⟨t0, t1, t2, t3, t4, t5, t6⟩ := ((B7.set7 (0) (0)).alloc (.cells #[.int .i64 (0), .slice none 0 0] 24)).cells
    have HZ := hideIt ((s7_below (i := 0) (n := 0) g1 (Nat.le_refl _)).alloc (by simp [s7]; omega) (.cells #[.int .i64 (0), .slice none 0 0] 24))
    unfold s7 at t0 t1 t2 t3 t4 t5 t6 HZ
    clear hb1 HWn B7 g1
    go_wp2
    exact bodyPost_ret (v := .tuple #[sv (0) (0), .bool false]) (by simp [results, Try.results4, go_sem, t0, t1, t2, t3, t4, t5, t6]) rfl ⟨rfl, HZ.out⟩
set_option maxRecDepth 100000 in
set_option maxHeartbeats 4000000 in
theorem fnExactShardNew.walk (i : Int) (_hi : (Lit.int .i64 i).wf = true) (n : Int) (_hn : (Lit.int .i64 n).wf = true) (w : World) :
    Calls Try.prog 3 #[.int .i64 i, .int .i64 n] w fun e w' => e = .returned (.bool true) ∧ Below w.heap.size w w' := by
  have HS := hideIt (fun u => sShardNew_any i n u)
  have HI := hideIt (fun u => iShardNew_any i n u)
  generalize snI i n = I at *
  generalize snN i n = M at *
  generalize snB i n = b at *
  have hbb : (b != b) = false := by simp
  have HE := hideIt (fun u => eqShard0 I M u)
  have HM := hideIt (fun u => markShard0 I M u)
  have HH := hideIt (fun u => heldShard0 I M u)
  go_enter Try.func3, Try.ntmps3
  go_wp2_with (go_at_call 4; refine (HS.out _).mono ?_; rintro e w1 ⟨rfl, hb1⟩; refine Hid.out ?_)
  refine (show ∀ {p : Prop}, p → Hid p from fun h => h) ?_
  obtain ⟨W1, hW1⟩ : ∃ W1, W1 = w1.alloc (.cells #[.int .i64 I, .int .i64 M, .slice none 0 0, .int .i64 0, .bool false, .slice none 0 0, .slice none 0 0] 30) := ⟨_, rfl⟩
  have g1 : Good w W1 := by rw [hW1]; exact Good.alloc hb1 _
  have A1 : Bk7 W1 w1.heap.size I M := by rw [hW1]; exact Bk7.new _ _ _ _ rfl
  clear hb1
  go_upto_region 2 with fail
  rw [← hW1]
  clear hW1
  generalize w1.heap.size = bw at *
  go_wp2_with (go_at_call 5; refine (HI.out _).mono ?_; rintro e w2 ⟨rfl, hb2⟩; refine Hid.out ?_)
  refine (show ∀ {p : Prop}, p → Hid p from fun h => h) ?_
  obtain ⟨W2, hW2⟩ : ∃ W2, W2 = w2.alloc (.cells #[.int .i64 I, .int .i64 M, .slice none 0 0, .int .i64 0, .bool false, .slice none 0 0, .slice none 0 0] 30) := ⟨_, rfl⟩
  have g2 : Good w W2 := by rw [hW2]; exact (g1.up hb2).alloc _
  have B2 : Bk7 W2 w2.heap.size I M := by rw [hW2]; exact Bk7.new _ _ _ _ rfl
  have A2 : Bk7 W2 bw I M := by rw [hW2]; exact (A1.up hb2).alloc _
  clear hb2 g1 A1
  go_upto_region 3 with fail
  rw [← hW2]
  clear hW2
  generalize w2.heap.size = bg at *
  obtain ⟨a0, a1, a2, a3, a4, a5, a6⟩ := A2.cells
  obtain ⟨c0, c1, c2, c3, c4, c5, c6⟩ := B2.cells
  go_wp2_with (go_at_call 6; refine (HE.out _).mono ?_; rintro e w3 ⟨rfl, hb3⟩; refine Hid.out ?_)
  refine (show ∀ {p : Prop}, p → Hid p from fun h => h) ?_
  have g3 := g2.up hb3
  have B3 := B2.up hb3
  have A3 := A2.up hb3
  clear a0 a1 a2 a3 a4 a5 a6 c0 c1 c2 c3 c4 c5 c6 hb3 g2 B2 A2
  obtain ⟨c0, c1, c2, c3, c4, c5, c6⟩ := B3.cells
  go_wp2_with (go_at_call 7; refine (HM.out _).mono ?_; rintro e w4 ⟨rfl, hb4⟩; refine Hid.out ?_)
  refine (show ∀ {p : Prop}, p → Hid p from fun h => h) ?_
  have g4 := g3.up hb4
  have B4 := B3.up hb4
  have A4 := A3.up hb4
  clear c0 c1 c2 c3 c4 c5 c6 hb4 g3 B3 A3
  obtain ⟨c0, c1, c2, c3, c4, c5, c6⟩ := B4.cells
  go_wp2_with (go_at_call 8; refine (HH.out _).mono ?_; rintro e w5 ⟨rfl, hb5⟩; refine Hid.out ?_)
  refine (show ∀ {p : Prop}, p → Hid p from fun h => h) ?_
  have g5 := g4.up hb5
  have B5 := B4.up hb5
  have A5 := A4.up hb5
  clear c0 c1 c2 c3 c4 c5 c6 hb5 g4 B4 A4
  go_wp2_with (go_at_call 5; refine (HI.out _).mono ?_; rintro e w6 ⟨rfl, hb6⟩; refine Hid.out ?_)
  refine (show ∀ {p : Prop}, p → Hid p from fun h => h) ?_
  obtain ⟨W6, hW6⟩ : ∃ W6, W6 = w6.alloc (.cells #[.int .i64 I, .int .i64 M, .slice none 0 0, .int .i64 0, .bool false, .slice none 0 0, .slice none 0 0] 30) := ⟨_, rfl⟩
  have g6 : Good w W6 := by rw [hW6]; exact (g5.up hb6).alloc _
  have H6 : Bk7 W6 w6.heap.size I M := by rw [hW6]; exact Bk7.new _ _ _ _ rfl
  have A6 : Bk7 W6 bw I M := by rw [hW6]; exact (A5.up hb6).alloc _
  have B6 : Bk7 W6 bg I M := by rw [hW6]; exact (B5.up hb6).alloc _
  clear hb6 g5 A5 B5
  go_upto_region 14 with fail
  rw [← hW6]
  clear hW6
  generalize w6.heap.size = bh at *
  obtain ⟨a0, a1, a2, a3, a4, a5, a6⟩ := A6.cells
  obtain ⟨c0, c1, c2, c3, c4, c5, c6⟩ := H6.cells
  go_wp2_with (go_at_call 6; refine (HE.out _).mono ?_; rintro e w7 ⟨rfl, hb7⟩; refine Hid.out ?_)
  refine (show ∀ {p : Prop}, p → Hid p from fun h => h) ?_
  have g7 := g6.up hb7
  have B7 := B6.up hb7
  clear a0 a1 a2 a3 a4 a5 a6 c0 c1 c2 c3 c4 c5 c6 hb7 g6 B6 A6 H6
  obtain ⟨c0, c1, c2, c3, c4, c5, c6⟩ := B7.cells
  go_wp2_with (go_at_call 8; refine (HH.out _).mono ?_; rintro e w8 ⟨rfl, hb8⟩; refine Hid.out ?_)
  refine (show ∀ {p : Prop}, p → Hid p from fun h => h) ?_
  have HF := hideIt (g7.up hb8)
  clear hb8 g7 B7 c0 c1 c2 c3 c4 c5 c6
  go_wp2
  go_ret
  exact ⟨rfl, HF.out⟩
end Go.Proofs.Ytgjnlhdgekfieaa
