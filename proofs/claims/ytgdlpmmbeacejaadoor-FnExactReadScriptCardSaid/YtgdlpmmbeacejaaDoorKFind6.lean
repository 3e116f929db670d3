/- Lists of ints in memory; what the texts of chapter 6 share. ShardNew on both sides, and the law's looks at a shard without any edges. Lists of a new world: none of packets, calls, records, files; of disks that are blank; of true. Rows of new shards: compared, marked, held. Tours, as lists: a walk that goes down to a new vertex, or back up to the one that it came from; a tour from another vertex on; two that are joined; one that is split. Places in a list of ints: the first one of a number, the last one, the first step from one number to another. -/
import Derived.Test.YtgdlpmmbeacejaaDoorProg
import GoSem.Claim
import GoSem.ClaimJoined
import GoSem.ClaimMapViews
import Derived.JoinedTies
import Derived.KernelRfl
import Derived.RowKit
import Derived.WalkKit
import Derived.WalkSpells
import Derived.WalkSmall
import Derived.OwnWalk
import Derived.BigQuiet
import Derived.Deep.QuietTactic
import Derived.Deep.MidRow
import Derived.Deep.RegionHeld3
import Derived.Deep.AppendLies
import Derived.Deep.DeepCutAuto
import Derived.Deep.RegionLaw
namespace Go.Proofs.YtgdlpmmbeacejaaDoor
open Go.RowKit

theorem hideIt {p : Prop} (h : p) : Hid p := h

/-- an operation that its guard passes over is taken first -/
theorem skipOp {P : Program} {ops : Array Oper} {Q : Exit → Go.Act → World → Prop} {md : Region.Mode} {i : Nat} {oi : Oper} {fuel : Nat} {listed : Array Bool} {a : Go.Act} {w : World} (hi : ops[i]? = some oi)
    (hs : Region.noSelect ops = true) (hf : Region.free md ops listed i = true) (hr : (Region.ready md ops listed).contains i = true) (hQ : ∀ c a w, Q (.panic c) (a.put oi.dst undef) w → Q (.panic c) a w)
    (hw : Region.wanted oi (yielded ops a.tmps) = false) (h : wpAny P md ops Q fuel (listed.setIfInBounds i true) (a.put oi.dst undef) w) : wpAny P md ops Q (fuel + 1) listed a w :=
  wpAny_take hi hs hf hr hQ (.inr ⟨hw, rfl⟩) h

/-- an operation that looks at no memory is taken first -/
theorem takeOp {P : Program} {ops : Array Oper} {Q : Exit → Go.Act → World → Prop} {md : Region.Mode} {i : Nat} {oi : Oper} {v : Value} {fuel : Nat} {listed : Array Bool} {a : Go.Act} {w : World} (hi : ops[i]? = some oi)
    (hs : Region.noSelect ops = true) (hf : Region.free md ops listed i = true) (hr : (Region.ready md ops listed).contains i = true) (hQ : ∀ c a w, Q (.panic c) (a.put oi.dst v) w → Q (.panic c) a w)
    (hw : Region.wanted oi (yielded ops a.tmps) = true) (hv : ∀ w, (execOp a.eval oi).run P w = .ok (.value v) w) (h : wpAny P md ops Q fuel (listed.setIfInBounds i true) (a.put oi.dst v) w) : wpAny P md ops Q (fuel + 1) listed a w :=
  wpAny_take hi hs hf hr hQ (.inl ⟨hw, hv⟩) h

theorem bret {p q : Prop} [Decidable p] [Decidable q] (h : p ↔ q) : Ending.returned (.bool (decide p)) = Ending.returned (.bool (decide q)) := by rw [decide_eq_decide.2 h]

theorem l01In_any (x a b : Int) (w : World) : Calls Tryd.prog 35 #[.int .i64 x, .int .i64 a, .int .i64 b] w fun e w' => e = .returned (.bool (decide (a ≤ x ∧ x ≤ b))) ∧ w' = w := by
  by_cases h1 : a ≤ x
  · by_cases h2 : x ≤ b
    · have d1 : decide (a ≤ x) = true := by simpa using h1
      have d2 : decide (x ≤ b) = true := by simpa using h2
      go_enter Tryd.func35, Tryd.ntmps35
      go_wp2
      go_ret
      exact ⟨by simp [h1, h2], rfl⟩
    · have d1 : decide (a ≤ x) = true := by simpa using h1
      have d2 : decide (x ≤ b) = false := by simpa using h2
      go_enter Tryd.func35, Tryd.ntmps35
      go_wp2
      go_ret
      exact ⟨by simp, rfl⟩
  · have d1 : decide (a ≤ x) = false := by simpa using h1
    go_enter Tryd.func35, Tryd.ntmps35
    go_wp2
    go_ret
    exact ⟨by simp, rfl⟩

theorem take_snocF {α : Type} (fs : List α) (k : Nat) (f : α) (h : fs[k]? = some f) : fs.take (k + 1) = fs.take k ++ [f] := by
  obtain ⟨hk, rfl⟩ := List.getElem?_eq_some_iff.1 h
  rw [List.take_succ_eq_append_getElem hk]

theorem own_mono {w : World} {B B' e s n : Nat} {v : Value} {xs : List Value} (h : w.ownsRow B e s v n xs) (hB : B' ≤ B) : w.ownsRow B' e s v n xs :=
  ⟨h.1, h.2.imp id (fun ⟨g, cap, cur, a, b, rest⟩ => ⟨g, cap, cur, a, Nat.le_trans hB b, rest⟩)⟩

theorem grownSet (w : World) (G j : Nat) (u : Value) : w.grownBy (w.setCell ⟨G, j, none⟩ u) (some G) :=
  ⟨rfl, rfl, rfl, by simp [World.setCell], fun k _ hk => heap_setCell_other w ⟨G, j, none⟩ k u (fun e => hk (by simp [e]))⟩

theorem own_setOther {w : World} {B e s g n cap : Nat} {xs : List Value} (h : w.ownsRow B e s (.slice (some ⟨g, 0, none⟩) n cap) n xs) (G j : Nat) (u : Value) (hG : g ≠ G) :
    (w.setCell ⟨G, j, none⟩ u).ownsRow B e s (.slice (some ⟨g, 0, none⟩) n cap) n xs :=
  World.ownsRow.kept h (grownSet w G j u) (.inr (by simp [Value.ownBlock]; exact fun e => hG e))

theorem bcell {W w1 : World} (hb : Below W.heap.size W w1) : (∀ b o, b < W.heap.size → w1.cell? ⟨b, o, none⟩ = W.cell? ⟨b, o, none⟩) ∧ (∀ b o, b < W.heap.size → w1.frozen? ⟨b, o, none⟩ = W.frozen? ⟨b, o, none⟩) :=
  ⟨fun b o h => hb.cell (p := ⟨b, o, none⟩) h, fun b o h => hb.frozen (p := ⟨b, o, none⟩) h⟩

theorem grown_of_below {w w' : World} (h : Below w.heap.size w w') (row : Option Nat) : w.grownBy w' row :=
  ⟨h.os, h.tape, h.output, h.size, fun k hk _ => h.block k hk⟩

theorem grown_trans {a b c : World} {row : Option Nat} (h : a.grownBy b row) (k : b.grownBy c row) : a.grownBy c row :=
  ⟨k.os.trans h.os, k.tape.trans h.tape, k.output.trans h.output, Nat.le_trans h.size k.size, fun i hi hr => (k.block i (Nat.lt_of_lt_of_le hi h.size) hr).trans (h.block i hi hr)⟩

theorem own_form {w : World} {B e s n : Nat} {v : Value} {xs : List Value} (h : w.ownsRow B e s v n xs) : ∃ a c, v = .slice a n c := by
  rcases h.2 with ⟨hv, h0⟩ | ⟨g, cap, cur, hv, _⟩
  · subst h0; exact ⟨none, 0, hv⟩
  · exact ⟨_, cap, hv⟩

/-- nothing below has turned since w -/
def Good (w u : World) : Prop := Below w.heap.size w u

theorem Good.refl (w : World) : Good w w := Below.refl _ _

theorem Good.size {w u : World} (h : Good w u) : w.heap.size ≤ u.heap.size := Below.size h

theorem Good.up {w u v : World} (h : Good w u) (hb : Below u.heap.size u v) : Good w v := Below.trans h (hb.mono h.size)

theorem Good.alloc {w u : World} (h : Good w u) (o : Obj) : Good w (u.alloc o) := h.up ((Below.refl _ _).alloc (Nat.le_refl _) _)

theorem Good.drew {w u : World} (h : Good w u) : Good w u.drew := Below.drew h

theorem Good.cell {w u : World} (h : Good w u) {b o : Nat} (hb : b < w.heap.size) : u.cell? ⟨b, o, none⟩ = w.cell? ⟨b, o, none⟩ := Below.cell h hb

/-- what lies outside lo .. hi has not turned -/
structure Rng (lo hi : Nat) (u v : World) : Prop where
  os : v.os = u.os
  tape : v.tape = u.tape
  output : v.output = u.output
  size : u.heap.size ≤ v.heap.size
  block : ∀ k, k < u.heap.size → (k < lo ∨ hi ≤ k) → v.heap[k]? = u.heap[k]?

theorem Rng.of_below {u v : World} {lo hi : Nat} (h : Below u.heap.size u v) : Rng lo hi u v := ⟨h.os, h.tape, h.output, h.size, fun k hk _ => h.block k hk⟩

theorem Rng.of_grown {u v : World} {lo hi g : Nat} (h : u.grownBy v (some g)) (h1 : lo ≤ g) (h2 : g < hi) : Rng lo hi u v :=
  ⟨h.os, h.tape, h.output, h.size, fun k hk ho => h.block k hk (by simp; omega)⟩

theorem Rng.below {u v : World} {lo hi B : Nat} (h : Rng lo hi u v) (h1 : B ≤ lo) (h2 : B ≤ u.heap.size) : Below B u v := ⟨h.os, h.tape, h.output, h.size, fun k hk => h.block k (by omega) (.inl (by omega))⟩

theorem own_up {w w' : World} {B e s n : Nat} {v : Value} {xs : List Value} (h : w.ownsRow B e s v n xs) (hb : Below w.heap.size w w') : w'.ownsRow B e s v n xs :=
  World.ownsRow.kept h (grown_of_below hb none) (by cases hv : v.ownBlock <;> simp)

/-- a slice as the machine has them -/
def Sl (a : Option Addr) (n c : Nat) : Prop := n ≤ c ∧ c ≤ maxLen ∧ (a = none ∧ n = 0 ∧ c = 0 ∨ ∃ b off, a = some ⟨b, off, none⟩)

theorem set_other {u : World} {G j x o : Nat} {v : Value} (h : x ≠ G) : (u.setCell ⟨G, j, none⟩ v).cell? ⟨x, o, none⟩ = u.cell? ⟨x, o, none⟩ := World.cell?_of_block (w := u) (heap_setCell_other u ⟨G, j, none⟩ x v h)

theorem own_setLow {w : World} {B e s n : Nat} {v : Value} {xs : List Value} (h : w.ownsRow B e s v n xs) (G j : Nat) (u : Value) (hG : G < B) : (w.setCell ⟨G, j, none⟩ u).ownsRow B e s v n xs :=
  World.ownsRow.kept h (grownSet w G j u) (.inr (fun e => by have := (h.lt G (by simpa using e)).1; omega))

/-- a list of ints stands in memory below B -/
def Is (w : World) (B : Nat) (a : Option Addr) (n : Nat) (ls : List Int) : Prop :=
  ls.length = n ∧ (n = 0 ∨ ∃ b off, a = some ⟨b, off, none⟩ ∧ b < B ∧ ∀ (j : Nat) (x : Int), ls[j]? = some x → w.cell? ⟨b, off + j, none⟩ = some (.int .i64 x))

theorem Is.below {w w' : World} {B C : Nat} {a : Option Addr} {n : Nat} {ls : List Int} (h : Is w B a n ls) (hb : Below C w w') (hB : B ≤ C) : Is w' B a n ls := by
  refine ⟨h.1, h.2.imp id ?_⟩
  rintro ⟨b, off, h1, h2, h3⟩
  exact ⟨b, off, h1, h2, fun j x hx => by rw [hb.cell (p := ⟨b, _, none⟩) (by show b < _; omega)]; exact h3 j x hx⟩

theorem Is.mono {w : World} {B C : Nat} {a : Option Addr} {n : Nat} {ls : List Int} (h : Is w B a n ls) (hB : B ≤ C) : Is w C a n ls := by
  refine ⟨h.1, h.2.imp id ?_⟩
  rintro ⟨b, off, h1, h2, h3⟩
  exact ⟨b, off, h1, by omega, h3⟩

theorem Is.up {w w' : World} {a : Option Addr} {n : Nat} {ls : List Int} (h : Is w w.heap.size a n ls) (hb : Below w.heap.size w w') : Is w' w'.heap.size a n ls :=
  (h.below hb (Nat.le_refl _)).mono hb.size

def ic (ls : List Int) : List Value := ls.map fun x => Value.int .i64 x

theorem ic_len (ls : List Int) : (ic ls).length = ls.length := by simp [ic]

theorem ic_snoc (ls : List Int) (x : Int) : ic (ls ++ [x]) = ic ls ++ [.int .i64 x] := by simp [ic]

theorem ic_at {ls : List Int} {j : Nat} {x : Int} (h : ls[j]? = some x) : (ic ls)[j]? = some (.int .i64 x) := by rw [ic, List.getElem?_map, h]; rfl

theorem Is_of_own {w : World} {B n c : Nat} {a : Option Addr} {ls : List Int} (h : w.ownsRow B 3 1 (.slice a n c) n (ic ls)) : Is w w.heap.size a n ls := by
  have hl := h.1
  rw [ic_len] at hl
  refine ⟨by omega, ?_⟩
  rcases h.2 with ⟨hv, h0⟩ | ⟨g, cap, cur, hv, hrest⟩
  · exact .inl h0
  · simp at hv
    obtain ⟨rfl, rfl⟩ := hv
    refine .inr ⟨g, 0, rfl, (h.lt g rfl).2, fun j x hx => ?_⟩
    have hj : j < ls.length := (List.getElem?_eq_some_iff.1 hx).1
    rw [Nat.zero_add, h.cellAt j (by omega)]
    exact ic_at hx

theorem info3i : (Tryd.prog.info? 3).map (fun i => (i.zero, i.size, i.bytes)) = some (some (.int .i64 0), 1, 8) := by kernel_rfl

set_option maxHeartbeats 1000000 in
theorem eqIntS_same (ls : List Int) (n : Nat) (a a' : Option Addr) (c c' : Nat) (hn : n ≤ 1048576) (w : World) (h : Is w w.heap.size a n ls) (h' : Is w w.heap.size a' n ls) :
    Calls Tryd.prog 33 #[.slice a n c, .slice a' n c'] w fun e w' => e = .returned (.bool true) ∧ Below w.heap.size w w' := by
  obtain ⟨hlen, hrow⟩ := h
  obtain ⟨_, hrow'⟩ := h'
  have HR := hideIt hrow
  have HR' := hideIt hrow'
  clear hrow hrow'
  have dn : ((n : Int) != (n : Int)) = false := by simp
  go_enter Tryd.func33, Tryd.ntmps33
  go_wp2
  go_loopw [5] (fun i wr => ∃ (k : Nat), k ≤ n ∧ i = .int .i64 (k : Int) ∧ Below w.heap.size w wr) (fun i _ => n - (intOf i).toNat)
  case atStart => exact ⟨0, by omega, rfl, Below.refl _ _⟩
  case round =>
    obtain ⟨k, hk, rfl, hb⟩ := hrel
    by_cases hlt : k < n
    · rcases HR.out with hz | ⟨b, off, rfl, hbl, hc⟩
      · omega
      · rcases HR'.out with hz | ⟨b', off', rfl, hbl', hc'⟩
        · omega
        · obtain ⟨f, hf⟩ : ∃ f, ls[k]? = some f := ⟨ls[k]'(by omega), List.getElem?_eq_getElem (by omega)⟩
          have e0 : wr.cell? ⟨b, off + k, none⟩ = some (.int .i64 f) := by rw [hb.cell hbl]; exact hc k f hf
          have e1 : wr.cell? ⟨b', off' + k, none⟩ = some (.int .i64 f) := by rw [hb.cell hbl']; exact hc' k f hf
          have b1 : (0 : Int) ≤ (k : Int) := by omega
          have b2 : (k : Int) < (n : Int) := by omega
          have d1 : (f != f) = false := by simp
          clear hc hc' hf
          go_wp2
          go_quiet (fail)
          go_wp2
          exact ⟨⟨k + 1, by omega, by go_num, below_drewN hb _⟩, by simp [intOf]; omega⟩
    · go_wp2
      go_ret
      exact ⟨rfl, hb⟩

/-- n marks from k0 on -/
def imarks (k0 n : Nat) : List Int := (List.range n).map fun (t : Nat) => (k0 : Int) + (t : Int)

theorem imarks_snoc (k0 n : Nat) : imarks k0 (n + 1) = imarks k0 n ++ [(k0 : Int) + (n : Int)] := by simp [imarks, List.range_succ]

theorem imarks_at (k0 n j : Nat) (h : j < n) : (imarks k0 n)[j]? = some ((k0 : Int) + (j : Int)) := by simp [imarks, h]

theorem markIntS_zero (a : Option Addr) (c : Nat) (k0 : Int) (w : World) :
    Calls Tryd.prog 18 #[.slice a 0 c, .int .i64 k0] w fun e w' => e = .returned (.int .i64 k0) ∧ w' = w := by
  go_enter Tryd.func18, Tryd.ntmps18
  go_wp2
  refine wp_loop_rounds 1 ?_
  rw [rounds_succ]
  go_wp2
  go_ret
  exact ⟨rfl, rfl⟩

set_option maxHeartbeats 1000000 in
theorem markIntS_any (base g c n k0 : Nat) (xs0 : List Value) (hn : n ≤ 1048576) (hk1 : k0 ≤ 10000000) (w : World) (h : w.ownsRow base 3 1 (.slice (some ⟨g, 0, none⟩) n c) n xs0) :
    Calls Tryd.prog 18 #[.slice (some ⟨g, 0, none⟩) n c, .int .i64 (k0 : Int)] w fun e w' => e = .returned (.int .i64 ((k0 : Int) + (n : Int))) ∧ w'.ownsRow base 3 1 (.slice (some ⟨g, 0, none⟩) n c) n (ic (imarks k0 n)) ∧ w.grownBy w' (some g) := by
  have H0 := hideIt h
  clear h
  go_enter Tryd.func18, Tryd.ntmps18
  go_wp2
  go_loopw [1, 5] (fun q i wr => ∃ (k : Nat) (xs : List Value), k ≤ n ∧ i = .int .i64 (k : Int) ∧ q = .int .i64 ((k0 : Int) + (k : Int)) ∧ Hid (xs.take k = ic (imarks k0 k)) ∧ wr.ownsRow base 3 1 (.slice (some ⟨g, 0, none⟩) n c) n xs ∧ w.grownBy wr (some g)) (fun _ i _ => n - (intOf i).toNat)
  case atStart => exact ⟨0, xs0, by omega, rfl, by simp, by show _ = _; simp [ic, imarks], H0.out, ⟨rfl, rfl, rfl, Nat.le_refl _, fun _ _ _ => rfl⟩⟩
  case round =>
    obtain ⟨k, xs, hk, rfl, rfl, hx, hown, hg⟩ := hrel
    have hl3 : xs.length = n * 1 := hown.1
    by_cases hlt : k < n
    · have b1 : (0 : Int) ≤ (k : Int) := by omega
      have b2 : (k : Int) < (n : Int) := by omega
      have f0 := hown.frozenAt k
      obtain ⟨y0, x0⟩ : ∃ y, wr.cell? ⟨g, k, none⟩ = some y := ⟨_, by rw [hown.cellAt k (by omega)]; exact List.getElem?_eq_getElem (by omega)⟩
      have hst := hown.stored k (.int .i64 ((k0 : Int) + (k : Int)))
      have HO2 := hideIt hst.1
      have HG2 := hideIt (grown_trans hg hst.2)
      have HX : Hid ((xs.set k (.int .i64 ((k0 : Int) + (k : Int)))).take (k + 1) = ic (imarks k0 (k + 1))) := by
        show _ = _
        rw [List.take_add_one, List.take_set_of_le (Nat.le_refl _), hx.out, imarks_snoc, ic_snoc]
        simp [show k < xs.length by omega]
      clear hst hx hown hg
      go_wp2
      exact ⟨⟨k + 1, _, by omega, by go_num, by go_num, HX, HO2.out, HG2.out⟩, by simp [intOf]; omega⟩
    · obtain rfl : k = n := by omega
      have HX : Hid (xs = ic (imarks k0 k)) := by
        show _ = _
        have := hx.out
        rw [List.take_of_length_le (by omega)] at this
        exact this
      have HO := hideIt hown
      clear hx hown
      go_wp2
      go_ret
      exact ⟨rfl, by rw [← HX.out]; exact HO.out, hg⟩

set_option maxHeartbeats 1000000 in
theorem heldIntS_any (n k0 : Nat) (a : Option Addr) (c : Nat) (hn : n ≤ 1048576) (hk1 : k0 ≤ 10000000) (w : World) (h : Is w w.heap.size a n (imarks k0 n)) :
    Calls Tryd.prog 19 #[.slice a n c, .int .i64 (k0 : Int)] w fun e w' => e = .returned (.int .i64 ((k0 : Int) + (n : Int))) ∧ w' = w := by
  obtain ⟨_, hrow⟩ := h
  have HR := hideIt hrow
  clear hrow
  go_enter Tryd.func19, Tryd.ntmps19
  go_wp2
  go_loopw [1, 5] (fun kk i wr => ∃ j : Nat, j ≤ n ∧ i = .int .i64 (j : Int) ∧ kk = .int .i64 ((k0 : Int) + (j : Int)) ∧ wr = w) (fun _ i _ => n - (intOf i).toNat)
  case atStart => exact ⟨0, by omega, rfl, by simp, rfl⟩
  case round =>
    obtain ⟨j, hj, rfl, rfl, hw⟩ := hrel
    have hw' := hw.symm
    subst hw'
    clear hw
    by_cases hlt : j < n
    · rcases HR.out with hz | ⟨b, off, rfl, hbl, hc⟩
      · omega
      · have c0 := hc j _ (imarks_at k0 n j hlt)
        have b1 : (0 : Int) ≤ (j : Int) := by omega
        have b2 : (j : Int) < (n : Int) := by omega
        have d1 : ((k0 : Int) + (j : Int) != (k0 : Int) + (j : Int)) = false := by simp
        clear hc
        go_wp2
        exact ⟨⟨j + 1, by omega, by go_num, by go_num, by first | trivial | rfl⟩, by simp [intOf]; omega⟩
    · obtain rfl : j = n := by omega
      go_wp2
      go_ret
      exact ⟨rfl, rfl⟩

/-- the answer of Around, Labels: a list of the answer's own -/
def IAns (w : World) (ls : List Int) (e : Ending) (w' : World) : Prop :=
  ∃ a m c, e = .returned (.slice a m c) ∧ w'.ownsRow w.heap.size 3 1 (.slice a m c) m (ic ls) ∧ Below w.heap.size w w'

/-- a list that is ours, in blocks lo .. hi -/
structure RBox (u : World) (lo hi : Nat) (a : Option Addr) (m c : Nat) (ls : List Int) : Prop where
  own : u.ownsRow lo 3 1 (.slice a m c) m (ic ls)
  row : ∀ g, (Value.slice a m c).ownBlock = some g → g < hi
  there : hi ≤ u.heap.size

theorem RBox.rng {u v : World} {lo hi l2 h2 : Nat} {a : Option Addr} {m c : Nat} {ls : List Int} (h : RBox u lo hi a m c ls) (hr : Rng l2 h2 u v) (ho : hi ≤ l2 ∨ h2 ≤ lo) : RBox v lo hi a m c ls := by
  have hth := h.there
  refine ⟨⟨h.own.1, ?_⟩, h.row, Nat.le_trans hth hr.size⟩
  rcases h.own.2 with h3 | ⟨g, cap, cur, hv, hg, hcur, hrest⟩
  · exact .inl h3
  · have hgh := h.row g (by rw [hv]; rfl)
    refine .inr ⟨g, cap, cur, hv, hg, ?_, hrest⟩
    rw [hr.block g (by omega) (by omega)]
    exact hcur

theorem RBox.up {u v : World} {lo hi : Nat} {a : Option Addr} {m c : Nat} {ls : List Int} (h : RBox u lo hi a m c ls) (hb : Below u.heap.size u v) : RBox v lo hi a m c ls :=
  h.rng (l2 := hi) (h2 := hi) (Rng.of_below hb) (.inl (Nat.le_refl _))

theorem RBox.is {u : World} {lo hi : Nat} {a : Option Addr} {m c : Nat} {ls : List Int} (h : RBox u lo hi a m c ls) : Is u u.heap.size a m ls := Is_of_own h.own

theorem RBox.len {u : World} {lo hi : Nat} {a : Option Addr} {m c : Nat} {ls : List Int} (h : RBox u lo hi a m c ls) : ls.length = m := by
  have := h.own.1; rw [ic_len] at this; omega

theorem RBox.laid {u : World} {lo : Nat} {a : Option Addr} {m c : Nat} {ls : List Int} (ho : u.ownsRow lo 3 1 (.slice a m c) m (ic ls)) : RBox u lo u.heap.size a m c ls :=
  ⟨ho, fun g hg => (ho.lt g hg).2, Nat.le_refl _⟩

theorem eqRB {u : World} {lo hi lo' hi' : Nat} {a a' : Option Addr} {m c m' c' : Nat} {ls : List Int} (h : RBox u lo hi a m c ls) (h' : RBox u lo' hi' a' m' c' ls) (hm : m ≤ 1048576) :
    Calls Tryd.prog 33 #[.slice a m c, .slice a' m' c'] u fun e v => e = .returned (.bool true) ∧ Below u.heap.size u v := by
  have e : m' = m := by rw [← h.len, ← h'.len]
  subst e
  exact eqIntS_same ls m' a a' c c' hm u h.is h'.is

theorem markRB {u : World} {lo hi : Nat} {a : Option Addr} {m c : Nat} {ls : List Int} (h : RBox u lo hi a m c ls) (k0 : Nat) (hm : m ≤ 1048576) (h1 : k0 ≤ 10000000) :
    Calls Tryd.prog 18 #[.slice a m c, .int .i64 (k0 : Int)] u fun e v => e = .returned (.int .i64 ((k0 : Int) + (m : Int))) ∧ RBox v lo hi a m c (imarks k0 m) ∧ Rng lo hi u v := by
  have hth := h.there
  rcases h.own.2 with ⟨hv, hm0⟩ | ⟨g, cap, cur, hv, hg, hcur, hrest⟩
  · subst hm0
    refine (markIntS_zero a c (k0 : Int) u).mono fun e v ⟨he, hb⟩ => ⟨by rw [he]; simp, ?_, by rw [hb]; exact Rng.of_below (Below.refl _ _)⟩
    have hg0 : ls = [] := List.length_eq_zero_iff.1 h.len
    subst hg0
    rw [hb]
    exact h
  · have hv' := hv
    simp at hv'
    obtain ⟨rfl, rfl⟩ := hv'
    have hgh := h.row g rfl
    refine (markIntS_any lo g c m k0 _ hm h1 u h.own).mono fun e v ⟨he, ho, hgr⟩ => ⟨he, ⟨ho, h.row, Nat.le_trans hth hgr.size⟩, Rng.of_grown hgr hg hgh⟩

theorem heldRB {u : World} {lo hi : Nat} {a : Option Addr} {m c : Nat} (k0 : Nat) (h : RBox u lo hi a m c (imarks k0 m)) (hm : m ≤ 1048576) (h1 : k0 ≤ 10000000) :
    Calls Tryd.prog 19 #[.slice a m c, .int .i64 (k0 : Int)] u fun e v => e = .returned (.int .i64 ((k0 : Int) + (m : Int))) ∧ v = u :=
  heldIntS_any m k0 a c hm h1 u h.is

/-- nothing of wb has turned, and the row is ours -/
structure ISt (wb : World) (a : Option Addr) (m c : Nat) (ls : List Int) (u : World) : Prop where
  own : u.ownsRow wb.heap.size 3 1 (.slice a m c) m (ic ls)
  bel : Below wb.heap.size wb u

theorem ISt.size {wb : World} {a : Option Addr} {m c : Nat} {ls : List Int} {u : World} (h : ISt wb a m c ls u) : wb.heap.size ≤ u.heap.size := h.bel.size

theorem ISt.len {wb : World} {a : Option Addr} {m c : Nat} {ls : List Int} {u : World} (h : ISt wb a m c ls u) : ls.length = m := by have := h.own.1; rw [ic_len] at this; omega

theorem ISt.up {wb : World} {a : Option Addr} {m c : Nat} {ls : List Int} {u v : World} (h : ISt wb a m c ls u) (hb : Below u.heap.size u v) : ISt wb a m c ls v :=
  ⟨own_up h.own hb, h.bel.trans (hb.mono h.size)⟩

theorem ISt.app {wb : World} {a : Option Addr} {m c : Nat} {ls : List Int} {u : World} (h : ISt wb a m c ls u) {x : Int} {o : Obj} {v : Value} {u' : World}
    (ho : u'.ownsRow wb.heap.size 3 1 v (m + 1) (ic ls ++ [.int .i64 x])) (hg : (u.alloc o).grownBy u' (Value.slice a m c).ownBlock) :
    ∃ a' c', v = .slice a' (m + 1) c' ∧ ISt wb a' (m + 1) c' (ls ++ [x]) u' := by
  obtain ⟨a', c', rfl⟩ := own_form ho
  rw [← ic_snoc] at ho
  refine ⟨a', c', rfl, ho, ?_⟩
  exact (h.bel.alloc h.size _).grown hg (by have := h.size; simp; omega) (fun j hj => (h.own.lt j hj).1)

theorem ISt.start (wb : World) : ISt wb (some ⟨wb.heap.size, 0, none⟩) 0 0 [] (wb.alloc (.cells #[] 3)) := by
  refine ⟨?_, (Below.refl _ _).alloc (Nat.le_refl _) _⟩
  have h0 := World.ownsRow_lit (base := wb.heap.size) (e := 3) (size := 1) wb #[] 0 (Nat.le_refl _) (by unfold maxLen; omega) (by simp)
  simpa [ic] using h0

theorem newsI (w : World) (x : Int) : ∀ j u, ([Value.int .i64 x] : List Value)[j]? = some u → (w.alloc (.cells #[.int .i64 x] 3)).cell? ((⟨w.heap.size, 0, none⟩ : Addr).add j) = some u := by
  intro j u hj
  rcases j with _ | j
  · simp at hj; subst hj; simp [Addr.add]
  · simp at hj

theorem ians_nil {w u : World} (h : Below w.heap.size w u) : IAns w [] (.returned (.slice none 0 0)) u := ⟨none, 0, 0, rfl, World.ownsRow_nil _ _ _ _, h⟩

end Go.Proofs.YtgdlpmmbeacejaaDoor
namespace Go.Proofs.YtgdlpmmbeacejaaDoor
open Go.RowKit

/-- a shard without edges, its Last zero -/
abbrev sv (i n : Int) : Value := .agg #[.int .i64 i, .int .i64 n, .slice none 0 0, .int .i64 0, .bool false, .slice none 0 0, .slice none 0 0]
set_option maxRecDepth 100000 in
theorem eqIntS_nil (w : World) : Calls Tryd.prog 33 #[.slice none 0 0, .slice none 0 0] w fun e w' => e = .returned (.bool true) ∧ w' = w := by
  go_enter Tryd.func33, Tryd.ntmps33
  go_wp2
  go_loopw [5] (fun q wr => q = .int .i64 0 ∧ wr = w) (fun _ _ => 0)
  case atStart => exact ⟨rfl, rfl⟩
  case round =>
    obtain ⟨rfl, rfl⟩ := hrel
    go_wp2
    go_ret
    exact ⟨rfl, rfl⟩
set_option maxRecDepth 100000 in
theorem markIntS_nil (k : Int) (w : World) : Calls Tryd.prog 18 #[.slice none 0 0, .int .i64 k] w fun e w' => e = .returned (.int .i64 k) ∧ w' = w := by
  go_enter Tryd.func18, Tryd.ntmps18
  go_wp2
  go_loopw [1, 5] (fun p q wr => p = .int .i64 k ∧ q = .int .i64 0 ∧ wr = w) (fun _ _ _ => 0)
  case atStart => exact ⟨rfl, rfl, rfl⟩
  case round =>
    obtain ⟨rfl, rfl, rfl⟩ := hrel
    go_wp2
    go_ret
    exact ⟨rfl, rfl⟩
set_option maxRecDepth 100000 in
theorem heldIntS_nil (k : Int) (w : World) : Calls Tryd.prog 19 #[.slice none 0 0, .int .i64 k] w fun e w' => e = .returned (.int .i64 k) ∧ w' = w := by
  go_enter Tryd.func19, Tryd.ntmps19
  go_wp2
  go_loopw [1, 5] (fun p q wr => p = .int .i64 k ∧ q = .int .i64 0 ∧ wr = w) (fun _ _ _ => 0)
  case atStart => exact ⟨rfl, rfl, rfl⟩
  case round =>
    obtain ⟨rfl, rfl, rfl⟩ := hrel
    go_wp2
    go_ret
    exact ⟨rfl, rfl⟩
/-- a shard without edges in a block of its own -/
def Bk7 (w : World) (b : Nat) (i n : Int) : Prop := w.heap[b]? = some (.cells #[.int .i64 i, .int .i64 n, .slice none 0 0, .int .i64 0, .bool false, .slice none 0 0, .slice none 0 0] 76 (0, 0))
theorem Bk7.new (w : World) (i n : Int) (b : Nat) (hb : w.heap.size = b) : Bk7 (w.alloc (.cells #[.int .i64 i, .int .i64 n, .slice none 0 0, .int .i64 0, .bool false, .slice none 0 0, .slice none 0 0] 76)) b i n := by subst hb; exact heap_alloc_new w _
theorem Bk7.lt {w : World} {b : Nat} {i n : Int} (h : Bk7 w b i n) : b < w.heap.size := (Array.getElem?_eq_some_iff.1 h).1
theorem Bk7.up {w w' : World} {b : Nat} {i n : Int} (h : Bk7 w b i n) (hb : Below w.heap.size w w') : Bk7 w' b i n := by unfold Bk7; rw [hb.block b h.lt]; exact h
theorem Bk7.alloc {w : World} {b : Nat} {i n : Int} (h : Bk7 w b i n) (o : Obj) : Bk7 (w.alloc o) b i n := h.up ((Below.refl _ _).alloc (Nat.le_refl _) _)
theorem Bk7.frozen {w : World} {b : Nat} {i n : Int} (h : Bk7 w b i n) (j : Nat) : w.frozen? ⟨b, j, none⟩ = false := frozen_of_row w b j _ _ h
theorem Bk7.cells {w : World} {b : Nat} {i n : Int} (h : Bk7 w b i n) : w.cell? ⟨b, 0, none⟩ = some (.int .i64 i) ∧ w.cell? ⟨b, 1, none⟩ = some (.int .i64 n) ∧ w.cell? ⟨b, 2, none⟩ = some (.slice none 0 0) ∧ w.cell? ⟨b, 3, none⟩ = some (.int .i64 0) ∧ w.cell? ⟨b, 4, none⟩ = some (.bool false) ∧ w.cell? ⟨b, 5, none⟩ = some (.slice none 0 0) ∧ w.cell? ⟨b, 6, none⟩ = some (.slice none 0 0) := by
  refine ⟨?_, ?_, ?_, ?_, ?_, ?_, ?_⟩
  · rw [cell_of_row w b 0 _ _ _ h]; rfl
  · rw [cell_of_row w b 1 _ _ _ h]; rfl
  · rw [cell_of_row w b 2 _ _ _ h]; rfl
  · rw [cell_of_row w b 3 _ _ _ h]; rfl
  · rw [cell_of_row w b 4 _ _ _ h]; rfl
  · rw [cell_of_row w b 5 _ _ _ h]; rfl
  · rw [cell_of_row w b 6 _ _ _ h]; rfl
/-- a shard laid into its block -/
def s7 (u : World) (b : Nat) (i n : Int) : World := ((((((u.setCell ⟨b, 0, none⟩ (.int .i64 i)).setCell ⟨b, 1, none⟩ (.int .i64 n)).setCell ⟨b, 2, none⟩ (.slice none 0 0)).setCell ⟨b, 3, none⟩ (.int .i64 0)).setCell ⟨b, 4, none⟩ (.bool false)).setCell ⟨b, 5, none⟩ (.slice none 0 0)).setCell ⟨b, 6, none⟩ (.slice none 0 0)
theorem Bk7.set7 {u : World} {b : Nat} {i' n' : Int} (h : Bk7 u b i' n') (i n : Int) : Bk7 (s7 u b i n) b i n := by
  have h0 : (u.setCell ⟨b, 0, none⟩ (.int .i64 i)).heap[b]? = some (.cells #[.int .i64 i, .int .i64 n', .slice none 0 0, .int .i64 0, .bool false, .slice none 0 0, .slice none 0 0] 76 (0, 0)) := by rw [heap_setCell_same _ b 0 _ _ _ h]; rfl
  have h1 : ((u.setCell ⟨b, 0, none⟩ (.int .i64 i)).setCell ⟨b, 1, none⟩ (.int .i64 n)).heap[b]? = some (.cells #[.int .i64 i, .int .i64 n, .slice none 0 0, .int .i64 0, .bool false, .slice none 0 0, .slice none 0 0] 76 (0, 0)) := by rw [heap_setCell_same _ b 1 _ _ _ h0]; rfl
  have h2 : (((u.setCell ⟨b, 0, none⟩ (.int .i64 i)).setCell ⟨b, 1, none⟩ (.int .i64 n)).setCell ⟨b, 2, none⟩ (.slice none 0 0)).heap[b]? = some (.cells #[.int .i64 i, .int .i64 n, .slice none 0 0, .int .i64 0, .bool false, .slice none 0 0, .slice none 0 0] 76 (0, 0)) := by rw [heap_setCell_same _ b 2 _ _ _ h1]; rfl
  have h3 : ((((u.setCell ⟨b, 0, none⟩ (.int .i64 i)).setCell ⟨b, 1, none⟩ (.int .i64 n)).setCell ⟨b, 2, none⟩ (.slice none 0 0)).setCell ⟨b, 3, none⟩ (.int .i64 0)).heap[b]? = some (.cells #[.int .i64 i, .int .i64 n, .slice none 0 0, .int .i64 0, .bool false, .slice none 0 0, .slice none 0 0] 76 (0, 0)) := by rw [heap_setCell_same _ b 3 _ _ _ h2]; rfl
  have h4 : (((((u.setCell ⟨b, 0, none⟩ (.int .i64 i)).setCell ⟨b, 1, none⟩ (.int .i64 n)).setCell ⟨b, 2, none⟩ (.slice none 0 0)).setCell ⟨b, 3, none⟩ (.int .i64 0)).setCell ⟨b, 4, none⟩ (.bool false)).heap[b]? = some (.cells #[.int .i64 i, .int .i64 n, .slice none 0 0, .int .i64 0, .bool false, .slice none 0 0, .slice none 0 0] 76 (0, 0)) := by rw [heap_setCell_same _ b 4 _ _ _ h3]; rfl
  have h5 : ((((((u.setCell ⟨b, 0, none⟩ (.int .i64 i)).setCell ⟨b, 1, none⟩ (.int .i64 n)).setCell ⟨b, 2, none⟩ (.slice none 0 0)).setCell ⟨b, 3, none⟩ (.int .i64 0)).setCell ⟨b, 4, none⟩ (.bool false)).setCell ⟨b, 5, none⟩ (.slice none 0 0)).heap[b]? = some (.cells #[.int .i64 i, .int .i64 n, .slice none 0 0, .int .i64 0, .bool false, .slice none 0 0, .slice none 0 0] 76 (0, 0)) := by rw [heap_setCell_same _ b 5 _ _ _ h4]; rfl
  have h6 : (((((((u.setCell ⟨b, 0, none⟩ (.int .i64 i)).setCell ⟨b, 1, none⟩ (.int .i64 n)).setCell ⟨b, 2, none⟩ (.slice none 0 0)).setCell ⟨b, 3, none⟩ (.int .i64 0)).setCell ⟨b, 4, none⟩ (.bool false)).setCell ⟨b, 5, none⟩ (.slice none 0 0)).setCell ⟨b, 6, none⟩ (.slice none 0 0)).heap[b]? = some (.cells #[.int .i64 i, .int .i64 n, .slice none 0 0, .int .i64 0, .bool false, .slice none 0 0, .slice none 0 0] 76 (0, 0)) := by rw [heap_setCell_same _ b 6 _ _ _ h5]; rfl
  unfold Bk7 s7
  exact h6
theorem s7_below {w u : World} {b : Nat} {i n : Int} (h : Below w.heap.size w u) (hb : w.heap.size ≤ b) : Below w.heap.size w (s7 u b i n) :=
  ((((((h.setCell (p := ⟨b, 0, none⟩) hb _).setCell (p := ⟨b, 1, none⟩) hb _).setCell (p := ⟨b, 2, none⟩) hb _).setCell (p := ⟨b, 3, none⟩) hb _).setCell (p := ⟨b, 4, none⟩) hb _).setCell (p := ⟨b, 5, none⟩) hb _).setCell (p := ⟨b, 6, none⟩) hb _
end Go.Proofs.YtgdlpmmbeacejaaDoor
namespace Go.Proofs.YtgdlpmmbeacejaaDoor
open Go.RowKit

/-- a row of values of one cell -/
def Vq (w : World) (B : Nat) (a : Option Addr) (n : Nat) (vs : List Value) : Prop :=
  vs.length = n ∧ (n = 0 ∨ ∃ b off, a = some ⟨b, off, none⟩ ∧ b < B ∧ ∀ (j : Nat) (x : Value), vs[j]? = some x → w.cell? ⟨b, off + j, none⟩ = some x)
theorem Vq.up {w w' : World} {a : Option Addr} {n : Nat} {vs : List Value} (h : Vq w w.heap.size a n vs) (hb : Below w.heap.size w w') : Vq w' w'.heap.size a n vs := by
  refine ⟨h.1, h.2.imp id ?_⟩
  rintro ⟨b, off, h1, h2, h3⟩
  exact ⟨b, off, h1, Nat.lt_of_lt_of_le h2 hb.size, fun j x hx => by rw [hb.cell h2]; exact h3 j x hx⟩
theorem Vq.of_own {w : World} {B e n c : Nat} {a : Option Addr} {vs : List Value} (h : w.ownsRow B e 1 (.slice a n c) n vs) : Vq w w.heap.size a n vs := by
  have hl := h.1
  refine ⟨by omega, ?_⟩
  rcases h.2 with ⟨hv, h0⟩ | ⟨g, cap, cur, hv, hrest⟩
  · exact .inl h0
  · simp at hv
    obtain ⟨rfl, rfl⟩ := hv
    refine .inr ⟨g, 0, rfl, (h.lt g rfl).2, fun j x hx => ?_⟩
    have hj : j < vs.length := (List.getElem?_eq_some_iff.1 hx).1
    rw [Nat.zero_add, h.cellAt j (by omega)]
    exact hx
theorem rep_at (v : Value) (n j : Nat) (h : j < n) : (List.replicate n v)[j]? = some v := by rw [List.getElem?_replicate]; simp [h]
/-- n marks of yes or no from k0 on -/
def bmk (k0 t : Nat) : Value := .bool (((k0 : Int) + (t : Int)).tmod 3 == 0)
def bmarks (k0 n : Nat) : List Value := (List.range n).map (bmk k0)
theorem bmarks_snoc (k0 n : Nat) : bmarks k0 (n + 1) = bmarks k0 n ++ [bmk k0 n] := by simp [bmarks, List.range_succ]
theorem bmarks_at (k0 n j : Nat) (h : j < n) : (bmarks k0 n)[j]? = some (bmk k0 j) := by simp [bmarks, h]
end Go.Proofs.YtgdlpmmbeacejaaDoor
namespace Go.Proofs.YtgdlpmmbeacejaaDoor
open Go.RowKit

/-- a shard without lists -/
structure Shv where
  i : Int
  N : Int
  num : Int
  ok : Bool
/-- a shard of a row of cells -/
structure El (cs : List Value) (t : Nat) (x : Shv) : Prop where
  c0 : cs[t * 7]? = some (.int .i64 x.i)
  c1 : cs[t * 7 + 1]? = some (.int .i64 x.N)
  c2 : cs[t * 7 + 2]? = some (.slice none 0 0)
  c3 : cs[t * 7 + 3]? = some (.int .i64 x.num)
  c4 : cs[t * 7 + 4]? = some (.bool x.ok)
  c5 : cs[t * 7 + 5]? = some (.slice none 0 0)
  c6 : cs[t * 7 + 6]? = some (.slice none 0 0)
theorem El.other {cs : List Value} {t k j : Nat} {x : Shv} {v : Value} (h : El cs t x) (hne : t ≠ k) (hj : j < 7) : El (cs.set (k * 7 + j) v) t x := by
  refine ⟨?_, ?_, ?_, ?_, ?_, ?_, ?_⟩ <;> rw [List.getElem?_set_ne (by omega)]
  · exact h.c0
  · exact h.c1
  · exact h.c2
  · exact h.c3
  · exact h.c4
  · exact h.c5
  · exact h.c6
theorem El.put {cs : List Value} {k : Nat} {x : Shv} (h : El cs k x) (a b c : Int) (d : Bool) : El ((((cs.set (k * 7) (.int .i64 a)).set (k * 7 + 1) (.int .i64 b)).set (k * 7 + 3) (.int .i64 c)).set (k * 7 + 4) (.bool d)) k ⟨a, b, c, d⟩ := by
  have l0 := (List.getElem?_eq_some_iff.1 h.c6).1
  refine ⟨?_, ?_, ?_, ?_, ?_, ?_, ?_⟩
  · rw [List.getElem?_set_ne (by omega), List.getElem?_set_ne (by omega), List.getElem?_set_ne (by omega), List.getElem?_set_self (by omega)]
  · rw [List.getElem?_set_ne (by omega), List.getElem?_set_ne (by omega), List.getElem?_set_self (by simp; omega)]
  · rw [List.getElem?_set_ne (by omega), List.getElem?_set_ne (by omega), List.getElem?_set_ne (by omega), List.getElem?_set_ne (by omega)]; exact h.c2
  · rw [List.getElem?_set_ne (by omega), List.getElem?_set_self (by simp; omega)]
  · rw [List.getElem?_set_self (by simp; omega)]
  · rw [List.getElem?_set_ne (by omega), List.getElem?_set_ne (by omega), List.getElem?_set_ne (by omega), List.getElem?_set_ne (by omega)]; exact h.c5
  · rw [List.getElem?_set_ne (by omega), List.getElem?_set_ne (by omega), List.getElem?_set_ne (by omega), List.getElem?_set_ne (by omega)]; exact h.c6
theorem El.others {cs : List Value} {t k : Nat} {x : Shv} {a b c d : Value} (h : El cs t x) (hne : t ≠ k) : El ((((cs.set (k * 7) a).set (k * 7 + 1) b).set (k * 7 + 3) c).set (k * 7 + 4) d) t x :=
  (((h.other (j := 0) hne (by omega)).other hne (by omega)).other hne (by omega)).other hne (by omega)
/-- a shard, as a walk reads it -/
structure Sh7 (w : World) (b o : Nat) (x : Shv) : Prop where
  c0 : w.cell? ⟨b, o, none⟩ = some (.int .i64 x.i)
  c1 : w.cell? ⟨b, o + 1, none⟩ = some (.int .i64 x.N)
  c2 : w.cell? ⟨b, o + 2, none⟩ = some (.slice none 0 0)
  c3 : w.cell? ⟨b, o + 3, none⟩ = some (.int .i64 x.num)
  c4 : w.cell? ⟨b, o + 4, none⟩ = some (.bool x.ok)
  c5 : w.cell? ⟨b, o + 5, none⟩ = some (.slice none 0 0)
  c6 : w.cell? ⟨b, o + 6, none⟩ = some (.slice none 0 0)
theorem Sh7.below {w w' : World} {C b o : Nat} {x : Shv} (h : Sh7 w b o x) (hb : Below C w w') (hl : b < C) : Sh7 w' b o x := by
  refine ⟨?_, ?_, ?_, ?_, ?_, ?_, ?_⟩ <;> rw [hb.cell hl]
  · exact h.c0
  · exact h.c1
  · exact h.c2
  · exact h.c3
  · exact h.c4
  · exact h.c5
  · exact h.c6
/-- a row of shards -/
def Sq (w : World) (B : Nat) (a : Option Addr) (n : Nat) (f : Nat → Shv) : Prop := n = 0 ∨ ∃ b off, a = some ⟨b, off, none⟩ ∧ b < B ∧ ∀ t < n, Sh7 w b (off + t * 7) (f t)
theorem Sq.up {w w' : World} {a : Option Addr} {n : Nat} {f : Nat → Shv} (h : Sq w w.heap.size a n f) (hb : Below w.heap.size w w') : Sq w' w'.heap.size a n f := by
  refine h.imp id ?_
  rintro ⟨b, off, h1, h2, h3⟩
  exact ⟨b, off, h1, Nat.lt_of_lt_of_le h2 hb.size, fun t ht => (h3 t ht).below hb h2⟩
theorem Sq.of_own {w : World} {B n c : Nat} {a : Option Addr} {cs : List Value} {f : Nat → Shv} (h : w.ownsRow B 76 7 (.slice a n c) n cs) (he : ∀ t < n, El cs t (f t)) : Sq w w.heap.size a n f := by
  rcases h.2 with ⟨hv, h0⟩ | ⟨g, cap, cur, hv, hrest⟩
  · exact .inl h0
  · simp at hv
    obtain ⟨rfl, rfl⟩ := hv
    refine .inr ⟨g, 0, rfl, (h.lt g rfl).2, fun t ht => ?_⟩
    have e := he t ht
    have l0 := (List.getElem?_eq_some_iff.1 e.c6).1
    have hl := h.1
    refine ⟨?_, ?_, ?_, ?_, ?_, ?_, ?_⟩ <;> rw [Nat.zero_add, h.cellAt _ (by omega)]
    · exact e.c0
    · exact e.c1
    · exact e.c2
    · exact e.c3
    · exact e.c4
    · exact e.c5
    · exact e.c6
/-- the marks of the t-th shard -/
def smk (k0 t : Nat) : Shv := ⟨(k0 : Int) + (t : Int) * 4, (k0 : Int) + (t : Int) * 4 + 1, (k0 : Int) + (t : Int) * 4 + 1 + 1, decide (((k0 : Int) + (t : Int) * 4 + 1 + 1 + 1) % 3 = 0)⟩
end Go.Proofs.YtgdlpmmbeacejaaDoor
namespace Go.Proofs.YtgdlpmmbeacejaaDoor

/-- v is the vertex that the way came from -/
def isUp : List Int → Int → Bool
  | _ :: p :: _, v => decide (p = v)
  | _, _ => false
/-- one step: w is the way from the root, the last one first; s is what was seen -/
def tstep (w s : List Int) (v : Int) : Option (List Int × List Int) :=
  if isUp w v = true then some (w.tail, s) else if v ∈ s then none else some (v :: w, v :: s)
def trun (w s : List Int) : List Int → Option (List Int × List Int)
  | [] => some (w, s)
  | v :: r => match tstep w s v with
    | none => none
    | some x => trun x.1 x.2 r
/-- a number is that of a vertex -/
def vB (v : Int) : Bool := decide (0 ≤ v ∧ v < 12)
/-- the tour is right -/
def tB (t : List Int) : Bool := t.all vB && (match trun [] [] t with | some x => x.1.length == 1 | none => false)

theorem trun_nil (w s : List Int) : trun w s [] = some (w, s) := rfl
theorem trun_append (w s a b : List Int) : trun w s (a ++ b) = (trun w s a).bind fun x => trun x.1 x.2 b := by
  induction a generalizing w s with
  | nil => rfl
  | cons v a ih =>
    simp only [List.cons_append, trun]
    cases tstep w s v with
    | none => rfl
    | some x => exact ih _ _
theorem trun_up {w s : List Int} {v : Int} {r : List Int} (h : isUp w v = true) : trun w s (v :: r) = trun w.tail s r := by simp [trun, tstep, h]
theorem trun_down {w s : List Int} {v : Int} {r : List Int} (h : isUp w v = false) (hs : v ∉ s) : trun w s (v :: r) = trun (v :: w) (v :: s) r := by simp [trun, tstep, h, hs]
theorem trun_bad {w s : List Int} {v : Int} {r : List Int} (h : isUp w v = false) (hs : v ∈ s) : trun w s (v :: r) = none := by simp [trun, tstep, h, hs]
/-- a step that is done is one of the two -/
theorem trun_cons {w s : List Int} {v : Int} {r : List Int} {x : List Int × List Int} (h : trun w s (v :: r) = some x) :
    (isUp w v = true ∧ trun w.tail s r = some x) ∨ (isUp w v = false ∧ v ∉ s ∧ trun (v :: w) (v :: s) r = some x) := by
  cases hu : isUp w v with
  | true => rw [trun_up hu] at h; exact .inl ⟨rfl, h⟩
  | false =>
    by_cases hs : v ∈ s
    · rw [trun_bad hu hs] at h; simp at h
    · rw [trun_down hu hs] at h; exact .inr ⟨rfl, hs, h⟩
theorem isUp_some {w : List Int} {v : Int} (h : isUp w v = true) : ∃ c q, w = c :: v :: q := by
  match w, h with
  | c :: p :: q, h => simp [isUp] at h; exact ⟨c, q, by rw [h]⟩
theorem isUp_mem {w : List Int} {v : Int} (h : isUp w v = true) : v ∈ w := by obtain ⟨c, q, rfl⟩ := isUp_some h; simp

/-- what is seen: what was, and what stands in the list -/
theorem trun_seen {t w s w' s' : List Int} (h : trun w s t = some (w', s')) (hw : ∀ x ∈ w, x ∈ s) : (∀ x, x ∈ s' ↔ x ∈ s ∨ x ∈ t) ∧ ∀ x ∈ w', x ∈ s' := by
  induction t generalizing w s with
  | nil => simp [trun] at h; obtain ⟨rfl, rfl⟩ := h; exact ⟨fun x => by simp, hw⟩
  | cons v r ih =>
    rcases trun_cons h with ⟨hu, h1⟩ | ⟨hu, hs, h1⟩
    · obtain ⟨a, b⟩ := ih h1 (fun x hx => hw x (List.mem_of_mem_tail hx))
      refine ⟨fun x => ?_, b⟩
      rw [a x]
      have := hw v (isUp_mem hu)
      simp
      constructor
      · rintro (h | h) <;> simp [h]
      · rintro (h | rfl | h)
        · exact .inl h
        · exact .inl this
        · exact .inr h
    · obtain ⟨a, b⟩ := ih h1 (fun x hx => by rcases List.mem_cons.1 hx with rfl | hx; · simp
                                             · exact List.mem_cons_of_mem _ (hw x hx))
      refine ⟨fun x => ?_, b⟩
      rw [a x]
      simp
      constructor
      · rintro ((h | h) | h) <;> simp [h]
      · rintro (h | h | h) <;> simp [h]
theorem trun_nodup {t w s w' s' : List Int} (h : trun w s t = some (w', s')) (hs : s.Nodup) : s'.Nodup := by
  induction t generalizing w s with
  | nil => simp [trun] at h; obtain ⟨rfl, rfl⟩ := h; exact hs
  | cons v r ih =>
    rcases trun_cons h with ⟨hu, h1⟩ | ⟨hu, hv, h1⟩
    · exact ih h1 hs
    · exact ih h1 (List.nodup_cons.2 ⟨hv, hs⟩)
theorem trun_len {t w s w' s' : List Int} (h : trun w s t = some (w', s')) : t.length + w'.length + 2 * s.length = w.length + 2 * s'.length := by
  induction t generalizing w s with
  | nil => simp [trun] at h; obtain ⟨rfl, rfl⟩ := h; simp
  | cons v r ih =>
    rcases trun_cons h with ⟨hu, h1⟩ | ⟨hu, hv, h1⟩
    · obtain ⟨c, q, rfl⟩ := isUp_some hu
      have := ih h1
      simp at this ⊢
      omega
    · have := ih h1
      simp at this ⊢
      omega
/-- the way has the last one of the list on top, the root at its foot -/
theorem trun_foot {t w s w' s' : List Int} (h : trun w s t = some (w', s')) (hw : w ≠ []) : w' ≠ [] ∧ w'.getLast? = w.getLast? := by
  induction t generalizing w s with
  | nil => simp [trun] at h; obtain ⟨rfl, rfl⟩ := h; exact ⟨hw, rfl⟩
  | cons v r ih =>
    rcases trun_cons h with ⟨hu, h1⟩ | ⟨hu, hv, h1⟩
    · obtain ⟨c, q, rfl⟩ := isUp_some hu
      obtain ⟨a, b⟩ := ih h1 (by simp)
      exact ⟨a, by rw [b]; simp [List.getLast?_cons_cons]⟩
    · obtain ⟨a, b⟩ := ih h1 (by simp)
      refine ⟨a, b.trans ?_⟩
      cases w with
      | nil => exact absurd rfl hw
      | cons c q => simp [List.getLast?_cons_cons]
theorem trun_top {t w s w' s' : List Int} {z : Int} (h : trun w s (t ++ [z]) = some (w', s')) : w'.head? = some z := by
  rw [trun_append] at h
  cases hq : trun w s t with
  | none => rw [hq] at h; simp at h
  | some x =>
    rw [hq] at h
    rcases trun_cons h with ⟨hu, h1⟩ | ⟨hu, hv, h1⟩
    · obtain ⟨c, q, e⟩ := isUp_some hu
      simp [trun] at h1
      rw [← h1.1, e]
      rfl
    · simp [trun] at h1
      rw [← h1.1]
      rfl

theorem tB_iff (t : List Int) : tB t = true ↔ (∀ v ∈ t, vB v = true) ∧ ∃ x s, trun [] [] t = some ([x], s) := by
  unfold tB
  rw [Bool.and_eq_true, List.all_eq_true]
  refine and_congr Iff.rfl ?_
  cases trun [] [] t with
  | none => simp
  | some p =>
    obtain ⟨w, s⟩ := p
    simp
    constructor
    · intro h
      match w, h with
      | [x], _ => exact ⟨x, rfl⟩
    · rintro ⟨x, rfl⟩; rfl
/-- a right tour, opened -/
theorem tB_open {t : List Int} (h : tB t = true) : ∃ x r s, t = x :: r ∧ trun [x] [x] r = some ([x], s) ∧ (∀ v ∈ t, vB v = true) ∧ (r = [] ∨ ∃ q, r = q ++ [x]) := by
  obtain ⟨hv, x, s, h⟩ := (tB_iff t).1 h
  cases t with
  | nil => simp [trun] at h
  | cons y r =>
    rw [trun_down (by rfl) (by simp)] at h
    have hf := (trun_foot h (by simp)).2
    simp at hf
    subst hf
    refine ⟨x, r, s, rfl, h, hv, ?_⟩
    rcases List.eq_nil_or_concat r with rfl | ⟨q, z, e⟩
    · exact .inl rfl
    · rw [List.concat_eq_append] at e
      subst e
      have := trun_top h
      simp at this
      subst this
      exact .inr ⟨q, rfl⟩
theorem tB_of {x : Int} {r s : List Int} (hv : ∀ v ∈ x :: r, vB v = true) (h : trun [x] [x] r = some ([x], s)) : tB (x :: r) = true :=
  (tB_iff _).2 ⟨hv, x, s, by rw [trun_down (by rfl) (by simp)]; exact h⟩
theorem tB_ne {t : List Int} (h : tB t = true) : t ≠ [] := by obtain ⟨x, r, s, rfl, _⟩ := tB_open h; simp

/-- so many numbers below n, no two alike, are n at most -/
theorem nodup_le (n : Nat) (s : List Int) (hs : s.Nodup) (hv : ∀ v ∈ s, 0 ≤ v ∧ v < (n : Int)) : s.length ≤ n := by
  induction n generalizing s with
  | zero =>
    cases s with
    | nil => simp
    | cons a s => have := hv a (by simp); omega
  | succ n ih =>
    by_cases hm : (n : Int) ∈ s
    · have h1 := ih (s.erase (n : Int)) (hs.erase _) (fun v hv' => by
        obtain ⟨h2, h3⟩ := (hs.mem_erase_iff).1 hv'
        have := hv v h3
        omega)
      rw [List.length_erase_of_mem hm] at h1
      omega
    · have h1 := ih s hs (fun v hv' => by
        have := hv v hv'
        have : v ≠ (n : Int) := fun e => hm (e ▸ hv')
        omega)
      omega
theorem nodup_short (s : List Int) (hs : s.Nodup) (hv : ∀ v ∈ s, vB v = true) : s.length ≤ 12 :=
  nodup_le 12 s hs fun v h => by have := hv v h; simpa [vB] using this
theorem tB_len {t : List Int} (h : tB t = true) : 1 ≤ t.length ∧ t.length ≤ 23 := by
  obtain ⟨hv, x, s, h⟩ := (tB_iff t).1 h
  have hl := trun_len h
  have hs := trun_nodup h (by simp)
  have hm := (trun_seen h (by simp)).1
  have := nodup_short s hs (fun v hvs => hv v (by rcases (hm v).1 hvs with h | h; · simp at h
                                                  · exact h))
  simp at hl
  omega
end Go.Proofs.YtgdlpmmbeacejaaDoor
namespace Go.Proofs.YtgdlpmmbeacejaaDoor
open Go.RowKit

def firstN (p : Nat → Bool) (n : Nat) : Int := match (List.range n).find? p with | some k => (k : Int) | none => -1
def lastN (p : Nat → Bool) : Nat → Int
  | 0 => -1
  | n + 1 => if p n = true then (n : Int) else lastN p n
theorem firstN_yes {p : Nat → Bool} {n k : Nat} (hk : k < n) (h : p k = true) (hn : ∀ j, j < k → p j = false) : firstN p n = (k : Int) := by
  have : (List.range n).find? p = some k := by
    rw [List.find?_range_eq_some]
    exact ⟨h, by simpa using hk, fun j hj => by simp [hn j hj]⟩
  unfold firstN
  rw [this]
theorem firstN_no {p : Nat → Bool} {n : Nat} (hn : ∀ j, j < n → p j = false) : firstN p n = -1 := by
  have : (List.range n).find? p = none := by
    rw [List.find?_range_eq_none]
    exact fun j hj => by simp [hn j hj]
  unfold firstN
  rw [this]
theorem firstN_cases (p : Nat → Bool) (n : Nat) : (∃ k, k < n ∧ p k = true ∧ (∀ j, j < k → p j = false) ∧ firstN p n = (k : Int)) ∨ ((∀ j, j < n → p j = false) ∧ firstN p n = -1) := by
  cases h : (List.range n).find? p with
  | none =>
    rw [List.find?_range_eq_none] at h
    exact .inr ⟨fun j hj => by simpa using h j hj, by unfold firstN; rw [show (List.range n).find? p = none by rw [List.find?_range_eq_none]; exact h]⟩
  | some k =>
    have h' := h
    rw [List.find?_range_eq_some] at h
    exact .inl ⟨k, by simpa using h.2.1, h.1, fun j hj => by simpa using h.2.2 j hj, by unfold firstN; rw [h']⟩
theorem lastN_cases (p : Nat → Bool) (n : Nat) : (∃ k, k < n ∧ p k = true ∧ (∀ j, k < j → j < n → p j = false) ∧ lastN p n = (k : Int)) ∨ ((∀ j, j < n → p j = false) ∧ lastN p n = -1) := by
  induction n with
  | zero => exact .inr ⟨fun j hj => by omega, rfl⟩
  | succ n ih =>
    by_cases h : p n = true
    · exact .inl ⟨n, by omega, h, fun j h1 h2 => by omega, by simp [lastN, h]⟩
    · have h' : p n = false := by simpa using h
      rcases ih with ⟨k, h1, h2, h3, h4⟩ | ⟨h1, h2⟩
      · refine .inl ⟨k, by omega, h2, fun j h5 h6 => ?_, by simp [lastN, h', h4]⟩
        by_cases h7 : j = n
        · rw [h7]; exact h'
        · exact h3 j h5 (by omega)
      · refine .inr ⟨fun j hj => ?_, by simp [lastN, h', h2]⟩
        by_cases h7 : j = n
        · rw [h7]; exact h'
        · exact h1 j (by omega)
theorem lastN_step {p : Nat → Bool} {n k : Nat} (h : lastN p n = lastN p (k + 1)) (hp : p k = false) : lastN p n = lastN p k := by rw [h]; simp [lastN, hp]
theorem lastN_hit {p : Nat → Bool} {n k : Nat} (h : lastN p n = lastN p (k + 1)) (hp : p k = true) : lastN p n = (k : Int) := by rw [h]; simp [lastN, hp]

/-- the number v stands at the place k -/
def atP (ls : List Int) (v : Int) (k : Nat) : Bool := ls[k]? == some v
/-- there the list goes from u to v -/
def goP (ls : List Int) (u v : Int) (k : Nat) : Bool := ls[k]? == some u && ls[k + 1]? == some v
def fstI (ls : List Int) (v : Int) : Int := firstN (atP ls v) ls.length
def lstI (ls : List Int) (v : Int) : Int := lastN (atP ls v) ls.length
def goI (ls : List Int) (u v : Int) : Int := firstN (goP ls u v) (ls.length - 1)
theorem atP_yes {ls : List Int} {v : Int} {k : Nat} (h : ls[k]? = some v) : atP ls v k = true := by simp [atP, h]
theorem atP_no {ls : List Int} {v f : Int} {k : Nat} (h : ls[k]? = some f) (hn : f ≠ v) : atP ls v k = false := by simp [atP, h, hn]
theorem fstI_mem (ls : List Int) (v : Int) : decide (fstI ls v < 0) = decide (v ∉ ls) := by
  rcases firstN_cases (atP ls v) ls.length with ⟨k, _, h, _, e⟩ | ⟨h, e⟩
  · have hm : v ∈ ls := List.mem_of_getElem? (by simpa [atP] using h)
    have e' : fstI ls v = (k : Int) := e
    rw [e', decide_eq_decide]
    simp [hm]
  · have hm : v ∉ ls := fun hm => by
      obtain ⟨k, hk⟩ := List.mem_iff_getElem?.1 hm
      have := h k (List.getElem?_eq_some_iff.1 hk).1
      rw [atP_yes hk] at this
      simp at this
    have e' : fstI ls v = -1 := e
    rw [e', decide_eq_decide]
    simp [hm]
theorem lstI_mem (ls : List Int) (v : Int) : decide (lstI ls v < 0) = decide (v ∉ ls) := by
  rcases lastN_cases (atP ls v) ls.length with ⟨k, _, h, _, e⟩ | ⟨h, e⟩
  · have hm : v ∈ ls := List.mem_of_getElem? (by simpa [atP] using h)
    have e' : lstI ls v = (k : Int) := e
    rw [e', decide_eq_decide]
    simp [hm]
  · have hm : v ∉ ls := fun hm => by
      obtain ⟨k, hk⟩ := List.mem_iff_getElem?.1 hm
      have := h k (List.getElem?_eq_some_iff.1 hk).1
      rw [atP_yes hk] at this
      simp at this
    have e' : lstI ls v = -1 := e
    rw [e', decide_eq_decide]
    simp [hm]
theorem mem_of_atP {ls : List Int} {v : Int} {n : Nat} (hn : ls.length = n) (h : ∀ j, j < n → atP ls v j = false) : v ∉ ls := fun hm => by
  obtain ⟨k, hk⟩ := List.mem_iff_getElem?.1 hm
  have := h k (by have := (List.getElem?_eq_some_iff.1 hk).1; omega)
  rw [atP_yes hk] at this
  simp at this
theorem all_step {p : Nat → Bool} {k : Nat} (h : ∀ j, j < k → p j = false) (hp : p k = false) : ∀ j, j < k + 1 → p j = false := fun j hj => by
  by_cases h7 : j = k
  · rw [h7]; exact hp
  · exact h j (by omega)

theorem retT {p : Prop} [Decidable p] (h : p) : Ending.returned (.bool true) = Ending.returned (.bool (decide p)) := by rw [decide_eq_true h]
theorem retF {p : Prop} [Decidable p] (h : ¬ p) : Ending.returned (.bool false) = Ending.returned (.bool (decide p)) := by rw [decide_eq_false h]
theorem retI {x y : Int} (h : y = x) : Ending.returned (.int .i64 x) = Ending.returned (.int .i64 y) := by rw [h]

end Go.Proofs.YtgdlpmmbeacejaaDoor
