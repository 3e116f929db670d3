/- Lists of what is said, in memory; the laws' own functions over them. Follows, on both sides. A list of what is said that comes in. -/
import Derived.Test.YtobcihdjennieaaKISt
import Derived.Deep.RegionHeld3
import Derived.Test.YtobcihdjennieaaKMs16
import Derived.Test.YtobcihdjennieaaKSGraph
namespace Go.Proofs.Ytobcihdjennieaa
open Go.RowKit

/-- what is said of one question -/
structure Sd where
  id : Int
  i : Int
  o : Int
  a : Int
  b : Int
  s : Int
/-- one of them, as a walk reads it -/
structure SdAt (w : World) (b o : Nat) (x : Sd) : Prop where
  c0 : w.cell? ⟨b, o, none⟩ = some (.int .i64 x.id)
  c1 : w.cell? ⟨b, o + 1, none⟩ = some (.int .i64 x.i)
  c2 : w.cell? ⟨b, o + 2, none⟩ = some (.int .i64 x.o)
  c3 : w.cell? ⟨b, o + 3, none⟩ = some (.int .i64 x.a)
  c4 : w.cell? ⟨b, o + 4, none⟩ = some (.int .i64 x.b)
  c5 : w.cell? ⟨b, o + 5, none⟩ = some (.int .i64 x.s)
theorem SdAt.below {w u : World} {b o C : Nat} {x : Sd} (h : SdAt w b o x) (hb : Below C w u) (hC : b < C) : SdAt u b o x := by
  have e : ∀ o, u.cell? ⟨b, o, none⟩ = w.cell? ⟨b, o, none⟩ := fun o => hb.cell (p := ⟨b, o, none⟩) hC
  exact ⟨by rw [e]; exact h.c0, by rw [e]; exact h.c1, by rw [e]; exact h.c2, by rw [e]; exact h.c3, by rw [e]; exact h.c4, by rw [e]; exact h.c5⟩
/-- the list ss stands at a, n of them, below block B -/
def Ss (w : World) (B : Nat) (a : Option Addr) (n : Nat) (ss : List Sd) : Prop :=
  ss.length = n ∧ (n = 0 ∨ ∃ b off, a = some ⟨b, off, none⟩ ∧ b < B ∧ ∀ (j : Nat) (x : Sd), ss[j]? = some x → SdAt w b (off + j * 6) x)
theorem Ss.below {w w' : World} {B C : Nat} {a : Option Addr} {n : Nat} {ss : List Sd} (h : Ss w B a n ss) (hb : Below C w w') (hB : B ≤ C) : Ss w' B a n ss := by
  refine ⟨h.1, h.2.imp id ?_⟩
  rintro ⟨b, off, ha, hbl, hc⟩
  exact ⟨b, off, ha, hbl, fun j x hx => (hc j x hx).below hb (by omega)⟩
theorem Ss.mono {w : World} {B C : Nat} {a : Option Addr} {n : Nat} {ss : List Sd} (h : Ss w B a n ss) (hB : B ≤ C) : Ss w C a n ss := by
  refine ⟨h.1, h.2.imp id ?_⟩
  rintro ⟨b, off, ha, hbl, hc⟩
  exact ⟨b, off, ha, by omega, hc⟩
theorem Ss.up {w w' : World} {a : Option Addr} {n : Nat} {ss : List Sd} (h : Ss w w.heap.size a n ss) (hb : Below w.heap.size w w') : Ss w' w'.heap.size a n ss :=
  (h.below hb (Nat.le_refl _)).mono hb.size
theorem Ss.at {w : World} {B : Nat} {a : Option Addr} {n : Nat} {ss : List Sd} (h : Ss w B a n ss) {k : Nat} (hk : k < n) : ∃ b off x, a = some ⟨b, off, none⟩ ∧ b < B ∧ ss[k]? = some x ∧ SdAt w b (off + k * 6) x := by
  rcases h.2 with hz | ⟨b, off, ha, hb, hc⟩
  · omega
  · have hl := h.1
    have hx : ss[k]? = some (ss[k]'(by omega)) := List.getElem?_eq_getElem (by omega)
    exact ⟨b, off, _, ha, hb, hx, hc k _ hx⟩
def scell (x : Sd) : List Value := [.int .i64 x.id, .int .i64 x.i, .int .i64 x.o, .int .i64 x.a, .int .i64 x.b, .int .i64 x.s]
def scells (ss : List Sd) : List Value := ss.flatMap scell
theorem scells_length (ss : List Sd) : (scells ss).length = ss.length * 6 := by
  induction ss with
  | nil => rfl
  | cons f fs ih => simp only [scells, List.flatMap_cons, List.length_append, List.length_cons] at ih ⊢; rw [ih]; simp [scell]; omega
theorem scells_at (ss : List Sd) (j : Nat) (x : Sd) (h : ss[j]? = some x) (q : Nat) (hq : q < 6) : (scells ss)[j * 6 + q]? = (scell x)[q]? := by
  induction ss generalizing j with
  | nil => simp at h
  | cons g fs ih =>
    cases j with
    | zero =>
      simp at h
      subst h
      rw [show scells (g :: fs) = scell g ++ scells fs from rfl, List.getElem?_append_left (by show 0 * 6 + q < 6; omega)]
      simp
    | succ j =>
      have h2 := ih j (by simpa using h)
      rw [show scells (g :: fs) = scell g ++ scells fs from rfl, List.getElem?_append_right (by show 6 ≤ (j + 1) * 6 + q; omega), show (j + 1) * 6 + q - (scell g).length = j * 6 + q by show (j + 1) * 6 + q - 6 = _; omega]
      exact h2
theorem scells_snoc (ss : List Sd) (x : Sd) : scells (ss ++ [x]) = scells ss ++ scell x := by simp [scells]
theorem infoSd : (Try.prog.info? 74).map (fun i => (i.zero, i.size, i.bytes)) = some (some (.agg #[.int .i64 0, .int .i64 0, .int .i64 0, .int .i64 0, .int .i64 0, .int .i64 0]), 6, 48) := by kernel_rfl
theorem Ss_of_own {w : World} {B n c : Nat} {a : Option Addr} {ss : List Sd} (h : w.ownsRow B 74 6 (.slice a n c) n (scells ss)) : Ss w w.heap.size a n ss := by
  have hl := h.1
  rw [scells_length] at hl
  refine ⟨by omega, ?_⟩
  rcases h.2 with ⟨hv, h0⟩ | ⟨g, cap, cur, hv, hrest⟩
  · exact .inl h0
  · simp at hv
    obtain ⟨rfl, rfl⟩ := hv
    by_cases h0 : n = 0
    · exact .inl h0
    · refine .inr ⟨g, 0, rfl, (h.lt g rfl).2, fun j x hx => ?_⟩
      have hj : j < ss.length := (List.getElem?_eq_some_iff.1 hx).1
      have hc := scells_at ss j x hx
      rw [Nat.zero_add]
      have e0 := hc 0 (by omega)
      rw [Nat.add_zero] at e0
      exact ⟨by rw [h.cellAt (j * 6) (by omega)]; exact e0, by rw [h.cellAt (j * 6 + 1) (by omega)]; exact hc 1 (by omega), by rw [h.cellAt (j * 6 + 2) (by omega)]; exact hc 2 (by omega), by rw [h.cellAt (j * 6 + 3) (by omega)]; exact hc 3 (by omega), by rw [h.cellAt (j * 6 + 4) (by omega)]; exact hc 4 (by omega), by rw [h.cellAt (j * 6 + 5) (by omega)]; exact hc 5 (by omega)⟩
theorem ts1 (xs : List Value) (m : Nat) (a : Value) (h : m < xs.length) : (xs.set m a).take (m + 1) = xs.take m ++ [a] := by
  rw [List.take_add_one, List.take_set_of_le (Nat.le_refl _), List.getElem?_set_self h]
  rfl
theorem take_set6 (xs : List Value) (m : Nat) (a b c d e f : Value) (h : m + 6 ≤ xs.length) : ((((((xs.set m a).set (m + 1) b).set (m + 2) c).set (m + 3) d).set (m + 4) e).set (m + 5) f).take (m + 6) = xs.take m ++ [a, b, c, d, e, f] := by
  rw [ts1 _ (m + 5) f (by simp; omega), ts1 _ (m + 4) e (by simp; omega), ts1 _ (m + 3) d (by simp; omega), ts1 _ (m + 2) c (by simp; omega), ts1 _ (m + 1) b (by simp; omega), ts1 _ m a (by omega)]
  simp

/-- a question as a value -/
abbrev akV (i o a b : Int) : Value := .agg #[.int .i64 i, .int .i64 o, .int .i64 a, .int .i64 b]
abbrev sdV (x : Sd) : Value := .agg #[.int .i64 x.id, .int .i64 x.i, .int .i64 x.o, .int .i64 x.a, .int .i64 x.b, .int .i64 x.s]
theorem toAsk_any (i o a b : Int) (w : World) : Calls Try.prog 14 #[akV i o a b] w fun e w' => e = .returned (akV i o a b) ∧ Below w.heap.size w w' := by
  go_enter Try.func14, Try.ntmps14
  go_wp2
  exact bodyPost_ret (v := akV i o a b) (by simp [results, Try.results14, go_sem]) rfl ⟨rfl, (((Below.refl _ _).alloc (Nat.le_refl _) _).alloc (by simp) _).alloc (by simp; omega) _⟩
theorem eqAsk_yes (i o a b : Int) (w : World) : Calls Try.prog 71 #[akV i o a b, akV i o a b] w fun e w' => e = .returned (.bool true) ∧ Below w.heap.size w w' := by
  go_enter Try.func71, Try.ntmps71
  go_wp2
  go_ret
  exact ⟨rfl, ((Below.refl _ _).alloc (Nat.le_refl _) _).alloc (by simp) _⟩

set_option maxRecDepth 100000 in
set_option maxHeartbeats 2000000 in
theorem toSaid_any (x : Sd) (w : World) : Calls Try.prog 46 #[sdV x] w fun e w' => e = .returned (sdV x) ∧ Below w.heap.size w w' := by
  obtain ⟨id, i, o, a, b, s⟩ := x
  dsimp only [sdV]
  have HT := hideIt (toAsk_any i o a b)
  have B3 := hideIt (((Below.refl w.heap.size w).alloc (Nat.le_refl _) (.cells #[.int .i64 id, .int .i64 i, .int .i64 o, .int .i64 a, .int .i64 b, .int .i64 s] 77)).alloc (by simp) (.cells #[.int .i64 0, .int .i64 0, .int .i64 0, .int .i64 0, .int .i64 0, .int .i64 0] 74) |>.alloc (by simp; omega) (.cells #[.int .i64 id, .int .i64 0, .int .i64 0, .int .i64 0, .int .i64 0, .int .i64 0] 74))
  go_enter Try.func46, Try.ntmps46
  go_wp2_with (go_at_call 14; refine (HT.out _).mono ?_; rintro e w1 ⟨rfl, hb1⟩; refine Hid.out ?_)
  refine (show ∀ {p : Prop}, p → Hid p from fun h => h) ?_
  obtain ⟨hc, hf⟩ := bcell hb1
  have HB := hideIt (B3.out.trans (hb1.mono (by simp; omega)))
  have hz := hb1.size
  clear HT hb1
  simp at hz
  go_wp2
  exact bodyPost_ret (v := .agg #[.int .i64 id, .int .i64 i, .int .i64 o, .int .i64 a, .int .i64 b, .int .i64 s]) (by simp [results, Try.results46, go_sem, hc]) rfl ⟨rfl, by
    repeat refine Below.setCell ?_ (by simp; try omega) _
    exact HB.out⟩

set_option maxRecDepth 100000 in
set_option maxHeartbeats 2000000 in
theorem eqSaid_yes (x : Sd) (w : World) : Calls Try.prog 48 #[sdV x, sdV x] w fun e w' => e = .returned (.bool true) ∧ Below w.heap.size w w' := by
  obtain ⟨id, i, o, a, b, s⟩ := x
  dsimp only [sdV]
  have HT := hideIt (eqAsk_yes i o a b)
  have B2 := hideIt (((Below.refl w.heap.size w).alloc (Nat.le_refl _) (.cells #[.int .i64 id, .int .i64 i, .int .i64 o, .int .i64 a, .int .i64 b, .int .i64 s] 74)).alloc (by simp) (.cells #[.int .i64 id, .int .i64 i, .int .i64 o, .int .i64 a, .int .i64 b, .int .i64 s] 74))
  go_enter Try.func48, Try.ntmps48
  go_wp2_with (go_at_call 71; refine (HT.out _).mono ?_; rintro e w1 ⟨rfl, hb1⟩; refine Hid.out ?_)
  refine (show ∀ {p : Prop}, p → Hid p from fun h => h) ?_
  obtain ⟨hc, hf⟩ := bcell hb1
  have HB := hideIt (B2.out.trans (hb1.mono (by simp; omega)))
  have hz := hb1.size
  clear HT hb1
  simp at hz
  go_wp2
  go_ret
  exact ⟨rfl, HB.out⟩

set_option maxRecDepth 100000 in
set_option maxHeartbeats 4000000 in
theorem toSaidS_any (ss : List Sd) (n : Nat) (a : Option Addr) (cap : Nat) (hn : n ≤ 1048576) (w : World) (h : Ss w w.heap.size a n ss) :
    Calls Try.prog 20 #[.slice a n cap] w fun e w' => ∃ g, e = .returned (.slice (some ⟨g, 0, none⟩) n n) ∧ w'.ownsRow w.heap.size 74 6 (.slice (some ⟨g, 0, none⟩) n n) n (scells ss) ∧ Below w.heap.size w w' := by
  obtain ⟨i0, hi, hz0, hz1, hz2⟩ := info_parts infoSd
  have hmk : ∀ u : World, (Instr.makeSlice 48 (.int .i64 (n : Int)) (.int .i64 (n : Int))).run Try.prog u =
      .ok (.slice (some ⟨u.heap.size, 0, none⟩) n n) (u.alloc (.cells (madeCells #[.int .i64 0, .int .i64 0, .int .i64 0, .int .i64 0, .int .i64 0, .int .i64 0] (n * 6)) 74)) := fun u => by
    have h := run_make (P := Try.prog) u 48 74 i0 _ Try.underlying48 hi hz0 .i64 .i64 (n : Int) (n : Int) (by omega) (by omega) (by rw [hz2]; omega) (by omega)
    rw [Int.toNat_natCast] at h
    simpa [hz1, Value.cells] using h
  have HR := hideIt h
  have hlen := h.1
  clear h
  go_enter Try.func20, Try.ntmps20
  go_wp2
  go_loopw [4] (fun i wr => ∃ (k : Nat) (xs : List Value), k ≤ n ∧ i = .int .i64 (k : Int) ∧ Hid (xs.take (k * 6) = scells (ss.take k)) ∧ wr.ownsRow w.heap.size 74 6 (.slice (some ⟨w.heap.size, 0, none⟩) n n) n xs ∧ Below w.heap.size w wr)
    (fun i _ => n - (intOf i).toNat)
  case atStart => exact ⟨0, _, by omega, rfl, by show _ = _; simp [scells], World.ownsRow_lit (base := w.heap.size) (e := 74) (size := 6) w (madeCells #[.int .i64 0, .int .i64 0, .int .i64 0, .int .i64 0, .int .i64 0, .int .i64 0] (n * 6)) n (Nat.le_refl _) (by unfold maxLen; omega) (by simp [madeCells]), (Below.refl _ _).alloc (Nat.le_refl _) _⟩
  case round =>
    obtain ⟨k, xs, hk, rfl, hx, hown, hb⟩ := hrel
    by_cases hlt : k < n
    · obtain ⟨b, off, x, rfl, hbl, hxk, hat⟩ := (HR.out.below hb (Nat.le_refl _)).at hlt
      obtain ⟨e0, e1, e2, e3, e4, e5⟩ := hat
      have b1 : (0 : Int) ≤ (k : Int) := by omega
      have b2 : (k : Int) < (n : Int) := by omega
      have HT := hideIt (toSaid_any x wr)
      have HTk := hideIt (take_snocF ss k x hxk)
      clear hxk
      go_wp2_with (go_at_call 46; refine HT.out.mono ?_; rintro e w1 ⟨rfl, hb1⟩; refine Hid.out ?_)
      refine (show ∀ {p : Prop}, p → Hid p from fun h => h) ?_
      have hown1 := own_up hown hb1
      have hl3 : xs.length = n * 6 := hown1.1
      have fz := hown1.frozenAt
      have xc : ∀ q, q < 6 → w1.cell? ⟨w.heap.size, k * 6 + q, none⟩ = some (xs[k * 6 + q]?.getD default) := fun q hq => by rw [hown1.cellAt (k * 6 + q) (by omega), List.getElem?_eq_getElem (by omega)]; rfl
      have f0 := fz (k * 6)
      have f1 := fz (k * 6 + 1)
      have f2 := fz (k * 6 + 2)
      have f3 := fz (k * 6 + 3)
      have f4 := fz (k * 6 + 4)
      have f5 := fz (k * 6 + 5)
      have x0 := xc 0 (by omega)
      rw [Nat.add_zero] at x0
      have x1 := xc 1 (by omega)
      have x2 := xc 2 (by omega)
      have x3 := xc 3 (by omega)
      have x4 := xc 4 (by omega)
      have x5 := xc 5 (by omega)
      clear e0 e1 e2 e3 e4 e5 HT fz xc
      go_wp2
      refine ⟨⟨k + 1, (((((xs.set (k * 6) (.int .i64 x.id)).set (k * 6 + 1) (.int .i64 x.i)).set (k * 6 + 2) (.int .i64 x.o)).set (k * 6 + 3) (.int .i64 x.a)).set (k * 6 + 4) (.int .i64 x.b)).set (k * 6 + 5) (.int .i64 x.s), by omega, by go_num, ?_, ?_, ?_⟩, by simp [intOf]; omega⟩
      · show _ = _
        rw [show (k + 1) * 6 = k * 6 + 6 by omega, take_set6 _ _ _ _ _ _ _ _ (by omega), hx.out, HTk.out, scells_snoc]
        rfl
      · exact ((((((hown1.stored (k * 6) _).1.stored (k * 6 + 1) _).1.stored (k * 6 + 2) _).1.stored (k * 6 + 3) _).1.stored (k * 6 + 4) _).1.stored (k * 6 + 5) _).1
      · exact ((((((hb.trans (hb1.mono hb.size)).setCell (Nat.le_refl _) _).setCell (Nat.le_refl _) _).setCell (Nat.le_refl _) _).setCell (Nat.le_refl _) _).setCell (Nat.le_refl _) _).setCell (Nat.le_refl _) _
    · have e : ss.take k = ss := List.take_of_length_le (by omega)
      have hl3 : xs.length = n * 6 := hown.1
      have HX : Hid (xs = scells ss) := by
        show _ = _
        have := hx.out
        rw [e, List.take_of_length_le (by omega)] at this
        exact this
      have HO := hideIt hown
      clear hx e hown hl3
      go_wp2
      go_ret
      exact ⟨w.heap.size, rfl, by rw [← HX.out]; exact HO.out, hb⟩

def SdC (W : World) (b o : Nat) (x : Sd) : Prop := ((W.cell? ⟨b, o, none⟩ = some (.int .i64 x.id) ∧ W.cell? ⟨b, o + 1, none⟩ = some (.int .i64 x.i)) ∧ (W.cell? ⟨b, o + 2, none⟩ = some (.int .i64 x.o) ∧ W.cell? ⟨b, o + 3, none⟩ = some (.int .i64 x.a))) ∧ (W.cell? ⟨b, o + 4, none⟩ = some (.int .i64 x.b) ∧ W.cell? ⟨b, o + 5, none⟩ = some (.int .i64 x.s))
set_option maxRecDepth 100000 in
set_option maxHeartbeats 4000000 in
theorem eqSaidS_same (ss : List Sd) (n : Nat) (a a' : Option Addr) (c c' : Nat) (hn : n ≤ 1048576) (w : World) (h : Ss w w.heap.size a n ss) (h' : Ss w w.heap.size a' n ss) :
    Calls Try.prog 22 #[.slice a n c, .slice a' n c'] w fun e w' => e = .returned (.bool true) ∧ Below w.heap.size w w' := by
  have HR := hideIt h
  have HR' := hideIt h'
  clear h h'
  go_enter Try.func22, Try.ntmps22
  go_wp2
  go_loopw [5] (fun i wr => ∃ k : Nat, k ≤ n ∧ i = .int .i64 (k : Int) ∧ Below w.heap.size w wr) (fun i _ => n - (intOf i).toNat)
  case atStart => exact ⟨0, by omega, rfl, Below.refl _ _⟩
  case round =>
    obtain ⟨k, hk, rfl, hb⟩ := hrel
    by_cases hlt : k < n
    · obtain ⟨b, off, x, rfl, hbl, hxk, hat⟩ := HR.out.at hlt
      obtain ⟨b', off', x', rfl, hbl', hxk', hat'⟩ := HR'.out.at hlt
      rw [hxk] at hxk'
      obtain rfl := Option.some.inj hxk'
      have b1 : (0 : Int) ≤ (k : Int) := by omega
      have b2 : (k : Int) < (n : Int) := by omega
      have HT : Hid (∀ W : World, Below w.heap.size w W → Calls Try.prog 48 #[sdV x, sdV x] W fun e w' => e = .returned (.bool true) ∧ Below w.heap.size w w') := fun W hW =>
        (eqSaid_yes x W).mono fun _ _ ⟨he, hb'⟩ => ⟨he, hW.trans (hb'.mono hW.size)⟩
      have HK : Hid (∀ W : World, Below w.heap.size w W → SdC W b (off + k * 6) x ∧ SdC W b' (off' + k * 6) x) := fun W hW => by
        have h1 := hat.below hW hbl
        have h2 := hat'.below hW hbl'
        exact ⟨⟨⟨⟨h1.c0, h1.c1⟩, h1.c2, h1.c3⟩, h1.c4, h1.c5⟩, ⟨⟨h2.c0, h2.c1⟩, h2.c2, h2.c3⟩, h2.c4, h2.c5⟩
      have e := HK.out wr hb
      obtain ⟨⟨⟨⟨e0, e1⟩, e2, e3⟩, e4, e5⟩, ⟨⟨e6, e7⟩, e8, e9⟩, ea, eb⟩ := e
      have hbd := hb.drew
      unfold SdC at HK
      clear hat hat' hxk hxk'
      go_wp2
      go_region_held3 (fun W => Below w.heap.size w W ∧ (((W.cell? ⟨b, off + k * 6, none⟩ = some (.int .i64 x.id) ∧ W.cell? ⟨b, off + k * 6 + 1, none⟩ = some (.int .i64 x.i)) ∧ (W.cell? ⟨b, off + k * 6 + 2, none⟩ = some (.int .i64 x.o) ∧ W.cell? ⟨b, off + k * 6 + 3, none⟩ = some (.int .i64 x.a))) ∧ (W.cell? ⟨b, off + k * 6 + 4, none⟩ = some (.int .i64 x.b) ∧ W.cell? ⟨b, off + k * 6 + 5, none⟩ = some (.int .i64 x.s))) ∧ (((W.cell? ⟨b', off' + k * 6, none⟩ = some (.int .i64 x.id) ∧ W.cell? ⟨b', off' + k * 6 + 1, none⟩ = some (.int .i64 x.i)) ∧ (W.cell? ⟨b', off' + k * 6 + 2, none⟩ = some (.int .i64 x.o) ∧ W.cell? ⟨b', off' + k * 6 + 3, none⟩ = some (.int .i64 x.a))) ∧ (W.cell? ⟨b', off' + k * 6 + 4, none⟩ = some (.int .i64 x.b) ∧ W.cell? ⟨b', off' + k * 6 + 5, none⟩ = some (.int .i64 x.s))))
        (first | exact ⟨hb3, HK.out _ hb3⟩ | exact ⟨hbd, HK.out _ hbd⟩)
        ((go_at_call 48; refine (HT.out _ hbd).mono ?_; rintro e w1 ⟨rfl, hb3⟩))
      clear hbd
      go_wp2
      exact ⟨⟨k + 1, by omega, by go_num, hb3⟩, by simp [intOf]; omega⟩
    · go_wp2
      go_ret
      exact ⟨rfl, hb⟩
end Go.Proofs.Ytobcihdjennieaa
namespace Go.Proofs.Ytobcihdjennieaa
open Go.RowKit

/-- one question more: the graph, and whether all was said alike -/
def flS (N : Int) (r : List EdgeV × Bool) (x : Sd) : List EdgeV × Bool :=
  if x.s = 3 then r else ((mdR N r.1 x.o x.a x.b).1, r.2 && ((mdR N r.1 x.o x.a x.b).2 == x.s || x.o == 4))
def flR (N : Int) (ss : List Sd) : List EdgeV × Bool := ss.foldl (flS N) ([], true)
theorem flR_snoc (N : Int) (ss : List Sd) (x : Sd) : flR N (ss ++ [x]) = flS N (flR N ss) x := by simp [flR, List.foldl_append]
theorem mdR_short {N : Int} {es : List EdgeV} {xo xa xb : Int} (h : es.length ≤ 200) : (mdR N es xo xa xb).1.length ≤ 200 := by
  have hA : (chR es (addE N es (edA xa xb))).1.length ≤ 200 := by
    unfold chR addE
    split
    · rename_i h0
      have h1 := (gB_chk h0.1).2.2
      have h2 := putE_length es (edA xa xb)
      simp only [Option.getD_some]
      omega
    · simpa using h
  have hT : (chR es (takE N es (edA xa xb))).1.length ≤ 200 := by
    unfold chR takE
    split
    · simp only [Option.getD_some]
      have h2 : (outE es (edA xa xb)).length ≤ es.length := by unfold outE; exact List.length_filter_le _ _
      omega
    · simpa using h
  unfold mdR
  split
  · exact h
  · split
    · exact hA
    · split
      · exact hT
      · split <;> exact h
theorem flS_short {N : Int} {r : List EdgeV × Bool} {x : Sd} (h : r.1.length ≤ 200) : (flS N r x).1.length ≤ 200 := by
  unfold flS
  split
  · exact h
  · exact mdR_short h
theorem flR_short (N : Int) (ss : List Sd) : (flR N ss).1.length ≤ 200 := by
  have : ∀ (ss : List Sd) (r : List EdgeV × Bool), r.1.length ≤ 200 → (ss.foldl (flS N) r).1.length ≤ 200 := fun ss => by
    induction ss with
    | nil => intro r h; exact h
    | cons x ss ih => intro r h; exact ih _ (flS_short h)
  exact this ss _ (by simp)
theorem fl_no {N : Int} (ss : List Sd) : ∀ r : List EdgeV × Bool, r.2 = false → (ss.foldl (flS N) r).2 = false := by
  induction ss with
  | nil => intro r h; exact h
  | cons x ss ih =>
    intro r h
    refine ih _ ?_
    unfold flS
    split
    · exact h
    · simp [h]
theorem flR_no {N : Int} {ss : List Sd} {k : Nat} (h : (flR N (ss.take k)).2 = false) : (flR N ss).2 = false := by
  have e : flR N ss = (ss.drop k).foldl (flS N) (flR N (ss.take k)) := by
    unfold flR
    rw [← List.foldl_append, List.take_append_drop]
  rw [e]
  exact fl_no _ _ h
theorem Sl_of_own {w : World} {B n c : Nat} {a : Option Addr} {xs : List Value} {e s : Nat} (h : w.ownsRow B e s (.slice a n c) n xs) : Sl a n c := by
  rcases h.2 with ⟨hv, h0⟩ | ⟨g, cap, cur, hv, _, _, h1, h2, _⟩
  · simp at hv
    obtain ⟨rfl, rfl, rfl⟩ := hv
    exact ⟨Nat.le_refl _, by unfold maxLen; omega, .inl ⟨rfl, rfl, rfl⟩⟩
  · simp at hv
    obtain ⟨rfl, rfl⟩ := hv
    exact ⟨h1, h2, .inr ⟨_, _, rfl⟩⟩
/-- the answer's box and the graph's, and the graph's edges -/
structure FI (w : World) (N : Int) (es : List EdgeV) (a : Option Addr) (m c : Nat) (u : World) : Prop where
  bel : Below w.heap.size w u
  r : Box2 u w.heap.size 26 (.int .i64 0) (.slice none 0 0)
  g : Box2 u (w.heap.size + 1) 26 (.int .i64 N) (.slice a m c)
  own : u.ownsRow (w.heap.size + 2) 59 2 (.slice a m c) m (ecells es)
section
variable {w u v : World} {N : Int} {es : List EdgeV} {a : Option Addr} {m c : Nat}
theorem FI.size (h : FI w N es a m c u) : w.heap.size + 2 ≤ u.heap.size := h.g.lt
theorem FI.up (h : FI w N es a m c u) (hb : Below u.heap.size u v) : FI w N es a m c v :=
  ⟨h.bel.trans (hb.mono (by have := h.size; omega)), h.r.below hb h.r.lt, h.g.below hb h.g.lt, own_up h.own hb⟩
theorem FI.set (h : FI w N es a m c u) {gs : List EdgeV} {a' : Option Addr} {m' c' : Nat} (ho : u.ownsRow (w.heap.size + 2) 59 2 (.slice a' m' c') m' (ecells gs)) :
    FI w N gs a' m' c' ((u.setCell ⟨w.heap.size + 1, 0, none⟩ (.int .i64 N)).setCell ⟨w.heap.size + 1, 1, none⟩ (.slice a' m' c')) := by
  refine ⟨(h.bel.setCell (by show _ ≤ w.heap.size + 1; omega) _).setCell (by show _ ≤ w.heap.size + 1; omega) _, ?_, h.g.set _ _, own_setLow (own_setLow ho _ 0 _ (by omega)) _ 1 _ (by omega)⟩
  unfold Box2
  rw [heap_setCell_other _ ⟨w.heap.size + 1, 1, none⟩ w.heap.size _ (by show w.heap.size ≠ w.heap.size + 1; omega), heap_setCell_other _ ⟨w.heap.size + 1, 0, none⟩ w.heap.size _ (by show w.heap.size ≠ w.heap.size + 1; omega)]
  exact h.r
theorem FI.start (w : World) (N : Int) : FI w N [] none 0 0 ((w.alloc (.cells #[.int .i64 0, .slice none 0 0] 26)).alloc (.cells #[.int .i64 N, .slice none 0 0] 26)) := by
  refine ⟨((Below.refl _ _).alloc (Nat.le_refl _) _).alloc (by simp) _, (Box2.new w _ _ _ _ rfl).alloc _, ?_, World.ownsRow_nil _ _ _ _⟩
  have h := Box2.new (w.alloc (.cells #[.int .i64 0, .slice none 0 0] 26)) 26 (.int .i64 N) (.slice none 0 0) _ rfl
  rw [show (w.alloc (.cells #[.int .i64 0, .slice none 0 0] 26)).heap.size = w.heap.size + 1 by simp] at h
  exact h
end


set_option maxRecDepth 100000 in
set_option maxHeartbeats 4000000 in
theorem modelled_any (N : Int) (ss : List Sd) (n : Nat) (a : Option Addr) (c : Nat) (hn : n ≤ 1048576) (w : World) (h : Ss w w.heap.size a n ss) :
    Calls Try.prog 47 #[.int .i64 N, .slice a n c] w fun e w' => ∃ a' m' c', e = .returned (.tuple #[.agg #[.int .i64 N, .slice a' m' c'], .bool (flR N ss).2]) ∧ w'.ownsRow w.heap.size 59 2 (.slice a' m' c') m' (ecells (flR N ss).1) ∧ Below w.heap.size w w' := by
  have HR := hideIt h
  have hlen := h.1
  have S0 := hideIt (FI.start w N)
  clear h
  go_enter Try.func47, Try.ntmps47
  go_wp2
  go_loopw [7, 16] (fun v i wr => ∃ (k : Nat) (f : Bool) (es : List EdgeV) (ag : Option Addr) (m cg : Nat), k ≤ n ∧ i = .int .i64 (k : Int) ∧ v = .bool f ∧ Hid (flR N (ss.take k) = (es, f)) ∧ Hid (FI w N es ag m cg wr)) (fun _ i _ => n - (intOf i).toNat)
  case atStart => exact ⟨0, true, [], none, 0, 0, by omega, rfl, rfl, rfl, S0⟩
  case round =>
    obtain ⟨k, f, es, ag, m, cg, hk, rfl, rfl, HF, HS⟩ := hrel
    clear S0
    by_cases hlt : k < n
    · obtain ⟨b, off, x, rfl, hbl, hxk, hat⟩ := (HR.out.below HS.out.bel (Nat.le_refl _)).at hlt
      obtain ⟨e0, e1, e2, e3, e4, e5⟩ := hat
      have b1 : (0 : Int) ≤ (k : Int) := by omega
      have b2 : (k : Int) < (n : Int) := by omega
      have HN : Hid (flR N (ss.take (k + 1)) = flS N (es, f) x) := by
        show _ = _
        rw [take_snocF ss k x hxk, flR_snoc, HF.out]
      have hes : es.length ≤ 200 := by have := flR_short N (ss.take k); rw [HF.out] at this; exact this
      have hm : m ≤ 200 := by have := HS.out.own.1; rw [ecells_length] at this; omega
      have X1 := HS.out.up ((Below.refl _ _).alloc (Nat.le_refl _) (.cells #[.int .i64 x.id, .int .i64 x.i, .int .i64 x.o, .int .i64 x.a, .int .i64 x.b, .int .i64 x.s] 74))
      have c0 : (wr.alloc (.cells #[.int .i64 x.id, .int .i64 x.i, .int .i64 x.o, .int .i64 x.a, .int .i64 x.b, .int .i64 x.s] 74)).cell? ⟨wr.heap.size, 5, none⟩ = some (.int .i64 x.s) := by simp [go_sem]
      have c1 : (wr.alloc (.cells #[.int .i64 x.id, .int .i64 x.i, .int .i64 x.o, .int .i64 x.a, .int .i64 x.b, .int .i64 x.s] 74)).cell? ⟨wr.heap.size, 1, none⟩ = some (.int .i64 x.i) := by simp [go_sem]
      have c2' : (wr.alloc (.cells #[.int .i64 x.id, .int .i64 x.i, .int .i64 x.o, .int .i64 x.a, .int .i64 x.b, .int .i64 x.s] 74)).cell? ⟨wr.heap.size, 2, none⟩ = some (.int .i64 x.o) := by simp [go_sem]
      have c3 : (wr.alloc (.cells #[.int .i64 x.id, .int .i64 x.i, .int .i64 x.o, .int .i64 x.a, .int .i64 x.b, .int .i64 x.s] 74)).cell? ⟨wr.heap.size, 3, none⟩ = some (.int .i64 x.a) := by simp [go_sem]
      have c4 : (wr.alloc (.cells #[.int .i64 x.id, .int .i64 x.i, .int .i64 x.o, .int .i64 x.a, .int .i64 x.b, .int .i64 x.s] 74)).cell? ⟨wr.heap.size, 4, none⟩ = some (.int .i64 x.b) := by simp [go_sem]
      have bB : wr.heap.size < (wr.alloc (.cells #[.int .i64 x.id, .int .i64 x.i, .int .i64 x.o, .int .i64 x.a, .int .i64 x.b, .int .i64 x.s] 74)).heap.size := by simp
      clear hxk HS HF
      obtain ⟨W, hW⟩ : ∃ W, W = wr.alloc (.cells #[.int .i64 x.id, .int .i64 x.i, .int .i64 x.o, .int .i64 x.a, .int .i64 x.b, .int .i64 x.s] 74) := ⟨_, rfl⟩
      go_upto_region 5 with fail
      rw [← hW] at X1 c0 c1 c2' c3 c4 bB ⊢
      clear hW e0 e1 e2 e3 e4 e5 hbl b1 b2
      generalize wr.heap.size = B at *
      have g0 := X1.g.cell0
      have g1 := X1.g.cell1
      by_cases h3 : x.s = 3
      · have e3 : (x.s == 3) = true := by simpa using h3
        have HN2 : Hid (flR N (ss.take (k + 1)) = (es, f)) := by show _ = _; rw [HN.out]; unfold flS; rw [if_pos h3]
        clear h3 HN
        go_wp2
        exact ⟨⟨k + 1, f, es, ag, m, cg, by omega, by go_num, rfl, HN2, X1⟩, by simp [intOf]; omega⟩
      · have e3 : (x.s == 3) = false := by simpa using h3
        have HN2 : Hid (flR N (ss.take (k + 1)) = ((mdR N es x.o x.a x.b).1, f && ((mdR N es x.o x.a x.b).2 == x.s || x.o == 4))) := by show _ = _; rw [HN.out]; unfold flS; rw [if_neg h3]
        clear h3 HN
        have HM := hideIt (iModel_any N es x.i x.o x.a x.b m ag cg (Sl_of_own X1.own) (by omega) W (Es_of_own X1.own))
        generalize mdR N es x.o x.a x.b = r at *
        obtain ⟨gs, say⟩ := r
        dsimp only at HM HN2
        have HX := hideIt X1
        have zX := X1.size
        clear X1
        go_wp2_with (go_at_call 8; refine HM.out.mono ?_; rintro e u2 ⟨a2, m2, c2, rfl, ho2, hb2⟩; refine Hid.out ?_)
        refine (show ∀ {p : Prop}, p → Hid p from fun h => h) ?_
        have X2 := HX.out.up (hb2.trans ((Below.refl _ _).alloc hb2.size (.cells #[.int .i64 N, .slice a2 m2 c2] 26)))
        have ho3 := hideIt (own_mono (World.ownsRow.alloc ho2 (.cells #[.int .i64 N, .slice a2 m2 c2] 26)) zX)
        have n0 : (u2.alloc (.cells #[.int .i64 N, .slice a2 m2 c2] 26)).cell? ⟨u2.heap.size, 0, none⟩ = some (.int .i64 N) := by simp [go_sem]
        have n1 : (u2.alloc (.cells #[.int .i64 N, .slice a2 m2 c2] 26)).cell? ⟨u2.heap.size, 1, none⟩ = some (.slice a2 m2 c2) := by simp [go_sem]
        have hBu : B < u2.heap.size := Nat.lt_of_lt_of_le bB hb2.size
        have d0 : (u2.alloc (.cells #[.int .i64 N, .slice a2 m2 c2] 26)).cell? ⟨B, 5, none⟩ = some (.int .i64 x.s) := by rw [World.cell?_alloc_lt _ _ _ (show (Addr.mk B _ none).block < _ from hBu), hb2.cell bB]; exact c0
        have d2 : (u2.alloc (.cells #[.int .i64 N, .slice a2 m2 c2] 26)).cell? ⟨B, 2, none⟩ = some (.int .i64 x.o) := by rw [World.cell?_alloc_lt _ _ _ (show (Addr.mk B _ none).block < _ from hBu), hb2.cell bB]; exact c2'
        have hbU : u2.heap.size < (u2.alloc (.cells #[.int .i64 N, .slice a2 m2 c2] 26)).heap.size := by simp
        obtain ⟨V, hV⟩ : ∃ V, V = u2.alloc (.cells #[.int .i64 N, .slice a2 m2 c2] 26) := ⟨_, rfl⟩
        go_upto_region 7 with fail
        rw [← hV] at X2 ho3 n0 n1 d0 d2 hbU ⊢
        clear hV HM HX ho2 hb2 hBu g0 g1 c0 c1 c2' c3 c4
        have f0 := X2.g.frozen 0
        have f1 := X2.g.frozen 1
        have g0 := X2.g.cell0
        have g1 := X2.g.cell1
        have z2 := X2.size
        have gl : w.heap.size + 1 < V.heap.size := X2.g.lt
        have X3 := hideIt (X2.set ho3.out)
        generalize u2.heap.size = D at *
        clear X2 ho3
        cases f with
        | false =>
          have HN3 : Hid (flR N (ss.take (k + 1)) = (gs, false)) := by show _ = _; rw [HN2.out]; simp
          clear HN2
          go_wp2
          exact ⟨⟨k + 1, false, gs, a2, m2, c2, by omega, by go_num, rfl, HN3, X3⟩, by simp [intOf]; omega⟩
        | true =>
          by_cases hs : say = x.s
          · have q0 : (say == x.s) = true := by simpa using hs
            clear hs
            have HN3 : Hid (flR N (ss.take (k + 1)) = (gs, true)) := by show _ = _; rw [HN2.out]; simp [q0]
            clear HN2
            go_wp2
            exact ⟨⟨k + 1, true, gs, a2, m2, c2, by omega, by go_num, rfl, HN3, X3⟩, by simp [intOf]; omega⟩
          · have q0 : (say == x.s) = false := by simpa using hs
            clear hs
            by_cases h4 : x.o = 4
            · have q1 : (x.o == 4) = true := by simpa using h4
              clear h4
              have HN3 : Hid (flR N (ss.take (k + 1)) = (gs, true)) := by show _ = _; rw [HN2.out]; simp [q1]
              clear HN2
              go_wp2
              exact ⟨⟨k + 1, true, gs, a2, m2, c2, by omega, by go_num, rfl, HN3, X3⟩, by simp [intOf]; omega⟩
            · have q1 : (x.o == 4) = false := by simpa using h4
              clear h4
              have HN3 : Hid (flR N (ss.take (k + 1)) = (gs, false)) := by show _ = _; rw [HN2.out]; simp [q0, q1]
              clear HN2
              go_wp2
              exact ⟨⟨k + 1, false, gs, a2, m2, c2, by omega, by go_num, rfl, HN3, X3⟩, by simp [intOf]; omega⟩
    · have e : ss.take k = ss := List.take_of_length_le (by omega)
      rw [e] at HF
      have r0 := HS.out.r.cell0
      have r1 := HS.out.r.cell1
      have r2 := HS.out.r.frozen 0
      have r3 := HS.out.r.frozen 1
      have g0 := HS.out.g.cell0
      have g1 := HS.out.g.cell1
      have sz := HS.out.size
      have HO := hideIt (own_setLow (own_setLow HS.out.own w.heap.size 0 (.int .i64 N) (by omega)) w.heap.size 1 (.slice ag m cg) (by omega))
      have HB := hideIt ((HS.out.bel.setCell (p := ⟨w.heap.size, 0, none⟩) (Nat.le_refl _) (.int .i64 N)).setCell (p := ⟨w.heap.size, 1, none⟩) (Nat.le_refl _) (.slice ag m cg))
      clear HS e
      go_wp2
      exact bodyPost_ret (v := .tuple #[.agg #[.int .i64 N, .slice ag m cg], .bool f]) (by simp [results, Try.results47, go_sem, r0, r1]) rfl ⟨ag, m, cg, by rw [HF.out], by rw [HF.out]; exact own_mono HO.out (by omega), HB.out⟩

set_option maxRecDepth 100000 in
set_option maxHeartbeats 4000000 in
theorem l15Graph_any (N : Int) (ss : List Sd) (n : Nat) (a : Option Addr) (c : Nat) (hn : n ≤ 1048576) (w : World) (h : Ss w w.heap.size a n ss) :
    Calls Try.prog 45 #[.int .i64 N, .slice a n c] w fun e w' => ∃ M a' m' c', e = .returned (.tuple #[.agg #[.int .i64 M, .slice a' m' c'], .bool (flR N ss).2]) ∧ Below w.heap.size w w' := by
  have HR := hideIt h
  have hlen := h.1
  have S0 := hideIt (FI.start w N)
  clear h
  go_enter Try.func45, Try.ntmps45
  go_wp2
  go_loopw [7] (fun i wr => ∃ (k : Nat) (es : List EdgeV) (ag : Option Addr) (m cg : Nat), k ≤ n ∧ i = .int .i64 (k : Int) ∧ Hid (flR N (ss.take k) = (es, true)) ∧ Hid (FI w N es ag m cg wr)) (fun i _ => n - (intOf i).toNat)
  case atStart => exact ⟨0, [], none, 0, 0, by omega, rfl, rfl, S0⟩
  case round =>
    obtain ⟨k, es, ag, m, cg, hk, rfl, HF, HS⟩ := hrel
    clear S0
    by_cases hlt : k < n
    · obtain ⟨b, off, x, rfl, hbl, hxk, hat⟩ := (HR.out.below HS.out.bel (Nat.le_refl _)).at hlt
      obtain ⟨e0, e1, e2, e3, e4, e5⟩ := hat
      have b1 : (0 : Int) ≤ (k : Int) := by omega
      have b2 : (k : Int) < (n : Int) := by omega
      have HN : Hid (flR N (ss.take (k + 1)) = flS N (es, true) x) := by
        show _ = _
        rw [take_snocF ss k x hxk, flR_snoc, HF.out]
      have hes : es.length ≤ 200 := by have := flR_short N (ss.take k); rw [HF.out] at this; exact this
      have hm : m ≤ 200 := by have := HS.out.own.1; rw [ecells_length] at this; omega
      have X1 := HS.out.up ((Below.refl _ _).alloc (Nat.le_refl _) (.cells #[.int .i64 x.id, .int .i64 x.i, .int .i64 x.o, .int .i64 x.a, .int .i64 x.b, .int .i64 x.s] 74))
      have c0 : (wr.alloc (.cells #[.int .i64 x.id, .int .i64 x.i, .int .i64 x.o, .int .i64 x.a, .int .i64 x.b, .int .i64 x.s] 74)).cell? ⟨wr.heap.size, 5, none⟩ = some (.int .i64 x.s) := by simp [go_sem]
      have c1 : (wr.alloc (.cells #[.int .i64 x.id, .int .i64 x.i, .int .i64 x.o, .int .i64 x.a, .int .i64 x.b, .int .i64 x.s] 74)).cell? ⟨wr.heap.size, 1, none⟩ = some (.int .i64 x.i) := by simp [go_sem]
      have c2' : (wr.alloc (.cells #[.int .i64 x.id, .int .i64 x.i, .int .i64 x.o, .int .i64 x.a, .int .i64 x.b, .int .i64 x.s] 74)).cell? ⟨wr.heap.size, 2, none⟩ = some (.int .i64 x.o) := by simp [go_sem]
      have c3 : (wr.alloc (.cells #[.int .i64 x.id, .int .i64 x.i, .int .i64 x.o, .int .i64 x.a, .int .i64 x.b, .int .i64 x.s] 74)).cell? ⟨wr.heap.size, 3, none⟩ = some (.int .i64 x.a) := by simp [go_sem]
      have c4 : (wr.alloc (.cells #[.int .i64 x.id, .int .i64 x.i, .int .i64 x.o, .int .i64 x.a, .int .i64 x.b, .int .i64 x.s] 74)).cell? ⟨wr.heap.size, 4, none⟩ = some (.int .i64 x.b) := by simp [go_sem]
      have bB : wr.heap.size < (wr.alloc (.cells #[.int .i64 x.id, .int .i64 x.i, .int .i64 x.o, .int .i64 x.a, .int .i64 x.b, .int .i64 x.s] 74)).heap.size := by simp
      clear hxk HS HF
      obtain ⟨W, hW⟩ : ∃ W, W = wr.alloc (.cells #[.int .i64 x.id, .int .i64 x.i, .int .i64 x.o, .int .i64 x.a, .int .i64 x.b, .int .i64 x.s] 74) := ⟨_, rfl⟩
      go_upto_region 6 with fail
      rw [← hW] at X1 c0 c1 c2' c3 c4 bB ⊢
      clear hW e0 e1 e2 e3 e4 e5 hbl b1 b2
      generalize wr.heap.size = B at *
      have g0 := X1.g.cell0
      have g1 := X1.g.cell1
      by_cases h3 : x.s = 3
      · have e3 : (x.s == 3) = true := by simpa using h3
        have HN2 : Hid (flR N (ss.take (k + 1)) = (es, true)) := by show _ = _; rw [HN.out]; unfold flS; rw [if_pos h3]
        clear h3 HN
        go_wp2
        exact ⟨⟨k + 1, es, ag, m, cg, by omega, by go_num, HN2, X1⟩, by simp [intOf]; omega⟩
      · have e3 : (x.s == 3) = false := by simpa using h3
        have HN2 : Hid (flR N (ss.take (k + 1)) = ((mdR N es x.o x.a x.b).1, ((mdR N es x.o x.a x.b).2 == x.s || x.o == 4))) := by show _ = _; rw [HN.out]; unfold flS; rw [if_neg h3]; simp
        clear h3 HN
        have HM := hideIt (sModel_any N es x.i x.o x.a x.b m ag cg (Sl_of_own X1.own) (by omega) W (Es_of_own X1.own))
        generalize mdR N es x.o x.a x.b = r at *
        obtain ⟨gs, say⟩ := r
        dsimp only at HM HN2
        have HX := hideIt X1
        have zX := X1.size
        clear X1
        go_wp2_with (go_at_call 9; refine HM.out.mono ?_; rintro e u2 ⟨a2, m2, c2, rfl, ho2, hb2⟩; refine Hid.out ?_)
        refine (show ∀ {p : Prop}, p → Hid p from fun h => h) ?_
        have X2 := HX.out.up (hb2.trans ((Below.refl _ _).alloc hb2.size (.cells #[.int .i64 N, .slice a2 m2 c2] 26)))
        have ho3 := hideIt (own_mono (World.ownsRow.alloc ho2 (.cells #[.int .i64 N, .slice a2 m2 c2] 26)) zX)
        have n0 : (u2.alloc (.cells #[.int .i64 N, .slice a2 m2 c2] 26)).cell? ⟨u2.heap.size, 0, none⟩ = some (.int .i64 N) := by simp [go_sem]
        have n1 : (u2.alloc (.cells #[.int .i64 N, .slice a2 m2 c2] 26)).cell? ⟨u2.heap.size, 1, none⟩ = some (.slice a2 m2 c2) := by simp [go_sem]
        have hBu : B < u2.heap.size := Nat.lt_of_lt_of_le bB hb2.size
        have d0 : (u2.alloc (.cells #[.int .i64 N, .slice a2 m2 c2] 26)).cell? ⟨B, 5, none⟩ = some (.int .i64 x.s) := by rw [World.cell?_alloc_lt _ _ _ (show (Addr.mk B _ none).block < _ from hBu), hb2.cell bB]; exact c0
        have d2 : (u2.alloc (.cells #[.int .i64 N, .slice a2 m2 c2] 26)).cell? ⟨B, 2, none⟩ = some (.int .i64 x.o) := by rw [World.cell?_alloc_lt _ _ _ (show (Addr.mk B _ none).block < _ from hBu), hb2.cell bB]; exact c2'
        have hbU : u2.heap.size < (u2.alloc (.cells #[.int .i64 N, .slice a2 m2 c2] 26)).heap.size := by simp
        obtain ⟨V, hV⟩ : ∃ V, V = u2.alloc (.cells #[.int .i64 N, .slice a2 m2 c2] 26) := ⟨_, rfl⟩
        go_upto_region 8 with fail
        rw [← hV] at X2 ho3 n0 n1 d0 d2 hbU ⊢
        clear hV HM HX ho2 hb2 hBu g0 g1 c0 c1 c2' c3 c4
        have f0 := X2.g.frozen 0
        have f1 := X2.g.frozen 1
        have g0 := X2.g.cell0
        have g1 := X2.g.cell1
        have z2 := X2.size
        have gl : w.heap.size + 1 < V.heap.size := X2.g.lt
        have X3 := hideIt (X2.set ho3.out)
        have r0 := X2.r.cell0
        have r1 := X2.r.cell1
        have r2 := X2.r.frozen 0
        have r3 := X2.r.frozen 1
        have HBl := hideIt X2.bel
        generalize u2.heap.size = D at *
        clear X2 ho3
        by_cases hs : say = x.s
        · have q0 : (say == x.s) = true := by simpa using hs
          have q2 : (say != x.s) = false := by simpa using hs
          clear hs
          have HN3 : Hid (flR N (ss.take (k + 1)) = (gs, true)) := by show _ = _; rw [HN2.out]; simp [q0]
          clear HN2
          go_wp2
          exact ⟨⟨k + 1, gs, a2, m2, c2, by omega, by go_num, HN3, X3⟩, by simp [intOf]; omega⟩
        · have q0 : (say == x.s) = false := by simpa using hs
          have q2 : (say != x.s) = true := by simpa using hs
          clear hs
          by_cases h4 : x.o = 4
          · have q1 : (x.o == 4) = true := by simpa using h4
            have q3 : (x.o != 4) = false := by simpa using h4
            clear h4
            have HN3 : Hid (flR N (ss.take (k + 1)) = (gs, true)) := by show _ = _; rw [HN2.out]; simp [q1]
            clear HN2
            go_wp2
            exact ⟨⟨k + 1, gs, a2, m2, c2, by omega, by go_num, HN3, X3⟩, by simp [intOf]; omega⟩
          · have q1 : (x.o == 4) = false := by simpa using h4
            have q3 : (x.o != 4) = true := by simpa using h4
            clear h4
            have HN3 : Hid ((flR N ss).2 = false) := by
              show _ = _
              refine flR_no (k := k + 1) ?_
              rw [HN2.out]
              simp [q0, q1]
            clear HN2
            go_wp2
            exact bodyPost_ret (v := .tuple #[.agg #[.int .i64 0, .slice none 0 0], .bool false]) (by simp [results, Try.results45, go_sem, r0, r1]) rfl ⟨0, none, 0, 0, by rw [HN3.out], (HBl.out.setCell (p := ⟨w.heap.size, 0, none⟩) (Nat.le_refl _) _).setCell (p := ⟨w.heap.size, 1, none⟩) (Nat.le_refl _) _⟩
    · have e : ss.take k = ss := List.take_of_length_le (by omega)
      rw [e] at HF
      have r0 := HS.out.r.cell0
      have r1 := HS.out.r.cell1
      have r2 := HS.out.r.frozen 0
      have r3 := HS.out.r.frozen 1
      have g0 := HS.out.g.cell0
      have g1 := HS.out.g.cell1
      have sz := HS.out.size
      have HB := hideIt ((HS.out.bel.setCell (p := ⟨w.heap.size, 0, none⟩) (Nat.le_refl _) (.int .i64 N)).setCell (p := ⟨w.heap.size, 1, none⟩) (Nat.le_refl _) (.slice ag m cg))
      clear HS e
      go_wp2
      exact bodyPost_ret (v := .tuple #[.agg #[.int .i64 N, .slice ag m cg], .bool true]) (by simp [results, Try.results45, go_sem, r0, r1]) rfl ⟨N, ag, m, cg, by rw [HF.out], HB.out⟩
theorem iFollows_any (N : Int) (ss : List Sd) (n : Nat) (a : Option Addr) (c : Nat) (hn : n ≤ 1048576) (w : World) (h : Ss w w.heap.size a n ss) :
    Calls Try.prog 21 #[.int .i64 N, .slice a n c] w fun e w' => e = .returned (.bool (flR N ss).2) ∧ Below w.heap.size w w' := by
  have HM := hideIt (modelled_any N ss n a c hn w h)
  generalize (flR N ss).2 = f at *
  clear h
  go_enter Try.func21, Try.ntmps21
  go_wp2_with (go_at_call 47; refine HM.out.mono ?_; rintro e u2 ⟨a2, m2, c2, rfl, _, hb2⟩)
  go_ret
  exact ⟨rfl, hb2.trans ((Below.refl _ _).alloc hb2.size _)⟩

theorem sFollows_any (N : Int) (ss : List Sd) (n : Nat) (a : Option Addr) (c : Nat) (hn : n ≤ 1048576) (w : World) (h : Ss w w.heap.size a n ss) :
    Calls Try.prog 19 #[.int .i64 N, .slice a n c] w fun e w' => e = .returned (.bool (flR N ss).2) ∧ Below w.heap.size w w' := by
  have HM := hideIt (l15Graph_any N ss n a c hn w h)
  generalize (flR N ss).2 = f at *
  clear h
  go_enter Try.func19, Try.ntmps19
  go_wp2_with (go_at_call 45; refine HM.out.mono ?_; rintro e u2 ⟨M, a2, m2, c2, rfl, hb2⟩)
  go_ret
  exact ⟨rfl, hb2.trans ((Below.refl _ _).alloc hb2.size _)⟩
theorem szSaid (n : Nat) (a : Option Addr) (c : Nat) (hn : n ≤ maxLen) (w : World) : Calls Try.prog 18 #[.slice a n c, .int .i64 1048576] w fun e w' => ∃ q : Int, e = .returned (.int .i64 q) ∧ (q < 0 ∨ 0 ≤ q ∧ n ≤ 1048576) ∧ w' = w := by
  unfold maxLen at hn
  by_cases h : n ≤ 1048576
  · have d1 : decide ((1048576 : Int) - (n : Int) < 0) = false := decide_eq_false (by omega)
    go_enter Try.func18, Try.ntmps18
    go_wp2
    go_ret
    exact ⟨_, rfl, .inr ⟨by omega, h⟩, rfl⟩
  · have d1 : decide ((1048576 : Int) - (n : Int) < 0) = true := decide_eq_true (by omega)
    go_enter Try.func18, Try.ntmps18
    go_wp2
    go_ret
    exact ⟨_, rfl, .inl (by omega), rfl⟩
set_option maxRecDepth 100000 in
set_option maxHeartbeats 4000000 in
theorem fnExactFollows.walk (N : Int) (_hN : (Lit.int .i64 N).wf = true) (ss : List Sd) (n : Nat) (a : Option Addr) (c : Nat) (hn : n ≤ maxLen) (w : World) (h : Ss w w.heap.size a n ss) :
    Calls Try.prog 5 #[.int .i64 N, .slice a n c] w fun e w' => e = .returned (.bool true) ∧ Below w.heap.size w w' := by
  have HZ := hideIt (szSaid n a c hn w)
  have HR := hideIt h
  clear h
  go_enter Try.func5, Try.ntmps5
  go_wp2_with (go_at_call 18; refine HZ.out.mono ?_; rintro e w1 ⟨q, rfl, hq, rfl⟩; refine Hid.out ?_)
  refine (show ∀ {p : Prop}, p → Hid p from fun h => h) ?_
  clear HZ
  rcases hq with hq | ⟨hq, hn1⟩
  · have d1 : decide (q < 0) = true := decide_eq_true hq
    go_wp2
    go_ret
    exact ⟨rfl, Below.refl _ _⟩
  · have d1 : decide (q < 0) = false := decide_eq_false (by omega)
    have HT := hideIt (fun u (hu : Below w1.heap.size w1 u) => toSaidS_any ss n a c hn1 u (HR.out.up hu))
    go_wp2_with (go_at_call 20; refine (HT.out _ (Below.refl _ _)).mono ?_; rintro e w2 ⟨g2, rfl, o2, b2⟩; refine Hid.out ?_)
    refine (show ∀ {p : Prop}, p → Hid p from fun h => h) ?_
    have HF2 := hideIt (sFollows_any N ss n _ n hn1 w2 (Ss_of_own o2))
    have HFi := hideIt (fun u g (hu : u.ownsRow w1.heap.size 74 6 (.slice (some ⟨g, 0, none⟩) n n) n (scells ss)) => iFollows_any N ss n _ n hn1 u (Ss_of_own hu))
    generalize (flR N ss).2 = f at HF2 HFi
    have hff : (f != f) = false := by simp
    clear o2
    go_wp2_with (go_at_call 19; refine HF2.out.mono ?_; rintro e w3 ⟨rfl, b3⟩; refine Hid.out ?_)
    refine (show ∀ {p : Prop}, p → Hid p from fun h => h) ?_
    have B3 := b2.trans (b3.mono b2.size)
    clear HF2 b2 b3
    go_wp2_with (go_at_call 20; refine (HT.out _ B3).mono ?_; rintro e w4 ⟨g4, rfl, o4, b4⟩; refine Hid.out ?_)
    refine (show ∀ {p : Prop}, p → Hid p from fun h => h) ?_
    have B4 := B3.trans (b4.mono B3.size)
    have O4 := hideIt (own_mono o4 B3.size)
    clear B3 b4 o4
    go_wp2_with (go_at_call 21; refine (HFi.out _ _ O4.out).mono ?_; rintro e w5 ⟨rfl, b5⟩; refine Hid.out ?_)
    refine (show ∀ {p : Prop}, p → Hid p from fun h => h) ?_
    have B5 := B4.trans (b5.mono B4.size)
    have O5 := hideIt (own_up O4.out b5)
    clear B4 b5 O4 HFi
    go_wp2_with (go_at_call 20; refine (HT.out _ B5).mono ?_; rintro e w6 ⟨g6, rfl, o6, b6⟩; refine Hid.out ?_)
    refine (show ∀ {p : Prop}, p → Hid p from fun h => h) ?_
    have B6' := B5.trans (b6.mono B5.size)
    have HE := hideIt (eqSaidS_same ss n _ _ n n hn1 w6 (Ss_of_own (own_up O5.out b6)) (Ss_of_own o6))
    clear B5 b6 o6 O5
    go_wp2_with (go_at_call 22; refine HE.out.mono ?_; rintro e w7 ⟨rfl, b7⟩)
    go_ret
    exact ⟨rfl, B6'.trans (b7.mono B6'.size)⟩
end Go.Proofs.Ytobcihdjennieaa
namespace Go.Proofs.Ytobcihdjennieaa
open Go.RowKit Go.ChangeShapes Go.WideShapes Go.ChangeAt

theorem len6 {α : Type} {l : List α} (h : l.length = 6) : ∃ a b c d e f, l = [a, b, c, d, e, f] := by
  match l, h with
  | [a, b, c, d, e, f], _ => exact ⟨a, b, c, d, e, f, rfl⟩
set_option maxRecDepth 100000 in
theorem trod_ask {H : Type} {enc : TypeId × Value → H} {W : World} {fuel : Nat} {c0 c1 c2 c3 : Value} {y : DataW H × List MemPlace}
    (h : DataW.trod enc Try.prog W 0 (fun _ => true) true fuel 38 [c0, c1, c2, c3] = some y) : ∃ i o a b : Int, c0 = .int .i64 i ∧ c1 = .int .i64 o ∧ c2 = .int .i64 a ∧ c3 = .int .i64 b := by
  obtain ⟨xs, n, _, _, hl, hlen, hfi⟩ := DataW.trod_struct Try.underlying38 h
  have h0 : DataW.trod enc Try.prog W 0 (fun _ => true) true n 3 (([c0, c1, c2, c3].drop 0).take (Try.prog.cellsOf 3)) = xs[0]? := hfi 0 _ rfl
  have h1 : DataW.trod enc Try.prog W 0 (fun _ => true) true n 3 (([c0, c1, c2, c3].drop 1).take (Try.prog.cellsOf 3)) = xs[1]? := hfi 1 _ rfl
  have h2 : DataW.trod enc Try.prog W 0 (fun _ => true) true n 3 (([c0, c1, c2, c3].drop 2).take (Try.prog.cellsOf 3)) = xs[2]? := hfi 2 _ rfl
  have h3 : DataW.trod enc Try.prog W 0 (fun _ => true) true n 3 (([c0, c1, c2, c3].drop 3).take (Try.prog.cellsOf 3)) = xs[3]? := hfi 3 _ rfl
  rw [show Try.prog.cellsOf 3 = 1 by kernel_rfl] at h0
  rw [show Try.prog.cellsOf 3 = 1 by kernel_rfl] at h1
  rw [show Try.prog.cellsOf 3 = 1 by kernel_rfl] at h2
  rw [show Try.prog.cellsOf 3 = 1 by kernel_rfl] at h3
  have g : ∀ i, i < 4 → ∃ z, xs[i]? = some z := fun i hi => ⟨xs[i]'(by simp at hlen; omega), List.getElem?_eq_getElem _⟩
  obtain ⟨z0, e0⟩ := g 0 (by omega)
  rw [e0] at h0
  have h0' : DataW.trod enc Try.prog W 0 (fun _ => true) true n 3 [c0] = some z0 := by simpa using h0
  obtain ⟨k0, hk0, _⟩ := DataW.trod_int Try.underlying3 h0'
  simp at hk0
  subst hk0
  obtain ⟨z1, e1⟩ := g 1 (by omega)
  rw [e1] at h1
  have h1' : DataW.trod enc Try.prog W 0 (fun _ => true) true n 3 [c1] = some z1 := by simpa using h1
  obtain ⟨k1, hk1, _⟩ := DataW.trod_int Try.underlying3 h1'
  simp at hk1
  subst hk1
  obtain ⟨z2, e2⟩ := g 2 (by omega)
  rw [e2] at h2
  have h2' : DataW.trod enc Try.prog W 0 (fun _ => true) true n 3 [c2] = some z2 := by simpa using h2
  obtain ⟨k2, hk2, _⟩ := DataW.trod_int Try.underlying3 h2'
  simp at hk2
  subst hk2
  obtain ⟨z3, e3⟩ := g 3 (by omega)
  rw [e3] at h3
  have h3' : DataW.trod enc Try.prog W 0 (fun _ => true) true n 3 [c3] = some z3 := by simpa using h3
  obtain ⟨k3, hk3, _⟩ := DataW.trod_int Try.underlying3 h3'
  simp at hk3
  subst hk3
  exact ⟨k0, k1, k2, k3, rfl, rfl, rfl, rfl⟩
set_option maxRecDepth 100000 in
theorem trod_said {H : Type} {enc : TypeId × Value → H} {W : World} {fuel : Nat} {c0 c1 c2 c3 c4 c5 : Value} {y : DataW H × List MemPlace}
    (h : DataW.trod enc Try.prog W 0 (fun _ => true) true fuel 77 [c0, c1, c2, c3, c4, c5] = some y) : ∃ x : Sd, c0 = .int .i64 x.id ∧ c1 = .int .i64 x.i ∧ c2 = .int .i64 x.o ∧ c3 = .int .i64 x.a ∧ c4 = .int .i64 x.b ∧ c5 = .int .i64 x.s := by
  obtain ⟨xs, n, _, _, hl, hlen, hfi⟩ := DataW.trod_struct Try.underlying77 h
  have h0 : DataW.trod enc Try.prog W 0 (fun _ => true) true n 3 (([c0, c1, c2, c3, c4, c5].drop 0).take (Try.prog.cellsOf 3)) = xs[0]? := hfi 0 _ rfl
  have h1 : DataW.trod enc Try.prog W 0 (fun _ => true) true n 38 (([c0, c1, c2, c3, c4, c5].drop 1).take (Try.prog.cellsOf 38)) = xs[1]? := hfi 1 _ rfl
  have h2 : DataW.trod enc Try.prog W 0 (fun _ => true) true n 3 (([c0, c1, c2, c3, c4, c5].drop 5).take (Try.prog.cellsOf 3)) = xs[2]? := hfi 2 _ rfl
  rw [show Try.prog.cellsOf 3 = 1 by kernel_rfl] at h0
  rw [show Try.prog.cellsOf 38 = 4 by kernel_rfl] at h1
  rw [show Try.prog.cellsOf 3 = 1 by kernel_rfl] at h2
  have g : ∀ i, i < 3 → ∃ z, xs[i]? = some z := fun i hi => ⟨xs[i]'(by simp at hlen; omega), List.getElem?_eq_getElem _⟩
  obtain ⟨z0, e0⟩ := g 0 (by omega)
  rw [e0] at h0
  have h0' : DataW.trod enc Try.prog W 0 (fun _ => true) true n 3 [c0] = some z0 := by simpa using h0
  obtain ⟨k0, hk0, _⟩ := DataW.trod_int Try.underlying3 h0'
  simp at hk0
  subst hk0
  obtain ⟨z1, e1⟩ := g 1 (by omega)
  rw [e1] at h1
  have h1' : DataW.trod enc Try.prog W 0 (fun _ => true) true n 38 [c1, c2, c3, c4] = some z1 := by simpa using h1
  obtain ⟨i, o, a, b, rfl, rfl, rfl, rfl⟩ := trod_ask h1'
  obtain ⟨z2, e2⟩ := g 2 (by omega)
  rw [e2] at h2
  have h2' : DataW.trod enc Try.prog W 0 (fun _ => true) true n 3 [c5] = some z2 := by simpa using h2
  obtain ⟨k2, hk2, _⟩ := DataW.trod_int Try.underlying3 h2'
  simp at hk2
  subst hk2
  exact ⟨⟨k0, i, o, a, b, k2⟩, rfl, rfl, rfl, rfl, rfl, rfl⟩
theorem open_saidS {H : Type} {enc : TypeId × Value → H} {W : World} {a : Option Addr} {len cap fuel : Nat} {x : DataW H × List MemPlace}
    (h : DataW.trod enc Try.prog W 0 (fun _ => true) true fuel 45 [.slice a len cap] = some x) : len ≤ maxLen ∧ ∃ ss : List Sd, Ss W W.heap.size a len ss := by
  rcases DataW.trod_slice Try.underlying45 h with ⟨hcs, _⟩ | ⟨ad, l, c, elems, rest, n, _, hcs, _, _, hlc, hm, hel, hei, _, _⟩
  · simp at hcs
    obtain ⟨rfl, rfl, rfl⟩ := hcs
    exact ⟨by unfold maxLen; omega, [], ⟨rfl, .inl rfl⟩⟩
  · simp at hcs
    obtain ⟨rfl, rfl, rfl⟩ := hcs
    refine ⟨by omega, ?_⟩
    have each : ∀ i, i < len → ∃ x : Sd, W.cell? ((ad.add (i * 6)).add 0) = some (.int .i64 x.id) ∧ W.cell? ((ad.add (i * 6)).add 1) = some (.int .i64 x.i) ∧ W.cell? ((ad.add (i * 6)).add 2) = some (.int .i64 x.o) ∧ W.cell? ((ad.add (i * 6)).add 3) = some (.int .i64 x.a) ∧ W.cell? ((ad.add (i * 6)).add 4) = some (.int .i64 x.b) ∧ W.cell? ((ad.add (i * 6)).add 5) = some (.int .i64 x.s) := by
      intro i hi
      have h1 := hei i hi
      obtain ⟨y, hy⟩ : ∃ y, elems[i]? = some y := ⟨elems[i]'(by omega), List.getElem?_eq_getElem _⟩
      rw [hy, Option.bind_eq_some_iff] at h1
      obtain ⟨cs', hc, ht⟩ := h1
      rw [show Try.prog.cellsOf 77 = 6 by kernel_rfl] at hc
      obtain ⟨xs, n, _, _, hl, _⟩ := DataW.trod_struct Try.underlying77 ht
      rw [show Try.prog.cellsOf 77 = 6 by kernel_rfl] at hl
      obtain ⟨c0, c1, c2, c3, c4, c5, rfl⟩ := len6 hl
      obtain ⟨x, rfl, rfl, rfl, rfl, rfl, rfl⟩ := trod_said ht
      have hcell := (World.cells?_some hc).2.2
      exact ⟨x, by simpa using hcell 0 (by omega), by simpa using hcell 1 (by omega), by simpa using hcell 2 (by omega), by simpa using hcell 3 (by omega), by simpa using hcell 4 (by omega), by simpa using hcell 5 (by omega)⟩
    by_cases h0 : len = 0
    · subst h0
      exact ⟨[], ⟨rfl, .inl rfl⟩⟩
    · obtain ⟨f0, hc0, _⟩ := each 0 (by omega)
      obtain ⟨b, off, spot⟩ := ad
      have hspot : spot = none := by simpa [Addr.add] using World.cell?_spot hc0
      subst hspot
      have hb : b < W.heap.size := by
        have := World.block_lt_of_cell? W _ hc0
        simpa [Addr.add] using this
      obtain ⟨F, hF⟩ := Classical.axiomOfChoice (fun i : Fin len => each i.1 i.2)
      refine ⟨List.ofFn F, ⟨by simp, .inr ⟨b, off, rfl, hb, fun j f hf => ?_⟩⟩⟩
      obtain ⟨hj, rfl⟩ := List.getElem?_eq_some_iff.1 hf
      have hj' : j < len := by simpa using hj
      obtain ⟨c0, c1, c2, c3, c4, c5⟩ := hF ⟨j, hj'⟩
      rw [add_plain, add_plain] at c0 c1 c2 c3 c4 c5
      simp only [List.getElem_ofFn]
      exact ⟨c0, c1, c2, c3, c4, c5⟩
set_option maxRecDepth 100000 in
theorem open_saids {H : Type} {enc : TypeId × Value → H} {W : World} {r : Reach} {base : Nat} {v : Value} {d : DataW H} {p : List MemPlace}
    (hv : Value.okWide Try.prog W r base 45 v) (h : DataW.Trod enc Try.prog W 0 (fun _ => true) true 45 v d p) :
    ∃ (a : Option Addr) (n c : Nat) (ss : List Sd), v = .slice a n c ∧ n ≤ maxLen ∧ Ss W W.heap.size a n ss := by
  obtain ⟨a, len, cap, rfl⟩ := okWide_slice Try.underlying45 hv
  obtain ⟨fuel, hf⟩ := h
  have hf' : DataW.trod enc Try.prog W 0 (fun _ => true) true fuel 45 [.slice a len cap] = some (d, p) := by simpa [Value.cells] using hf
  obtain ⟨hl, fs, h1⟩ := open_saidS hf'
  exact ⟨a, len, cap, fs, rfl, hl, h1⟩
end Go.Proofs.Ytobcihdjennieaa
