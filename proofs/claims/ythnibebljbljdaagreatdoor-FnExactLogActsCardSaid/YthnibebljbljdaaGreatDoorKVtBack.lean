/- What the laws over graphs share. What the laws' own marks and looks on edges answer: markEdgeS, heldEdgeS, markGraph, heldGraph. Plain mathematics on numbers in bytes: no program is named here. Plain mathematics on reading a number out of bytes: no program is named here. What the program's ReadVar answers at every text and place. A number's shortest form is read back. -/
import Derived.Test.YthnibebljbljdaaGreatDoorKOpenGraph
import Derived.WalkKit
import Derived.Test.YthnibebljbljdaaGreatDoorKDg
import Derived.WalkSpells
import Derived.BigQuiet
import Derived.Deep.QuietTactic
namespace Go.Proofs.YthnibebljbljdaaGreatDoor
open Go.RowKit

/-- nothing below has turned since w -/
def Good (w u : World) : Prop := Below w.heap.size w u
theorem Good.refl (w : World) : Good w w := Below.refl _ _
theorem Good.size {w u : World} (h : Good w u) : w.heap.size ≤ u.heap.size := Below.size h
theorem Good.up {w u v : World} (h : Good w u) (hb : Below u.heap.size u v) : Good w v := Below.trans h (hb.mono h.size)
theorem Good.alloc {w u : World} (h : Good w u) (o : Obj) : Good w (u.alloc o) := h.up ((Below.refl _ _).alloc (Nat.le_refl _) _)
theorem Good.drew {w u : World} (h : Good w u) : Good w u.drew := Below.drew h
theorem Good.es {w u : World} (h : Good w u) {a : Option Addr} {n : Nat} {fs : List EdgeV} (hf : Es w w.heap.size a n fs) : Es u u.heap.size a n fs := hf.up h
theorem Good.cell {w u : World} (h : Good w u) {b o : Nat} (hb : b < w.heap.size) : u.cell? ⟨b, o, none⟩ = w.cell? ⟨b, o, none⟩ := Below.cell h hb
end Go.Proofs.YthnibebljbljdaaGreatDoor
namespace Go.Proofs.YthnibebljbljdaaGreatDoor
open Go.RowKit

theorem grown_of_below {w w' : World} (h : Below w.heap.size w w') (row : Option Nat) : w.grownBy w' row :=
  ⟨h.os, h.tape, h.output, h.size, fun k hk _ => h.block k hk⟩
theorem grown_trans {a b c : World} {row : Option Nat} (h : a.grownBy b row) (k : b.grownBy c row) : a.grownBy c row :=
  ⟨k.os.trans h.os, k.tape.trans h.tape, k.output.trans h.output, Nat.le_trans h.size k.size, fun i hi hr => (k.block i (Nat.lt_of_lt_of_le hi h.size) hr).trans (h.block i hi hr)⟩

/-- n marked edges from k0 on -/
def marks (k0 n : Nat) : List EdgeV := (List.range n).map fun (t : Nat) => ((k0 : Int) + (t : Int) * 2, (k0 : Int) + (t : Int) * 2 + 1)
theorem marks_snoc (k0 n : Nat) : marks k0 (n + 1) = marks k0 n ++ [((k0 : Int) + (n : Int) * 2, (k0 : Int) + (n : Int) * 2 + 1)] := by simp [marks, List.range_succ]
theorem marks_length (k0 n : Nat) : (marks k0 n).length = n := by simp [marks]
theorem marks_at (k0 n j : Nat) (h : j < n) : (marks k0 n)[j]? = some ((k0 : Int) + (j : Int) * 2, (k0 : Int) + (j : Int) * 2 + 1) := by simp [marks, h]

theorem markEdgeS_zero (a : Option Addr) (c : Nat) (k0 : Int) (w : World) :
    Calls Tryz.prog 28 #[.slice a 0 c, .int .i64 k0] w fun e w' => e = .returned (.int .i64 k0) ∧ w' = w := by
  go_enter Tryz.func28, Tryz.ntmps28
  go_wp2
  refine wp_loop_rounds 1 ?_
  rw [rounds_succ]
  go_wp2
  go_ret
  exact ⟨rfl, rfl⟩

set_option maxRecDepth 100000 in
set_option maxHeartbeats 4000000 in
theorem markEdgeS_any (base g c n k0 : Nat) (fs : List EdgeV) (hn : n ≤ 1048576) (hk1 : k0 ≤ 10000000) (w : World)
    (h : w.ownsRow base 120 2 (.slice (some ⟨g, 0, none⟩) n c) n (ecells fs)) :
    Calls Tryz.prog 28 #[.slice (some ⟨g, 0, none⟩) n c, .int .i64 (k0 : Int)] w fun e w' => e = .returned (.int .i64 ((k0 : Int) + (n : Int) * 2)) ∧
      w'.ownsRow base 120 2 (.slice (some ⟨g, 0, none⟩) n c) n (ecells (marks k0 n)) ∧ w.grownBy w' (some g) := by
  have HO0 := hideIt h
  clear h
  go_enter Tryz.func28, Tryz.ntmps28
  go_wp2
  go_loopw [1, 5] (fun kk i wr => ∃ (j : Nat) (xs : List Value), j ≤ n ∧ i = .int .i64 (j : Int) ∧ kk = .int .i64 ((k0 : Int) + (j : Int) * 2) ∧ Hid (xs.take (j * 2) = ecells (marks k0 j)) ∧
      wr.ownsRow base 120 2 (.slice (some ⟨g, 0, none⟩) n c) n xs ∧ w.grownBy wr (some g)) (fun _ i _ => n - (intOf i).toNat)
  case atStart => exact ⟨0, _, by omega, rfl, by simp, by show _ = _; simp [ecells, marks], HO0.out, ⟨rfl, rfl, rfl, Nat.le_refl _, fun _ _ _ => rfl⟩⟩
  case round =>
    obtain ⟨j, xs, hj, rfl, rfl, hx, hown, hgr⟩ := hrel
    clear HO0
    have hl3 : xs.length = n * 2 := hown.1
    by_cases hlt : j < n
    · have b1 : (0 : Int) ≤ (j : Int) := by omega
      have b2 : (j : Int) < (n : Int) := by omega
      obtain ⟨y0, c0⟩ : ∃ y, wr.cell? ⟨g, j * 2, none⟩ = some y := ⟨_, by rw [hown.cellAt (j * 2) (by omega)]; exact List.getElem?_eq_getElem (by omega)⟩
      obtain ⟨y1, c1⟩ : ∃ y, wr.cell? ⟨g, j * 2 + 1, none⟩ = some y := ⟨_, by rw [hown.cellAt (j * 2 + 1) (by omega)]; exact List.getElem?_eq_getElem (by omega)⟩
      have f0 := hown.frozenAt (j * 2)
      have f1 := hown.frozenAt (j * 2 + 1)
      have hst1 := hown.stored (j * 2) (.int .i64 ((k0 : Int) + (j : Int) * 2))
      have hst2 := hst1.1.stored (j * 2 + 1) (.int .i64 ((k0 : Int) + (j : Int) * 2 + 1))
      have HO2 := hideIt hst2.1
      have HG2 := hideIt (grown_trans (grown_trans hgr hst1.2) hst2.2)
      have HX : Hid (((xs.set (j * 2) (.int .i64 ((k0 : Int) + (j : Int) * 2))).set (j * 2 + 1) (.int .i64 ((k0 : Int) + (j : Int) * 2 + 1))).take ((j + 1) * 2) = ecells (marks k0 (j + 1))) := by
        show _ = _
        rw [show (j + 1) * 2 = j * 2 + 2 by omega, take_set2 _ _ _ _ (by omega), hx.out, marks_snoc, ecells_snoc]
      clear hst1 hst2 hx hown hgr
      go_wp2
      exact ⟨⟨j + 1, _, by omega, by go_num, by go_num, HX, HO2.out, HG2.out⟩, by simp [intOf]; omega⟩
    · obtain rfl : j = n := by omega
      have HX : Hid (xs = ecells (marks k0 j)) := by
        show _ = _
        have := hx.out
        rw [List.take_of_length_le (by omega)] at this
        exact this
      have HO := hideIt hown
      clear hx hown
      go_wp2
      go_ret
      exact ⟨rfl, by rw [← HX.out]; exact HO.out, hgr⟩

set_option maxRecDepth 100000 in
set_option maxHeartbeats 4000000 in
theorem heldEdgeS_any (n k0 : Nat) (a : Option Addr) (c : Nat) (hn : n ≤ 1048576) (hk1 : k0 ≤ 10000000) (w : World) (h : Es w w.heap.size a n (marks k0 n)) :
    Calls Tryz.prog 30 #[.slice a n c, .int .i64 (k0 : Int)] w fun e w' => e = .returned (.int .i64 ((k0 : Int) + (n : Int) * 2)) ∧ w' = w := by
  obtain ⟨_, hrow⟩ := h
  have HR := hideIt hrow
  clear hrow
  go_enter Tryz.func30, Tryz.ntmps30
  go_wp2
  go_loopw [1, 5] (fun kk i wr => ∃ j : Nat, j ≤ n ∧ i = .int .i64 (j : Int) ∧ kk = .int .i64 ((k0 : Int) + (j : Int) * 2) ∧ wr = w) (fun _ i _ => n - (intOf i).toNat)
  case atStart => exact ⟨0, by omega, rfl, by simp, rfl⟩
  case round =>
    obtain ⟨j, hj, rfl, rfl, hw⟩ := hrel
    have hw' := hw.symm
    subst hw'
    clear hw
    by_cases hlt : j < n
    · rcases HR.out with hz | ⟨b, off, rfl, hbl, hc⟩
      · omega
      · obtain ⟨c0, c1⟩ := hc j _ (marks_at k0 n j hlt)
        dsimp only at c0 c1
        have b1 : (0 : Int) ≤ (j : Int) := by omega
        have b2 : (j : Int) < (n : Int) := by omega
        clear hc
        go_wp2
        exact ⟨⟨j + 1, by omega, by go_num, by go_num, by first | trivial | rfl⟩, by simp [intOf]; omega⟩
    · obtain rfl : j = n := by omega
      go_wp2
      go_ret
      exact ⟨rfl, rfl⟩

end Go.Proofs.YthnibebljbljdaaGreatDoor
namespace Go.Proofs.YthnibebljbljdaaGreatDoor.Vt

def vtF : Nat → Nat → List UInt8
  | 0, n => [UInt8.ofNat n]
  | f + 1, n => if n < 128 then [UInt8.ofNat n] else UInt8.ofNat (n % 128 + 128) :: vtF f (n / 128)

def vt (n : Nat) : List UInt8 := vtF n n

theorem vtF_any (f : Nat) : ∀ (g n : Nat), n ≤ f → n ≤ g → vtF f n = vtF g n := by
  induction f with
  | zero =>
    intro g n hf hg
    have : n = 0 := by omega
    subst this
    cases g with
    | zero => rfl
    | succ g => simp [vtF]
  | succ f ih =>
    intro g n hf hg
    cases g with
    | zero =>
      have : n = 0 := by omega
      subst this
      simp [vtF]
    | succ g =>
      simp only [vtF]
      by_cases h : n < 128
      · rw [if_pos h, if_pos h]
      · rw [if_neg h, if_neg h, ih g (n / 128) (by omega) (by omega)]

theorem vt_small (n : Nat) (h : n < 128) : vt n = [UInt8.ofNat n] := by
  unfold vt
  cases n with
  | zero => rfl
  | succ n => simp only [vtF]; rw [if_pos h]

theorem vt_big (n : Nat) (h : ¬ n < 128) : vt n = UInt8.ofNat (n % 128 + 128) :: vt (n / 128) := by
  unfold vt
  cases n with
  | zero => omega
  | succ n =>
    simp only [vtF]
    rw [if_neg h, vtF_any n ((n + 1) / 128) ((n + 1) / 128) (by omega) (by omega)]

theorem vt_length (f : Nat) : ∀ n, n ≤ f → (vt n).length ≤ n + 1 := by
  induction f with
  | zero => intro n h; rw [vt_small n (by omega)]; simp
  | succ f ih =>
    intro n h
    by_cases h1 : n < 128
    · rw [vt_small n h1]; simp
    · rw [vt_big n h1]
      have := ih (n / 128) (by omega)
      simp only [List.length_cons]
      omega

theorem vt_pos (n : Nat) : 0 < (vt n).length := by
  by_cases h : n < 128
  · rw [vt_small n h]; simp
  · rw [vt_big n h]; simp

end Go.Proofs.YthnibebljbljdaaGreatDoor.Vt
namespace Go.Proofs.YthnibebljbljdaaGreatDoor.Vt

def big (c : UInt8) : Bool := decide (128 ≤ c.toNat)

def val : List UInt8 → Nat
  | [] => 0
  | c :: r => c.toNat % 128 + 128 * val r

theorem val_snoc (p : List UInt8) (c : UInt8) : val (p ++ [c]) = val p + c.toNat % 128 * 128 ^ p.length := by
  induction p with
  | nil => simp [val]
  | cons b p ih =>
    simp only [List.cons_append, val, ih, List.length_cons, Nat.pow_succ]
    rw [Nat.mul_add, Nat.add_assoc]
    congr 2
    rw [Nat.mul_comm 128, Nat.mul_assoc]

theorem val_lt (p : List UInt8) : val p < 128 ^ p.length := by
  induction p with
  | nil => simp [val]
  | cons b p ih =>
    simp only [val, List.length_cons, Nat.pow_succ]
    omega

/-- the number that stands at the head of L, and the place behind it -/
def rv (a : Nat) (L : List UInt8) : Option (Nat × Nat) :=
  match L.dropWhile big with
  | [] => none
  | c :: _ =>
    if (L.takeWhile big).length < 5 ∧ ¬ (c.toNat = 0 ∧ 0 < (L.takeWhile big).length) ∧ val (L.takeWhile big ++ [c]) ≤ 1000000000 then some (val (L.takeWhile big ++ [c]), a + (L.takeWhile big).length + 1) else none

theorem split_at (p : List UInt8) (hp : ∀ b ∈ p, big b = true) (c : UInt8) (hc : big c = false) (r : List UInt8) :
    (p ++ c :: r).takeWhile big = p ∧ (p ++ c :: r).dropWhile big = c :: r := by
  induction p with
  | nil => simp [hc]
  | cons b p ih =>
    have hb := hp b (by simp)
    have := ih (fun x hx => hp x (by simp [hx]))
    simp [hb, this.1, this.2]

theorem rv_at (a : Nat) (p : List UInt8) (hp : ∀ b ∈ p, big b = true) (c : UInt8) (hc : big c = false) (r : List UInt8) :
    rv a (p ++ c :: r) = if p.length < 5 ∧ ¬ (c.toNat = 0 ∧ 0 < p.length) ∧ val (p ++ [c]) ≤ 1000000000 then some (val (p ++ [c]), a + p.length + 1) else none := by
  have h := split_at p hp c hc r
  unfold rv
  rw [h.1, h.2]

theorem rv_all (a : Nat) (p : List UInt8) (hp : ∀ b ∈ p, big b = true) : rv a p = none := by
  have : p.dropWhile big = [] := by
    induction p with
    | nil => rfl
    | cons b p ih =>
      rw [List.dropWhile_cons_of_pos (hp b (by simp))]
      exact ih (fun x hx => hp x (by simp [hx]))
  unfold rv
  rw [this]

theorem rv_five (a : Nat) (p r : List UInt8) (hp : ∀ b ∈ p, big b = true) (h5 : 5 ≤ p.length) : rv a (p ++ r) = none := by
  induction r generalizing p with
  | nil => rw [List.append_nil]; exact rv_all a p hp
  | cons c r ih =>
    by_cases hc : big c = true
    · have := ih (p ++ [c]) (by intro b hb; rcases List.mem_append.1 hb with h | h; exact hp b h; simp at h; subst h; exact hc) (by simp; omega)
      simpa using this
    · rw [rv_at a p hp c (by simpa using hc) r, if_neg (by omega)]

theorem rv_some {a : Nat} {L : List UInt8} {n j : Nat} (h : rv a L = some (n, j)) : n ≤ 1000000000 ∧ a < j ∧ j ≤ a + L.length := by
  unfold rv at h
  split at h
  · cases h
  · rename_i c r hd
    split at h
    · rename_i hc
      simp only [Option.some.injEq, Prod.mk.injEq] at h
      obtain ⟨rfl, rfl⟩ := h
      have e : L.takeWhile big ++ L.dropWhile big = L := List.takeWhile_append_dropWhile
      have hl : (L.takeWhile big).length + (L.dropWhile big).length = L.length := by rw [← List.length_append, e]
      rw [hd] at hl
      simp at hl
      omega
    · cases h

/-- the shortest form of a number is just what is read, where its last byte is no needless nought -/
theorem vt_val (p : List UInt8) (hp : ∀ b ∈ p, big b = true) (c : UInt8) (hc : big c = false) :
    vt (val (p ++ [c])) = p ++ [c] ↔ ¬ (c.toNat = 0 ∧ 0 < p.length) := by
  have hc' : c.toNat < 128 := by simpa [big] using hc
  induction p with
  | nil =>
    simp only [List.nil_append, val, List.length_nil, Nat.lt_irrefl, and_false, not_false_eq_true, iff_true]
    rw [vt_small _ (by omega)]
    congr 1
    apply UInt8.toNat_inj.1
    simp
    omega
  | cons b p ih =>
    have hb : 128 ≤ b.toNat := by simpa [big] using hp b (by simp)
    have hb2 := UInt8.toNat_lt b
    have ih := ih (fun x hx => hp x (by simp [hx]))
    have hbb : UInt8.ofNat (b.toNat % 128 + 128) = b := by
      apply UInt8.toNat_inj.1
      simp
      omega
    simp only [List.cons_append, val, List.length_cons]
    have hv : c.toNat ≠ 0 → 0 < val (p ++ [c]) := by
      intro h
      rw [val_snoc]
      have : 0 < 128 ^ p.length := Nat.pow_pos (by omega)
      have : 0 < c.toNat % 128 * 128 ^ p.length := Nat.mul_pos (by omega) this
      omega
    by_cases h0 : val (p ++ [c]) = 0
    · have hz : c.toNat = 0 := by
        by_cases h : c.toNat = 0
        · exact h
        · have := hv h; omega
      rw [h0, vt_small _ (by omega)]
      constructor
      · intro h
        have := congrArg List.length h
        simp at this
      · intro h
        exact absurd ⟨hz, by omega⟩ h
    · rw [vt_big _ (by omega)]
      have e1 : (b.toNat % 128 + 128 * val (p ++ [c])) % 128 = b.toNat % 128 := by omega
      have e2 : (b.toNat % 128 + 128 * val (p ++ [c])) / 128 = val (p ++ [c]) := by omega
      rw [e1, e2, hbb]
      simp only [List.cons.injEq, true_and]
      refine Iff.trans ih ?_
      constructor
      · intro h h2
        by_cases hp0 : 0 < p.length
        · exact h ⟨h2.1, hp0⟩
        · have : p = [] := List.length_eq_zero_iff.1 (by omega)
          subst this
          simp [val] at h0
          omega
      · intro h h2
        exact h ⟨h2.1, by omega⟩

end Go.Proofs.YthnibebljbljdaaGreatDoor.Vt
namespace Go.Proofs.YthnibebljbljdaaGreatDoor
open Go.RowKit Vt

/-- the text's bytes from a on -/
def from_ (s : ByteArray) (a : Nat) : List UInt8 := s.data.toList.drop a

theorem from_length (s : ByteArray) (a : Nat) : (from_ s a).length = s.size - a := by simp [from_]

theorem from_at (s : ByteArray) (a k : Nat) (h : a + k < s.size) : (from_ s a)[k]? = some (s[a + k]) := by
  unfold from_
  rw [List.getElem?_drop, List.getElem?_eq_getElem (by simpa using h)]
  rfl

theorem from_snoc (s : ByteArray) (a k : Nat) (h : a + k < s.size) : (from_ s a).take (k + 1) = (from_ s a).take k ++ [s[a + k]] := by
  rw [List.take_add_one, from_at s a k h]
  rfl

theorem from_cons (s : ByteArray) (a k : Nat) (h : a + k < s.size) : from_ s a = (from_ s a).take k ++ s[a + k] :: (from_ s a).drop (k + 1) := by
  conv => lhs; rw [← List.take_append_drop (k + 1) (from_ s a), from_snoc s a k h]
  simp

/-- what a reader of a number answers -/
def rvV : Option (Nat × Nat) → Value
  | none => .tuple #[.int .i64 0, .int .i64 0, .bool false]
  | some (n, j) => .tuple #[.int .i64 (n : Int), .int .i64 (j : Int), .bool true]

/-- what is known of the loop of a reader behind k bytes: u the unit, m the number -/
structure Rd (s : ByteArray) (a k u m : Nat) : Prop where
  k5 : k ≤ 5
  le : a + k ≤ s.size
  unit : u = 128 ^ k
  num : m = val ((from_ s a).take k)
  bigs : ∀ b ∈ (from_ s a).take k, big b = true

theorem Rd.start (s : ByteArray) (a : Nat) (h : a ≤ s.size) : Rd s a 0 1 0 := ⟨by omega, h, rfl, by simp [val], by simp⟩

theorem Rd.bounds {s : ByteArray} {a k u m : Nat} (h : Rd s a k u m) : 1 ≤ u ∧ u ≤ 34359738368 ∧ (k < 5 → u ≤ 268435456) ∧ (k = 5 → u = 34359738368) ∧ m < u := by
  have h1 := h.k5
  have hl : ((from_ s a).take k).length = k := by have := h.le; simp [from_length]; omega
  have hm : m < 128 ^ k := by have := val_lt ((from_ s a).take k); rw [hl] at this; rw [h.num]; exact this
  rw [h.unit]
  rcases (show k = 0 ∨ k = 1 ∨ k = 2 ∨ k = 3 ∨ k = 4 ∨ k = 5 by omega) with rfl | rfl | rfl | rfl | rfl | rfl <;> simp at hm ⊢ <;> omega

theorem Rd.step {s : ByteArray} {a k u m : Nat} (h : Rd s a k u m) (hk : a + k < s.size) (h5 : k < 5) (hb : 128 ≤ (s[a + k]).toNat) : Rd s a (k + 1) (u * 128) (m + (s[a + k]).toNat % 128 * u) := by
  have hl : ((from_ s a).take k).length = k := by simp [from_length]; omega
  refine ⟨by omega, by omega, by rw [h.unit, Nat.pow_succ], ?_, ?_⟩
  · rw [from_snoc s a k hk, val_snoc, hl, ← h.unit, ← h.num]
  · rw [from_snoc s a k hk]
    intro b hb'
    rcases List.mem_append.1 hb' with h' | h'
    · exact h.bigs b h'
    · simp at h'; subst h'; simp [big, hb]

theorem Rd.last {s : ByteArray} {a k u m : Nat} (h : Rd s a k u m) (hk : a + k < s.size) (h5 : k < 5) (hb : (s[a + k]).toNat < 128) :
    rv a (from_ s a) = (if ¬ ((s[a + k]).toNat = 0 ∧ 0 < k) ∧ m + (s[a + k]).toNat % 128 * u ≤ 1000000000 then some (m + (s[a + k]).toNat % 128 * u, a + k + 1) else none) := by
  have hl : ((from_ s a).take k).length = k := by simp [from_length]; omega
  rw [from_cons s a k hk, rv_at a _ h.bigs _ (by simp [big]; omega), hl, val_snoc, hl, ← h.unit, ← h.num]
  simp only [h5, true_and]

theorem Rd.last_none {s : ByteArray} {a k u m : Nat} (h : Rd s a k u m) (hk : a + k < s.size) (h5 : k < 5) (hb : (s[a + k]).toNat < 128)
    (hc : ((s[a + k]).toNat = 0 ∧ 0 < k) ∨ 1000000000 < m + (s[a + k]).toNat % 128 * u) : rv a (from_ s a) = none := by
  rw [h.last hk h5 hb, if_neg]
  intro hx
  rcases hc with hc | hc
  · exact hx.1 hc
  · omega

theorem Rd.last_some {s : ByteArray} {a k u m : Nat} (h : Rd s a k u m) (hk : a + k < s.size) (h5 : k < 5) (hb : (s[a + k]).toNat < 128)
    (hc : ¬ ((s[a + k]).toNat = 0 ∧ 0 < k)) (hn : m + (s[a + k]).toNat % 128 * u ≤ 1000000000) : rv a (from_ s a) = some (m + (s[a + k]).toNat % 128 * u, a + k + 1) := by
  rw [h.last hk h5 hb, if_pos ⟨hc, hn⟩]

theorem Rd.last_zero {s : ByteArray} {a k u m : Nat} (h : Rd s a k u m) (hk : a + k < s.size) (h5 : k < 5) (hb : (s[a + k]).toNat = 0) (h0 : ¬ 0 < k) :
    rv a (from_ s a) = some (m, a + k + 1) := by
  have hm := h.bounds.2.2.1 h5
  have hm2 := h.bounds.2.2.2.2
  have := h.last_some hk h5 (by omega) (by omega) (by rw [hb]; omega)
  rw [this, hb]
  simp

theorem int_num (c u m : Nat) : ((m + c % 128 * u : Nat) : Int) = (m : Int) + (c : Int) % 128 * (u : Int) := by simp

theorem Rd.out {s : ByteArray} {a k u m : Nat} (h : Rd s a k u m) (hk : ¬ (a + k < s.size ∧ k < 5)) : rv a (from_ s a) = none := by
  have h1 := h.k5
  have h2 := h.le
  by_cases hc : k < 5
  · have : (from_ s a).take k = from_ s a := List.take_of_length_le (by rw [from_length]; omega)
    have hb := h.bigs
    rw [this] at hb
    exact rv_all a _ hb
  · rw [← List.take_append_drop k (from_ s a)]
    exact rv_five a _ _ h.bigs (by simp [from_length]; omega)

/-- the reading of a number at any place -/
def rvI (s : ByteArray) (a : Int) : Option (Nat × Nat) := if 0 ≤ a ∧ a ≤ s.size then rv a.toNat (from_ s a.toNat) else none

theorem rvI_some {s : ByteArray} {a : Int} {n j : Nat} (h : rvI s a = some (n, j)) : n ≤ 1000000000 ∧ j ≤ s.size := by
  unfold rvI at h
  split at h
  · rename_i hc
    have := rv_some h
    rw [from_length] at this
    omega
  · cases h

theorem iReadVar_out (s : ByteArray) (hs : s.size ≤ 1048576) (a : Int) (h : a < 0 ∨ s.size < a) (w : World) :
    Calls Tryz.prog 91 #[.string s, .int .i64 a] w fun e w' => e = .returned (rvV none) ∧ w' = w := by
  unfold rvV
  rcases h with h | h
  · have d1 : decide (a < 0) = true := by simp [h]
    go_enter Tryz.func91, Tryz.ntmps91
    go_wp2
    go_ret3
    exact ⟨rfl, rfl⟩
  · have d1 : decide (a < 0) = false := by simp; omega
    go_enter Tryz.func91, Tryz.ntmps91
    go_wp2
    go_ret3
    exact ⟨rfl, rfl⟩

theorem mul_bounds (c U : Nat) (hU : U ≤ 268435456) : (0 : Int) ≤ (c : Int) % 128 * (U : Int) ∧ (c : Int) % 128 * (U : Int) ≤ 34091302912 := by
  have h : c % 128 * U ≤ 127 * 268435456 := Nat.mul_le_mul (by omega) hU
  have e : ((c % 128 * U : Nat) : Int) = (c : Int) % 128 * (U : Int) := by simp
  omega

set_option maxHeartbeats 1000000 in
theorem iReadVar_in (s : ByteArray) (hs : s.size ≤ 1048576) (a : Nat) (h : a ≤ s.size) (w : World) :
    Calls Tryz.prog 91 #[.string s, .int .i64 (a : Int)] w fun e w' => e = .returned (rvV (rv a (from_ s a))) ∧ w' = w := by
  have d1 : decide ((a : Int) < 0) = false := by simp
  have d2 : decide (s.size < a) = false := by simp; omega
  go_enter Tryz.func91, Tryz.ntmps91
  go_wp2
  go_loop [7, 8, 9] (fun n i u => ∃ k U m : Nat, n = .int .i64 m ∧ i = .int .i64 ((a + k : Nat) : Int) ∧ u = .int .i64 U ∧ Rd s a k U m)
    (fun _ i _ => s.size - (intOf i).toNat)
  case atStart => exact ⟨0, 1, 0, rfl, rfl, rfl, Rd.start s a h⟩
  case round =>
    obtain ⟨k, U, m, rfl, rfl, rfl, hr⟩ := hrel
    have hbd := hr.bounds
    have hk5 := hr.k5
    have hle := hr.le
    have hmU : m < U := hbd.2.2.2.2
    by_cases hlt : a + k < s.size
    · by_cases h5 : k < 5
      · have hU : U ≤ 268435456 := hbd.2.2.1 h5
        have hq := mul_bounds (s[a + k]).toNat U hU
        have hc := UInt8.toNat_lt (s[a + k])
        clear hbd
        by_cases hb : (s[a + k]).toNat < 128
        · by_cases hz : (s[a + k]).toNat ≤ 0
          · by_cases hk : 0 < k
            · have HO : Hid _ := hr.last_none hlt h5 hb (.inl ⟨by omega, hk⟩)
              go_wp2
              go_ret3
              exact ⟨by rw [HO.out]; rfl, rfl⟩
            · have HO : Hid _ := hr.last_zero hlt h5 (by omega) hk
              go_wp2
              go_ret3
              exact ⟨by rw [HO.out]; rfl, rfl⟩
          · by_cases hn : (m : Int) + ((s[a + k]).toNat : Int) % 128 * (U : Int) ≤ 1000000000
            · have HO : Hid _ := hr.last_some hlt h5 hb (by omega) (by rw [← int_num] at hn; omega)
              go_wp2
              go_ret3
              exact ⟨by rw [HO.out]; simp [rvV], rfl⟩
            · have HO : Hid _ := hr.last_none hlt h5 hb (.inr (by rw [← int_num] at hn; omega))
              go_wp2
              go_ret3
              exact ⟨by rw [HO.out]; rfl, rfl⟩
        · have HR := hr.step hlt h5 (by omega)
          go_wp2
          go_round
          case rel => exact ⟨k + 1, U * 128, m + (s[a + k]).toNat % 128 * U, by simp, by go_num, by simp, HR⟩
          case measure => simp [intOf]; omega
      · have hU : 1000000000 < U := by have := hbd.2.2.2.1 (by omega); omega
        have HO : Hid _ := hr.out (by omega)
        clear hbd
        go_wp2
        go_ret3
        exact ⟨by rw [HO.out]; rfl, rfl⟩
    · have HO : Hid _ := hr.out (by omega)
      clear hbd
      go_wp2
      go_ret3
      exact ⟨by rw [HO.out]; rfl, rfl⟩

theorem iReadVar_any (s : ByteArray) (hs : s.size ≤ 1048576) (a : Int) (w : World) :
    Calls Tryz.prog 91 #[.string s, .int .i64 a] w fun e w' => e = .returned (rvV (rvI s a)) ∧ w' = w := by
  by_cases h : 0 ≤ a ∧ a ≤ s.size
  · obtain ⟨n, rfl⟩ := Int.eq_ofNat_of_zero_le h.1
    have e : rvI s (n : Int) = rv n (from_ s n) := by unfold rvI; rw [if_pos h, Int.toNat_natCast]
    rw [e]
    exact iReadVar_in s hs n (by omega) w
  · have e : rvI s a = none := by unfold rvI; rw [if_neg h]
    rw [e]
    exact iReadVar_out s hs a (by omega) w

end Go.Proofs.YthnibebljbljdaaGreatDoor
namespace Go.Proofs.YthnibebljbljdaaGreatDoor
open Go.RowKit Vt

theorem vt_split (f : Nat) : ∀ n, n ≤ f → ∃ (p : List UInt8) (c : UInt8), vt n = p ++ [c] ∧ (∀ b ∈ p, big b = true) ∧ big c = false ∧ val (vt n) = n := by
  induction f with
  | zero =>
    intro n h
    have e : n = 0 := by omega
    subst e
    exact ⟨[], 0, by rw [vt_small 0 (by omega)]; rfl, by simp, rfl, by rw [vt_small 0 (by omega)]; rfl⟩
  | succ f ih =>
    intro n h
    by_cases h1 : n < 128
    · refine ⟨[], UInt8.ofNat n, by rw [vt_small n h1]; rfl, by simp, by simp [big]; omega, ?_⟩
      rw [vt_small n h1]
      simp [val]
      omega
    · obtain ⟨p, c, hp, hb, hc, hv⟩ := ih (n / 128) (by omega)
      refine ⟨UInt8.ofNat (n % 128 + 128) :: p, c, by rw [vt_big n h1, hp]; rfl, ?_, hc, ?_⟩
      · intro b hbm
        rcases List.mem_cons.1 hbm with e | e
        · subst e; simp [big]; omega
        · exact hb b e
      · rw [vt_big n h1]
        simp only [val, hv]
        have : (UInt8.ofNat (n % 128 + 128)).toNat = n % 128 + 128 := by simp; omega
        rw [this]
        omega

theorem vt_len : ∀ (k n : Nat), n < 128 ^ (k + 1) → (vt n).length ≤ k + 1
  | 0, n, h => by rw [vt_small n (by simpa using h)]; simp
  | k + 1, n, h => by
    by_cases h1 : n < 128
    · rw [vt_small n h1]; simp
    · rw [vt_big n h1]
      have := vt_len k (n / 128) (by rw [Nat.pow_succ] at h; omega)
      simp
      omega

theorem rv_vt (a n : Nat) (r : List UInt8) (hn : n ≤ 1000000000) : rv a (vt n ++ r) = some (n, a + (vt n).length) := by
  obtain ⟨p, c, hp, hb, hc, hv⟩ := vt_split n n (Nat.le_refl _)
  have hl := vt_len 4 n (by have : (128 : Nat) ^ (4 + 1) = 34359738368 := by decide
                            omega)
  have hz := (vt_val p hb c hc).1 (by rw [← hp, hv])
  rw [hp] at hl hv ⊢
  simp at hl
  rw [List.append_assoc, List.singleton_append, rv_at a p hb c hc r, if_pos ⟨by omega, hz, by omega⟩, hv]
  simp
  omega

end Go.Proofs.YthnibebljbljdaaGreatDoor
