/- What the laws' own mark of a number is. Lists of acts: szActS, toActS, eqActS, markActS. What the laws' own marks and looks on files answer: markFileS, heldFileS, markDisk, heldDisk. Edges: when one is right; which comes first. Edges in a list, and what the laws' own functions over graphs answer. A graph and an edge that come in, as the walks want them. -/
import Derived.Test.YthnibebljbljdaaGreatDoorKDg
import Derived.WalkSpells
import Derived.WalkSmall
import Derived.BigQuiet
import Derived.Deep.QuietTactic
import Derived.Laws.Concat
import Derived.Test.YthnibebljbljdaaGreatDoorKSPut2
import Derived.Deep.RegionHeld3
import Derived.Test.YthnibebljbljdaaGreatDoorProg
import GoSem.Claim
import GoSem.ClaimJoined
import GoSem.ClaimMapViews
import Derived.JoinedTies
import Derived.KernelRfl
import Derived.WalkKit
import Derived.OwnWalk
import Derived.Deep.MidRow
import Derived.ProofKit
import Derived.OpenShut
import Derived.ChangeOld
import Derived.ChangeArms
import Derived.Below
namespace Go.Proofs.YthnibebljbljdaaGreatDoor
open Go.RowKit Dg
open Go.Lib (decDigits)

theorem conv_byte (w : World) (b : UInt8) (x : Int) (hx : (b.toNat : Int) = x) :
    (convert 136 9 (.slice (some ⟨w.heap.size, 0, none⟩) 1 1)).run Tryz.prog (w.alloc (.cells #[.int .u8 x] 5)) = .ok (.string (one b)) (w.alloc (.cells #[.int .u8 x] 5)) := by
  subst hx
  refine run_convert_bytes_back (P := Tryz.prog) _ 136 9 5 ⟨w.heap.size, 0, none⟩ 1 [b] Tryz.underlying136 Tryz.underlying5 Tryz.underlying9 ?_
  intro j hj
  match j, hj with
  | 0, _ => exact one_new _ _ _ 0 _ rfl

/-- the mark of a number -/
def mk (k : Nat) : ByteArray := one 109 ++ ⟨(decDigits k).toArray⟩

set_option maxRecDepth 100000 in
set_option maxHeartbeats 2000000 in
theorem markText_any (U : Nat) (h0 : 0 < U) (h1 : U ≤ 1000000000) (w : World) :
    Calls Tryz.prog 50 #[.int .i64 (U : Int)] w fun e w' => e = .returned (.string (mk U)) ∧ Below w.heap.size w w' := by
  have hl := dec_length U (by omega)
  have d1 : decide ((U : Int) ≤ 0) = false := by simp; omega
  go_enter Tryz.func50, Tryz.ntmps50
  go_wp2
  go_loopw [0, 3] (fun n s wr => ∃ (u : Nat) (S : ByteArray), u ≤ U ∧ S.size ≤ 20 ∧ n = .int .i64 u ∧ s = .string S ∧ Hid (dg0 u ++ S.data.toList = decDigits U) ∧ Below w.heap.size w wr)
    (fun n _ _ => (intOf n).toNat)
  case atStart => exact ⟨U, ⟨#[]⟩, by omega, by show (0 : Nat) ≤ 20; omega, rfl, rfl, by show _ = _; rw [dg0_pos U (by omega)]; simp, Below.refl _ _⟩
  case round =>
    obtain ⟨u, S, hu, hS, rfl, rfl, hd, hb⟩ := hrel
    have hsz := hb.size
    by_cases hz : u ≤ 0
    · have e : S = ⟨(decDigits U).toArray⟩ := by
        have h2 := hd.out
        have h3 : u = 0 := by omega
        rw [h3] at h2
        apply ByteArray.ext
        apply Array.toList_inj.1
        simpa [dg0] using h2
      have HE : Hid _ := e
      clear e hd
      have hadd := fun wx => run_string_add_sum (P := Tryz.prog) wx ⟨#[109]⟩ S (by show 1 + S.size ≤ _; omega)
      go_wp2
      go_ret
      exact ⟨congrArg (fun x => Ending.returned (.string (one 109 ++ x))) HE.out, hb⟩
    · have hm : u % 10 < 10 := Nat.mod_lt _ (by omega)
      obtain ⟨b, hbv⟩ : ∃ b : UInt8, b = UInt8.ofNat (48 + u % 10) := ⟨_, rfl⟩
      have hcv := conv_byte wr b (48 + (u : Int) % 10) (by rw [hbv]; simp; omega)
      have ha : (one b ++ S).size ≤ 20 := by
        have h2 := congrArg List.length hd.out
        rw [dg0_step u (by omega)] at h2
        simp at h2
        rw [one_app_size]
        omega
      have ho := one_size b
      have HD : Hid (dg0 (u / 10) ++ (one b ++ S).data.toList = decDigits U) := by
        show _ = _
        rw [one_app, ← hd.out, dg0_step u (by omega), hbv]
        simp
      have hadd := fun wx => run_string_add_sum (P := Tryz.prog) wx (one b) S (by omega)
      clear hd hbv
      go_wp2
      go_roundw
      case rel => exact ⟨u / 10, one b ++ S, by omega, ha, by go_num, rfl, HD, hb.alloc hsz _⟩
      case measure => simp [intOf]; omega

end Go.Proofs.YthnibebljbljdaaGreatDoor
namespace Go.Proofs.YthnibebljbljdaaGreatDoor.F
open Go.RowKit

/-- what is left of a measure behind a list of acts -/
def szAs (left : Int) (xs : List ActV) : Int := if (xs.length : Int) + lettersA xs ≤ left then left - xs.length - lettersA xs else -1
theorem szAs_no (left : Int) (xs : List ActV) (h : ¬ (xs.length : Int) + lettersA xs ≤ left) : szAs left xs = -1 := by unfold szAs; rw [if_neg h]
theorem szAs_yes (left : Int) (xs : List ActV) (h : (xs.length : Int) + lettersA xs ≤ left) : szAs left xs = left - xs.length - lettersA xs := by unfold szAs; rw [if_pos h]
theorem szAs_pos (left : Int) (xs : List ActV) : szAs left xs = -1 ∨ (0 ≤ szAs left xs ∧ (xs.length : Int) + lettersA xs ≤ left) := by
  by_cases h : (xs.length : Int) + lettersA xs ≤ left
  · exact .inr ⟨by rw [szAs_yes left xs h]; omega, h⟩
  · exact .inl (szAs_no left xs h)

theorem take_set4 {α : Type} (xs : List α) (m : Nat) (a b c d : α) (h : m + 4 ≤ xs.length) : ((((xs.set m a).set (m + 1) b).set (m + 2) c).set (m + 3) d).take (m + 4) = xs.take m ++ [a, b, c, d] := by
  apply List.ext_getElem?
  intro i
  have hl : (xs.take m).length = m := by simp; omega
  by_cases h1 : i < m
  · rw [List.getElem?_append_left (by omega), List.getElem?_take_of_lt h1, List.getElem?_take_of_lt (by omega), List.getElem?_set_ne (by omega), List.getElem?_set_ne (by omega), List.getElem?_set_ne (by omega), List.getElem?_set_ne (by omega)]
  · rw [List.getElem?_append_right (by omega), hl]
    by_cases h2 : i < m + 4
    · rw [List.getElem?_take_of_lt h2]
      rcases (show i = m ∨ i = m + 1 ∨ i = m + 2 ∨ i = m + 3 by omega) with rfl | rfl | rfl | rfl
      · rw [List.getElem?_set_ne (by omega), List.getElem?_set_ne (by omega), List.getElem?_set_ne (by omega), List.getElem?_set_self (by omega)]; simp
      · rw [List.getElem?_set_ne (by omega), List.getElem?_set_ne (by omega), List.getElem?_set_self (by simp; omega)]; simp
      · rw [List.getElem?_set_ne (by omega), List.getElem?_set_self (by simp; omega)]; simp
      · rw [List.getElem?_set_self (by simp; omega)]; simp
    · rw [List.getElem?_eq_none (by simp; omega), List.getElem?_eq_none (by simp; omega)]

theorem eqAct_yes (x : ActV) (w : World) :
    Calls Tryz.prog 42 #[.agg #[.int .i64 x.kind, .string x.name, .string x.text, .string x.to], .agg #[.int .i64 x.kind, .string x.name, .string x.text, .string x.to]] w fun e w' => e = .returned (.bool true) ∧ Below w.heap.size w w' := by
  go_enter Tryz.func42, Tryz.ntmps42
  go_wp2
  go_ret
  exact ⟨rfl, ((Below.refl _ _).alloc (Nat.le_refl _) _).alloc (by simp) _⟩

set_option maxRecDepth 100000 in
set_option maxHeartbeats 2000000 in
theorem eqActS_same (xs : List ActV) (n : Nat) (a a' : Option Addr) (c c' : Nat) (hn : n ≤ 1048576) (w : World) (h : As w w.heap.size a n xs) (h' : As w w.heap.size a' n xs) :
    Calls Tryz.prog 16 #[.slice a n c, .slice a' n c'] w fun e w' => e = .returned (.bool true) ∧ Below w.heap.size w w' := by
  obtain ⟨hlen, hrow⟩ := h
  obtain ⟨_, hrow'⟩ := h'
  have HR := hideIt hrow
  have HR' := hideIt hrow'
  clear hrow hrow'
  go_enter Tryz.func16, Tryz.ntmps16
  go_wp2
  go_loopw [5] (fun i wr => ∃ k : Nat, k ≤ n ∧ i = .int .i64 (k : Int) ∧ Below w.heap.size w wr) (fun i _ => n - (intOf i).toNat)
  case atStart => exact ⟨0, by omega, rfl, Below.refl _ _⟩
  case round =>
    obtain ⟨k, hk, rfl, hb⟩ := hrel
    by_cases hlt : k < n
    · rcases HR.out with hz | ⟨b, off, rfl, hbl, hc⟩
      · omega
      · rcases HR'.out with hz | ⟨b', off', rfl, hbl', hc'⟩
        · omega
        · obtain ⟨f, hf⟩ : ∃ f, xs[k]? = some f := ⟨xs[k]'(by omega), List.getElem?_eq_getElem (by omega)⟩
          obtain ⟨c0, c1, c2, c3⟩ := hc k f hf
          obtain ⟨d0, d1, d2, d3⟩ := hc' k f hf
          have b1 : (0 : Int) ≤ (k : Int) := by omega
          have b2 : (k : Int) < (n : Int) := by omega
          have HT : Hid (∀ W : World, Below w.heap.size w W → Calls Tryz.prog 42 #[.agg #[.int .i64 f.kind, .string f.name, .string f.text, .string f.to], .agg #[.int .i64 f.kind, .string f.name, .string f.text, .string f.to]] W fun e w' => e = .returned (.bool true) ∧ Below w.heap.size w w') := fun W hW =>
            (eqAct_yes f W).mono fun _ _ ⟨he, hb'⟩ => ⟨he, hW.trans (hb'.mono hW.size)⟩
          have HK : Hid (∀ W : World, Below w.heap.size w W → (W.cell? ⟨b, off + k * 4, none⟩ = some (.int .i64 f.kind) ∧ W.cell? ⟨b, off + k * 4 + 1, none⟩ = some (.string f.name) ∧ W.cell? ⟨b, off + k * 4 + 2, none⟩ = some (.string f.text) ∧ W.cell? ⟨b, off + k * 4 + 3, none⟩ = some (.string f.to) ∧
              W.cell? ⟨b', off' + k * 4, none⟩ = some (.int .i64 f.kind) ∧ W.cell? ⟨b', off' + k * 4 + 1, none⟩ = some (.string f.name) ∧ W.cell? ⟨b', off' + k * 4 + 2, none⟩ = some (.string f.text) ∧ W.cell? ⟨b', off' + k * 4 + 3, none⟩ = some (.string f.to))) := fun W hW =>
            ⟨by rw [hW.cell hbl]; exact c0, by rw [hW.cell hbl]; exact c1, by rw [hW.cell hbl]; exact c2, by rw [hW.cell hbl]; exact c3, by rw [hW.cell hbl']; exact d0, by rw [hW.cell hbl']; exact d1, by rw [hW.cell hbl']; exact d2, by rw [hW.cell hbl']; exact d3⟩
          have hbd := hb.drew
          clear c0 c1 c2 c3 d0 d1 d2 d3 hc hc' hf
          go_wp2
          go_region_held3 (fun u => Below w.heap.size w u ∧ u.cell? ⟨b, off + k * 4, none⟩ = some (.int .i64 f.kind) ∧ u.cell? ⟨b, off + k * 4 + 1, none⟩ = some (.string f.name) ∧ u.cell? ⟨b, off + k * 4 + 2, none⟩ = some (.string f.text) ∧ u.cell? ⟨b, off + k * 4 + 3, none⟩ = some (.string f.to) ∧
              u.cell? ⟨b', off' + k * 4, none⟩ = some (.int .i64 f.kind) ∧ u.cell? ⟨b', off' + k * 4 + 1, none⟩ = some (.string f.name) ∧ u.cell? ⟨b', off' + k * 4 + 2, none⟩ = some (.string f.text) ∧ u.cell? ⟨b', off' + k * 4 + 3, none⟩ = some (.string f.to))
            (first | exact ⟨hb3, HK.out _ hb3⟩ | exact ⟨hbd, HK.out _ hbd⟩)
            ((go_at_call 42; refine (HT.out _ hbd).mono ?_; rintro e w1 ⟨rfl, hb3⟩))
          clear hbd
          go_wp2
          go_roundw
          case rel => exact ⟨k + 1, by omega, by go_num, hb3⟩
          case measure => simp [intOf]; omega
    · go_wp2
      go_ret
      exact ⟨rfl, hb⟩

/-- what is behind a store into a row of g -/
theorem grown_set {w wr : World} {g : Nat} (h : w.grownBy wr (some g)) (k : Nat) (v : Value) : w.grownBy (wr.setCell ⟨g, k, none⟩ v) (some g) :=
  ⟨h.os, h.tape, h.output, by simpa [World.setCell] using h.size, fun j hj hne => by rw [heap_setCell_other wr ⟨g, k, none⟩ j _ (by simpa using hne)]; exact h.block j hj hne⟩
theorem grown_up {w wr w1 : World} {g : Nat} (h : w.grownBy wr (some g)) (hb : Below wr.heap.size wr w1) : w.grownBy w1 (some g) :=
  ⟨hb.os.trans h.os, hb.tape.trans h.tape, hb.output.trans h.output, Nat.le_trans h.size hb.size, fun j hj hne => by rw [hb.block j (Nat.lt_of_lt_of_le hj h.size)]; exact h.block j hj hne⟩

set_option maxRecDepth 100000 in
set_option maxHeartbeats 2000000 in
theorem markActS_any (base g c n k0 : Nat) (xs0 : List Value) (hn : n ≤ 1048576) (hk0 : 0 < k0) (hk1 : k0 ≤ 10000000) (w : World) (h : w.ownsRow base 83 4 (.slice (some ⟨g, 0, none⟩) n c) n xs0) :
    Calls Tryz.prog 21 #[.slice (some ⟨g, 0, none⟩) n c, .int .i64 (k0 : Int)] w fun e w' => e = .returned (.int .i64 ((k0 : Int) + (n : Int) * 4)) ∧ w.grownBy w' (some g) := by
  have H0 := hideIt h
  have HM := hideIt (fun (U : Nat) (h0 : 0 < U) (h1 : U ≤ 1000000000) (x : Int) (hx : (U : Int) = x) u => hx ▸ markText_any U h0 h1 u)
  clear h
  go_enter Tryz.func21, Tryz.ntmps21
  go_wp2
  go_loopw [1, 5] (fun q i wr => ∃ (k : Nat) (xs : List Value), k ≤ n ∧ i = .int .i64 (k : Int) ∧ q = .int .i64 ((k0 : Int) + (k : Int) * 4) ∧ wr.ownsRow base 83 4 (.slice (some ⟨g, 0, none⟩) n c) n xs ∧ w.grownBy wr (some g)) (fun _ i _ => n - (intOf i).toNat)
  case atStart => exact ⟨0, xs0, by omega, rfl, by simp, H0.out, ⟨rfl, rfl, rfl, Nat.le_refl _, fun _ _ _ => rfl⟩⟩
  case round =>
    obtain ⟨k, xs, hk, rfl, rfl, hown, hg⟩ := hrel
    have hl3 : xs.length = n * 4 := hown.1
    by_cases hlt : k < n
    · have b1 : (0 : Int) ≤ (k : Int) := by omega
      have b2 : (k : Int) < (n : Int) := by omega
      have f0 := hown.frozenAt (k * 4)
      have x0 : wr.cell? ⟨g, k * 4, none⟩ = some (xs[k * 4]'(by omega)) := by rw [hown.cellAt (k * 4) (by omega)]; exact List.getElem?_eq_getElem (by omega)
      have o1 := (hown.stored (k * 4) (.int .i64 ((k0 : Int) + (k : Int) * 4))).1
      have g1 := grown_set hg (k * 4) (.int .i64 ((k0 : Int) + (k : Int) * 4))
      have HC1 := hideIt (fun u => HM.out (k0 + k * 4 + 1) (by omega) (by omega) ((k0 : Int) + (k : Int) * 4 + 1) (by omega) u)
      go_wp2_with (go_at_call 50; refine (HC1.out _).mono ?_; rintro e w1 ⟨rfl, hb1⟩; refine Hid.out ?_)
      refine (show ∀ {p : Prop}, p → Hid p from fun h => h) ?_
      have ow1 := World.ownsRow.kept o1 (row := none) ⟨hb1.os, hb1.tape, hb1.output, hb1.size, fun i hi _ => hb1.block i hi⟩ (.inr (by simp [Value.ownBlock]))
      have gw1 := grown_up g1 hb1
      have hlw1 := ow1.1
      have f1 := ow1.frozenAt (k * 4 + 1)
      have x1 := ow1.cellAt (k * 4 + 1) (by omega)
      rw [List.getElem?_eq_getElem (by omega)] at x1
      have o2 := (ow1.stored (k * 4 + 1) (.string (mk (k0 + k * 4 + 1)))).1
      have g2 := grown_set gw1 (k * 4 + 1) (.string (mk (k0 + k * 4 + 1)))
      clear hb1 HC1
      have HC2 := hideIt (fun u => HM.out (k0 + k * 4 + 2) (by omega) (by omega) ((k0 : Int) + (k : Int) * 4 + 2) (by omega) u)
      go_wp2_with (go_at_call 50; refine (HC2.out _).mono ?_; rintro e w2 ⟨rfl, hb2⟩; refine Hid.out ?_)
      refine (show ∀ {p : Prop}, p → Hid p from fun h => h) ?_
      have ow2 := World.ownsRow.kept o2 (row := none) ⟨hb2.os, hb2.tape, hb2.output, hb2.size, fun i hi _ => hb2.block i hi⟩ (.inr (by simp [Value.ownBlock]))
      have gw2 := grown_up g2 hb2
      have hlw2 := ow2.1
      have f2 := ow2.frozenAt (k * 4 + 2)
      have x2 := ow2.cellAt (k * 4 + 2) (by omega)
      rw [List.getElem?_eq_getElem (by omega)] at x2
      have o3 := (ow2.stored (k * 4 + 2) (.string (mk (k0 + k * 4 + 2)))).1
      have g3 := grown_set gw2 (k * 4 + 2) (.string (mk (k0 + k * 4 + 2)))
      clear hb2 HC2
      have HC3 := hideIt (fun u => HM.out (k0 + k * 4 + 3) (by omega) (by omega) ((k0 : Int) + (k : Int) * 4 + 3) (by omega) u)
      go_wp2_with (go_at_call 50; refine (HC3.out _).mono ?_; rintro e w3 ⟨rfl, hb3⟩; refine Hid.out ?_)
      refine (show ∀ {p : Prop}, p → Hid p from fun h => h) ?_
      have ow3 := World.ownsRow.kept o3 (row := none) ⟨hb3.os, hb3.tape, hb3.output, hb3.size, fun i hi _ => hb3.block i hi⟩ (.inr (by simp [Value.ownBlock]))
      have gw3 := grown_up g3 hb3
      have hlw3 := ow3.1
      have f3 := ow3.frozenAt (k * 4 + 3)
      have x3 := ow3.cellAt (k * 4 + 3) (by omega)
      rw [List.getElem?_eq_getElem (by omega)] at x3
      have o4 := (ow3.stored (k * 4 + 3) (.string (mk (k0 + k * 4 + 3)))).1
      have g4 := grown_set gw3 (k * 4 + 3) (.string (mk (k0 + k * 4 + 3)))
      clear hb3 HC3
      go_wp2
      exact ⟨⟨k + 1, _, by omega, by go_num, by go_num, o4, g4⟩, by simp [intOf]; omega⟩
    · obtain rfl : k = n := by omega
      go_wp2
      go_ret
      exact ⟨rfl, hg⟩
end Go.Proofs.YthnibebljbljdaaGreatDoor.F
namespace Go.Proofs.YthnibebljbljdaaGreatDoor.F
open Go.RowKit

theorem grown_of_below {w w' : World} (h : Below w.heap.size w w') (row : Option Nat) : w.grownBy w' row :=
  ⟨h.os, h.tape, h.output, h.size, fun k hk _ => h.block k hk⟩
theorem grown_trans {a b c : World} {row : Option Nat} (h : a.grownBy b row) (k : b.grownBy c row) : a.grownBy c row :=
  ⟨k.os.trans h.os, k.tape.trans h.tape, k.output.trans h.output, Nat.le_trans h.size k.size, fun i hi hr => (k.block i (Nat.lt_of_lt_of_le hi h.size) hr).trans (h.block i hi hr)⟩

/-- the marked file of a number -/
def mfile (k : Nat) : FileV := ⟨mk k, mk (k + 1), (k : Int) + 2⟩
/-- n marked files from k0 on -/
def marks (k0 n : Nat) : List FileV := (List.range n).map fun t => mfile (k0 + t * 3)
theorem marks_snoc (k0 n : Nat) : marks k0 (n + 1) = marks k0 n ++ [mfile (k0 + n * 3)] := by simp [marks, List.range_succ]
theorem marks_length (k0 n : Nat) : (marks k0 n).length = n := by simp [marks]
theorem marks_at (k0 n j : Nat) (h : j < n) : (marks k0 n)[j]? = some (mfile (k0 + j * 3)) := by simp [marks, h]

theorem markFileS_zero (a : Option Addr) (c : Nat) (k0 : Int) (w : World) :
    Calls Tryz.prog 47 #[.slice a 0 c, .int .i64 k0] w fun e w' => e = .returned (.int .i64 k0) ∧ w' = w := by
  go_enter Tryz.func47, Tryz.ntmps47
  go_wp2
  refine wp_loop_rounds 1 ?_
  rw [rounds_succ]
  go_wp2
  go_ret
  exact ⟨rfl, rfl⟩

set_option maxRecDepth 100000 in
set_option maxHeartbeats 4000000 in
theorem markFileS_any (base g c n k0 : Nat) (fs : List FileV) (hn : n ≤ 1048576) (hk0 : 0 < k0) (hk1 : k0 ≤ 10000000) (w : World)
    (h : w.ownsRow base 130 3 (.slice (some ⟨g, 0, none⟩) n c) n (fcells fs)) :
    Calls Tryz.prog 47 #[.slice (some ⟨g, 0, none⟩) n c, .int .i64 (k0 : Int)] w fun e w' => e = .returned (.int .i64 ((k0 : Int) + (n : Int) * 3)) ∧
      w'.ownsRow base 130 3 (.slice (some ⟨g, 0, none⟩) n c) n (fcells (marks k0 n)) ∧ w.grownBy w' (some g) := by
  have HO0 := hideIt h
  clear h
  go_enter Tryz.func47, Tryz.ntmps47
  go_wp2
  go_loopw [1, 5] (fun kk i wr => ∃ (j : Nat) (xs : List Value), j ≤ n ∧ i = .int .i64 (j : Int) ∧ kk = .int .i64 ((k0 : Int) + (j : Int) * 3) ∧ Hid (xs.take (j * 3) = fcells (marks k0 j)) ∧
      wr.ownsRow base 130 3 (.slice (some ⟨g, 0, none⟩) n c) n xs ∧ w.grownBy wr (some g)) (fun _ i _ => n - (intOf i).toNat)
  case atStart => exact ⟨0, _, by omega, rfl, by simp, by show _ = _; simp [fcells, marks], HO0.out, ⟨rfl, rfl, rfl, Nat.le_refl _, fun _ _ _ => rfl⟩⟩
  case round =>
    obtain ⟨j, xs, hj, rfl, rfl, hx, hown, hgr⟩ := hrel
    clear HO0
    have hl3 : xs.length = n * 3 := hown.1
    by_cases hlt : j < n
    · have HT0 : Hid (∀ w : World, Calls Tryz.prog 50 #[.int .i64 ((k0 : Int) + (j : Int) * 3)] w fun e w' => e = .returned (.string (mk (k0 + j * 3))) ∧ Below w.heap.size w w') := fun w => by
        have := markText_any (k0 + j * 3) (by omega) (by omega) w
        rw [show ((k0 + j * 3 : Nat) : Int) = (k0 : Int) + (j : Int) * 3 by omega] at this
        exact this
      have HT1 : Hid (∀ w : World, Calls Tryz.prog 50 #[.int .i64 ((k0 : Int) + (j : Int) * 3 + 1)] w fun e w' => e = .returned (.string (mk (k0 + j * 3 + 1))) ∧ Below w.heap.size w w') := fun w => by
        have := markText_any (k0 + j * 3 + 1) (by omega) (by omega) w
        rw [show ((k0 + j * 3 + 1 : Nat) : Int) = (k0 : Int) + (j : Int) * 3 + 1 by omega] at this
        exact this
      have b1 : (0 : Int) ≤ (j : Int) := by omega
      have b2 : (j : Int) < (n : Int) := by omega
      go_wp2_with (go_at_call 50; refine (HT0.out _).mono ?_; rintro e w1 ⟨rfl, hb1⟩; refine Hid.out ?_)
      refine (show ∀ {p : Prop}, p → Hid p from fun h => h) ?_
      have hown1 := World.ownsRow.kept hown (grown_of_below hb1 none) (by simp [Value.ownBlock])
      have c1 : w1.cell? ⟨g, j * 3, none⟩ = some (xs[j * 3]'(by omega)) := by rw [hown1.cellAt (j * 3) (by omega)]; exact List.getElem?_eq_getElem (by omega)
      have f1 := hown1.frozenAt (j * 3)
      have hst := hown1.stored (j * 3) (.string (mk (k0 + j * 3)))
      have HO1 := hideIt hst.1
      have HG1 := hideIt (grown_trans (grown_trans hgr (grown_of_below hb1 _)) hst.2)
      clear hst hown hown1 hgr hb1 HT0
      go_wp2_with (go_at_call 50; refine (HT1.out _).mono ?_; rintro e w2 ⟨rfl, hb2⟩; refine Hid.out ?_)
      refine (show ∀ {p : Prop}, p → Hid p from fun h => h) ?_
      have hown2 := World.ownsRow.kept HO1.out (grown_of_below hb2 none) (by simp [Value.ownBlock])
      have hl2 : ((xs.set (j * 3) (.string (mk (k0 + j * 3))))).length = n * 3 := hown2.1
      obtain ⟨y2, c2⟩ : ∃ y, w2.cell? ⟨g, j * 3 + 1, none⟩ = some y := ⟨_, by rw [hown2.cellAt (j * 3 + 1) (by omega)]; exact List.getElem?_eq_getElem (by omega)⟩
      obtain ⟨y3, c3⟩ : ∃ y, w2.cell? ⟨g, j * 3 + 2, none⟩ = some y := ⟨_, by rw [hown2.cellAt (j * 3 + 2) (by omega)]; exact List.getElem?_eq_getElem (by omega)⟩
      have f2 := hown2.frozenAt (j * 3 + 1)
      have f3 := hown2.frozenAt (j * 3 + 2)
      have hst1 := hown2.stored (j * 3 + 1) (.string (mk (k0 + j * 3 + 1)))
      have hst2 := hst1.1.stored (j * 3 + 2) (.int .i64 ((k0 : Int) + (j : Int) * 3 + 2))
      have HO2 := hideIt hst2.1
      have HG2 := hideIt (grown_trans (grown_trans (grown_trans HG1.out (grown_of_below hb2 _)) hst1.2) hst2.2)
      have HX : Hid ((((xs.set (j * 3) (.string (mk (k0 + j * 3)))).set (j * 3 + 1) (.string (mk (k0 + j * 3 + 1)))).set (j * 3 + 2) (.int .i64 ((k0 : Int) + (j : Int) * 3 + 2))).take ((j + 1) * 3) = fcells (marks k0 (j + 1))) := by
        show _ = _
        rw [show (j + 1) * 3 = j * 3 + 3 by omega, take_set3 _ _ _ _ _ (by omega), hx.out, marks_snoc, fcells_snoc]
        simp [mfile]
      clear hst1 hst2 hown2 hb2 HT1 HO1 HG1 hx c1 f1
      go_wp2
      exact ⟨⟨j + 1, _, by omega, by go_num, by go_num, HX, HO2.out, HG2.out⟩, by simp [intOf]; omega⟩
    · obtain rfl : j = n := by omega
      have HX : Hid (xs = fcells (marks k0 j)) := by
        show _ = _
        have := hx.out
        rw [List.take_of_length_le (by omega)] at this
        exact this
      have HO := hideIt hown
      clear hx hown
      go_wp2
      go_ret
      exact ⟨rfl, by rw [← HX.out]; exact HO.out, hgr⟩

theorem markDisk_any (base g c n k0 : Nat) (fs : List FileV) (hn : n ≤ 1048576) (hk0 : 0 < k0) (hk1 : k0 ≤ 10000000) (w : World)
    (h : w.ownsRow base 130 3 (.slice (some ⟨g, 0, none⟩) n c) n (fcells fs)) :
    Calls Tryz.prog 19 #[.agg #[.slice (some ⟨g, 0, none⟩) n c], .int .i64 (k0 : Int)] w fun e w' => e = .returned (.int .i64 ((k0 : Int) + (n : Int) * 3)) ∧
      w'.ownsRow base 130 3 (.slice (some ⟨g, 0, none⟩) n c) n (fcells (marks k0 n)) ∧ w.grownBy w' (some g) := by
  have HM := hideIt (markFileS_any base g c n k0 fs hn hk0 hk1 (w.alloc (.cells #[.slice (some ⟨g, 0, none⟩) n c] 48)) (h.alloc _))
  clear h
  go_enter Tryz.func19, Tryz.ntmps19
  go_wp2_with (go_at_call 47; refine HM.out.mono ?_; rintro e w1 ⟨rfl, ho, hg⟩; refine Hid.out ?_)
  refine (show ∀ {p : Prop}, p → Hid p from fun h => h) ?_
  have HO := hideIt ho
  have HG := hideIt (grown_trans (grown_of_below ((Below.refl w.heap.size w).alloc (Nat.le_refl _) (.cells #[.slice (some ⟨g, 0, none⟩) n c] 48)) (some g)) hg)
  clear ho hg HM
  go_wp2
  go_ret
  exact ⟨rfl, HO.out, HG.out⟩

theorem markDisk_zero (a : Option Addr) (c : Nat) (k0 : Int) (w : World) :
    Calls Tryz.prog 19 #[.agg #[.slice a 0 c], .int .i64 k0] w fun e w' => e = .returned (.int .i64 k0) ∧ Below w.heap.size w w' := by
  have HM := hideIt (fun u => markFileS_zero a c k0 u)
  go_enter Tryz.func19, Tryz.ntmps19
  go_wp2_with (go_at_call 47; refine (HM.out _).mono ?_; rintro e w1 ⟨rfl, rfl⟩)
  go_ret
  exact ⟨rfl, (Below.refl _ _).alloc (Nat.le_refl _) _⟩
end Go.Proofs.YthnibebljbljdaaGreatDoor.F
namespace Go.Proofs.YthnibebljbljdaaGreatDoor
open Go.RowKit

theorem hideIt {p : Prop} (h : p) : Hid p := h

/-- an operation that its guard passes over is taken first -/
theorem skipOp {P : Program} {ops : Array Oper} {Q : Exit → Go.Act → World → Prop} {md : Region.Mode} {i : Nat} {oi : Oper} {fuel : Nat} {listed : Array Bool} {a : Go.Act} {w : World} (hi : ops[i]? = some oi)
    (hs : Region.noSelect ops = true) (hf : Region.free md ops listed i = true) (hr : (Region.ready md ops listed).contains i = true) (hQ : ∀ c a w, Q (.panic c) (a.put oi.dst undef) w → Q (.panic c) a w)
    (hw : Region.wanted oi (yielded ops a.tmps) = false) (h : wpAny P md ops Q fuel (listed.setIfInBounds i true) (a.put oi.dst undef) w) : wpAny P md ops Q (fuel + 1) listed a w :=
  wpAny_take hi hs hf hr hQ (.inr ⟨hw, rfl⟩) h
/-- an operation that looks at no memory is taken first -/
theorem takeOp {P : Program} {ops : Array Oper} {Q : Exit → Go.Act → World → Prop} {md : Region.Mode} {i : Nat} {oi : Oper} {v : Value} {fuel : Nat} {listed : Array Bool} {a : Go.Act} {w : World} (hi : ops[i]? = some oi)
    (hs : Region.noSelect ops = true) (hf : Region.free md ops listed i = true) (hr : (Region.ready md ops listed).contains i = true) (hQ : ∀ c a w, Q (.panic c) (a.put oi.dst v) w → Q (.panic c) a w)
    (hw : Region.wanted oi (yielded ops a.tmps) = true) (hv : ∀ w, (execOp a.eval oi).run P w = .ok (.value v) w) (h : wpAny P md ops Q fuel (listed.setIfInBounds i true) (a.put oi.dst v) w) : wpAny P md ops Q (fuel + 1) listed a w :=
  wpAny_take hi hs hf hr hQ (.inl ⟨hw, hv⟩) h

/-- an edge -/
abbrev EdgeV := Int × Int

theorem bret {p q : Prop} [Decidable p] [Decidable q] (h : p ↔ q) : Ending.returned (.bool (decide p)) = Ending.returned (.bool (decide q)) := by rw [decide_eq_decide.2 h]

/-- the edge is right -/
def eB (n : Int) (e : EdgeV) : Bool := decide (1 ≤ n ∧ n ≤ 12 ∧ 0 ≤ e.1 ∧ e.1 < e.2 ∧ e.2 < n)

theorem l01In_any (x a b : Int) (w : World) : Calls Tryz.prog 57 #[.int .i64 x, .int .i64 a, .int .i64 b] w fun e w' => e = .returned (.bool (decide (a ≤ x ∧ x ≤ b))) ∧ w' = w := by
  by_cases h1 : a ≤ x
  · by_cases h2 : x ≤ b
    · have d1 : decide (a ≤ x) = true := by simpa using h1
      have d2 : decide (x ≤ b) = true := by simpa using h2
      go_enter Tryz.func57, Tryz.ntmps57
      go_wp2
      go_ret
      exact ⟨by simp [h1, h2], rfl⟩
    · have d1 : decide (a ≤ x) = true := by simpa using h1
      have d2 : decide (x ≤ b) = false := by simpa using h2
      go_enter Tryz.func57, Tryz.ntmps57
      go_wp2
      go_ret
      exact ⟨by simp, rfl⟩
  · have d1 : decide (a ≤ x) = false := by simpa using h1
    go_enter Tryz.func57, Tryz.ntmps57
    go_wp2
    go_ret
    exact ⟨by simp, rfl⟩

theorem vertsOk_any (x : Int) (w : World) : Calls Tryz.prog 129 #[.int .i64 x] w fun e w' => e = .returned (.bool (decide (1 ≤ x ∧ x ≤ 12))) ∧ w' = w := by
  by_cases h1 : 1 ≤ x
  · by_cases h2 : x ≤ 12
    · have d1 : decide (1 ≤ x) = true := by simpa using h1
      have d2 : decide (x ≤ 12) = true := by simpa using h2
      go_enter Tryz.func129, Tryz.ntmps129
      go_wp2
      go_ret
      exact ⟨by simp [h1, h2], rfl⟩
    · have d1 : decide (1 ≤ x) = true := by simpa using h1
      have d2 : decide (x ≤ 12) = false := by simpa using h2
      go_enter Tryz.func129, Tryz.ntmps129
      go_wp2
      go_ret
      exact ⟨by simp, rfl⟩
  · have d1 : decide (1 ≤ x) = false := by simpa using h1
    go_enter Tryz.func129, Tryz.ntmps129
    go_wp2
    go_ret
    exact ⟨by simp, rfl⟩

theorem sEdgeOk_any (n : Int) (e : EdgeV) (w : World) :
    Calls Tryz.prog 138 #[.int .i64 n, .agg #[.int .i64 e.1, .int .i64 e.2]] w fun x w' => x = .returned (.bool (eB n e)) ∧ Below w.heap.size w w' := by
  obtain ⟨a, b⟩ := e
  dsimp only
  have HI := hideIt l01In_any
  by_cases h1 : 1 ≤ n ∧ n ≤ 12
  · have r1 : decide (1 ≤ n ∧ n ≤ 12) = true := by simpa using h1
    by_cases h2 : 0 ≤ a ∧ a ≤ n - 1
    · have r2 : decide (0 ≤ a ∧ a ≤ n - 1) = true := by simpa using h2
      by_cases h3 : 0 ≤ b ∧ b ≤ n - 1
      · have r3 : decide (0 ≤ b ∧ b ≤ n - 1) = true := by simpa using h3
        go_enter Tryz.func138, Tryz.ntmps138
        go_wp2_with (go_at_call 57; refine (HI.out _ _ _ _).mono ?_; rintro e w1 ⟨rfl, rfl⟩)
        go_ret
        exact ⟨bret (by dsimp only; omega), (Below.refl _ _).alloc (Nat.le_refl _) _⟩
      · have r3 : decide (0 ≤ b ∧ b ≤ n - 1) = false := by simpa using h3
        go_enter Tryz.func138, Tryz.ntmps138
        go_wp2_with (go_at_call 57; refine (HI.out _ _ _ _).mono ?_; rintro e w1 ⟨rfl, rfl⟩)
        go_ret
        exact ⟨by simp [eB]; omega, (Below.refl _ _).alloc (Nat.le_refl _) _⟩
    · have r2 : decide (0 ≤ a ∧ a ≤ n - 1) = false := by simpa using h2
      go_enter Tryz.func138, Tryz.ntmps138
      go_wp2_with (go_at_call 57; refine (HI.out _ _ _ _).mono ?_; rintro e w1 ⟨rfl, rfl⟩)
      go_ret
      exact ⟨by simp [eB]; omega, (Below.refl _ _).alloc (Nat.le_refl _) _⟩
  · have r1 : decide (1 ≤ n ∧ n ≤ 12) = false := by simpa using h1
    go_enter Tryz.func138, Tryz.ntmps138
    go_wp2_with (go_at_call 57; refine (HI.out _ _ _ _).mono ?_; rintro e w1 ⟨rfl, rfl⟩)
    go_ret
    exact ⟨by simp [eB]; omega, (Below.refl _ _).alloc (Nat.le_refl _) _⟩

theorem iEdgeOk_any (n : Int) (e : EdgeV) (w : World) :
    Calls Tryz.prog 141 #[.int .i64 n, .agg #[.int .i64 e.1, .int .i64 e.2]] w fun x w' => x = .returned (.bool (eB n e)) ∧ Below w.heap.size w w' := by
  obtain ⟨a, b⟩ := e
  dsimp only
  have HI := hideIt vertsOk_any
  by_cases h1 : 1 ≤ n ∧ n ≤ 12
  · have r1 : decide (1 ≤ n ∧ n ≤ 12) = true := by simpa using h1
    by_cases h2 : 0 ≤ a
    · have r2 : decide (0 ≤ a) = true := by simpa using h2
      by_cases h3 : a < b
      · have r3 : decide (a < b) = true := by simpa using h3
        go_enter Tryz.func141, Tryz.ntmps141
        go_wp2_with (go_at_call 129; refine (HI.out _ _).mono ?_; rintro e w1 ⟨rfl, rfl⟩)
        go_ret
        exact ⟨bret (by dsimp only; omega), (Below.refl _ _).alloc (Nat.le_refl _) _⟩
      · have r3 : decide (a < b) = false := by simpa using h3
        go_enter Tryz.func141, Tryz.ntmps141
        go_wp2_with (go_at_call 129; refine (HI.out _ _).mono ?_; rintro e w1 ⟨rfl, rfl⟩)
        go_ret
        exact ⟨by simp [eB]; omega, (Below.refl _ _).alloc (Nat.le_refl _) _⟩
    · have r2 : decide (0 ≤ a) = false := by simpa using h2
      go_enter Tryz.func141, Tryz.ntmps141
      go_wp2_with (go_at_call 129; refine (HI.out _ _).mono ?_; rintro e w1 ⟨rfl, rfl⟩)
      go_ret
      exact ⟨by simp [eB]; omega, (Below.refl _ _).alloc (Nat.le_refl _) _⟩
  · have r1 : decide (1 ≤ n ∧ n ≤ 12) = false := by simpa using h1
    go_enter Tryz.func141, Tryz.ntmps141
    go_wp2_with (go_at_call 129; refine (HI.out _ _).mono ?_; rintro e w1 ⟨rfl, rfl⟩)
    go_ret
    exact ⟨by simp [eB]; omega, (Below.refl _ _).alloc (Nat.le_refl _) _⟩
end Go.Proofs.YthnibebljbljdaaGreatDoor
namespace Go.Proofs.YthnibebljbljdaaGreatDoor
open Go.RowKit

/-- the list of edges es stands at a, n of them, below block B -/
def Es (w : World) (B : Nat) (a : Option Addr) (n : Nat) (es : List EdgeV) : Prop :=
  es.length = n ∧ (n = 0 ∨ ∃ b off, a = some ⟨b, off, none⟩ ∧ b < B ∧ ∀ (j : Nat) (f : EdgeV), es[j]? = some f →
    w.cell? ⟨b, off + j * 2, none⟩ = some (.int .i64 f.1) ∧ w.cell? ⟨b, off + j * 2 + 1, none⟩ = some (.int .i64 f.2))

theorem take_snocF {α : Type} (fs : List α) (k : Nat) (f : α) (h : fs[k]? = some f) : fs.take (k + 1) = fs.take k ++ [f] := by
  obtain ⟨hk, rfl⟩ := List.getElem?_eq_some_iff.1 h
  rw [List.take_succ_eq_append_getElem hk]

theorem Es.alloc {w : World} {B : Nat} {a : Option Addr} {n : Nat} {fs : List EdgeV} (h : Es w B a n fs) (hB : B ≤ w.heap.size) (o : Obj) : Es (w.alloc o) B a n fs := by
  refine ⟨h.1, h.2.imp id ?_⟩
  rintro ⟨b, off, ha, hb, hc⟩
  refine ⟨b, off, ha, hb, fun j f hf => ?_⟩
  have hbl : b < w.heap.size := by omega
  obtain ⟨c0, c1⟩ := hc j f hf
  exact ⟨by rw [World.cell?_of_block (w := w) (Below.heap_alloc w o b hbl)]; exact c0, by rw [World.cell?_of_block (w := w) (Below.heap_alloc w o b hbl)]; exact c1⟩

theorem Es.below {w w' : World} {B C : Nat} {a : Option Addr} {n : Nat} {fs : List EdgeV} (h : Es w B a n fs) (hb : Below C w w') (hB : B ≤ C) : Es w' B a n fs := by
  refine ⟨h.1, h.2.imp id ?_⟩
  rintro ⟨b, off, ha, hbl, hc⟩
  refine ⟨b, off, ha, hbl, fun j f hf => ?_⟩
  obtain ⟨c0, c1⟩ := hc j f hf
  have hl : b < C := by omega
  exact ⟨by rw [hb.cell (p := ⟨b, _, none⟩) hl]; exact c0, by rw [hb.cell (p := ⟨b, _, none⟩) hl]; exact c1⟩

theorem Es.mono {w : World} {B C : Nat} {a : Option Addr} {n : Nat} {fs : List EdgeV} (h : Es w B a n fs) (hB : B ≤ C) : Es w C a n fs := by
  refine ⟨h.1, h.2.imp id ?_⟩
  rintro ⟨b, off, ha, hbl, hc⟩
  exact ⟨b, off, ha, by omega, hc⟩

theorem Es.up {w w' : World} {a : Option Addr} {n : Nat} {fs : List EdgeV} (h : Es w w.heap.size a n fs) (hb : Below w.heap.size w w') : Es w' w'.heap.size a n fs :=
  (h.below hb (Nat.le_refl _)).mono hb.size

theorem toEdge_any (f : EdgeV) (w : World) :
    Calls Tryz.prog 101 #[.agg #[.int .i64 f.1, .int .i64 f.2]] w fun e w' => e = .returned (.agg #[.int .i64 f.1, .int .i64 f.2]) ∧ Below w.heap.size w w' := by
  go_enter Tryz.func101, Tryz.ntmps101
  go_wp2
  exact bodyPost_ret (v := .agg #[.int .i64 f.1, .int .i64 f.2]) (by simp [results, Tryz.results101, go_sem]) rfl ⟨rfl, (((Below.refl _ _).alloc (Nat.le_refl _) _).alloc (by simp) _).alloc (by simp; omega) _⟩

/-- the cells of an edge -/
def ecell (f : EdgeV) : List Value := [.int .i64 f.1, .int .i64 f.2]
/-- the cells of a list of edges -/
def ecells (fs : List EdgeV) : List Value := fs.flatMap ecell

theorem ecells_length (fs : List EdgeV) : (ecells fs).length = fs.length * 2 := by
  induction fs with
  | nil => rfl
  | cons f fs ih => simp only [ecells, List.flatMap_cons, List.length_append, List.length_cons] at ih ⊢; rw [ih]; simp [ecell]; omega

theorem ecells_at (fs : List EdgeV) (j : Nat) (f : EdgeV) (h : fs[j]? = some f) :
    (ecells fs)[j * 2]? = some (.int .i64 f.1) ∧ (ecells fs)[j * 2 + 1]? = some (.int .i64 f.2) := by
  induction fs generalizing j with
  | nil => simp at h
  | cons g fs ih =>
    cases j with
    | zero => simp at h; subst h; simp [ecells, ecell]
    | succ j =>
      have h2 := ih j (by simpa using h)
      have e : ∀ m, (ecells (g :: fs))[m + 2]? = (ecells fs)[m]? := fun m => by simp [ecells, ecell]
      refine ⟨?_, ?_⟩
      · rw [show (j + 1) * 2 = j * 2 + 2 by omega, e]; exact h2.1
      · rw [show (j + 1) * 2 + 1 = j * 2 + 1 + 2 by omega, e]; exact h2.2

theorem take_set2 {α : Type} (xs : List α) (m : Nat) (a b : α) (h : m + 2 ≤ xs.length) : ((xs.set m a).set (m + 1) b).take (m + 2) = xs.take m ++ [a, b] := by
  apply List.ext_getElem?
  intro i
  have hl : (xs.take m).length = m := by simp; omega
  by_cases h1 : i < m
  · rw [List.getElem?_append_left (by omega), List.getElem?_take_of_lt h1, List.getElem?_take_of_lt (by omega), List.getElem?_set_ne (by omega), List.getElem?_set_ne (by omega)]
  · rw [List.getElem?_append_right (by omega), hl]
    by_cases h2 : i < m + 2
    · rw [List.getElem?_take_of_lt h2]
      rcases (show i = m ∨ i = m + 1 by omega) with rfl | rfl
      · rw [List.getElem?_set_ne (by omega), List.getElem?_set_self (by omega)]; simp
      · rw [List.getElem?_set_self (by simp; omega)]; simp
    · rw [List.getElem?_eq_none (by simp; omega), List.getElem?_eq_none (by simp; omega)]

theorem ecells_snoc (fs : List EdgeV) (f : EdgeV) : ecells (fs ++ [f]) = ecells fs ++ [.int .i64 f.1, .int .i64 f.2] := by simp [ecells, ecell]
theorem ecells_append (fs gs : List EdgeV) : ecells (fs ++ gs) = ecells fs ++ ecells gs := by simp [ecells]

theorem infoIE : (Tryz.prog.info? 120).map (fun i => (i.zero, i.size, i.bytes)) = some (some (.agg #[.int .i64 0, .int .i64 0]), 2, 16) := by kernel_rfl

set_option maxHeartbeats 1000000 in
theorem toEdgeS_any (fs : List EdgeV) (n : Nat) (a : Option Addr) (cap : Nat) (hn : n ≤ 1048576) (w : World) (hfs : Es w w.heap.size a n fs) :
    Calls Tryz.prog 73 #[.slice a n cap] w fun e w' => ∃ g, e = .returned (.slice (some ⟨g, 0, none⟩) n n) ∧ w'.ownsRow w.heap.size 120 2 (.slice (some ⟨g, 0, none⟩) n n) n (ecells fs) ∧ Below w.heap.size w w' := by
  obtain ⟨i0, hi, hz0, hz1, hz2⟩ := info_parts infoIE
  obtain ⟨hlen, hrow⟩ := hfs
  have hmk : ∀ u : World, (Instr.makeSlice 51 (.int .i64 (n : Int)) (.int .i64 (n : Int))).run Tryz.prog u =
      .ok (.slice (some ⟨u.heap.size, 0, none⟩) n n) (u.alloc (.cells (madeCells #[.int .i64 0, .int .i64 0] (n * 2)) 120)) := fun u => by
    have h := run_make (P := Tryz.prog) u 51 120 i0 _ Tryz.underlying51 hi hz0 .i64 .i64 (n : Int) (n : Int) (by omega) (by omega) (by rw [hz2]; omega) (by omega)
    rw [Int.toNat_natCast] at h
    simpa [hz1, Value.cells] using h
  have HR := hideIt hrow
  clear hrow
  go_enter Tryz.func73, Tryz.ntmps73
  go_wp2
  go_loopw [4] (fun i wr => ∃ (k : Nat) (xs : List Value), k ≤ n ∧ i = .int .i64 (k : Int) ∧ Hid (xs.take (k * 2) = ecells (fs.take k)) ∧ wr.ownsRow w.heap.size 120 2 (.slice (some ⟨w.heap.size, 0, none⟩) n n) n xs ∧ Below w.heap.size w wr)
    (fun i _ => n - (intOf i).toNat)
  case atStart => exact ⟨0, _, by omega, rfl, by show _ = _; simp [ecells], World.ownsRow_lit (base := w.heap.size) (e := 120) (size := 2) w (madeCells #[.int .i64 0, .int .i64 0] (n * 2)) n (Nat.le_refl _) (by unfold maxLen; omega) (by simp [madeCells]), (Below.refl _ _).alloc (Nat.le_refl _) _⟩
  case round =>
    obtain ⟨k, xs, hk, rfl, hx, hown, hb⟩ := hrel
    by_cases hlt : k < n
    · rcases HR.out with hz | ⟨b, off, rfl, hbl, hc⟩
      · omega
      · obtain ⟨f, hf⟩ : ∃ f, fs[k]? = some f := ⟨fs[k]'(by omega), List.getElem?_eq_getElem (by omega)⟩
        obtain ⟨c0, c1⟩ := hc k f hf
        have e0 : wr.cell? ⟨b, off + k * 2, none⟩ = some (.int .i64 f.1) := by rw [hb.cell hbl]; exact c0
        have e1 : wr.cell? ⟨b, off + k * 2 + 1, none⟩ = some (.int .i64 f.2) := by rw [hb.cell hbl]; exact c1
        have b1 : (0 : Int) ≤ (k : Int) := by omega
        have b2 : (k : Int) < (n : Int) := by omega
        have HT := hideIt (toEdge_any f wr)
        have HTk := hideIt (take_snocF fs k f hf)
        clear c0 c1 hc hf
        go_wp2_with (go_at_call 101; refine HT.out.mono ?_; rintro e w1 ⟨rfl, hb1⟩; refine Hid.out ?_)
        refine (show ∀ {p : Prop}, p → Hid p from fun h => h) ?_
        have hg1 : wr.grownBy w1 none := ⟨hb1.os, hb1.tape, hb1.output, hb1.size, fun i hi _ => hb1.block i hi⟩
        have hown1 := World.ownsRow.kept hown hg1 (.inr (by simp [Value.ownBlock]))
        have hl3 : xs.length = n * 2 := hown1.1
        have f0 := hown1.frozenAt (k * 2)
        have f1 := hown1.frozenAt (k * 2 + 1)
        have x0 : w1.cell? ⟨w.heap.size, k * 2, none⟩ = some (xs[k * 2]'(by omega)) := by rw [hown1.cellAt (k * 2) (by omega)]; exact List.getElem?_eq_getElem (by omega)
        have x1 : w1.cell? ⟨w.heap.size, k * 2 + 1, none⟩ = some (xs[k * 2 + 1]'(by omega)) := by rw [hown1.cellAt (k * 2 + 1) (by omega)]; exact List.getElem?_eq_getElem (by omega)
        clear e0 e1 HT
        go_wp2
        refine ⟨⟨k + 1, (xs.set (k * 2) (.int .i64 f.1)).set (k * 2 + 1) (.int .i64 f.2), by omega, by go_num, ?_, ?_, ?_⟩, by simp [intOf]; omega⟩
        · show _ = _
          rw [show (k + 1) * 2 = k * 2 + 2 by omega, take_set2 _ _ _ _ (by omega), hx.out, HTk.out, ecells_snoc]
        · exact ((hown1.stored (k * 2) _).1.stored (k * 2 + 1) _).1
        · exact ((hb.trans (hb1.mono hb.size)).setCell (Nat.le_refl _) _).setCell (Nat.le_refl _) _
    · have e : fs.take k = fs := List.take_of_length_le (by omega)
      have hl3 : xs.length = n * 2 := hown.1
      have HX : Hid (xs = ecells fs) := by
        show _ = _
        have := hx.out
        rw [e, List.take_of_length_le (by omega)] at this
        exact this
      have HO := hideIt hown
      clear hx e hown hl3
      go_wp2
      go_ret
      exact ⟨w.heap.size, rfl, by rw [← HX.out]; exact HO.out, hb⟩

theorem bcell {W w1 : World} (hb : Below W.heap.size W w1) : (∀ b o, b < W.heap.size → w1.cell? ⟨b, o, none⟩ = W.cell? ⟨b, o, none⟩) ∧ (∀ b o, b < W.heap.size → w1.frozen? ⟨b, o, none⟩ = W.frozen? ⟨b, o, none⟩) :=
  ⟨fun b o h => hb.cell (p := ⟨b, o, none⟩) h, fun b o h => hb.frozen (p := ⟨b, o, none⟩) h⟩

/-- a list of one's own reads as its edges -/
theorem Es_of_own {w : World} {B n c : Nat} {a : Option Addr} {fs : List EdgeV} (h : w.ownsRow B 120 2 (.slice a n c) n (ecells fs)) : Es w w.heap.size a n fs := by
  have hl := h.1
  rw [ecells_length] at hl
  refine ⟨by omega, ?_⟩
  rcases h.2 with ⟨hv, h0⟩ | ⟨g, cap, cur, hv, hrest⟩
  · exact .inl h0
  · simp at hv
    obtain ⟨rfl, rfl⟩ := hv
    by_cases h0 : n = 0
    · exact .inl h0
    · refine .inr ⟨g, 0, rfl, (h.lt g rfl).2, fun j f hf => ?_⟩
      have hj : j < fs.length := (List.getElem?_eq_some_iff.1 hf).1
      obtain ⟨c0, c1⟩ := ecells_at fs j f hf
      rw [Nat.zero_add]
      exact ⟨by rw [h.cellAt (j * 2) (by omega)]; exact c0, by rw [h.cellAt (j * 2 + 1) (by omega)]; exact c1⟩

theorem grownSet (w : World) (G j : Nat) (u : Value) : w.grownBy (w.setCell ⟨G, j, none⟩ u) (some G) :=
  ⟨rfl, rfl, rfl, by simp [World.setCell], fun k _ hk => heap_setCell_other w ⟨G, j, none⟩ k u (fun e => hk (by simp [e]))⟩

theorem own_setOther {w : World} {B e s g n cap : Nat} {xs : List Value} (h : w.ownsRow B e s (.slice (some ⟨g, 0, none⟩) n cap) n xs) (G j : Nat) (u : Value) (hG : g ≠ G) :
    (w.setCell ⟨G, j, none⟩ u).ownsRow B e s (.slice (some ⟨g, 0, none⟩) n cap) n xs :=
  World.ownsRow.kept h (grownSet w G j u) (.inr (by simp [Value.ownBlock]; exact fun e => hG e))

theorem own_mono {w : World} {B B' e s n : Nat} {v : Value} {xs : List Value} (h : w.ownsRow B e s v n xs) (hB : B' ≤ B) : w.ownsRow B' e s v n xs :=
  ⟨h.1, h.2.imp id (fun ⟨g, cap, cur, a, b, rest⟩ => ⟨g, cap, cur, a, Nat.le_trans hB b, rest⟩)⟩

theorem eqEdge_yes (f : EdgeV) (w : World) :
    Calls Tryz.prog 114 #[.agg #[.int .i64 f.1, .int .i64 f.2], .agg #[.int .i64 f.1, .int .i64 f.2]] w fun e w' => e = .returned (.bool true) ∧ Below w.heap.size w w' := by
  go_enter Tryz.func114, Tryz.ntmps114
  go_wp2
  go_ret
  exact ⟨rfl, ((Below.refl _ _).alloc (Nat.le_refl _) _).alloc (by simp) _⟩

set_option maxRecDepth 100000 in
set_option maxHeartbeats 2000000 in
theorem eqEdgeS_same (fs : List EdgeV) (n : Nat) (a a' : Option Addr) (c c' : Nat) (hn : n ≤ 1048576) (w : World) (h : Es w w.heap.size a n fs) (h' : Es w w.heap.size a' n fs) :
    Calls Tryz.prog 87 #[.slice a n c, .slice a' n c'] w fun e w' => e = .returned (.bool true) ∧ Below w.heap.size w w' := by
  obtain ⟨hlen, hrow⟩ := h
  obtain ⟨_, hrow'⟩ := h'
  have HR := hideIt hrow
  have HR' := hideIt hrow'
  clear hrow hrow'
  go_enter Tryz.func87, Tryz.ntmps87
  go_wp2
  go_loopw [5] (fun i wr => ∃ k : Nat, k ≤ n ∧ i = .int .i64 (k : Int) ∧ Below w.heap.size w wr) (fun i _ => n - (intOf i).toNat)
  case atStart => exact ⟨0, by omega, rfl, Below.refl _ _⟩
  case round =>
    obtain ⟨k, hk, rfl, hb⟩ := hrel
    by_cases hlt : k < n
    · rcases HR.out with hz | ⟨b, off, rfl, hbl, hc⟩
      · omega
      · rcases HR'.out with hz | ⟨b', off', rfl, hbl', hc'⟩
        · omega
        · obtain ⟨f, hf⟩ : ∃ f, fs[k]? = some f := ⟨fs[k]'(by omega), List.getElem?_eq_getElem (by omega)⟩
          obtain ⟨c0, c1⟩ := hc k f hf
          obtain ⟨d0, d1⟩ := hc' k f hf
          have e0 : wr.cell? ⟨b, off + k * 2, none⟩ = some (.int .i64 f.1) := by rw [hb.cell hbl]; exact c0
          have e1 : wr.cell? ⟨b, off + k * 2 + 1, none⟩ = some (.int .i64 f.2) := by rw [hb.cell hbl]; exact c1
          have e3 : wr.cell? ⟨b', off' + k * 2, none⟩ = some (.int .i64 f.1) := by rw [hb.cell hbl']; exact d0
          have e4 : wr.cell? ⟨b', off' + k * 2 + 1, none⟩ = some (.int .i64 f.2) := by rw [hb.cell hbl']; exact d1
          have b1 : (0 : Int) ≤ (k : Int) := by omega
          have b2 : (k : Int) < (n : Int) := by omega
          have HT : Hid (∀ W : World, Below w.heap.size w W → Calls Tryz.prog 114 #[.agg #[.int .i64 f.1, .int .i64 f.2], .agg #[.int .i64 f.1, .int .i64 f.2]] W fun e w' => e = .returned (.bool true) ∧ Below w.heap.size w w') := fun W hW =>
            (eqEdge_yes f W).mono fun _ _ ⟨he, hb'⟩ => ⟨he, hW.trans (hb'.mono hW.size)⟩
          have HK : Hid (∀ W : World, Below w.heap.size w W → (W.cell? ⟨b, off + k * 2, none⟩ = some (.int .i64 f.1) ∧ W.cell? ⟨b, off + k * 2 + 1, none⟩ = some (.int .i64 f.2) ∧ W.cell? ⟨b', off' + k * 2, none⟩ = some (.int .i64 f.1) ∧ W.cell? ⟨b', off' + k * 2 + 1, none⟩ = some (.int .i64 f.2))) := fun W hW =>
            ⟨by rw [hW.cell hbl]; exact c0, by rw [hW.cell hbl]; exact c1, by rw [hW.cell hbl']; exact d0, by rw [hW.cell hbl']; exact d1⟩
          have hbd := hb.drew
          clear c0 c1 d0 d1 hc hc' hf
          go_wp2
          go_region_held3 (fun u => Below w.heap.size w u ∧ u.cell? ⟨b, off + k * 2, none⟩ = some (.int .i64 f.1) ∧ u.cell? ⟨b, off + k * 2 + 1, none⟩ = some (.int .i64 f.2) ∧ u.cell? ⟨b', off' + k * 2, none⟩ = some (.int .i64 f.1) ∧ u.cell? ⟨b', off' + k * 2 + 1, none⟩ = some (.int .i64 f.2))
            (first | exact ⟨hb3, HK.out _ hb3⟩ | exact ⟨hbd, HK.out _ hbd⟩)
            ((go_at_call 114; refine (HT.out _ hbd).mono ?_; rintro e w1 ⟨rfl, hb3⟩))
          clear hbd
          go_wp2
          go_roundw
          case rel => exact ⟨k + 1, by omega, by go_num, hb3⟩
          case measure => simp [intOf]; omega
    · go_wp2
      go_ret
      exact ⟨rfl, hb⟩

end Go.Proofs.YthnibebljbljdaaGreatDoor
namespace Go.Proofs.YthnibebljbljdaaGreatDoor
open Go.ChangeShapes Go.WideShapes Go.ChangeAt Go.RowKit

theorem cellsLE : Tryz.prog.cellsOf 167 = 2 := by kernel_rfl
theorem cells3 : Tryz.prog.cellsOf 3 = 1 := by kernel_rfl

/-- an edge as the machine bears it -/
def FitE (f : EdgeV) : Prop := (Lit.int .i64 f.1).wf = true ∧ (Lit.int .i64 f.2).wf = true

theorem two {α : Type} {l : List α} (h : l.length = 2) : ∃ a b, l = [a, b] := by
  cases l with
  | nil => simp at h
  | cons a l =>
    cases l with
    | nil => simp at h
    | cons b l =>
      cases l with
      | nil => exact ⟨a, b, rfl⟩
      | cons c l => simp at h

theorem open_edge1 {H : Type} {enc : TypeId × Value → H} {W : World} {fuel : Nat} {cs : List Value} {y : DataW H × List MemPlace}
    (h : DataW.trod enc Tryz.prog W 0 (fun _ => true) true fuel 167 cs = some y) : ∃ f : EdgeV, cs = [.int .i64 f.1, .int .i64 f.2] ∧ FitE f := by
  obtain ⟨xs, n, _, _, hl, hlen, hf⟩ := DataW.trod_struct Tryz.underlying167 h
  rw [cellsLE] at hl
  obtain ⟨c0, c1, rfl⟩ := two hl
  have h0 : DataW.trod enc Tryz.prog W 0 (fun _ => true) true n 3 (([c0, c1].drop 0).take (Tryz.prog.cellsOf 3)) = xs[0]? := hf 0 _ rfl
  have h1 : DataW.trod enc Tryz.prog W 0 (fun _ => true) true n 3 (([c0, c1].drop 1).take (Tryz.prog.cellsOf 3)) = xs[1]? := hf 1 _ rfl
  rw [cells3] at h0 h1
  have g : ∀ i, i < 2 → ∃ z, xs[i]? = some z := fun i hi => ⟨xs[i]'(by simp at hlen; omega), List.getElem?_eq_getElem _⟩
  obtain ⟨z0, e0⟩ := g 0 (by omega)
  obtain ⟨z1, e1⟩ := g 1 (by omega)
  rw [e0] at h0
  rw [e1] at h1
  obtain ⟨k0, hk0, _, w0⟩ := DataW.trod_int Tryz.underlying3 h0
  obtain ⟨k1, hk1, _, w1⟩ := DataW.trod_int Tryz.underlying3 h1
  simp at hk0 hk1
  subst hk0 hk1
  exact ⟨⟨k0, k1⟩, rfl, w0, w1⟩

theorem open_edgeS {H : Type} {enc : TypeId × Value → H} {W : World} {a : Option Addr} {len cap fuel : Nat} {x : DataW H × List MemPlace}
    (h : DataW.trod enc Tryz.prog W 0 (fun _ => true) true fuel 33 [.slice a len cap] = some x) : len ≤ maxLen ∧ ∃ fs : List EdgeV, Es W W.heap.size a len fs ∧ ∀ f ∈ fs, FitE f := by
  rcases DataW.trod_slice Tryz.underlying33 h with ⟨hcs, _⟩ | ⟨ad, l, c, elems, rest, n, _, hcs, _, _, hlc, hm, hel, hei, _, _⟩
  · simp at hcs
    obtain ⟨rfl, rfl, rfl⟩ := hcs
    exact ⟨by unfold maxLen; omega, [], ⟨rfl, .inl rfl⟩, by simp⟩
  · simp at hcs
    obtain ⟨rfl, rfl, rfl⟩ := hcs
    refine ⟨by omega, ?_⟩
    have each : ∀ i, i < len → ∃ f : EdgeV, (W.cell? ((ad.add (i * 2)).add 0) = some (.int .i64 f.1) ∧ W.cell? ((ad.add (i * 2)).add 1) = some (.int .i64 f.2)) ∧ FitE f := by
      intro i hi
      have h1 := hei i hi
      obtain ⟨y, hy⟩ : ∃ y, elems[i]? = some y := ⟨elems[i]'(by omega), List.getElem?_eq_getElem _⟩
      rw [hy, Option.bind_eq_some_iff] at h1
      obtain ⟨cs', hc, ht⟩ := h1
      obtain ⟨f, rfl, hfit⟩ := open_edge1 ht
      rw [cellsLE] at hc
      have hcell := (World.cells?_some hc).2.2
      refine ⟨f, ⟨?_, ?_⟩, hfit⟩
      · simpa using hcell 0 (by omega)
      · simpa using hcell 1 (by omega)
    by_cases h0 : len = 0
    · subst h0
      exact ⟨[], ⟨rfl, .inl rfl⟩, by simp⟩
    · obtain ⟨f0, ⟨hc0, _⟩, _⟩ := each 0 (by omega)
      obtain ⟨b, off, spot⟩ := ad
      have hspot : spot = none := by simpa [Addr.add] using World.cell?_spot hc0
      subst hspot
      have hb : b < W.heap.size := by
        have := World.block_lt_of_cell? W _ hc0
        simpa [Addr.add] using this
      obtain ⟨F, hF⟩ := Classical.axiomOfChoice (fun i : Fin len => each i.1 i.2)
      refine ⟨List.ofFn F, ⟨by simp, .inr ⟨b, off, rfl, hb, fun j f hf => ?_⟩⟩, fun f hf => ?_⟩
      · obtain ⟨hj, rfl⟩ := List.getElem?_eq_some_iff.1 hf
        have hj' : j < len := by simpa using hj
        obtain ⟨⟨c0, c1⟩, _⟩ := hF ⟨j, hj'⟩
        rw [add_plain, add_plain] at c0 c1
        simp only [List.getElem_ofFn]
        exact ⟨c0, c1⟩
      · obtain ⟨i, rfl⟩ := List.mem_ofFn.1 hf
        exact (hF i).2

set_option maxRecDepth 100000 in
/-- an edge that comes in -/
theorem open_edge {H : Type} {enc : TypeId × Value → H} {W : World} {r : Reach} {base : Nat} {v : Value} {d : DataW H} {p : List MemPlace}
    (hv : Value.okWide Tryz.prog W r base 167 v) (h : DataW.Trod enc Tryz.prog W 0 (fun _ => true) true 167 v d p) :
    ∃ f : EdgeV, v = .agg #[.int .i64 f.1, .int .i64 f.2] ∧ FitE f := by
  obtain ⟨cs, rfl, hcs⟩ := okWide_struct Tryz.underlying167 hv
  obtain ⟨fuel, hf⟩ := h
  obtain ⟨f, hcs2, hft⟩ := open_edge1 hf
  refine ⟨f, ?_, hft⟩
  have : (Value.agg cs).cells.toList = [.int .i64 f.1, .int .i64 f.2] := hcs2
  obtain ⟨l⟩ := cs
  simp [Value.cells] at this
  rw [this]

end Go.Proofs.YthnibebljbljdaaGreatDoor
