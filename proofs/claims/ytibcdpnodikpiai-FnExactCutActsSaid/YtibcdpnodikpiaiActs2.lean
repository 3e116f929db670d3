/- Lists of acts: szActS, toActS, eqActS, markActS. -/
import Derived.Test.YtibcdpnodikpiaiAsR
import Derived.Test.YtibcdpnodikpiaiMarkText
namespace Go.Proofs.Ytibcdpnodikpiai
open Go.RowKit

/-- what is left of a measure behind a list of acts -/
def szAs (left : Int) (xs : List ActV) : Int := if (xs.length : Int) + lettersA xs ≤ left then left - xs.length - lettersA xs else -1
theorem szAs_no (left : Int) (xs : List ActV) (h : ¬ (xs.length : Int) + lettersA xs ≤ left) : szAs left xs = -1 := by unfold szAs; rw [if_neg h]
theorem szAs_yes (left : Int) (xs : List ActV) (h : (xs.length : Int) + lettersA xs ≤ left) : szAs left xs = left - xs.length - lettersA xs := by unfold szAs; rw [if_pos h]
theorem szAs_pos (left : Int) (xs : List ActV) : szAs left xs = -1 ∨ (0 ≤ szAs left xs ∧ (xs.length : Int) + lettersA xs ≤ left) := by
  by_cases h : (xs.length : Int) + lettersA xs ≤ left
  · exact .inr ⟨by rw [szAs_yes left xs h]; omega, h⟩
  · exact .inl (szAs_no left xs h)

set_option maxRecDepth 100000 in
set_option maxHeartbeats 1000000 in
theorem szActS_any (xs : List ActV) (hfit : ∀ x ∈ xs, BearA x) (left : Int) (h0 : -1 ≤ left) (h1 : left ≤ 1048576) (n : Nat) (a : Option Addr) (cap : Nat) (hn : n ≤ maxLen) (w : World) (hfs : As w w.heap.size a n xs) :
    Calls Try.prog 17 #[.slice a n cap, .int .i64 left] w fun e w' => e = .returned (.int .i64 (szAs left xs)) ∧ Below w.heap.size w w' := by
  unfold maxLen at hn
  obtain ⟨hlen, hrow⟩ := hfs
  by_cases g0 : left - n < 0
  · rw [szAs_no left xs (by omega)]
    have d1 : decide (left - (n : Int) < 0) = true := by simp; omega
    clear hrow
    go_enter Try.func17, Try.ntmps17
    go_wp2
    go_ret
    exact ⟨rfl, Below.refl _ _⟩
  · have d1 : decide (left - (n : Int) < 0) = false := by simp; omega
    have HR := hideIt hrow
    have HF := hideIt hfit
    clear hrow hfit
    go_enter Try.func17, Try.ntmps17
    go_wp2
    go_loopw [1, 5] (fun l i wr => ∃ (k : Nat) (q : Int), k ≤ n ∧ i = .int .i64 (k : Int) ∧ l = .int .i64 q ∧ Hid (q = left - n - lettersA (xs.take k)) ∧ 0 ≤ q ∧ q ≤ 1048576 ∧ Below w.heap.size w wr)
      (fun _ i _ => n - (intOf i).toNat)
    case atStart => exact ⟨0, _, by omega, rfl, rfl, by show _ = _; simp [lettersA], by omega, by omega, Below.refl _ _⟩
    case round =>
      obtain ⟨k, q, hk, rfl, rfl, hq, q0, q1, hb⟩ := hrel
      by_cases hlt : k < n
      · rcases HR.out with hz | ⟨b, off, rfl, hbl, hc⟩
        · omega
        · obtain ⟨f, hf⟩ : ∃ f, xs[k]? = some f := ⟨xs[k]'(by omega), List.getElem?_eq_getElem (by omega)⟩
          obtain ⟨c0, c1, c2, c3⟩ := hc k f hf
          have e0 : wr.cell? ⟨b, off + k * 4, none⟩ = some (.int .i64 f.kind) := by rw [hb.cell hbl]; exact c0
          have e1 : wr.cell? ⟨b, off + k * 4 + 1, none⟩ = some (.string f.name) := by rw [hb.cell hbl]; exact c1
          have e2 : wr.cell? ⟨b, off + k * 4 + 2, none⟩ = some (.string f.text) := by rw [hb.cell hbl]; exact c2
          have e3 : wr.cell? ⟨b, off + k * 4 + 3, none⟩ = some (.string f.to) := by rw [hb.cell hbl]; exact c3
          have b1 : (0 : Int) ≤ (k : Int) := by omega
          have b2 : (k : Int) < (n : Int) := by omega
          have HS := hideIt (szAct_any f q (by omega) q1 (HF.out f (List.mem_of_getElem? hf)) wr)
          clear c0 c1 c2 c3 hc
          have HT := hideIt (take_snocF xs k f hf)
          clear hf
          by_cases g1 : (f.name.size : Int) + f.text.size + f.to.size ≤ q
          · have hsz := szA_yes q f g1
            rw [hsz] at HS
            have d2 : decide (q - (f.name.size : Int) - (f.text.size : Int) - (f.to.size : Int) < 0) = false := by simp; omega
            go_wp2_with (go_at_call 9; refine HS.out.mono ?_; rintro e w1 ⟨rfl, hb1⟩)
            go_roundw
            case rel => exact ⟨k + 1, _, by omega, by go_num, rfl, by show _ = _; rw [HT.out, lettersA_snoc, hq.out]; omega, by omega, by omega, hb.trans (hb1.mono hb.size)⟩
            case measure => simp [intOf]; omega
          · have HL : Hid (¬ (xs.length : Int) + lettersA xs ≤ left) := by
              have h1 := lettersA_take xs (k + 1)
              rw [HT.out, lettersA_snoc] at h1
              have h2 := hq.out
              show ¬ _
              omega
            have hsz := szA_no q f g1
            rw [hsz] at HS
            go_wp2_with (go_at_call 9; refine HS.out.mono ?_; rintro e w1 ⟨rfl, hb1⟩)
            go_ret
            exact ⟨by rw [szAs_no left xs (by have := HL.out; omega)]; rfl, hb.trans (hb1.mono hb.size)⟩
      · have e : xs.take k = xs := List.take_of_length_le (by omega)
        have HE : Hid (q = left - n - lettersA xs) := by show _ = _; rw [← e]; exact hq.out
        clear hq e
        go_wp2
        go_ret
        exact ⟨by rw [szAs_yes left xs (by have := HE.out; omega), HE.out, ← hlen]; rfl, hb⟩

theorem take_set4 {α : Type} (xs : List α) (m : Nat) (a b c d : α) (h : m + 4 ≤ xs.length) : ((((xs.set m a).set (m + 1) b).set (m + 2) c).set (m + 3) d).take (m + 4) = xs.take m ++ [a, b, c, d] := by
  apply List.ext_getElem?
  intro i
  have hl : (xs.take m).length = m := by simp; omega
  by_cases h1 : i < m
  · rw [List.getElem?_append_left (by omega), List.getElem?_take_of_lt h1, List.getElem?_take_of_lt (by omega), List.getElem?_set_ne (by omega), List.getElem?_set_ne (by omega), List.getElem?_set_ne (by omega), List.getElem?_set_ne (by omega)]
  · rw [List.getElem?_append_right (by omega), hl]
    by_cases h2 : i < m + 4
    · rw [List.getElem?_take_of_lt h2]
      rcases (show i = m ∨ i = m + 1 ∨ i = m + 2 ∨ i = m + 3 by omega) with rfl | rfl | rfl | rfl
      · rw [List.getElem?_set_ne (by omega), List.getElem?_set_ne (by omega), List.getElem?_set_ne (by omega), List.getElem?_set_self (by omega)]; simp
      · rw [List.getElem?_set_ne (by omega), List.getElem?_set_ne (by omega), List.getElem?_set_self (by simp; omega)]; simp
      · rw [List.getElem?_set_ne (by omega), List.getElem?_set_self (by simp; omega)]; simp
      · rw [List.getElem?_set_self (by simp; omega)]; simp
    · rw [List.getElem?_eq_none (by simp; omega), List.getElem?_eq_none (by simp; omega)]

set_option maxRecDepth 100000 in
set_option maxHeartbeats 1000000 in
theorem toActS_any (xs0 : List ActV) (n : Nat) (a : Option Addr) (cap : Nat) (hn : n ≤ 1048576) (w : World) (hfs : As w w.heap.size a n xs0) :
    Calls Try.prog 19 #[.slice a n cap] w fun e w' => ∃ g, e = .returned (.slice (some ⟨g, 0, none⟩) n n) ∧ w'.ownsRow w.heap.size 35 4 (.slice (some ⟨g, 0, none⟩) n n) n (acells xs0) ∧ Below w.heap.size w w' := by
  obtain ⟨i0, hi, hz0, hz1, hz2⟩ := info_parts infoIA
  obtain ⟨hlen, hrow⟩ := hfs
  have hmk : ∀ u : World, (Instr.makeSlice 44 (.int .i64 (n : Int)) (.int .i64 (n : Int))).run Try.prog u =
      .ok (.slice (some ⟨u.heap.size, 0, none⟩) n n) (u.alloc (.cells (madeCells #[.int .i64 0, .string .empty, .string .empty, .string .empty] (n * 4)) 35)) := fun u => by
    have h := run_make (P := Try.prog) u 44 35 i0 _ Try.underlying44 hi hz0 .i64 .i64 (n : Int) (n : Int) (by omega) (by omega) (by rw [hz2]; omega) (by omega)
    rw [Int.toNat_natCast] at h
    simpa [hz1, Value.cells] using h
  have HR := hideIt hrow
  clear hrow
  go_enter Try.func19, Try.ntmps19
  go_wp2
  go_loopw [4] (fun i wr => ∃ (k : Nat) (xs : List Value), k ≤ n ∧ i = .int .i64 (k : Int) ∧ Hid (xs.take (k * 4) = acells (xs0.take k)) ∧ wr.ownsRow w.heap.size 35 4 (.slice (some ⟨w.heap.size, 0, none⟩) n n) n xs ∧ Below w.heap.size w wr)
    (fun i _ => n - (intOf i).toNat)
  case atStart => exact ⟨0, _, by omega, rfl, by show _ = _; simp [acells], World.ownsRow_lit (base := w.heap.size) (e := 35) (size := 4) w (madeCells #[.int .i64 0, .string .empty, .string .empty, .string .empty] (n * 4)) n (Nat.le_refl _) (by unfold maxLen; omega) (by simp [madeCells]), (Below.refl _ _).alloc (Nat.le_refl _) _⟩
  case round =>
    obtain ⟨k, xs, hk, rfl, hx, hown, hb⟩ := hrel
    by_cases hlt : k < n
    · rcases HR.out with hz | ⟨b, off, rfl, hbl, hc⟩
      · omega
      · obtain ⟨f, hf⟩ : ∃ f, xs0[k]? = some f := ⟨xs0[k]'(by omega), List.getElem?_eq_getElem (by omega)⟩
        obtain ⟨c0, c1, c2, c3⟩ := hc k f hf
        have e0 : wr.cell? ⟨b, off + k * 4, none⟩ = some (.int .i64 f.kind) := by rw [hb.cell hbl]; exact c0
        have e1 : wr.cell? ⟨b, off + k * 4 + 1, none⟩ = some (.string f.name) := by rw [hb.cell hbl]; exact c1
        have e2 : wr.cell? ⟨b, off + k * 4 + 2, none⟩ = some (.string f.text) := by rw [hb.cell hbl]; exact c2
        have e3 : wr.cell? ⟨b, off + k * 4 + 3, none⟩ = some (.string f.to) := by rw [hb.cell hbl]; exact c3
        have b1 : (0 : Int) ≤ (k : Int) := by omega
        have b2 : (k : Int) < (n : Int) := by omega
        have HT := hideIt (toAct_any f wr)
        have HTk := hideIt (take_snocF xs0 k f hf)
        clear c0 c1 c2 c3 hc hf
        go_wp2_with (go_at_call 12; refine HT.out.mono ?_; rintro e w1 ⟨rfl, hb1⟩; refine Hid.out ?_)
        refine (show ∀ {p : Prop}, p → Hid p from fun h => h) ?_
        have hg1 : wr.grownBy w1 none := ⟨hb1.os, hb1.tape, hb1.output, hb1.size, fun i hi _ => hb1.block i hi⟩
        have hown1 := World.ownsRow.kept hown hg1 (.inr (by simp [Value.ownBlock]))
        have hl3 : xs.length = n * 4 := hown1.1
        have f0 := hown1.frozenAt (k * 4)
        have f1 := hown1.frozenAt (k * 4 + 1)
        have f2 := hown1.frozenAt (k * 4 + 2)
        have f3 := hown1.frozenAt (k * 4 + 3)
        have x0 : w1.cell? ⟨w.heap.size, k * 4, none⟩ = some (xs[k * 4]'(by omega)) := by rw [hown1.cellAt (k * 4) (by omega)]; exact List.getElem?_eq_getElem (by omega)
        have x1 : w1.cell? ⟨w.heap.size, k * 4 + 1, none⟩ = some (xs[k * 4 + 1]'(by omega)) := by rw [hown1.cellAt (k * 4 + 1) (by omega)]; exact List.getElem?_eq_getElem (by omega)
        have x2 : w1.cell? ⟨w.heap.size, k * 4 + 2, none⟩ = some (xs[k * 4 + 2]'(by omega)) := by rw [hown1.cellAt (k * 4 + 2) (by omega)]; exact List.getElem?_eq_getElem (by omega)
        have x3 : w1.cell? ⟨w.heap.size, k * 4 + 3, none⟩ = some (xs[k * 4 + 3]'(by omega)) := by rw [hown1.cellAt (k * 4 + 3) (by omega)]; exact List.getElem?_eq_getElem (by omega)
        clear e0 e1 e2 e3 HT
        go_wp2
        refine ⟨⟨k + 1, (((xs.set (k * 4) (.int .i64 f.kind)).set (k * 4 + 1) (.string f.name)).set (k * 4 + 2) (.string f.text)).set (k * 4 + 3) (.string f.to), by omega, by go_num, ?_, ?_, ?_⟩, by simp [intOf]; omega⟩
        · show _ = _
          rw [show (k + 1) * 4 = k * 4 + 4 by omega, take_set4 _ _ _ _ _ _ (by omega), hx.out, HTk.out, acells_snoc]
        · exact ((((hown1.stored (k * 4) _).1.stored (k * 4 + 1) _).1.stored (k * 4 + 2) _).1.stored (k * 4 + 3) _).1
        · exact ((((hb.trans (hb1.mono hb.size)).setCell (Nat.le_refl _) _).setCell (Nat.le_refl _) _).setCell (Nat.le_refl _) _).setCell (Nat.le_refl _) _
    · have e : xs0.take k = xs0 := List.take_of_length_le (by omega)
      have hl3 : xs.length = n * 4 := hown.1
      have HX : Hid (xs = acells xs0) := by
        show _ = _
        have := hx.out
        rw [e, List.take_of_length_le (by omega)] at this
        exact this
      have HO := hideIt hown
      clear hx e hown hl3
      go_wp2
      go_ret
      exact ⟨w.heap.size, rfl, by rw [← HX.out]; exact HO.out, hb⟩

theorem eqAct_yes (x : ActV) (w : World) :
    Calls Try.prog 48 #[.agg #[.int .i64 x.kind, .string x.name, .string x.text, .string x.to], .agg #[.int .i64 x.kind, .string x.name, .string x.text, .string x.to]] w fun e w' => e = .returned (.bool true) ∧ Below w.heap.size w w' := by
  go_enter Try.func48, Try.ntmps48
  go_wp2
  go_ret
  exact ⟨rfl, ((Below.refl _ _).alloc (Nat.le_refl _) _).alloc (by simp) _⟩

set_option maxRecDepth 100000 in
set_option maxHeartbeats 2000000 in
theorem eqActS_same (xs : List ActV) (n : Nat) (a a' : Option Addr) (c c' : Nat) (hn : n ≤ 1048576) (w : World) (h : As w w.heap.size a n xs) (h' : As w w.heap.size a' n xs) :
    Calls Try.prog 21 #[.slice a n c, .slice a' n c'] w fun e w' => e = .returned (.bool true) ∧ Below w.heap.size w w' := by
  obtain ⟨hlen, hrow⟩ := h
  obtain ⟨_, hrow'⟩ := h'
  have HR := hideIt hrow
  have HR' := hideIt hrow'
  clear hrow hrow'
  go_enter Try.func21, Try.ntmps21
  go_wp2
  go_loopw [5] (fun i wr => ∃ k : Nat, k ≤ n ∧ i = .int .i64 (k : Int) ∧ Below w.heap.size w wr) (fun i _ => n - (intOf i).toNat)
  case atStart => exact ⟨0, by omega, rfl, Below.refl _ _⟩
  case round =>
    obtain ⟨k, hk, rfl, hb⟩ := hrel
    by_cases hlt : k < n
    · rcases HR.out with hz | ⟨b, off, rfl, hbl, hc⟩
      · omega
      · rcases HR'.out with hz | ⟨b', off', rfl, hbl', hc'⟩
        · omega
        · obtain ⟨f, hf⟩ : ∃ f, xs[k]? = some f := ⟨xs[k]'(by omega), List.getElem?_eq_getElem (by omega)⟩
          obtain ⟨c0, c1, c2, c3⟩ := hc k f hf
          obtain ⟨d0, d1, d2, d3⟩ := hc' k f hf
          have b1 : (0 : Int) ≤ (k : Int) := by omega
          have b2 : (k : Int) < (n : Int) := by omega
          have HT : Hid (∀ W : World, Below w.heap.size w W → Calls Try.prog 48 #[.agg #[.int .i64 f.kind, .string f.name, .string f.text, .string f.to], .agg #[.int .i64 f.kind, .string f.name, .string f.text, .string f.to]] W fun e w' => e = .returned (.bool true) ∧ Below w.heap.size w w') := fun W hW =>
            (eqAct_yes f W).mono fun _ _ ⟨he, hb'⟩ => ⟨he, hW.trans (hb'.mono hW.size)⟩
          have HK : Hid (∀ W : World, Below w.heap.size w W → (W.cell? ⟨b, off + k * 4, none⟩ = some (.int .i64 f.kind) ∧ W.cell? ⟨b, off + k * 4 + 1, none⟩ = some (.string f.name) ∧ W.cell? ⟨b, off + k * 4 + 2, none⟩ = some (.string f.text) ∧ W.cell? ⟨b, off + k * 4 + 3, none⟩ = some (.string f.to) ∧
              W.cell? ⟨b', off' + k * 4, none⟩ = some (.int .i64 f.kind) ∧ W.cell? ⟨b', off' + k * 4 + 1, none⟩ = some (.string f.name) ∧ W.cell? ⟨b', off' + k * 4 + 2, none⟩ = some (.string f.text) ∧ W.cell? ⟨b', off' + k * 4 + 3, none⟩ = some (.string f.to))) := fun W hW =>
            ⟨by rw [hW.cell hbl]; exact c0, by rw [hW.cell hbl]; exact c1, by rw [hW.cell hbl]; exact c2, by rw [hW.cell hbl]; exact c3, by rw [hW.cell hbl']; exact d0, by rw [hW.cell hbl']; exact d1, by rw [hW.cell hbl']; exact d2, by rw [hW.cell hbl']; exact d3⟩
          have hbd := hb.drew
          clear c0 c1 c2 c3 d0 d1 d2 d3 hc hc' hf
          go_wp2
          go_region_held3 (fun u => Below w.heap.size w u ∧ u.cell? ⟨b, off + k * 4, none⟩ = some (.int .i64 f.kind) ∧ u.cell? ⟨b, off + k * 4 + 1, none⟩ = some (.string f.name) ∧ u.cell? ⟨b, off + k * 4 + 2, none⟩ = some (.string f.text) ∧ u.cell? ⟨b, off + k * 4 + 3, none⟩ = some (.string f.to) ∧
              u.cell? ⟨b', off' + k * 4, none⟩ = some (.int .i64 f.kind) ∧ u.cell? ⟨b', off' + k * 4 + 1, none⟩ = some (.string f.name) ∧ u.cell? ⟨b', off' + k * 4 + 2, none⟩ = some (.string f.text) ∧ u.cell? ⟨b', off' + k * 4 + 3, none⟩ = some (.string f.to))
            (first | exact ⟨hb3, HK.out _ hb3⟩ | exact ⟨hbd, HK.out _ hbd⟩)
            ((go_at_call 48; refine (HT.out _ hbd).mono ?_; rintro e w1 ⟨rfl, hb3⟩))
          clear hbd
          go_wp2
          go_roundw
          case rel => exact ⟨k + 1, by omega, by go_num, hb3⟩
          case measure => simp [intOf]; omega
    · go_wp2
      go_ret
      exact ⟨rfl, hb⟩

/-- what is behind a store into a row of g -/
theorem grown_set {w wr : World} {g : Nat} (h : w.grownBy wr (some g)) (k : Nat) (v : Value) : w.grownBy (wr.setCell ⟨g, k, none⟩ v) (some g) :=
  ⟨h.os, h.tape, h.output, by simpa [World.setCell] using h.size, fun j hj hne => by rw [heap_setCell_other wr ⟨g, k, none⟩ j _ (by simpa using hne)]; exact h.block j hj hne⟩
theorem grown_up {w wr w1 : World} {g : Nat} (h : w.grownBy wr (some g)) (hb : Below wr.heap.size wr w1) : w.grownBy w1 (some g) :=
  ⟨hb.os.trans h.os, hb.tape.trans h.tape, hb.output.trans h.output, Nat.le_trans h.size hb.size, fun j hj hne => by rw [hb.block j (Nat.lt_of_lt_of_le hj h.size)]; exact h.block j hj hne⟩

set_option maxRecDepth 100000 in
set_option maxHeartbeats 2000000 in
theorem markActS_any (base g c n k0 : Nat) (xs0 : List Value) (hn : n ≤ 1048576) (hk0 : 0 < k0) (hk1 : k0 ≤ 10000000) (w : World) (h : w.ownsRow base 35 4 (.slice (some ⟨g, 0, none⟩) n c) n xs0) :
    Calls Try.prog 22 #[.slice (some ⟨g, 0, none⟩) n c, .int .i64 (k0 : Int)] w fun e w' => e = .returned (.int .i64 ((k0 : Int) + (n : Int) * 4)) ∧ w.grownBy w' (some g) := by
  have H0 := hideIt h
  have HM := hideIt (fun (U : Nat) (h0 : 0 < U) (h1 : U ≤ 1000000000) (x : Int) (hx : (U : Int) = x) u => hx ▸ markText_any U h0 h1 u)
  clear h
  go_enter Try.func22, Try.ntmps22
  go_wp2
  go_loopw [1, 5] (fun q i wr => ∃ (k : Nat) (xs : List Value), k ≤ n ∧ i = .int .i64 (k : Int) ∧ q = .int .i64 ((k0 : Int) + (k : Int) * 4) ∧ wr.ownsRow base 35 4 (.slice (some ⟨g, 0, none⟩) n c) n xs ∧ w.grownBy wr (some g)) (fun _ i _ => n - (intOf i).toNat)
  case atStart => exact ⟨0, xs0, by omega, rfl, by simp, H0.out, ⟨rfl, rfl, rfl, Nat.le_refl _, fun _ _ _ => rfl⟩⟩
  case round =>
    obtain ⟨k, xs, hk, rfl, rfl, hown, hg⟩ := hrel
    have hl3 : xs.length = n * 4 := hown.1
    by_cases hlt : k < n
    · have b1 : (0 : Int) ≤ (k : Int) := by omega
      have b2 : (k : Int) < (n : Int) := by omega
      have f0 := hown.frozenAt (k * 4)
      have x0 : wr.cell? ⟨g, k * 4, none⟩ = some (xs[k * 4]'(by omega)) := by rw [hown.cellAt (k * 4) (by omega)]; exact List.getElem?_eq_getElem (by omega)
      have o1 := (hown.stored (k * 4) (.int .i64 ((k0 : Int) + (k : Int) * 4))).1
      have g1 := grown_set hg (k * 4) (.int .i64 ((k0 : Int) + (k : Int) * 4))
      have HC1 := hideIt (fun u => HM.out (k0 + k * 4 + 1) (by omega) (by omega) ((k0 : Int) + (k : Int) * 4 + 1) (by omega) u)
      go_wp2_with (go_at_call 49; refine (HC1.out _).mono ?_; rintro e w1 ⟨rfl, hb1⟩; refine Hid.out ?_)
      refine (show ∀ {p : Prop}, p → Hid p from fun h => h) ?_
      have ow1 := World.ownsRow.kept o1 (row := none) ⟨hb1.os, hb1.tape, hb1.output, hb1.size, fun i hi _ => hb1.block i hi⟩ (.inr (by simp [Value.ownBlock]))
      have gw1 := grown_up g1 hb1
      have hlw1 := ow1.1
      have f1 := ow1.frozenAt (k * 4 + 1)
      have x1 := ow1.cellAt (k * 4 + 1) (by omega)
      rw [List.getElem?_eq_getElem (by omega)] at x1
      have o2 := (ow1.stored (k * 4 + 1) (.string (mk (k0 + k * 4 + 1)))).1
      have g2 := grown_set gw1 (k * 4 + 1) (.string (mk (k0 + k * 4 + 1)))
      clear hb1 HC1
      have HC2 := hideIt (fun u => HM.out (k0 + k * 4 + 2) (by omega) (by omega) ((k0 : Int) + (k : Int) * 4 + 2) (by omega) u)
      go_wp2_with (go_at_call 49; refine (HC2.out _).mono ?_; rintro e w2 ⟨rfl, hb2⟩; refine Hid.out ?_)
      refine (show ∀ {p : Prop}, p → Hid p from fun h => h) ?_
      have ow2 := World.ownsRow.kept o2 (row := none) ⟨hb2.os, hb2.tape, hb2.output, hb2.size, fun i hi _ => hb2.block i hi⟩ (.inr (by simp [Value.ownBlock]))
      have gw2 := grown_up g2 hb2
      have hlw2 := ow2.1
      have f2 := ow2.frozenAt (k * 4 + 2)
      have x2 := ow2.cellAt (k * 4 + 2) (by omega)
      rw [List.getElem?_eq_getElem (by omega)] at x2
      have o3 := (ow2.stored (k * 4 + 2) (.string (mk (k0 + k * 4 + 2)))).1
      have g3 := grown_set gw2 (k * 4 + 2) (.string (mk (k0 + k * 4 + 2)))
      clear hb2 HC2
      have HC3 := hideIt (fun u => HM.out (k0 + k * 4 + 3) (by omega) (by omega) ((k0 : Int) + (k : Int) * 4 + 3) (by omega) u)
      go_wp2_with (go_at_call 49; refine (HC3.out _).mono ?_; rintro e w3 ⟨rfl, hb3⟩; refine Hid.out ?_)
      refine (show ∀ {p : Prop}, p → Hid p from fun h => h) ?_
      have ow3 := World.ownsRow.kept o3 (row := none) ⟨hb3.os, hb3.tape, hb3.output, hb3.size, fun i hi _ => hb3.block i hi⟩ (.inr (by simp [Value.ownBlock]))
      have gw3 := grown_up g3 hb3
      have hlw3 := ow3.1
      have f3 := ow3.frozenAt (k * 4 + 3)
      have x3 := ow3.cellAt (k * 4 + 3) (by omega)
      rw [List.getElem?_eq_getElem (by omega)] at x3
      have o4 := (ow3.stored (k * 4 + 3) (.string (mk (k0 + k * 4 + 3)))).1
      have g4 := grown_set gw3 (k * 4 + 3) (.string (mk (k0 + k * 4 + 3)))
      clear hb3 HC3
      go_wp2
      exact ⟨⟨k + 1, _, by omega, by go_num, by go_num, o4, g4⟩, by simp [intOf]; omega⟩
    · obtain rfl : k = n := by omega
      go_wp2
      go_ret
      exact ⟨rfl, hg⟩
end Go.Proofs.Ytibcdpnodikpiai
