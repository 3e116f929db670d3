/- What the law's own marks and looks on a row of texts answer: markText, eqStringS, markStringS, heldStringS. -/
import Derived.Test.YtegknhnmfaafmaaDoorMem
import Derived.Test.YtegknhnmfaafmaaDoorDg
import Derived.WalkSpells
import Derived.WalkSmall
import Derived.BigQuiet
import Derived.Deep.QuietTactic
import Derived.Deep.RegionHeld3
import Derived.Laws.Concat
namespace Go.Proofs.YtegknhnmfaafmaaDoor
open Go.RowKit Dg
open Go.Lib (decDigits)

theorem conv_byte (w : World) (b : UInt8) (x : Int) (hx : (b.toNat : Int) = x) :
    (convert 22 9 (.slice (some ⟨w.heap.size, 0, none⟩) 1 1)).run Tryd.prog (w.alloc (.cells #[.int .u8 x] 5)) = .ok (.string (one b)) (w.alloc (.cells #[.int .u8 x] 5)) := by
  subst hx
  refine run_convert_bytes_back (P := Tryd.prog) _ 22 9 5 ⟨w.heap.size, 0, none⟩ 1 [b] Tryd.underlying22 Tryd.underlying5 Tryd.underlying9 ?_
  intro j hj
  match j, hj with
  | 0, _ => exact one_new _ _ _ 0 _ rfl

/-- the mark of a number -/
def mk (k : Nat) : ByteArray := one 109 ++ ⟨(decDigits k).toArray⟩

set_option maxRecDepth 100000 in
set_option maxHeartbeats 2000000 in
theorem markText_any (U : Nat) (h0 : 0 < U) (h1 : U ≤ 1000000000) (w : World) :
    Calls Tryd.prog 34 #[.int .i64 (U : Int)] w fun e w' => e = .returned (.string (mk U)) ∧ Below w.heap.size w w' := by
  have hl := dec_length U (by omega)
  have d1 : decide ((U : Int) ≤ 0) = false := by simp; omega
  go_enter Tryd.func34, Tryd.ntmps34
  go_wp2
  go_loopw [0, 3] (fun n s wr => ∃ (u : Nat) (S : ByteArray), u ≤ U ∧ S.size ≤ 20 ∧ n = .int .i64 u ∧ s = .string S ∧ Hid (dg0 u ++ S.data.toList = decDigits U) ∧ Below w.heap.size w wr)
    (fun n _ _ => (intOf n).toNat)
  case atStart => exact ⟨U, ⟨#[]⟩, by omega, by show (0 : Nat) ≤ 20; omega, rfl, rfl, by show _ = _; rw [dg0_pos U (by omega)]; simp, Below.refl _ _⟩
  case round =>
    obtain ⟨u, S, hu, hS, rfl, rfl, hd, hb⟩ := hrel
    have hsz := hb.size
    by_cases hz : u ≤ 0
    · have e : S = ⟨(decDigits U).toArray⟩ := by
        have h2 := hd.out
        have h3 : u = 0 := by omega
        rw [h3] at h2
        apply ByteArray.ext
        apply Array.toList_inj.1
        simpa [dg0] using h2
      have HE : Hid _ := e
      clear e hd
      have hadd := fun wx => run_string_add_sum (P := Tryd.prog) wx ⟨#[109]⟩ S (by show 1 + S.size ≤ _; omega)
      go_wp2
      go_ret
      exact ⟨congrArg (fun x => Ending.returned (.string (one 109 ++ x))) HE.out, hb⟩
    · have hm : u % 10 < 10 := Nat.mod_lt _ (by omega)
      obtain ⟨b, hbv⟩ : ∃ b : UInt8, b = UInt8.ofNat (48 + u % 10) := ⟨_, rfl⟩
      have hcv := conv_byte wr b (48 + (u : Int) % 10) (by rw [hbv]; simp; omega)
      have ha : (one b ++ S).size ≤ 20 := by
        have h2 := congrArg List.length hd.out
        rw [dg0_step u (by omega)] at h2
        simp at h2
        rw [one_app_size]
        omega
      have ho := one_size b
      have HD : Hid (dg0 (u / 10) ++ (one b ++ S).data.toList = decDigits U) := by
        show _ = _
        rw [one_app, ← hd.out, dg0_step u (by omega), hbv]
        simp
      have hadd := fun wx => run_string_add_sum (P := Tryd.prog) wx (one b) S (by omega)
      clear hd hbv
      go_wp2
      go_roundw
      case rel => exact ⟨u / 10, one b ++ S, by omega, ha, by go_num, rfl, HD, hb.alloc hsz _⟩
      case measure => simp [intOf]; omega

theorem eqS_zero (a b : Option Addr) (c d : Nat) (w : World) :
    Calls Tryd.prog 14 #[.slice a 0 c, .slice b 0 d] w fun e w' => e = .returned (.bool true) ∧ Below w.heap.size w w' := by
  go_enter Tryd.func14, Tryd.ntmps14
  go_wp2
  refine wp_loop_rounds 1 ?_
  rw [rounds_succ]
  go_wp2
  go_ret
  exact ⟨rfl, Below.refl _ _⟩

set_option maxRecDepth 100000 in
set_option maxHeartbeats 1000000 in
theorem eqS_same (g1 g2 c1 c2 n : Nat) (ss : List ByteArray) (hl : ss.length = n) (hn : n ≤ 1000000) (w : World)
    (h1 : ∀ j (h : j < ss.length), w.cell? ⟨g1, j, none⟩ = some (.string (ss[j]))) (h2 : ∀ j (h : j < ss.length), w.cell? ⟨g2, j, none⟩ = some (.string (ss[j]))) :
    Calls Tryd.prog 14 #[.slice (some ⟨g1, 0, none⟩) n c1, .slice (some ⟨g2, 0, none⟩) n c2] w fun e w' => e = .returned (.bool true) ∧ Below w.heap.size w w' := by
  have H1 : Hid _ := h1
  have H2 : Hid _ := h2
  have HL : Hid _ := hl
  clear h1 h2 hl
  go_enter Tryd.func14, Tryd.ntmps14
  go_wp2
  go_loopw [5] (fun i wr => ∃ k q : Nat, k ≤ n ∧ i = .int .i64 k ∧ wr = w.drewN q) (fun i _ => n - (intOf i).toNat)
  case atStart => exact ⟨0, 0, by omega, rfl, rfl⟩
  case round =>
    obtain ⟨k, q, hk, rfl, rfl⟩ := hrel
    by_cases hlt : k < n
    · have hks : k < ss.length := by rw [HL.out]; exact hlt
      obtain ⟨S, hS⟩ : ∃ S, S = ss[k] := ⟨_, rfl⟩
      have c1 : w.cell? ⟨g1, k, none⟩ = some (.string S) := by rw [hS]; exact H1.out k hks
      have c2 : w.cell? ⟨g2, k, none⟩ = some (.string S) := by rw [hS]; exact H2.out k hks
      have b1 : (0 : Int) ≤ (k : Int) := by omega
      have b2 : (k : Int) < (n : Int) := by omega
      clear hS
      go_wp2
      go_quiet (fail)
      go_wp2
      go_roundw
      case rel => exact ⟨k + 1, _, by omega, by go_num, rfl⟩
      case measure => simp [intOf]; omega
    · go_wp2
      go_ret
      exact ⟨rfl, below_drewN (Below.refl _ _) _⟩

theorem grown_of_below {w w' : World} (h : Below w.heap.size w w') (row : Option Nat) : w.grownBy w' row :=
  ⟨h.os, h.tape, h.output, h.size, fun k hk _ => h.block k hk⟩

theorem grown_trans {a b c : World} {row : Option Nat} (h : a.grownBy b row) (k : b.grownBy c row) : a.grownBy c row :=
  ⟨k.os.trans h.os, k.tape.trans h.tape, k.output.trans h.output, Nat.le_trans h.size k.size, fun i hi hr => (k.block i (Nat.lt_of_lt_of_le hi h.size) hr).trans (h.block i hi hr)⟩

/-- the texts ss lie in a row of the call's own, from block base on -/
abbrev Own (w : World) (base : Nat) (v : Value) (ss : List ByteArray) : Prop := w.ownsRow base 9 1 v ss.length (ss.map Value.string)

theorem Own.below {w w' : World} {base : Nat} {v : Value} {ss : List ByteArray} (h : Own w base v ss) (hb : Below w.heap.size w w') : Own w' base v ss :=
  World.ownsRow.kept h (grown_of_below hb none) (by cases hv : v.ownBlock <;> simp)

/-- the first j texts are the marks from k0 on -/
def Marked (ms : List ByteArray) (k0 j : Nat) : Prop := ∀ t, t < j → ms[t]? = some (mk (k0 + t))

theorem Marked.set {ms : List ByteArray} {k0 j : Nat} (h : Marked ms k0 j) (hj : j < ms.length) : Marked (ms.set j (mk (k0 + j))) k0 (j + 1) := by
  intro t ht
  by_cases e : t = j
  · subst e
    simp [hj]
  · rw [List.getElem?_set_ne (by omega)]
    exact h t (by omega)

theorem markS_zero (a : Option Addr) (c : Nat) (k0 : Int) (w : World) :
    Calls Tryd.prog 15 #[.slice a 0 c, .int .i64 k0] w fun e w' => e = .returned (.int .i64 k0) ∧ w' = w := by
  go_enter Tryd.func15, Tryd.ntmps15
  go_wp2
  refine wp_loop_rounds 1 ?_
  rw [rounds_succ]
  go_wp2
  go_ret
  exact ⟨rfl, rfl⟩

theorem heldS_zero (a : Option Addr) (c : Nat) (k0 : Int) (w : World) :
    Calls Tryd.prog 16 #[.slice a 0 c, .int .i64 k0] w fun e w' => e = .returned (.int .i64 k0) ∧ w' = w := by
  go_enter Tryd.func16, Tryd.ntmps16
  go_wp2
  refine wp_loop_rounds 1 ?_
  rw [rounds_succ]
  go_wp2
  go_ret
  exact ⟨rfl, rfl⟩

set_option maxRecDepth 100000 in
set_option maxHeartbeats 2000000 in
theorem markS_any (base g c n k0 : Nat) (ss : List ByteArray) (hl : ss.length = n) (hn : n ≤ 1000000) (hk0 : 0 < k0) (hk1 : k0 ≤ 1000000) (w : World)
    (h : w.ownsRow base 9 1 (.slice (some ⟨g, 0, none⟩) n c) n (ss.map Value.string)) :
    Calls Tryd.prog 15 #[.slice (some ⟨g, 0, none⟩) n c, .int .i64 (k0 : Int)] w fun e w' => e = .returned (.int .i64 ((k0 : Int) + (n : Int))) ∧
      (∃ ms : List ByteArray, ms.length = n ∧ Marked ms k0 n ∧ w'.ownsRow base 9 1 (.slice (some ⟨g, 0, none⟩) n c) n (ms.map Value.string)) ∧ w.grownBy w' (some g) := by
  have HL : Hid _ := hl
  clear hl
  go_enter Tryd.func15, Tryd.ntmps15
  go_wp2
  go_loopw [1, 5] (fun kk i wr => ∃ (j : Nat) (ms : List ByteArray), j ≤ n ∧ i = .int .i64 j ∧ kk = .int .i64 ((k0 : Int) + (j : Int)) ∧ Hid (ms.length = n) ∧ Hid (Marked ms k0 j) ∧
      wr.ownsRow base 9 1 (.slice (some ⟨g, 0, none⟩) n c) n (ms.map Value.string) ∧ w.grownBy wr (some g)) (fun _ i _ => n - (intOf i).toNat)
  case atStart => exact ⟨0, ss, by omega, rfl, by simp, HL, (fun t ht => by omega), h, ⟨rfl, rfl, rfl, Nat.le_refl _, fun _ _ _ => rfl⟩⟩
  case round =>
    obtain ⟨j, ms, hj, rfl, rfl, hml, hmk, hown, hgr⟩ := hrel
    by_cases hlt : j < n
    · have hjm : j < ms.length := by rw [hml.out]; exact hlt
      have HM : Hid _ := hmk.out.set hjm
      have HT : Hid (∀ w : World, Calls Tryd.prog 34 #[.int .i64 ((k0 : Int) + (j : Int))] w fun e w' => e = .returned (.string (mk (k0 + j))) ∧ Below w.heap.size w w') := fun w => by
        have := markText_any (k0 + j) (by omega) (by omega) w
        rw [show ((k0 + j : Nat) : Int) = (k0 : Int) + (j : Int) by omega] at this
        exact this
      have b1 : (0 : Int) ≤ (j : Int) := by omega
      have b2 : (j : Int) < (n : Int) := by omega
      clear hmk h
      go_wp2_with (go_at_call 34; refine (HT.out _).mono ?_; rintro e w1 ⟨rfl, hb1⟩; refine Hid.out ?_)
      refine (show ∀ {p : Prop}, p → Hid p from fun h => h) ?_
      have hown1 := World.ownsRow.kept hown (grown_of_below hb1 none) (by simp [Value.ownBlock])
      have hc1 : w1.cell? ⟨g, j, none⟩ = some (.string (ms[j]'hjm)) := by
        rw [hown1.cellAt j (by omega)]
        simp [hjm]
      have hf1 := hown1.frozenAt j
      have hst := hown1.stored j (.string (mk (k0 + j)))
      have HO : Hid ((w1.setCell ⟨g, j, none⟩ (.string (mk (k0 + j)))).ownsRow base 9 1 (.slice (some ⟨g, 0, none⟩) n c) n ((ms.set j (mk (k0 + j))).map Value.string)) := by
        have := hst.1
        rw [← List.map_set] at this
        exact this
      have HG : Hid (w.grownBy (w1.setCell ⟨g, j, none⟩ (.string (mk (k0 + j)))) (some g)) := grown_trans (grown_trans hgr (grown_of_below hb1 _)) hst.2
      have HL2 : Hid ((ms.set j (mk (k0 + j))).length = n) := by show _ = _; rw [List.length_set]; exact hml.out
      clear hst hown hown1 hgr hb1 hml
      go_wp2
      go_roundw
      case rel => exact ⟨j + 1, ms.set j (mk (k0 + j)), by omega, by go_num, by go_num, HL2, HM, HO, HG⟩
      case measure => simp [intOf]; omega
    · have e : j = n := by omega
      have HE : Hid _ := e
      clear e h
      go_wp2
      go_ret
      have e := HE.out
      subst e
      exact ⟨rfl, ⟨ms, hml.out, hmk.out, hown⟩, hgr⟩

set_option maxRecDepth 100000 in
set_option maxHeartbeats 2000000 in
theorem heldS_any (base g c n k0 : Nat) (ms : List ByteArray) (hl : ms.length = n) (hn : n ≤ 1000000) (hk0 : 0 < k0) (hk1 : k0 ≤ 1000000) (hm : Marked ms k0 n) (w : World)
    (h : w.ownsRow base 9 1 (.slice (some ⟨g, 0, none⟩) n c) n (ms.map Value.string)) :
    Calls Tryd.prog 16 #[.slice (some ⟨g, 0, none⟩) n c, .int .i64 (k0 : Int)] w fun e w' => e = .returned (.int .i64 ((k0 : Int) + (n : Int))) ∧ Below w.heap.size w w' := by
  have hg : g < w.heap.size := (h.lt g rfl).2
  have HL : Hid _ := hl
  have HM : Hid _ := hm
  have HO : Hid _ := h
  clear hl hm h
  go_enter Tryd.func16, Tryd.ntmps16
  go_wp2
  go_loopw [1, 5] (fun kk i wr => ∃ j : Nat, j ≤ n ∧ i = .int .i64 j ∧ kk = .int .i64 ((k0 : Int) + (j : Int)) ∧ Below w.heap.size w wr) (fun _ i _ => n - (intOf i).toNat)
  case atStart => exact ⟨0, by omega, rfl, by simp, Below.refl _ _⟩
  case round =>
    obtain ⟨j, hj, rfl, rfl, hb⟩ := hrel
    by_cases hlt : j < n
    · have hS : g < wr.heap.size ∧ wr.cell? ⟨g, j, none⟩ = some (.string (mk (k0 + j))) := by
        refine ⟨by have := hb.size; omega, ?_⟩
        rw [hb.cell hg, World.ownsRow.cellAt HO.out j (by omega)]
        have := HM.out j hlt
        simp [this]
      have HT : Hid (∀ W : World, (g < W.heap.size ∧ W.cell? ⟨g, j, none⟩ = some (.string (mk (k0 + j)))) → Calls Tryd.prog 34 #[.int .i64 ((k0 : Int) + (j : Int))] W fun e w' => e = .returned (.string (mk (k0 + j))) ∧ Below W.heap.size W w' ∧ (g < w'.heap.size ∧ w'.cell? ⟨g, j, none⟩ = some (.string (mk (k0 + j))))) := fun W hW => by
        have := markText_any (k0 + j) (by omega) (by omega) W
        rw [show ((k0 + j : Nat) : Int) = (k0 : Int) + (j : Int) by omega] at this
        exact this.mono fun e w' ⟨he, hb'⟩ => ⟨he, hb', by have := hb'.size; omega, by rw [hb'.cell hW.1]; exact hW.2⟩
      obtain ⟨hS1, hS2⟩ := hS
      have b1 : (0 : Int) ≤ (j : Int) := by omega
      have b2 : (j : Int) < (n : Int) := by omega
      go_wp2
      go_region_held3 (fun w' => g < w'.heap.size ∧ w'.cell? ⟨g, j, none⟩ = some (.string (mk (k0 + j)))) (first | go_keep | exact hS3)
        ((go_at_call 34; refine (HT.out _ ?_).mono ?_; (simp [*]); rintro e w1 ⟨rfl, hb1, hS3⟩))
      have hb2 : Below w.heap.size w w1 := hb.drew.trans (hb1.mono hb.size)
      clear hS1 hS2 hS3 hb1
      go_wp2
      go_roundw
      case rel => exact ⟨j + 1, by omega, by go_num, by go_num, hb2⟩
      case measure => simp [intOf]; omega
    · have e : j = n := by omega
      have HE : Hid _ := e
      clear e
      go_wp2
      go_ret
      have e := HE.out
      subst e
      exact ⟨rfl, hb⟩

end Go.Proofs.YtegknhnmfaafmaaDoor
