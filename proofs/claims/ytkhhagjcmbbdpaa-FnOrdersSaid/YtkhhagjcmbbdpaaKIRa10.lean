/- The text of what an order wants done. The methods that tell what an order wants done as a text. The specification's OrderText. The specification's OrderText. What lies in memory while an answer is read; the program's reader of a flag and of labels. The program's ReadAnswer. -/
import Derived.Test.YtkhhagjcmbbdpaaKITx10
import Derived.Test.YtkhhagjcmbbdpaaKDw10
import Derived.Test.YtkhhagjcmbbdpaaKLawB10
namespace Go.Proofs.Ytkhhagjcmbbdpaa
open Go.RowKit Vt

theorem conv_g (g : Nat) (b : UInt8) (x : Int) (hx : (b.toNat : Int) = x) (W : World) (h : W.cell? ⟨g, 0, none⟩ = some (.int .u8 x)) :
    (convert 22 9 (.slice (some ⟨g, 0, none⟩) 1 1)).run Try.prog W = .ok (.string (str [b])) W := by
  subst hx
  refine run_convert_bytes_back (P := Try.prog) W 22 9 5 ⟨g, 0, none⟩ 1 [b] Try.underlying22 Try.underlying5 Try.underlying9 ?_
  intro j hj
  match j, hj with
  | 0, _ => exact h

theorem new_then1 (w : World) (x : Value) {w1 : World} (hb : Below (w.alloc (.cells #[x] 5)).heap.size (w.alloc (.cells #[x] 5)) w1) : w1.cell? ⟨w.heap.size, 0, none⟩ = some x ∧ w.heap.size < w1.heap.size :=
  ⟨by rw [hb.cell (by simp)]; simp, by have := hb.size; simp at this; omega⟩
/-- what was new ahead of a call stands there behind it -/
theorem new_then (w : World) (x : Value) {w1 : World} (hb : Below (w.drew.alloc (.cells #[x] 5)).heap.size (w.drew.alloc (.cells #[x] 5)) w1) : w1.cell? ⟨w.heap.size, 0, none⟩ = some x ∧ w.heap.size < w1.heap.size :=
  new_then1 w.drew x hb
theorem old_then {w w1 : World} {g : Nat} {x : Value} (h : w.cell? ⟨g, 0, none⟩ = some x ∧ g < w.heap.size) (hb : Below w.heap.size w w1) : w1.cell? ⟨g, 0, none⟩ = some x ∧ g < w1.heap.size :=
  ⟨by rw [hb.cell h.2]; exact h.1, Nat.lt_of_lt_of_le h.2 hb.size⟩

set_option maxRecDepth 100000 in
set_option maxHeartbeats 4000000 in
theorem commandText_any (op : UInt8) (x v : Int) (hx : (op.toNat : Int) = x) (hv : 0 ≤ v ∧ v ≤ 1000) (es : List EdgeV) (k : Nat) (a : Option Addr) (c : Nat) (hk : k ≤ 100) (hby : EB8 es) (w : World) (h : Es w w.heap.size a k es) :
    Calls Try.prog 126 #[.int .u8 x, .int .i64 v, .slice a k c] w fun e w' => e = .returned (.string (str (op :: (vt v.toNat ++ et es)))) ∧ Below w.heap.size w w' := by
  have HN : Hid (∀ W, Below w.heap.size w W → Calls Try.prog 40 #[.int .i64 v] W fun e w' => e = .returned (.string (str (vt v.toNat))) ∧ Below w.heap.size w w' ∧ Below W.heap.size W w') := fun W hW =>
    (numberText_any v v.toNat (by omega) (by omega) W).mono fun _ _ ⟨he, hb⟩ => ⟨he, hW.trans (hb.mono hW.size), hb⟩
  have HE : Hid (∀ W, Below w.heap.size w W → Calls Try.prog 52 #[.slice a k c] W fun e w' => e = .returned (.string (str (et es))) ∧ Below w.heap.size w w' ∧ Below W.heap.size W w') := fun W hW =>
    (edgesText_any es k a c hk hby W (h.up hW)).mono fun _ _ ⟨he, hb⟩ => ⟨he, hW.trans (hb.mono hW.size), hb⟩
  have hl1 := vt_le5 v.toNat (by omega)
  have hl2 : (et es).length ≤ 205 := by
    have := h.1
    unfold et
    rw [List.length_append, eb_length]
    have := vt_le5 es.length (by omega)
    omega
  have A1 : ∀ wx, (Op.stringOp .add (str [op]) (str (vt v.toNat))).run Try.prog wx = .ok (.string (str ([op] ++ vt v.toNat))) wx := str_add _ _ (by simp; omega)
  have A2 : ∀ wx, (Op.stringOp .add (str ([op] ++ vt v.toNat)) (str (et es))).run Try.prog wx = .ok (.string (str ([op] ++ vt v.toNat ++ et es))) wx := str_add _ _ (by simp; omega)
  have FN : Hid (str ([op] ++ vt v.toNat ++ et es) = str (op :: (vt v.toNat ++ et es))) := by show _ = _; simp
  have CV : ∀ (g : Nat) (W : World), W.cell? ⟨g, 0, none⟩ = some (.int .u8 x) → (convert 22 9 (.slice (some ⟨g, 0, none⟩) 1 1)).run Try.prog W = .ok (.string (str [op])) W := fun g W hW => conv_g g op x hx W hW
  generalize hs1 : str [op] = s1 at *
  generalize hs2 : str (vt v.toNat) = s2 at *
  generalize hs3 : str (et es) = s3 at *
  generalize hs4 : str ([op] ++ vt v.toNat) = s4 at *
  generalize hs5 : str ([op] ++ vt v.toNat ++ et es) = s5 at *
  clear hs1 hs2 hs3 hs4 hs5 hl1 hl2 h hby
  have B0 : Below w.heap.size w w.drew := (Below.refl _ _).drew
  go_enter Try.func126, Try.ntmps126
  go_wp2
  go_region_with (first
    | (go_at_call 40; refine (HN.out _ (by first | exact B0 | exact B0.alloc (Nat.le_refl _) _)).mono ?_; rintro e w1 ⟨rfl, B1, hb1⟩; (first | (have q1 := new_then w _ hb1; clear hb1) | clear hb1))
    | (go_at_call 52; refine (HE.out _ (by first | exact B1 | exact B1.alloc B1.size _)).mono ?_; rintro e w2 ⟨rfl, B2, hb2⟩; (first | (have q2 := old_then q1 hb2; clear hb2) | (have q3 := new_then1 w1 _ hb2; clear hb2) | clear hb2)))
  all_goals
    go_wp2
    go_ret
    exact ⟨by show Ending.returned (.string s5) = _; rw [FN.out], by first | exact B2 | exact B2.alloc B2.size _⟩
end Go.Proofs.Ytkhhagjcmbbdpaa
namespace Go.Proofs.Ytkhhagjcmbbdpaa
open Go.RowKit Vt

theorem ob1 : ((1 : UInt8).toNat : Int) = 1 := rfl

theorem cRel_any (v : Int) (hv : 0 ≤ v ∧ v ≤ 1000) (w : World) :
    Calls Try.prog 125 #[.agg #[.int .i64 v]] w fun e w' => e = .returned (.string (str (3 :: (vt v.toNat ++ et [])))) ∧ Below w.heap.size w w' := by
  have HC := hideIt (commandText_any 3 3 v rfl hv [] 0 none 0 (by omega) (fun e he => by cases he) (w.alloc (.cells #[.int .i64 v] 104)) ⟨rfl, .inl rfl⟩)
  go_enter Try.func125, Try.ntmps125
  go_wp2_with (go_at_call 126; refine HC.out.mono ?_; rintro e w1 ⟨rfl, hb⟩)
  go_ret
  exact ⟨rfl, (bel1 _ _).trans (hb.mono (by simp))⟩

theorem cAcc_any (es : List EdgeV) (k : Nat) (a : Option Addr) (c : Nat) (hk : k ≤ 100) (hby : EB8 es) (w : World) (h : Es w w.heap.size a k es) :
    Calls Try.prog 129 #[.agg #[.slice a k c]] w fun e w' => e = .returned (.string (str (4 :: (vt 0 ++ et es)))) ∧ Below w.heap.size w w' := by
  have HC := hideIt (commandText_any 4 4 0 rfl (by omega) es k a c hk hby (w.alloc (.cells #[.slice a k c] 109)) ((h.alloc (Nat.le_refl _) _).mono (by simp)))
  clear h hby
  go_enter Try.func129, Try.ntmps129
  go_wp2_with (go_at_call 126; refine HC.out.mono ?_; rintro e w1 ⟨rfl, hb⟩)
  go_ret
  exact ⟨rfl, (bel1 _ _).trans (hb.mono (by simp))⟩

theorem es_one (w : World) (f : EdgeV) (t : TypeId) : Es (w.alloc (.cells #[.int .i64 f.1, .int .i64 f.2] t)) (w.alloc (.cells #[.int .i64 f.1, .int .i64 f.2] t)).heap.size (some ⟨w.heap.size, 0, none⟩) 1 [f] := by
  refine ⟨rfl, .inr ⟨w.heap.size, 0, rfl, by simp, fun j g hg => ?_⟩⟩
  match j, hg with
  | 0, hg => simp at hg; subst hg; simp

theorem cAdd_any (f : EdgeV) (hf : EB8 [f]) (w : World) :
    Calls Try.prog 127 #[.agg #[.int .i64 f.1, .int .i64 f.2]] w fun e w' => e = .returned (.string (str (1 :: (vt 0 ++ et [f])))) ∧ Below w.heap.size w w' := by
  have HC := hideIt (commandText_any 1 1 0 rfl (by omega) [f] 1 (some ⟨w.heap.size + 1, 0, none⟩) 1 (by omega) hf ((w.alloc (.cells #[.int .i64 f.1, .int .i64 f.2] 106)).alloc (.cells #[.int .i64 f.1, .int .i64 f.2] 78)) (by have := es_one (w.alloc (.cells #[.int .i64 f.1, .int .i64 f.2] 106)) f 78; simpa using this))
  clear hf
  go_enter Try.func127, Try.ntmps127
  go_wp2_with (go_at_call 126; refine HC.out.mono ?_; rintro e w1 ⟨rfl, hb⟩)
  go_ret
  exact ⟨rfl, bel2 _ _ hb⟩

theorem cTake_any (f : EdgeV) (hf : EB8 [f]) (w : World) :
    Calls Try.prog 128 #[.agg #[.int .i64 f.1, .int .i64 f.2]] w fun e w' => e = .returned (.string (str (2 :: (vt 0 ++ et [f])))) ∧ Below w.heap.size w w' := by
  have HC := hideIt (commandText_any 2 2 0 rfl (by omega) [f] 1 (some ⟨w.heap.size + 1, 0, none⟩) 1 (by omega) hf ((w.alloc (.cells #[.int .i64 f.1, .int .i64 f.2] 107)).alloc (.cells #[.int .i64 f.1, .int .i64 f.2] 78)) (by have := es_one (w.alloc (.cells #[.int .i64 f.1, .int .i64 f.2] 107)) f 78; simpa using this))
  clear hf
  go_enter Try.func128, Try.ntmps128
  go_wp2_with (go_at_call 126; refine HC.out.mono ?_; rintro e w1 ⟨rfl, hb⟩)
  go_ret
  exact ⟨rfl, bel2 _ _ hb⟩

/-- an order's text, or none -/
def otV (n : Int) (o : OrdV) : Value := if oB n o then .tuple #[.string (str (oText o)), .bool true] else .tuple #[.string ⟨#[]⟩, .bool false]
theorem otV_yes {n : Int} {o : OrdV} (h : oB n o = true) : otV n o = .tuple #[.string (str (oText o)), .bool true] := by unfold otV; rw [h]; rfl
theorem otV_no {n : Int} {o : OrdV} (h : oB n o = false) : otV n o = .tuple #[.string ⟨#[]⟩, .bool false] := by unfold otV; rw [h]; rfl

set_option maxRecDepth 100000 in
set_option maxHeartbeats 4000000 in
theorem iOrderText_no (n num op : Int) (es : List EdgeV) (v : Int) (k : Nat) (a : Option Addr) (c : Nat) (hk : k ≤ 1048576) (w : World) (h : Es w w.heap.size a k es) (hB : oB n ⟨num, op, es, v⟩ = false) :
    Calls Try.prog 12 #[.int .i64 n, ordV num op a k c v] w fun e w' => e = .returned (.tuple #[.string ⟨#[]⟩, .bool false]) ∧ Below w.heap.size w w' := by
  have HO := hideIt (iOrderOk_any n num op es v k a c hk (w.alloc (.cells #[.int .i64 num, .int .i64 op, .slice a k c, .int .i64 v] 26)) ((h.alloc (Nat.le_refl _) _).mono (by simp)))
  rw [hB] at HO
  unfold ordV at HO ⊢
  clear h hB
  go_enter Try.func12, Try.ntmps12
  go_wp2_with (go_at_call 15; refine HO.out.mono ?_; rintro e w1 ⟨rfl, hb⟩)
  go_ret2
  exact ⟨rfl, (bel1 _ _).trans (hb.mono (by simp))⟩

set_option maxRecDepth 100000 in
set_option maxHeartbeats 4000000 in
theorem iOrderText_rel (n num v : Int) (a : Option Addr) (c : Nat) (w : World) (h : Es w w.heap.size a 0 []) (hB : oB n ⟨num, 3, [], v⟩ = true) :
    Calls Try.prog 12 #[.int .i64 n, ordV num 3 a 0 c v] w fun e w' => e = .returned (.tuple #[.string (str (oText ⟨num, 3, [], v⟩)), .bool true]) ∧ Below w.heap.size w w' := by
  obtain ⟨p0, p1, p2, p3, p4⟩ := oB_parts hB
  dsimp only at p1 p2 p3 p4
  have HO : Hid (Calls Try.prog 15 #[.int .i64 n, ordV num 3 a 0 c v] (w.alloc (.cells #[.int .i64 num, .int .i64 3, .slice a 0 c, .int .i64 v] 26)) fun e w' => e = .returned (.bool true) ∧ Below w.heap.size w w' ∧
      w'.cell? ⟨w.heap.size, 0, none⟩ = some (.int .i64 num) ∧ w'.cell? ⟨w.heap.size, 1, none⟩ = some (.int .i64 3) ∧ w'.cell? ⟨w.heap.size, 2, none⟩ = some (.slice a 0 c) ∧ w'.cell? ⟨w.heap.size, 3, none⟩ = some (.int .i64 v) ∧ w.heap.size < w'.heap.size) :=
    (iOrderOk_any n num 3 [] v 0 a c (by omega) (w.alloc (.cells #[.int .i64 num, .int .i64 3, .slice a 0 c, .int .i64 v] 26)) ((h.alloc (Nat.le_refl _) _).mono (by simp))).mono fun _ _ ⟨he, hb⟩ =>
      ⟨by rw [he, hB], (bel1 _ _).trans (hb.mono (by simp)), by rw [hb.cell (by simp)]; simp, by rw [hb.cell (by simp)]; simp, by rw [hb.cell (by simp)]; simp, by rw [hb.cell (by simp)]; simp, by have := hb.size; simp at this; omega⟩
  have HN := hideIt (numberText_any num num.toNat (by omega) (by omega))
  have HC := hideIt (commandOf_rel num v a c)
  have HM := hideIt (cRel_any v (by omega))
  have hm : ∀ w, (method 251 104 (.agg #[.int .i64 v]) "loop.example/g00130/impl.text").run Try.prog w = .ok (125, .agg #[.int .i64 v]) w := fun _ => by kernel_rfl
  have hl1 := vt_le5 num.toNat (by omega)
  have hl2 := vt_le5 v.toNat (by omega)
  have A1 : ∀ wx, (Op.stringOp .add (str (vt num.toNat)) (str (3 :: (vt v.toNat ++ et [])))).run Try.prog wx = .ok (.string (str (vt num.toNat ++ (3 :: (vt v.toNat ++ et []))))) wx := str_add _ _ (by simp [et, eb, vt_small 0 (by omega)]; omega)
  have FN : Hid (str (vt num.toNat ++ (3 :: (vt v.toNat ++ et []))) = str (oText ⟨num, 3, [], v⟩)) := by show _ = _; rfl
  unfold ordV at HO HC ⊢
  clear h hB
  go_enter Try.func12, Try.ntmps12
  go_wp2_with (go_at_call 15; refine HO.out.mono ?_; rintro e w1 ⟨rfl, hb1, q0, q1, q2, q3, z1⟩; refine Hid.out ?_)
  refine (show ∀ {p : Prop}, p → Hid p from fun h => h) ?_
  have KC : Hid (∀ W, Below w1.heap.size w1 W → (W.cell? ⟨w.heap.size, 0, none⟩ = some (.int .i64 num) ∧ W.cell? ⟨w.heap.size, 1, none⟩ = some (.int .i64 3) ∧ W.cell? ⟨w.heap.size, 2, none⟩ = some (.slice a 0 c) ∧ W.cell? ⟨w.heap.size, 3, none⟩ = some (.int .i64 v))) := fun W hW =>
    ⟨by rw [hW.cell z1]; exact q0, by rw [hW.cell z1]; exact q1, by rw [hW.cell z1]; exact q2, by rw [hW.cell z1]; exact q3⟩
  have Z1 : Hid (∀ W, Below w1.heap.size w1 W → Below w.heap.size w W) := fun W hW => hb1.trans (hW.mono hb1.size)
  have B0 : Below w1.heap.size w1 w1.drew := (Below.refl _ _).drew
  go_wp2
  go_region_held3 (fun u => Below w1.heap.size w1 u ∧ (u.cell? ⟨w.heap.size, 0, none⟩ = some (.int .i64 num) ∧ u.cell? ⟨w.heap.size, 1, none⟩ = some (.int .i64 3) ∧ u.cell? ⟨w.heap.size, 2, none⟩ = some (.slice a 0 c) ∧ u.cell? ⟨w.heap.size, 3, none⟩ = some (.int .i64 v)))
    (first | exact ⟨B4, KC.out _ B4⟩ | exact ⟨B3, KC.out _ B3⟩ | exact ⟨B2, KC.out _ B2⟩ | exact ⟨B0, KC.out _ B0⟩)
    (first
    | (go_at_call 40; refine (HN.out _).mono ?_; rintro e w2 ⟨rfl, hb2⟩; have B2 := B0.trans (hb2.mono B0.size))
    | (go_at_call 41; refine (HC.out _).mono ?_; rintro e w3 ⟨rfl, hb3⟩; have B3 := B2.trans (hb3.mono B2.size))
    | (go_at_call 125; refine (HM.out _).mono ?_; rintro e w4 ⟨rfl, hb4⟩; have B4 := B3.trans (hb4.mono B3.size)))
  all_goals
    go_wp2
    go_ret2
    exact ⟨by rw [← FN.out]; rfl, Z1.out _ B4⟩
set_option maxRecDepth 100000 in
set_option maxHeartbeats 4000000 in
theorem iOrderText_add (n num : Int) (f : EdgeV) (b off c : Nat) (w : World) (h : Es w w.heap.size (some ⟨b, off, none⟩) 1 [f]) (hB : oB n ⟨num, 1, [f], 0⟩ = true) :
    Calls Try.prog 12 #[.int .i64 n, ordV num 1 (some ⟨b, off, none⟩) 1 c 0] w fun e w' => e = .returned (.tuple #[.string (str (oText ⟨num, 1, [f], 0⟩)), .bool true]) ∧ Below w.heap.size w w' := by
  obtain ⟨p0, p1, p2, p3, p4⟩ := oB_parts hB
  dsimp only at p1 p2 p3 p4
  have HO : Hid (Calls Try.prog 15 #[.int .i64 n, ordV num 1 (some ⟨b, off, none⟩) 1 c 0] (w.alloc (.cells #[.int .i64 num, .int .i64 1, .slice (some ⟨b, off, none⟩) 1 c, .int .i64 0] 26)) fun e w' => e = .returned (.bool true) ∧ Below w.heap.size w w' ∧
      w'.cell? ⟨w.heap.size, 0, none⟩ = some (.int .i64 num) ∧ w'.cell? ⟨w.heap.size, 1, none⟩ = some (.int .i64 1) ∧ w'.cell? ⟨w.heap.size, 2, none⟩ = some (.slice (some ⟨b, off, none⟩) 1 c) ∧ w'.cell? ⟨w.heap.size, 3, none⟩ = some (.int .i64 0) ∧ w.heap.size < w'.heap.size) :=
    (iOrderOk_any n num 1 [f] 0 1 (some ⟨b, off, none⟩) c (by omega) (w.alloc (.cells #[.int .i64 num, .int .i64 1, .slice (some ⟨b, off, none⟩) 1 c, .int .i64 0] 26)) ((h.alloc (Nat.le_refl _) _).mono (by simp))).mono fun _ _ ⟨he, hb⟩ =>
      ⟨by rw [he, hB], (bel1 _ _).trans (hb.mono (by simp)), by rw [hb.cell (by simp)]; simp, by rw [hb.cell (by simp)]; simp, by rw [hb.cell (by simp)]; simp, by rw [hb.cell (by simp)]; simp, by have := hb.size; simp at this; omega⟩
  have HN := hideIt (numberText_any num num.toNat (by omega) (by omega))
  have HC : Hid (∀ W, Below w.heap.size w W → Calls Try.prog 41 #[ordV num 1 (some ⟨b, off, none⟩) 1 c 0] W fun x w' => x = .returned (.iface 106 (.agg #[.int .i64 f.1, .int .i64 f.2])) ∧ Below W.heap.size W w') := fun W hW => by
    rcases h.2 with h0 | ⟨b', off', e, hb0, hc⟩
    · omega
    · simp at e
      obtain ⟨rfl, rfl⟩ := e
      obtain ⟨c0, c1⟩ := hc 0 f rfl
      rw [Nat.zero_mul, Nat.add_zero] at c0 c1
      exact commandOf_add num f b off c W (by rw [hW.cell hb0]; exact c0) (by rw [hW.cell hb0]; exact c1) (Nat.lt_of_lt_of_le hb0 hW.size)
  have HM := hideIt (cAdd_any f p2.1)
  have hm : ∀ w, (method 251 106 (.agg #[.int .i64 f.1, .int .i64 f.2]) "loop.example/g00130/impl.text").run Try.prog w = .ok (127, .agg #[.int .i64 f.1, .int .i64 f.2]) w := fun _ => by kernel_rfl
  have hl1 := vt_le5 num.toNat (by omega)
  have hl2 := vt_le5 0 (by omega)
  have hl3 : (et [f]).length ≤ 205 := by
    unfold et
    rw [List.length_append, eb_length]
    have := vt_le5 (List.length [f]) (by simp)
    simp only [List.length_cons, List.length_nil] at *; omega
  have A1 : ∀ wx, (Op.stringOp .add (str (vt num.toNat)) (str (1 :: (vt 0 ++ et [f])))).run Try.prog wx = .ok (.string (str (vt num.toNat ++ (1 :: (vt 0 ++ et [f]))))) wx := str_add _ _ (by rw [List.length_cons, List.length_append]; omega)
  have FN : Hid (str (vt num.toNat ++ (1 :: (vt 0 ++ et [f]))) = str (oText ⟨num, 1, [f], 0⟩)) := by show _ = _; rfl
  unfold ordV at HO HC ⊢
  clear hB
  have H0 := hideIt h
  clear h
  go_enter Try.func12, Try.ntmps12
  go_wp2_with (go_at_call 15; refine HO.out.mono ?_; rintro e w1 ⟨rfl, hb1, q0, q1, q2, q3, z1⟩; refine Hid.out ?_)
  refine (show ∀ {p : Prop}, p → Hid p from fun h => h) ?_
  have KC : Hid (∀ W, Below w1.heap.size w1 W → (W.cell? ⟨w.heap.size, 0, none⟩ = some (.int .i64 num) ∧ W.cell? ⟨w.heap.size, 1, none⟩ = some (.int .i64 1) ∧ W.cell? ⟨w.heap.size, 2, none⟩ = some (.slice (some ⟨b, off, none⟩) 1 c) ∧ W.cell? ⟨w.heap.size, 3, none⟩ = some (.int .i64 0))) := fun W hW =>
    ⟨by rw [hW.cell z1]; exact q0, by rw [hW.cell z1]; exact q1, by rw [hW.cell z1]; exact q2, by rw [hW.cell z1]; exact q3⟩
  have Z1 : Hid (∀ W, Below w1.heap.size w1 W → Below w.heap.size w W) := fun W hW => hb1.trans (hW.mono hb1.size)
  have B0 : Below w1.heap.size w1 w1.drew := (Below.refl _ _).drew
  go_wp2
  go_region_held3 (fun u => Below w1.heap.size w1 u ∧ (u.cell? ⟨w.heap.size, 0, none⟩ = some (.int .i64 num) ∧ u.cell? ⟨w.heap.size, 1, none⟩ = some (.int .i64 1) ∧ u.cell? ⟨w.heap.size, 2, none⟩ = some (.slice (some ⟨b, off, none⟩) 1 c) ∧ u.cell? ⟨w.heap.size, 3, none⟩ = some (.int .i64 0)))
    (first | exact ⟨B4, KC.out _ B4⟩ | exact ⟨B3, KC.out _ B3⟩ | exact ⟨B2, KC.out _ B2⟩ | exact ⟨B0, KC.out _ B0⟩)
    (first
    | (go_at_call 40; refine (HN.out _).mono ?_; rintro e w2 ⟨rfl, hb2⟩; have B2 := B0.trans (hb2.mono B0.size))
    | (go_at_call 41; refine (HC.out _ (Z1.out _ B2)).mono ?_; rintro e w3 ⟨rfl, hb3⟩; have B3 := B2.trans (hb3.mono B2.size))
    | (go_at_call 127; refine (HM.out _).mono ?_; rintro e w4 ⟨rfl, hb4⟩; have B4 := B3.trans (hb4.mono B3.size)))
  all_goals
    go_wp2
    go_ret2
    exact ⟨by rw [← FN.out]; rfl, Z1.out _ B4⟩
set_option maxRecDepth 100000 in
set_option maxHeartbeats 4000000 in
theorem iOrderText_take (n num : Int) (f : EdgeV) (b off c : Nat) (w : World) (h : Es w w.heap.size (some ⟨b, off, none⟩) 1 [f]) (hB : oB n ⟨num, 2, [f], 0⟩ = true) :
    Calls Try.prog 12 #[.int .i64 n, ordV num 2 (some ⟨b, off, none⟩) 1 c 0] w fun e w' => e = .returned (.tuple #[.string (str (oText ⟨num, 2, [f], 0⟩)), .bool true]) ∧ Below w.heap.size w w' := by
  obtain ⟨p0, p1, p2, p3, p4⟩ := oB_parts hB
  dsimp only at p1 p2 p3 p4
  have HO : Hid (Calls Try.prog 15 #[.int .i64 n, ordV num 2 (some ⟨b, off, none⟩) 1 c 0] (w.alloc (.cells #[.int .i64 num, .int .i64 2, .slice (some ⟨b, off, none⟩) 1 c, .int .i64 0] 26)) fun e w' => e = .returned (.bool true) ∧ Below w.heap.size w w' ∧
      w'.cell? ⟨w.heap.size, 0, none⟩ = some (.int .i64 num) ∧ w'.cell? ⟨w.heap.size, 1, none⟩ = some (.int .i64 2) ∧ w'.cell? ⟨w.heap.size, 2, none⟩ = some (.slice (some ⟨b, off, none⟩) 1 c) ∧ w'.cell? ⟨w.heap.size, 3, none⟩ = some (.int .i64 0) ∧ w.heap.size < w'.heap.size) :=
    (iOrderOk_any n num 2 [f] 0 1 (some ⟨b, off, none⟩) c (by omega) (w.alloc (.cells #[.int .i64 num, .int .i64 2, .slice (some ⟨b, off, none⟩) 1 c, .int .i64 0] 26)) ((h.alloc (Nat.le_refl _) _).mono (by simp))).mono fun _ _ ⟨he, hb⟩ =>
      ⟨by rw [he, hB], (bel1 _ _).trans (hb.mono (by simp)), by rw [hb.cell (by simp)]; simp, by rw [hb.cell (by simp)]; simp, by rw [hb.cell (by simp)]; simp, by rw [hb.cell (by simp)]; simp, by have := hb.size; simp at this; omega⟩
  have HN := hideIt (numberText_any num num.toNat (by omega) (by omega))
  have HC : Hid (∀ W, Below w.heap.size w W → Calls Try.prog 41 #[ordV num 2 (some ⟨b, off, none⟩) 1 c 0] W fun x w' => x = .returned (.iface 107 (.agg #[.int .i64 f.1, .int .i64 f.2])) ∧ Below W.heap.size W w') := fun W hW => by
    rcases h.2 with h0 | ⟨b', off', e, hb0, hc⟩
    · omega
    · simp at e
      obtain ⟨rfl, rfl⟩ := e
      obtain ⟨c0, c1⟩ := hc 0 f rfl
      rw [Nat.zero_mul, Nat.add_zero] at c0 c1
      exact commandOf_take num f b off c W (by rw [hW.cell hb0]; exact c0) (by rw [hW.cell hb0]; exact c1) (Nat.lt_of_lt_of_le hb0 hW.size)
  have HM := hideIt (cTake_any f p2.1)
  have hm : ∀ w, (method 251 107 (.agg #[.int .i64 f.1, .int .i64 f.2]) "loop.example/g00130/impl.text").run Try.prog w = .ok (128, .agg #[.int .i64 f.1, .int .i64 f.2]) w := fun _ => by kernel_rfl
  have hl1 := vt_le5 num.toNat (by omega)
  have hl2 := vt_le5 0 (by omega)
  have hl3 : (et [f]).length ≤ 205 := by
    unfold et
    rw [List.length_append, eb_length]
    have := vt_le5 (List.length [f]) (by simp)
    simp only [List.length_cons, List.length_nil] at *; omega
  have A1 : ∀ wx, (Op.stringOp .add (str (vt num.toNat)) (str (2 :: (vt 0 ++ et [f])))).run Try.prog wx = .ok (.string (str (vt num.toNat ++ (2 :: (vt 0 ++ et [f]))))) wx := str_add _ _ (by rw [List.length_cons, List.length_append]; omega)
  have FN : Hid (str (vt num.toNat ++ (2 :: (vt 0 ++ et [f]))) = str (oText ⟨num, 2, [f], 0⟩)) := by show _ = _; rfl
  unfold ordV at HO HC ⊢
  clear hB
  have H0 := hideIt h
  clear h
  go_enter Try.func12, Try.ntmps12
  go_wp2_with (go_at_call 15; refine HO.out.mono ?_; rintro e w1 ⟨rfl, hb1, q0, q1, q2, q3, z1⟩; refine Hid.out ?_)
  refine (show ∀ {p : Prop}, p → Hid p from fun h => h) ?_
  have KC : Hid (∀ W, Below w1.heap.size w1 W → (W.cell? ⟨w.heap.size, 0, none⟩ = some (.int .i64 num) ∧ W.cell? ⟨w.heap.size, 1, none⟩ = some (.int .i64 2) ∧ W.cell? ⟨w.heap.size, 2, none⟩ = some (.slice (some ⟨b, off, none⟩) 1 c) ∧ W.cell? ⟨w.heap.size, 3, none⟩ = some (.int .i64 0))) := fun W hW =>
    ⟨by rw [hW.cell z1]; exact q0, by rw [hW.cell z1]; exact q1, by rw [hW.cell z1]; exact q2, by rw [hW.cell z1]; exact q3⟩
  have Z1 : Hid (∀ W, Below w1.heap.size w1 W → Below w.heap.size w W) := fun W hW => hb1.trans (hW.mono hb1.size)
  have B0 : Below w1.heap.size w1 w1.drew := (Below.refl _ _).drew
  go_wp2
  go_region_held3 (fun u => Below w1.heap.size w1 u ∧ (u.cell? ⟨w.heap.size, 0, none⟩ = some (.int .i64 num) ∧ u.cell? ⟨w.heap.size, 1, none⟩ = some (.int .i64 2) ∧ u.cell? ⟨w.heap.size, 2, none⟩ = some (.slice (some ⟨b, off, none⟩) 1 c) ∧ u.cell? ⟨w.heap.size, 3, none⟩ = some (.int .i64 0)))
    (first | exact ⟨B4, KC.out _ B4⟩ | exact ⟨B3, KC.out _ B3⟩ | exact ⟨B2, KC.out _ B2⟩ | exact ⟨B0, KC.out _ B0⟩)
    (first
    | (go_at_call 40; refine (HN.out _).mono ?_; rintro e w2 ⟨rfl, hb2⟩; have B2 := B0.trans (hb2.mono B0.size))
    | (go_at_call 41; refine (HC.out _ (Z1.out _ B2)).mono ?_; rintro e w3 ⟨rfl, hb3⟩; have B3 := B2.trans (hb3.mono B2.size))
    | (go_at_call 128; refine (HM.out _).mono ?_; rintro e w4 ⟨rfl, hb4⟩; have B4 := B3.trans (hb4.mono B3.size)))
  all_goals
    go_wp2
    go_ret2
    exact ⟨by rw [← FN.out]; rfl, Z1.out _ B4⟩
set_option maxRecDepth 100000 in
set_option maxHeartbeats 4000000 in
theorem iOrderText_acc (n num : Int) (es : List EdgeV) (k : Nat) (a : Option Addr) (c : Nat) (hk : 0 < k) (hk2 : k ≤ 1048576) (w : World) (h : Es w w.heap.size a k es) (hB : oB n ⟨num, 4, es, 0⟩ = true) :
    Calls Try.prog 12 #[.int .i64 n, ordV num 4 a k c 0] w fun e w' => e = .returned (.tuple #[.string (str (oText ⟨num, 4, es, 0⟩)), .bool true]) ∧ Below w.heap.size w w' := by
  obtain ⟨p0, p1, p2, p3, p4⟩ := oB_parts hB
  dsimp only at p1 p2 p3 p4
  have HO : Hid (Calls Try.prog 15 #[.int .i64 n, ordV num 4 a k c 0] (w.alloc (.cells #[.int .i64 num, .int .i64 4, .slice a k c, .int .i64 0] 26)) fun e w' => e = .returned (.bool true) ∧ Below w.heap.size w w' ∧
      w'.cell? ⟨w.heap.size, 0, none⟩ = some (.int .i64 num) ∧ w'.cell? ⟨w.heap.size, 1, none⟩ = some (.int .i64 4) ∧ w'.cell? ⟨w.heap.size, 2, none⟩ = some (.slice a k c) ∧ w'.cell? ⟨w.heap.size, 3, none⟩ = some (.int .i64 0) ∧ w.heap.size < w'.heap.size) :=
    (iOrderOk_any n num 4 es 0 k a c (by omega) (w.alloc (.cells #[.int .i64 num, .int .i64 4, .slice a k c, .int .i64 0] 26)) ((h.alloc (Nat.le_refl _) _).mono (by simp))).mono fun _ _ ⟨he, hb⟩ =>
      ⟨by rw [he, hB], (bel1 _ _).trans (hb.mono (by simp)), by rw [hb.cell (by simp)]; simp, by rw [hb.cell (by simp)]; simp, by rw [hb.cell (by simp)]; simp, by rw [hb.cell (by simp)]; simp, by have := hb.size; simp at this; omega⟩
  have HN := hideIt (numberText_any num num.toNat (by omega) (by omega))
  have HC : Hid (∀ W, Below w.heap.size w W → Calls Try.prog 41 #[ordV num 4 a k c 0] W fun x w' => x = .returned (.iface 109 (.agg #[.slice a k c])) ∧ Below W.heap.size W w') := fun W _ => commandOf_acc num a k c hk W
  have HM : Hid (∀ W, Below w.heap.size w W → Calls Try.prog 129 #[.agg #[.slice a k c]] W fun e w' => e = .returned (.string (str (4 :: (vt 0 ++ et es)))) ∧ Below W.heap.size W w') := fun W hW => cAcc_any es k a c (by have := h.1; omega) p2.1 W (h.up hW)
  have hm : ∀ w, (method 251 109 (.agg #[.slice a k c]) "loop.example/g00130/impl.text").run Try.prog w = .ok (129, .agg #[.slice a k c]) w := fun _ => by kernel_rfl
  have hl1 := vt_le5 num.toNat (by omega)
  have hl2 := vt_le5 0 (by omega)
  have hl3 : (et es).length ≤ 205 := by
    unfold et
    rw [List.length_append, eb_length]
    have := vt_le5 (List.length es) (by omega)
    omega
  have A1 : ∀ wx, (Op.stringOp .add (str (vt num.toNat)) (str (4 :: (vt 0 ++ et es)))).run Try.prog wx = .ok (.string (str (vt num.toNat ++ (4 :: (vt 0 ++ et es))))) wx := str_add _ _ (by rw [List.length_cons, List.length_append]; omega)
  have FN : Hid (str (vt num.toNat ++ (4 :: (vt 0 ++ et es))) = str (oText ⟨num, 4, es, 0⟩)) := by show _ = _; rfl
  unfold ordV at HO HC ⊢
  clear hB
  have H0 := hideIt h
  clear h
  go_enter Try.func12, Try.ntmps12
  go_wp2_with (go_at_call 15; refine HO.out.mono ?_; rintro e w1 ⟨rfl, hb1, q0, q1, q2, q3, z1⟩; refine Hid.out ?_)
  refine (show ∀ {p : Prop}, p → Hid p from fun h => h) ?_
  have KC : Hid (∀ W, Below w1.heap.size w1 W → (W.cell? ⟨w.heap.size, 0, none⟩ = some (.int .i64 num) ∧ W.cell? ⟨w.heap.size, 1, none⟩ = some (.int .i64 4) ∧ W.cell? ⟨w.heap.size, 2, none⟩ = some (.slice a k c) ∧ W.cell? ⟨w.heap.size, 3, none⟩ = some (.int .i64 0))) := fun W hW =>
    ⟨by rw [hW.cell z1]; exact q0, by rw [hW.cell z1]; exact q1, by rw [hW.cell z1]; exact q2, by rw [hW.cell z1]; exact q3⟩
  have Z1 : Hid (∀ W, Below w1.heap.size w1 W → Below w.heap.size w W) := fun W hW => hb1.trans (hW.mono hb1.size)
  have B0 : Below w1.heap.size w1 w1.drew := (Below.refl _ _).drew
  go_wp2
  go_region_held3 (fun u => Below w1.heap.size w1 u ∧ (u.cell? ⟨w.heap.size, 0, none⟩ = some (.int .i64 num) ∧ u.cell? ⟨w.heap.size, 1, none⟩ = some (.int .i64 4) ∧ u.cell? ⟨w.heap.size, 2, none⟩ = some (.slice a k c) ∧ u.cell? ⟨w.heap.size, 3, none⟩ = some (.int .i64 0)))
    (first | exact ⟨B4, KC.out _ B4⟩ | exact ⟨B3, KC.out _ B3⟩ | exact ⟨B2, KC.out _ B2⟩ | exact ⟨B0, KC.out _ B0⟩)
    (first
    | (go_at_call 40; refine (HN.out _).mono ?_; rintro e w2 ⟨rfl, hb2⟩; have B2 := B0.trans (hb2.mono B0.size))
    | (go_at_call 41; refine (HC.out _ (Z1.out _ B2)).mono ?_; rintro e w3 ⟨rfl, hb3⟩; have B3 := B2.trans (hb3.mono B2.size))
    | (go_at_call 129; refine (HM.out _ (Z1.out _ B3)).mono ?_; rintro e w4 ⟨rfl, hb4⟩; have B4 := B3.trans (hb4.mono B3.size)))
  all_goals
    go_wp2
    go_ret2
    exact ⟨by rw [← FN.out]; rfl, Z1.out _ B4⟩

theorem iOrderText_any (n num op : Int) (es : List EdgeV) (v : Int) (k : Nat) (a : Option Addr) (c : Nat) (hk : k ≤ 1048576) (w : World) (h : Es w w.heap.size a k es) :
    Calls Try.prog 12 #[.int .i64 n, ordV num op a k c v] w fun e w' => e = .returned (otV n ⟨num, op, es, v⟩) ∧ Below w.heap.size w w' := by
  cases hB : oB n ⟨num, op, es, v⟩ with
  | false => rw [otV_no hB]; exact iOrderText_no n num op es v k a c hk w h hB
  | true =>
    rw [otV_yes hB]
    have hO : OpOk n ⟨num, op, es, v⟩ := by
      unfold oB at hB
      simp only [Bool.and_eq_true, decide_eq_true_eq] at hB
      exact hB.2.2.2
    have hlen := h.1
    rcases hO with ⟨h1, h2, _⟩ | ⟨h1, h2, h3⟩ | ⟨h1, h2, h3⟩
    · dsimp only at h1 h2
      subst h1
      obtain rfl : es = [] := List.length_eq_zero_iff.1 h2
      obtain rfl : k = 0 := by simpa using hlen.symm
      exact iOrderText_rel n num v a c w h hB
    · dsimp only at h1 h2 h3
      subst h1
      obtain ⟨f, rfl⟩ := List.length_eq_one_iff.1 h3
      obtain rfl : k = 1 := by simpa using hlen.symm
      rcases h.2 with h0 | ⟨b, off, rfl, _⟩
      · omega
      · rcases h2 with rfl | rfl
        · exact iOrderText_add n num f b off c w h hB
        · exact iOrderText_take n num f b off c w h hB
    · dsimp only at h1 h2 h3
      subst h1 h2
      exact iOrderText_acc n num es k a c (by omega) hk w h hB
end Go.Proofs.Ytkhhagjcmbbdpaa
namespace Go.Proofs.Ytkhhagjcmbbdpaa
open Go.RowKit Vt

theorem l01Var_str (x : Int) (h0 : 0 ≤ x) (h1 : x ≤ 1000000000) (w : World) :
    Calls Try.prog 75 #[.int .i64 x] w fun e w' => e = .returned (.string (str (vt x.toNat))) ∧ Below w.heap.size w w' := by
  obtain ⟨N, rfl⟩ := Int.eq_ofNat_of_zero_le h0
  exact l01Var_any N (by omega) w

theorem l09Byte_any (x : Int) (h0 : 0 ≤ x) (h1 : x < 256) (w : World) :
    Calls Try.prog 76 #[.int .i64 x] w fun e w' => e = .returned (.string (str [ob x])) ∧ Below w.heap.size w w' := by
  have CV : ∀ (g : Nat) (W : World), W.cell? ⟨g, 0, none⟩ = some (.int .u8 x) → (convert 22 9 (.slice (some ⟨g, 0, none⟩) 1 1)).run Try.prog W = .ok (.string (str [ob x])) W := fun g W hW => conv_g g (ob x) x (ob_back ⟨h0, h1⟩) W hW
  go_enter Try.func76, Try.ntmps76
  go_wp2
  go_ret
  exact ⟨rfl, bel1 _ _⟩

set_option maxRecDepth 100000 in
set_option maxHeartbeats 4000000 in
theorem l09Edges_any (es : List EdgeV) (k : Nat) (a : Option Addr) (c : Nat) (hk : k ≤ 100) (hby : EB8 es) (w : World) (h : Es w w.heap.size a k es) :
    Calls Try.prog 77 #[.slice a k c] w fun e w' => e = .returned (.string (str (et es))) ∧ Below w.heap.size w w' := by
  obtain ⟨hlen, hrow⟩ := h
  have HR := hideIt hrow
  have HL := hideIt hlen
  have HN := hideIt (l01Var_str (k : Int) (by omega) (by omega) w)
  rw [Int.toNat_natCast] at HN
  have hv5 := vt_le5 k (by omega)
  have HB := hideIt hby
  clear hrow hby
  go_enter Try.func77, Try.ntmps77
  go_wp2_with (go_at_call 75; refine HN.out.mono ?_; rintro e w1 ⟨rfl, hb1⟩)
  clear HN
  go_loopw [3, 4] (fun s i wr => ∃ (j : Nat) (L : List UInt8), j ≤ k ∧ i = .int .i64 (j : Int) ∧ s = .string (str L) ∧ Hid (L = vt k ++ eb (es.take j)) ∧ Below w.heap.size w wr) (fun _ i _ => k - (intOf i).toNat)
  case atStart => exact ⟨0, vt k, by omega, rfl, rfl, by show _ = _; simp [eb], hb1⟩
  case round =>
    obtain ⟨j, L, hj, rfl, rfl, hL, hb⟩ := hrel
    by_cases hlt : j < k
    · rcases HR.out with hz | ⟨b, off, rfl, hbl, hc⟩
      · omega
      · obtain ⟨f, hf⟩ : ∃ f, es[j]? = some f := ⟨es[j]'(by omega), List.getElem?_eq_getElem (by omega)⟩
        obtain ⟨c0, c1⟩ := hc j f hf
        obtain ⟨⟨f1, f2⟩, f3, f4⟩ := HB.out f (List.mem_of_getElem? hf)
        have b1 : (0 : Int) ≤ (j : Int) := by omega
        have b2 : (j : Int) < (k : Int) := by omega
        have HTk := hideIt (take_snocF es j f hf)
        have hle : L.length ≤ 205 := by rw [hL.out, List.length_append, eb_length]; simp; omega
        have A1 : ∀ wx, (Op.stringOp .add (str L) (str [ob f.1])).run Try.prog wx = .ok (.string (str (L ++ [ob f.1]))) wx := str_add _ _ (by simp; omega)
        have A2 : ∀ wx, (Op.stringOp .add (str (L ++ [ob f.1])) (str [ob f.2])).run Try.prog wx = .ok (.string (str (L ++ [ob f.1] ++ [ob f.2]))) wx := str_add _ _ (by simp; omega)
        have HL1 : Hid (L ++ [ob f.1, ob f.2] = vt k ++ eb (es.take (j + 1))) := by show _ = _; rw [HTk.out, eb_append, hL.out]; simp [eb]
        have HK : Hid (∀ W : World, Below w.heap.size w W → (W.cell? ⟨b, off + j * 2, none⟩ = some (.int .i64 f.1) ∧ W.cell? ⟨b, off + j * 2 + 1, none⟩ = some (.int .i64 f.2))) := fun W hW =>
          ⟨by rw [hW.cell hbl]; exact c0, by rw [hW.cell hbl]; exact c1⟩
        have HY : Hid (∀ (x : Int) (W : World), 0 ≤ x → x < 256 → Below w.heap.size w W → Calls Try.prog 76 #[.int .i64 x] W fun e w' => e = .returned (.string (str [ob x])) ∧ Below w.heap.size w w') := fun x W h0 h1 hW =>
          (l09Byte_any x h0 h1 W).mono fun _ _ ⟨he, hb⟩ => ⟨he, hW.trans (hb.mono hW.size)⟩
        have B0 := hb.drew
        clear c0 c1 hc hf hL HTk hle
        go_wp2
        go_region_held3 (fun u => Below w.heap.size w u ∧ u.cell? ⟨b, off + j * 2, none⟩ = some (.int .i64 f.1) ∧ u.cell? ⟨b, off + j * 2 + 1, none⟩ = some (.int .i64 f.2))
          (first | exact ⟨B2, HK.out _ B2⟩ | exact ⟨B1, HK.out _ B1⟩ | exact ⟨B0, HK.out _ B0⟩)
          (first
          | (go_at_call 76; refine (HY.out f.2 _ f3 f4 B1).mono ?_; rintro e w3 ⟨rfl, B2⟩)
          | (go_at_call 76; refine (HY.out f.1 _ f1 f2 B0).mono ?_; rintro e w2 ⟨rfl, B1⟩))
        all_goals
          go_wp2
          exact ⟨⟨j + 1, _, by omega, by go_num, rfl, HL1, B2⟩, by simp [intOf]; omega⟩
    · have e : es.take j = es := List.take_of_length_le (by omega)
      have hz : Hid (L = et es) := by show _ = _; rw [hL.out, e]; unfold et; rw [HL.out]
      clear e hL HL hlen
      go_wp2
      go_ret
      exact ⟨by show Ending.returned (.string (str L)) = _; rw [hz.out], hb⟩

end Go.Proofs.Ytkhhagjcmbbdpaa
namespace Go.Proofs.Ytkhhagjcmbbdpaa
open Go.RowKit Vt

set_option maxRecDepth 100000 in
set_option maxHeartbeats 4000000 in
theorem sOrderText_no (n num op : Int) (es : List EdgeV) (v : Int) (k : Nat) (a : Option Addr) (c : Nat) (hk : k ≤ 1048576) (w : World) (h : Es w w.heap.size a k es) (hB : oB n ⟨num, op, es, v⟩ = false) :
    Calls Try.prog 33 #[.int .i64 n, ordV num op a k c v] w fun e w' => e = .returned (.tuple #[.string ⟨#[]⟩, .bool false]) ∧ Below w.heap.size w w' := by
  have HO := hideIt (sOrderOk_any n num op es v k a c hk (w.alloc (.cells #[.int .i64 num, .int .i64 op, .slice a k c, .int .i64 v] 26)) ((h.alloc (Nat.le_refl _) _).mono (by simp)))
  rw [hB] at HO
  unfold ordV at HO ⊢
  clear h hB
  go_enter Try.func33, Try.ntmps33
  go_wp2_with (go_at_call 14; refine HO.out.mono ?_; rintro e w1 ⟨rfl, hb⟩)
  go_ret2
  exact ⟨rfl, (bel1 _ _).trans (hb.mono (by simp))⟩

set_option maxRecDepth 100000 in
set_option maxHeartbeats 4000000 in
theorem sOrderText_yes (n num op : Int) (es : List EdgeV) (v : Int) (k : Nat) (a : Option Addr) (c : Nat) (hk : k ≤ 1048576) (w : World) (h : Es w w.heap.size a k es) (hB : oB n ⟨num, op, es, v⟩ = true) :
    Calls Try.prog 33 #[.int .i64 n, ordV num op a k c v] w fun e w' => e = .returned (.tuple #[.string (str (oText ⟨num, op, es, v⟩)), .bool true]) ∧ Below w.heap.size w w' := by
  obtain ⟨p0, p1, p2, p3, p4⟩ := oB_parts hB
  dsimp only at p1 p2 p3 p4
  have HO : Hid (Calls Try.prog 14 #[.int .i64 n, ordV num op a k c v] (w.alloc (.cells #[.int .i64 num, .int .i64 op, .slice a k c, .int .i64 v] 26)) fun e w' => e = .returned (.bool true) ∧ Below w.heap.size w w' ∧
      w'.cell? ⟨w.heap.size, 0, none⟩ = some (.int .i64 num) ∧ w'.cell? ⟨w.heap.size, 1, none⟩ = some (.int .i64 op) ∧ w'.cell? ⟨w.heap.size, 2, none⟩ = some (.slice a k c) ∧ w'.cell? ⟨w.heap.size, 3, none⟩ = some (.int .i64 v) ∧ w.heap.size < w'.heap.size) :=
    (sOrderOk_any n num op es v k a c hk (w.alloc (.cells #[.int .i64 num, .int .i64 op, .slice a k c, .int .i64 v] 26)) ((h.alloc (Nat.le_refl _) _).mono (by simp))).mono fun _ _ ⟨he, hb⟩ =>
      ⟨by rw [he, hB], (bel1 _ _).trans (hb.mono (by simp)), by rw [hb.cell (by simp)]; simp, by rw [hb.cell (by simp)]; simp, by rw [hb.cell (by simp)]; simp, by rw [hb.cell (by simp)]; simp, by have := hb.size; simp at this; omega⟩
  have HN : Hid (∀ (x : Int) (W : World), 0 ≤ x → x ≤ 1000000000 → Calls Try.prog 75 #[.int .i64 x] W fun e w' => e = .returned (.string (str (vt x.toNat))) ∧ Below W.heap.size W w') := fun x W h0 h1 => l01Var_str x h0 h1 W
  have HY := hideIt (l09Byte_any op (by omega) (by omega))
  have HE : Hid (∀ W, Below w.heap.size w W → Calls Try.prog 77 #[.slice a k c] W fun e w' => e = .returned (.string (str (et es))) ∧ Below W.heap.size W w') := fun W hW => l09Edges_any es k a c (by have := h.1; omega) p2.1 W (h.up hW)
  have hl1 := vt_le5 num.toNat (by omega)
  have hl2 := vt_le5 v.toNat (by omega)
  have hl3 : (et es).length ≤ 205 := by
    unfold et
    rw [List.length_append, eb_length]
    have := vt_le5 es.length (by omega)
    omega
  have A1 : ∀ wx, (Op.stringOp .add (str (vt num.toNat)) (str [ob op])).run Try.prog wx = .ok (.string (str (vt num.toNat ++ [ob op]))) wx := str_add _ _ (by simp; omega)
  have A2 : ∀ wx, (Op.stringOp .add (str (vt num.toNat ++ [ob op])) (str (vt v.toNat))).run Try.prog wx = .ok (.string (str (vt num.toNat ++ [ob op] ++ vt v.toNat))) wx := str_add _ _ (by simp; omega)
  have A3 : ∀ wx, (Op.stringOp .add (str (vt num.toNat ++ [ob op] ++ vt v.toNat)) (str (et es))).run Try.prog wx = .ok (.string (str (vt num.toNat ++ [ob op] ++ vt v.toNat ++ et es))) wx := str_add _ _ (by simp; omega)
  have FN : Hid (str (vt num.toNat ++ [ob op] ++ vt v.toNat ++ et es) = str (oText ⟨num, op, es, v⟩)) := by show _ = _; unfold oText; simp
  generalize str (vt num.toNat ++ [ob op] ++ vt v.toNat ++ et es) = s3 at A3 FN
  generalize str (vt num.toNat ++ [ob op] ++ vt v.toNat) = s2 at A2 A3
  generalize str (vt num.toNat ++ [ob op]) = s1 at A1 A2
  have n1 : 0 ≤ num := by omega
  have n2 : num ≤ 1000000000 := by omega
  have n3 : 0 ≤ v := by omega
  have n4 : v ≤ 1000000000 := by omega
  unfold ordV at HO ⊢
  clear h hB hl1 hl2 hl3 p2
  go_enter Try.func33, Try.ntmps33
  go_wp2_with (go_at_call 14; refine HO.out.mono ?_; rintro e w1 ⟨rfl, hb1, q0, q1, q2, q3, z1⟩; refine Hid.out ?_)
  refine (show ∀ {p : Prop}, p → Hid p from fun h => h) ?_
  have KC : Hid (∀ W, Below w1.heap.size w1 W → (W.cell? ⟨w.heap.size, 0, none⟩ = some (.int .i64 num) ∧ W.cell? ⟨w.heap.size, 1, none⟩ = some (.int .i64 op) ∧ W.cell? ⟨w.heap.size, 2, none⟩ = some (.slice a k c) ∧ W.cell? ⟨w.heap.size, 3, none⟩ = some (.int .i64 v))) := fun W hW =>
    ⟨by rw [hW.cell z1]; exact q0, by rw [hW.cell z1]; exact q1, by rw [hW.cell z1]; exact q2, by rw [hW.cell z1]; exact q3⟩
  have Z1 : Hid (∀ W, Below w1.heap.size w1 W → Below w.heap.size w W) := fun W hW => hb1.trans (hW.mono hb1.size)
  have B0 : Below w1.heap.size w1 w1.drew := (Below.refl _ _).drew
  go_wp2
  go_region_held3 (fun u => Below w1.heap.size w1 u ∧ (u.cell? ⟨w.heap.size, 0, none⟩ = some (.int .i64 num) ∧ u.cell? ⟨w.heap.size, 1, none⟩ = some (.int .i64 op) ∧ u.cell? ⟨w.heap.size, 2, none⟩ = some (.slice a k c) ∧ u.cell? ⟨w.heap.size, 3, none⟩ = some (.int .i64 v)))
    (first | exact ⟨B4, KC.out _ B4⟩ | exact ⟨B3, KC.out _ B3⟩ | exact ⟨B2, KC.out _ B2⟩ | exact ⟨B1, KC.out _ B1⟩ | exact ⟨B0, KC.out _ B0⟩)
    (first
    | (go_at_call 77; refine (HE.out _ (Z1.out _ B3)).mono ?_; rintro e w5 ⟨rfl, hb5⟩; have B4 := B3.trans (hb5.mono B3.size))
    | (go_at_call 75; refine (HN.out _ _ (by first | exact n1 | exact n3) (by first | exact n2 | exact n4)).mono ?_; rintro e w4 ⟨rfl, hb4⟩; (first | (have B3 := B2.trans (hb4.mono B2.size)) | (have B1 := B0.trans (hb4.mono B0.size))))
    | (go_at_call 76; refine (HY.out _).mono ?_; rintro e w3 ⟨rfl, hb3⟩; have B2 := B1.trans (hb3.mono B1.size)))
  all_goals
    go_wp2
    go_ret2
    exact ⟨by rw [← FN.out]; rfl, Z1.out _ B4⟩

theorem sOrderText_any (n num op : Int) (es : List EdgeV) (v : Int) (k : Nat) (a : Option Addr) (c : Nat) (hk : k ≤ 1048576) (w : World) (h : Es w w.heap.size a k es) :
    Calls Try.prog 33 #[.int .i64 n, ordV num op a k c v] w fun e w' => e = .returned (otV n ⟨num, op, es, v⟩) ∧ Below w.heap.size w w' := by
  cases hB : oB n ⟨num, op, es, v⟩ with
  | false => rw [otV_no hB]; exact sOrderText_no n num op es v k a c hk w h hB
  | true => rw [otV_yes hB]; exact sOrderText_yes n num op es v k a c hk w h hB
end Go.Proofs.Ytkhhagjcmbbdpaa
namespace Go.Proofs.Ytkhhagjcmbbdpaa
open Go.RowKit Vt

/-- the reader in block G, the answer in block O, the result's box R -/
structure RA (e : Prop) (t : TypeId) (w W : World) (G O R : Nat) (s : ByteArray) (st : Option (List UInt8)) (num : Int) (ok : Bool) (a : Option Addr) (k c : Nat) (a' : Option Addr) (k' c' : Nat) : Prop where
  rd : RdAt e t W G s st
  ob : W.heap[O]? = some (.cells (ac num ok a k c a' k' c') 37 (0, 0))
  rb : W.heap[R]? = some (.cells (ac 0 false none 0 0 none 0 0) 37 (0, 0))
  bel : Below w.heap.size w W
  ge : w.heap.size ≤ G ∧ w.heap.size ≤ O ∧ w.heap.size ≤ R
  ne : G ≠ O ∧ G ≠ R ∧ O ≠ R

section
variable {e : Prop} {t : TypeId} {w W W' : World} {G O R : Nat} {s : ByteArray} {st st' : Option (List UInt8)} {num : Int} {ok : Bool} {a : Option Addr} {k c : Nat} {a' : Option Addr} {k' c' : Nat}
theorem RA.lt (h : RA e t w W G O R s st num ok a k c a' k' c') : G < W.heap.size ∧ O < W.heap.size ∧ R < W.heap.size :=
  ⟨h.rd.lt, (Array.getElem?_eq_some_iff.1 h.ob).1, (Array.getElem?_eq_some_iff.1 h.rb).1⟩
theorem RA.call (h : RA e t w W G O R s st num ok a k c a' k' c') (hr : RdAt e t W' G s st') (hg : W.grownBy W' (some G)) : RA e t w W' G O R s st' num ok a k c a' k' c' :=
  ⟨hr, by rw [hg.block O h.lt.2.1 (by simp; exact Ne.symm h.ne.1)]; exact h.ob, by rw [hg.block R h.lt.2.2 (by simp; exact Ne.symm h.ne.2.1)]; exact h.rb, bel_grown h.bel hg h.ge.1, h.ge, h.ne⟩
theorem RA.cells (h : RA e t w W G O R s st num ok a k c a' k' c') : W.cell? ⟨O, 0, none⟩ = some (.int .i64 num) ∧ W.cell? ⟨O, 1, none⟩ = some (.bool ok) ∧ W.cell? ⟨O, 2, none⟩ = some (.slice a k c) ∧ W.cell? ⟨O, 3, none⟩ = some (.slice a' k' c') :=
  ⟨by rw [cell_of_row W O 0 _ _ _ h.ob]; rfl, by rw [cell_of_row W O 1 _ _ _ h.ob]; rfl, by rw [cell_of_row W O 2 _ _ _ h.ob]; rfl, by rw [cell_of_row W O 3 _ _ _ h.ob]; rfl⟩
theorem RA.cellsR (h : RA e t w W G O R s st num ok a k c a' k' c') : W.cell? ⟨R, 0, none⟩ = some (.int .i64 0) ∧ W.cell? ⟨R, 1, none⟩ = some (.bool false) ∧ W.cell? ⟨R, 2, none⟩ = some (.slice none 0 0) ∧ W.cell? ⟨R, 3, none⟩ = some (.slice none 0 0) :=
  ⟨by rw [cell_of_row W R 0 _ _ _ h.rb]; rfl, by rw [cell_of_row W R 1 _ _ _ h.rb]; rfl, by rw [cell_of_row W R 2 _ _ _ h.rb]; rfl, by rw [cell_of_row W R 3 _ _ _ h.rb]; rfl⟩
theorem RA.frozen (h : RA e t w W G O R s st num ok a k c a' k' c') (j : Nat) : W.frozen? ⟨O, j, none⟩ = false := frozen_of_row W O j _ _ h.ob
theorem RA.frozenR (h : RA e t w W G O R s st num ok a k c a' k' c') (j : Nat) : W.frozen? ⟨R, j, none⟩ = false := frozen_of_row W R j _ _ h.rb
theorem RA.set {num' : Int} {ok' : Bool} {b : Option Addr} {m d : Nat} {b' : Option Addr} {m' d' : Nat} (h : RA e t w W G O R s st num ok a k c a' k' c') (j : Nat) (u : Value) (hc : (ac num ok a k c a' k' c').setIfInBounds j u = ac num' ok' b m d b' m' d') :
    RA e t w (W.setCell ⟨O, j, none⟩ u) G O R s st num' ok' b m d b' m' d' :=
  ⟨h.rd.other (gr_set W O j u) h.ne.1, by rw [heap_setCell_same W O j _ _ u h.ob, hc], by rw [(gr_set W O j u).block R h.lt.2.2 (by simp; exact Ne.symm h.ne.2.2)]; exact h.rb, bel_grown h.bel (gr_set W O j u) h.ge.2.1, h.ge, h.ne⟩
theorem RA.below (h : RA e t w W G O R s st num ok a k c a' k' c') (hb : Below W.heap.size W W') : RA e t w W' G O R s st num ok a k c a' k' c' :=
  ⟨by obtain ⟨p, f, hG, rest⟩ := h.rd; exact ⟨p, f, by rw [hb.block G h.lt.1]; exact hG, rest⟩, by rw [hb.block O h.lt.2.1]; exact h.ob, by rw [hb.block R h.lt.2.2]; exact h.rb, h.bel.trans (hb.mono h.bel.size), h.ge, h.ne⟩
end

/-- an answer, or the answer of nothing -/
def orA : Option AnsV → AnsV
  | none => ⟨0, false, [], []⟩
  | some o => o
/-- what a reader of answers answers: the answer in memory of its own -/
def AnsAns (w w' : World) (e : Ending) (r : Option AnsV) : Prop :=
  ∃ (a : Option Addr) (k c : Nat) (a' : Option Addr) (k' c' : Nat), e = .returned (.tuple #[ansV (orA r).num (orA r).ok a k c a' k' c', .bool r.isSome]) ∧ w'.ownsRow w.heap.size 78 2 (.slice a k c) k (ecells (orA r).es) ∧ w'.ownsRow w.heap.size 3 1 (.slice a' k' c') k' (ic (orA r).ls) ∧ k ≤ 100 ∧ k' ≤ 100 ∧ Below w.heap.size w w'

/-- behind a flag: a byte above 1 has failed -/
def flSt (st : Option (List UInt8)) : Option (List UInt8) := if 1 < (nx pO st).1 then none else (nx pO st).2

set_option maxRecDepth 100000 in
set_option maxHeartbeats 4000000 in
theorem rFlag_any (s : ByteArray) (hs : s.size ≤ 1048576) (w : World) (G : Nat) (st : Option (List UInt8)) (h : RdAt True 69 w G s st) :
    Calls Try.prog 53 #[.pointer (some ⟨G, 0, none⟩)] w fun e w' => e = .returned (.bool (decide ((nx pO st).1 = 1))) ∧ RdAt True 69 w' G s (flSt st) ∧ w.grownBy w' (some G) := by
  have HO := hideIt (rOctet_any s hs w G st h)
  clear h
  unfold flSt
  by_cases h1 : 1 < (nx pO st).1
  · rw [if_pos h1]
    have d1 : decide ((1 : Int) < (((nx pO st).1 : Nat) : Int)) = true := by simp; omega
    have HD : Hid (decide ((nx pO st).1 = 1) = false) := by show _ = _; apply decide_eq_false; omega
    have d2 : ((((nx pO st).1 : Nat) : Int) == 1) = false := by simp; omega
    generalize (((nx pO st).1 : Nat) : Int) = x at HO d1 d2
    go_enter Try.func53, Try.ntmps53
    go_wp2_with (go_at_call 43; refine HO.out.mono ?_; rintro e w1 ⟨rfl, ⟨p, f, hG, hp, hf⟩, hg1⟩; refine Hid.out ?_)
    refine (show ∀ {p : Prop}, p → Hid p from fun h => h) ?_
    have HF := hideIt (rFail_any s w1 G (p : Int) f hG)
    clear hG HO hf
    go_wp2_with (go_at_call 85; refine HF.out.mono ?_; rintro e w2 ⟨rfl, hG2, hg2⟩)
    go_ret
    exact ⟨by rw [HD.out]; rfl, ⟨s.size, true, hG2, Nat.le_refl _, .inr ⟨rfl, rfl, fun _ => rfl⟩⟩, gr_trans hg1 hg2⟩
  · rw [if_neg h1]
    have d1 : decide ((1 : Int) < (((nx pO st).1 : Nat) : Int)) = false := by simp; omega
    have HD : Hid (((((nx pO st).1 : Nat) : Int) == 1) = decide ((nx pO st).1 = 1)) := by show _ = _; rw [Bool.eq_iff_iff]; simp; omega
    generalize (((nx pO st).1 : Nat) : Int) = x at HO d1 HD
    go_enter Try.func53, Try.ntmps53
    go_wp2_with (go_at_call 43; refine HO.out.mono ?_; rintro e w1 ⟨rfl, hR, hg1⟩)
    go_ret
    exact ⟨by rw [← HD.out]; rfl, hR, hg1⟩

/-- behind k labels -/
def LbSt (st0 : Option (List UInt8)) (k : Nat) (ls : List Int) (st : Option (List UInt8)) : Prop := ls.length = k ∧ LR k st0 ls st
theorem LbSt.start (st0 : Option (List UInt8)) : LbSt st0 0 [] st0 := by
  refine ⟨rfl, ?_⟩
  unfold LR
  cases st0 with
  | none => rfl
  | some L => simp
theorem LbSt.step {st0 : Option (List UInt8)} {k : Nat} {ls : List Int} {st : Option (List UInt8)} (h : LbSt st0 k ls st) : LbSt st0 (k + 1) (ls ++ [(((nx pO st).1 : Nat) : Int)]) (nx pO st).2 := by
  obtain ⟨h1, h2⟩ := h
  refine ⟨by simp [h1], ?_⟩
  unfold LR at h2 ⊢
  cases st0 with
  | none => dsimp only at h2 ⊢; subst h2; rfl
  | some L =>
    dsimp only at h2 ⊢
    split at h2
    · subst h2
      rw [if_pos (by omega)]
      rfl
    · obtain ⟨h3, h4⟩ := h2
      subst h3
      match hM : L.drop k with
      | [] =>
        have := congrArg List.length hM
        simp at this
        rw [if_pos (by omega)]
        rfl
      | c :: r =>
        have hl := congrArg List.length hM
        simp at hl
        rw [if_neg (by omega)]
        have e2 : L.drop (k + 1) = r := by rw [← List.drop_drop, hM]; rfl
        have e1 : L.take (k + 1) = L.take k ++ [c] := by
          have hc : L[k]? = some c := by
            have := congrArg (fun z => z[0]?) hM
            simpa using this
          rw [List.take_add_one, hc]
          rfl
        refine ⟨by rw [e2]; rfl, ?_⟩
        rw [e1, h4, List.map_append]
        rfl

set_option maxRecDepth 100000 in
set_option maxHeartbeats 4000000 in
theorem rLabels_any (n : Nat) (hn : n ≤ 12) (s : ByteArray) (hs : s.size ≤ 1048576) (w : World) (G : Nat) (st : Option (List UInt8)) (h : RdAt True 69 w G s st) :
    Calls Try.prog 54 #[.pointer (some ⟨G, 0, none⟩), .int .i64 (n : Int)] w fun e w' => ∃ (a : Option Addr) (ls : List Int) (st' : Option (List UInt8)), e = .returned (.slice a n n) ∧ w'.ownsRow w.heap.size 3 1 (.slice a n n) n (ic ls) ∧ LR n st ls st' ∧ RdAt True 69 w' G s st' ∧ w.grownBy w' (some G) := by
  obtain ⟨i0, hi, hz0, hz1, hz2⟩ := info_parts info3i
  have hGl := h.lt
  have hmk : ∀ u : World, (Instr.makeSlice 35 (.int .i64 (n : Int)) (.int .i64 (n : Int))).run Try.prog u =
      .ok (.slice (some ⟨u.heap.size, 0, none⟩) n n) (u.alloc (.cells (madeCells #[.int .i64 0] n) 3)) := fun u => by
    have h := run_make (P := Try.prog) u 35 3 i0 _ Try.underlying35 hi hz0 .i64 .i64 (n : Int) (n : Int) (by omega) (by omega) (by rw [hz2]; omega) (by omega)
    rw [Int.toNat_natCast] at h
    simpa [hz1, Value.cells] using h
  have HO : Hid (∀ W st, RdAt True 69 W G s st → Calls Try.prog 43 #[.pointer (some ⟨G, 0, none⟩)] W fun e w' => e = .returned (.int .i64 (((nx pO st).1 : Nat) : Int)) ∧ RdAt True 69 w' G s (nx pO st).2 ∧ W.grownBy w' (some G)) := fun W st hW => rOctet_any s hs W G st hW
  have HR := hideIt h
  clear h
  go_enter Try.func54, Try.ntmps54
  go_wp2
  go_loopw [11] (fun i wr => ∃ (j : Nat) (xs : List Value) (ls : List Int) (st1 : Option (List UInt8)), j ≤ n ∧ i = .int .i64 (j : Int) ∧ Hid (xs.take j = ic ls) ∧ Hid (LbSt st j ls st1) ∧ wr.ownsRow w.heap.size 3 1 (.slice (some ⟨w.heap.size, 0, none⟩) n n) n xs ∧ RdAt True 69 wr G s st1 ∧ w.grownBy wr (some G)) (fun i _ => n - (intOf i).toNat)
  case atStart =>
    exact ⟨0, _, [], st, by omega, rfl, by show _ = _; simp [ic], LbSt.start st, World.ownsRow_lit (base := w.heap.size) (e := 3) (size := 1) w (madeCells #[.int .i64 0] n) n (Nat.le_refl _) (by unfold maxLen; omega) (by simp [madeCells]), HR.out.alloc _, World.grownBy_alloc w _ (some G)⟩
  case round =>
    obtain ⟨j, xs, ls, st1, hj, rfl, hx, hE, hown, hR, hg⟩ := hrel
    have hl3 : xs.length = n * 1 := hown.1
    by_cases hlt : j < n
    · have b1 : (0 : Int) ≤ (j : Int) := by omega
      have b2 : (j : Int) < (n : Int) := by omega
      have hgz := hg.size
      go_wp2_with (go_at_call 43; refine (HO.out _ st1 hR).mono ?_; rintro e w3 ⟨rfl, hR3, hg3⟩; refine Hid.out ?_)
      refine (show ∀ {p : Prop}, p → Hid p from fun h => h) ?_
      have hown3 := World.ownsRow.kept hown hg3 (.inr (by simp [Value.ownBlock]; omega))
      have y0 := hown3.frozenAt j
      have x0 : w3.cell? ⟨w.heap.size, j, none⟩ = some (xs[j]'(by omega)) := by rw [hown3.cellAt j (by omega)]; exact List.getElem?_eq_getElem (by omega)
      have HR4 := hideIt (hR3.other (gr_set w3 w.heap.size j (.int .i64 (((nx pO st1).1 : Nat) : Int))) (show G ≠ w.heap.size by omega))
      have HO4 := hideIt (hown3.stored j (.int .i64 (((nx pO st1).1 : Nat) : Int))).1
      have HG4 := hideIt (gr_set_new (j := j) (u := .int .i64 (((nx pO st1).1 : Nat) : Int)) (gr_trans hg hg3) (Nat.le_refl _))
      have HS := hideIt hE.out.step
      clear hown hown3 hR hR3 hg3 hg
      go_wp2
      refine ⟨⟨j + 1, _, ls ++ [(((nx pO st1).1 : Nat) : Int)], _, by omega, by go_num, ?_, HS, HO4.out, HR4.out, HG4.out⟩, by simp [intOf]; omega⟩
      show _ = _
      rw [List.take_add_one, List.take_set_of_le (Nat.le_refl _), hx.out, ic_snoc]
      simp [show j < xs.length by omega]
    · obtain rfl : j = n := by omega
      have HX : Hid (xs = ic ls) := by
        show _ = _
        have := hx.out
        rw [List.take_of_length_le (by omega)] at this
        exact this
      have HOw := hideIt hown
      have HRr := hideIt hR
      have HGg := hideIt hg
      clear hx hown hR hg hl3
      go_wp2
      go_ret
      exact ⟨_, ls, st1, rfl, by rw [← HX.out]; exact HOw.out, hE.out.2, HRr.out, HGg.out⟩
end Go.Proofs.Ytkhhagjcmbbdpaa
namespace Go.Proofs.Ytkhhagjcmbbdpaa
open Go.RowKit Vt

theorem flag_ok {s1 : Option (List UInt8)} {es : List EdgeV} {s3 : Option (List UInt8)} {m : Nat} {ls : List Int} (h : ER (flSt s1) es s3) (h' : LR m s3 ls (some [])) : (nx pO s1).1 ≤ 1 := by
  by_cases h1 : 1 < (nx pO s1).1
  · have e : flSt s1 = none := by unfold flSt; rw [if_pos h1]
    rw [e] at h
    have h3 : s3 = none := h
    rw [h3] at h'
    cases h'
  · omega

theorem own_two {w W : World} {B T S n : Nat} {v : Value} {xs : List Value} (h : w.ownsRow B T S v n xs) (hb : ∀ g, B ≤ g → g < w.heap.size → W.heap[g]? = w.heap[g]?) : W.ownsRow B T S v n xs := by
  refine ⟨h.1, h.2.imp id ?_⟩
  rintro ⟨g, cp, cur, hv, hg, hc, rest⟩
  exact ⟨g, cp, cur, hv, hg, by rw [hb g hg (Array.getElem?_eq_some_iff.1 hc).1]; exact hc, rest⟩

set_option maxRecDepth 100000 in
set_option maxHeartbeats 4000000 in
theorem iReadAnswer_out (n : Int) (s : ByteArray) (h1 : ¬ (1 ≤ n ∧ n ≤ 12)) (w : World) :
    Calls Try.prog 19 #[.int .i64 n, .string s] w fun e w' => ∃ r, IsA n s.data.toList r ∧ AnsAns w w' e r := by
  have r1 : decide (1 ≤ n ∧ n ≤ 12) = false := by simpa using h1
  have HV := hideIt vertsOk_any
  have HI : Hid (IsA n s.data.toList none) := IsA.out h1
  go_enter Try.func19, Try.ntmps19
  go_wp2_with (go_at_call 48; refine (HV.out _ _).mono ?_; rintro e w1 ⟨rfl, rfl⟩)
  refine bodyPost_ret (v := .tuple #[ansV 0 false none 0 0 none 0 0, .bool false]) (by simp [results, Try.results19, go_sem]) rfl ⟨none, HI.out, none, 0, 0, none, 0, 0, rfl, ⟨rfl, .inl ⟨rfl, rfl⟩⟩, ⟨rfl, .inl ⟨rfl, rfl⟩⟩, by omega, by omega, ?_⟩
  first | exact bel1 _ _ | exact ((((bel1 _ _).setCell (Nat.le_refl _) _).setCell (Nat.le_refl _) _).setCell (Nat.le_refl _) _).setCell (Nat.le_refl _) _

set_option maxRecDepth 100000 in
set_option maxHeartbeats 4000000 in
theorem iReadAnswer_in (m : Nat) (hm1 : 1 ≤ m) (hm2 : m ≤ 12) (s : ByteArray) (hs : s.size ≤ 1048576) (w : World) :
    Calls Try.prog 19 #[.int .i64 (m : Int), .string s] w fun e w' => ∃ r, IsA (m : Int) s.data.toList r ∧ AnsAns w w' e r := by
  have r1 : decide (1 ≤ (m : Int) ∧ (m : Int) ≤ 12) = true := by simp; omega
  have HV := hideIt vertsOk_any
  have HN : Hid (∀ W G st, RdAt True 69 W G s st → Calls Try.prog 42 #[.pointer (some ⟨G, 0, none⟩)] W fun e w' => e = .returned (.int .i64 (((nx pN st).1 : Nat) : Int)) ∧ RdAt True 69 w' G s (nx pN st).2 ∧ W.grownBy w' (some G)) := fun W G st h => rNumber_any s hs W G st h
  have HF : Hid (∀ W G st, RdAt True 69 W G s st → Calls Try.prog 53 #[.pointer (some ⟨G, 0, none⟩)] W fun e w' => e = .returned (.bool (decide ((nx pO st).1 = 1))) ∧ RdAt True 69 w' G s (flSt st) ∧ W.grownBy w' (some G)) := fun W G st h => rFlag_any s hs W G st h
  have HE : Hid (∀ W G st, RdAt True 69 W G s st → Calls Try.prog 44 #[.pointer (some ⟨G, 0, none⟩)] W fun e w' => ∃ v, e = .returned v ∧ EdAns True 69 W w' G s st v 66) := fun W G st h => rEdges_any s hs W G st h
  have HL : Hid (∀ W G st, RdAt True 69 W G s st → Calls Try.prog 54 #[.pointer (some ⟨G, 0, none⟩), .int .i64 (m : Int)] W fun e w' => ∃ (a : Option Addr) (ls : List Int) (st' : Option (List UInt8)), e = .returned (.slice a m m) ∧ w'.ownsRow W.heap.size 3 1 (.slice a m m) m (ic ls) ∧ LR m st ls st' ∧ RdAt True 69 w' G s st' ∧ W.grownBy w' (some G)) := fun W G st h => rLabels_any m hm2 s hs W G st h
  have HD : Hid (∀ W G st, RdAt True 69 W G s st → Calls Try.prog 45 #[.pointer (some ⟨G, 0, none⟩)] W fun e w' => e = .returned (.bool (endB st)) ∧ RdAt True 69 w' G s st ∧ W.grownBy w' (some G)) := fun W G st h => rEnded_any s W G st h
  have R0 : RA True 69 w (((w.alloc (.cells (ac 0 false none 0 0 none 0 0) 37)).alloc (.cells #[.string s, .int .i64 0, .bool false] 69)).alloc (.cells (ac 0 false none 0 0 none 0 0) 37)) (w.heap.size + 1) (w.heap.size + 2) w.heap.size s (some s.data.toList) 0 false none 0 0 none 0 0 := by
    refine ⟨⟨0, false, ?_, by omega, .inl ⟨rfl, by simp [from_]⟩⟩, ?_, ?_, bel3 w _ _ _, by omega, by omega⟩
    · rw [Below.heap_alloc _ _ _ (by simp)]
      have := heap_alloc_new (w.alloc (.cells (ac 0 false none 0 0 none 0 0) 37)) (.cells #[.string s, .int .i64 0, .bool false] 69)
      simpa using this
    · have := heap_alloc_new ((w.alloc (.cells (ac 0 false none 0 0 none 0 0) 37)).alloc (.cells #[.string s, .int .i64 0, .bool false] 69)) (.cells (ac 0 false none 0 0 none 0 0) 37)
      simpa using this
    · rw [Below.heap_alloc _ _ _ (by simp; omega), Below.heap_alloc _ _ _ (by simp)]
      exact heap_alloc_new w _
  go_enter Try.func19, Try.ntmps19
  go_wp2_with (first | (go_at_call 48; refine (HV.out _ _).mono ?_; rintro e w1 ⟨rfl, rfl⟩) | (go_at_call 42; refine (HN.out _ _ _ R0.rd).mono ?_; rintro e w1 ⟨rfl, hr1, hg1⟩; refine Hid.out ?_))
  refine (show ∀ {p : Prop}, p → Hid p from fun h => h) ?_
  have R1 := R0.call hr1 hg1
  clear R0 hr1 hg1
  obtain ⟨c0, _, _, _⟩ := R1.cells
  have f0 := R1.frozen 0
  have R2 := R1.set 0 (.int .i64 (((nx pN (some s.data.toList)).1 : Nat) : Int)) rfl
  clear R1
  go_wp2_with (go_at_call 53; refine (HF.out _ _ _ R2.rd).mono ?_; rintro e w3 ⟨rfl, hr3, hg3⟩; refine Hid.out ?_)
  refine (show ∀ {p : Prop}, p → Hid p from fun h => h) ?_
  have R3 := R2.call hr3 hg3
  clear R2 hr3 hg3 c0 f0
  generalize hq2 : decide ((nx pO (nx pN (some s.data.toList)).2).1 = 1) = ok at *
  obtain ⟨_, c1, _, _⟩ := R3.cells
  have f1 := R3.frozen 1
  have R4 := R3.set 1 (.bool ok) rfl
  clear R3
  go_wp2_with (go_at_call 44; refine (HE.out _ _ _ R4.rd).mono ?_; rintro e w5 ⟨v5, rfl, hA5⟩; refine Hid.out ?_)
  refine (show ∀ {p : Prop}, p → Hid p from fun h => h) ?_
  obtain ⟨a, k, c, es, st3, rfl, hk, hby, hown, hER, hr5, hg5⟩ := ed_es hA5
  have R5 := R4.call hr5 hg5
  have hz4 := R4.lt
  have hge4 := R4.bel.size
  clear R4 hr5 hg5 hA5 c1 f1
  obtain ⟨_, _, c2, _⟩ := R5.cells
  have f2 := R5.frozen 2
  have R6 := R5.set 2 (.slice a k c) rfl
  have own6 := own_two (W := w5.setCell ⟨w.heap.size + 2, 2, none⟩ (.slice a k c)) hown (fun g hg _ => heap_setCell_other _ _ _ _ (by intro h; simp at h; have := hz4.2.1; omega))
  generalize (w3.setCell ⟨w.heap.size + 2, 1, none⟩ (.bool ok)).heap.size = B at own6 hz4 hge4
  clear R5 hown
  go_wp2_with (go_at_call 54; refine (HL.out _ _ _ R6.rd).mono ?_; rintro e w7 ⟨a', ls, st4, rfl, hown7, hLR, hr7, hg7⟩; refine Hid.out ?_)
  refine (show ∀ {p : Prop}, p → Hid p from fun h => h) ?_
  have R7 := R6.call hr7 hg7
  have own7 := own_two (W := w7) own6 (fun g hg hlt => hg7.block g hlt (by simp; have := hz4.1; omega))
  have hz6 := R6.lt
  have hge6 := R6.bel.size
  clear R6 hr7 hg7 c2 f2 own6
  obtain ⟨_, _, _, c3⟩ := R7.cells
  have f3 := R7.frozen 3
  have R8 := R7.set 3 (.slice a' m m) rfl
  have own8 := own_two (W := w7.setCell ⟨w.heap.size + 2, 3, none⟩ (.slice a' m m)) own7 (fun g hg _ => heap_setCell_other _ _ _ _ (by intro h; simp at h; have := hz4.2.1; omega))
  have own8' := own_two (W := w7.setCell ⟨w.heap.size + 2, 3, none⟩ (.slice a' m m)) hown7 (fun g hg _ => heap_setCell_other _ _ _ _ (by intro h; simp at h hg; have := hz6.2.1; simp at this; omega))
  have hz6' : w.heap.size + 1 < (w5.setCell ⟨w.heap.size + 2, 2, none⟩ (.slice a k c)).heap.size ∧ w.heap.size + 2 < (w5.setCell ⟨w.heap.size + 2, 2, none⟩ (.slice a k c)).heap.size ∧ w.heap.size < (w5.setCell ⟨w.heap.size + 2, 2, none⟩ (.slice a k c)).heap.size := hz6
  generalize (w5.setCell ⟨w.heap.size + 2, 2, none⟩ (.slice a k c)).heap.size = B' at own8' hz6' hge6
  generalize hq1 : (((nx pN (some s.data.toList)).1 : Nat) : Int) = num at *
  have HCa : Hid (Ca m s.data.toList ⟨num, ok, es, ls⟩ st4) := by
    refine ⟨_, flSt (nx pN (some s.data.toList)).2, st3, st4, hq1.symm, rfl, hq2.symm, ?_, hER, hLR, rfl⟩
    unfold flSt
    by_cases h1 : 1 < (nx pO (nx pN (some s.data.toList)).2).1
    · rw [if_pos h1]; exact .inr ⟨rfl, h1⟩
    · rw [if_neg h1]; exact .inl rfl
  have HFl : Hid (st4 = some [] → (nx pO (nx pN (some s.data.toList)).2).1 ≤ 1) := fun h => by subst h; exact flag_ok hER hLR
  have HO8 := hideIt own8
  have HO8' := hideIt own8'
  clear R7 own7 hown7 own8 own8' hER hLR hq1 hq2 hz6
  go_wp2_with (go_at_call 45; refine (HD.out _ _ _ R8.rd).mono ?_; rintro e w9 ⟨rfl, hr9, hg9⟩; refine Hid.out ?_)
  refine (show ∀ {p : Prop}, p → Hid p from fun h => h) ?_
  have R9 := R8.call hr9 hg9
  have own9 : Hid (w9.ownsRow B 78 2 (.slice a k c) k (ecells es)) := own_two HO8.out (fun g hg hlt => hg9.block g hlt (by simp; have := hz4.1; omega))
  have own9' : Hid (w9.ownsRow B' 3 1 (.slice a' m m) m (ic ls)) := own_two HO8'.out (fun g hg hlt => hg9.block g hlt (by simp; have := hz6'.1; omega))
  clear R8 hr9 hg9 HO8 HO8' c3 f3
  obtain ⟨q0, q1, q2, q3⟩ := R9.cells
  obtain ⟨r0, r1', r2, r3⟩ := R9.cellsR
  have g0 := R9.frozenR 0
  have g1 := R9.frozenR 1
  have g2 := R9.frozenR 2
  have g3 := R9.frozenR 3
  cases hE : endB st4 with
  | false =>
    have HI : Hid (IsA (m : Int) s.data.toList none) := IsA.no rfl HCa.out (.inl (fun h => by rw [(endB_iff st4).2 h] at hE; cases hE))
    have HB := hideIt R9.bel
    clear R9 hE q0 q1 q2 q3
    go_wp2
    refine bodyPost_ret (v := .tuple #[ansV 0 false none 0 0 none 0 0, .bool false]) (by simp [results, Try.results19, go_sem, r0, r1', r2, r3]) rfl ⟨none, HI.out, none, 0, 0, none, 0, 0, rfl, ⟨rfl, .inl ⟨rfl, rfl⟩⟩, ⟨rfl, .inl ⟨rfl, rfl⟩⟩, by omega, by omega, ?_⟩
    exact (((HB.out.setCell (Nat.le_refl _) _).setCell (Nat.le_refl _) _).setCell (Nat.le_refl _) _).setCell (Nat.le_refl _) _
  | true =>
    have hE := (endB_iff st4).1 hE
    have hfl := HFl.out hE
    subst hE
    have HOk := hideIt (iAnswerOk_any (m : Int) num ok es ls k a c (by omega) m a' m (by omega) w9 (Es_of_own own9.out) (Is_of_own own9'.out))
    unfold ansV at HOk
    cases hB : aB (m : Int) ⟨num, ok, es, ls⟩ with
    | false =>
      rw [hB] at HOk
      have HI : Hid (IsA (m : Int) s.data.toList none) := IsA.no rfl HCa.out (.inr hB)
      have HR := hideIt R9
      clear R9 hB r0 r1' r2 r3 g0 g1 g2 g3 hfl
      go_wp2_with (go_at_call 21; refine HOk.out.mono ?_; rintro e w10 ⟨rfl, hb10⟩; refine Hid.out ?_)
      refine (show ∀ {p : Prop}, p → Hid p from fun h => h) ?_
      have R10 := HR.out.below hb10
      obtain ⟨r0, r1', r2, r3⟩ := R10.cellsR
      have g0 := R10.frozenR 0
      have g1 := R10.frozenR 1
      have g2 := R10.frozenR 2
      have g3 := R10.frozenR 3
      have HB := hideIt R10.bel
      clear R10 q0 q1 q2 q3 hb10
      go_wp2
      refine bodyPost_ret (v := .tuple #[ansV 0 false none 0 0 none 0 0, .bool false]) (by simp [results, Try.results19, go_sem, r0, r1', r2, r3]) rfl ⟨none, HI.out, none, 0, 0, none, 0, 0, rfl, ⟨rfl, .inl ⟨rfl, rfl⟩⟩, ⟨rfl, .inl ⟨rfl, rfl⟩⟩, by omega, by omega, ?_⟩
      exact (((HB.out.setCell (Nat.le_refl _) _).setCell (Nat.le_refl _) _).setCell (Nat.le_refl _) _).setCell (Nat.le_refl _) _
    | true =>
      rw [hB] at HOk
      have HI : Hid (IsA (m : Int) s.data.toList (some ⟨num, ok, es, ls⟩)) := IsA.yes HCa.out hB hfl
      have HR := hideIt R9
      clear R9 hB r0 r1' r2 r3 g0 g1 g2 g3 hfl
      go_wp2_with (go_at_call 21; refine HOk.out.mono ?_; rintro e w10 ⟨rfl, hb10⟩; refine Hid.out ?_)
      refine (show ∀ {p : Prop}, p → Hid p from fun h => h) ?_
      have R10 := HR.out.below hb10
      have own10 : Hid (w10.ownsRow B 78 2 (.slice a k c) k (ecells es)) := own_two own9.out (fun g _ hlt => hb10.block g hlt)
      have own10' : Hid (w10.ownsRow B' 3 1 (.slice a' m m) m (ic ls)) := own_two own9'.out (fun g _ hlt => hb10.block g hlt)
      clear q0 q1 q2 q3
      obtain ⟨q0, q1, q2, q3⟩ := R10.cells
      obtain ⟨r0, r1', r2, r3⟩ := R10.cellsR
      have g0 := R10.frozenR 0
      have g1 := R10.frozenR 1
      have g2 := R10.frozenR 2
      have g3 := R10.frozenR 3
      have HB := hideIt R10.bel
      clear R10 hb10
      go_wp2
      refine bodyPost_ret (v := .tuple #[ansV num ok a k c a' m m, .bool true]) (by simp [results, Try.results19, go_sem, r0, r1', r2, r3]) rfl ⟨some ⟨num, ok, es, ls⟩, HI.out, a, k, c, a', m, m, rfl, ?_, ?_, by omega, by omega, ?_⟩
      · refine own_mono (B := B) ?_ hge4
        refine own_two own10.out (fun g hg hlt => ?_)
        have hne : g ≠ w.heap.size := by have := hz4.2.2; omega
        rw [heap_setCell_other _ _ _ _ (by exact hne), heap_setCell_other _ _ _ _ (by exact hne), heap_setCell_other _ _ _ _ (by exact hne), heap_setCell_other _ _ _ _ (by exact hne)]
      · refine own_mono (B := B') ?_ hge6
        refine own_two own10'.out (fun g hg hlt => ?_)
        have hne : g ≠ w.heap.size := by have := hz6'.2.2; omega
        rw [heap_setCell_other _ _ _ _ (by exact hne), heap_setCell_other _ _ _ _ (by exact hne), heap_setCell_other _ _ _ _ (by exact hne), heap_setCell_other _ _ _ _ (by exact hne)]
      · exact (((HB.out.setCell (Nat.le_refl _) _).setCell (Nat.le_refl _) _).setCell (Nat.le_refl _) _).setCell (Nat.le_refl _) _

theorem iReadAnswer_any (n : Int) (s : ByteArray) (hs : s.size ≤ 1048576) (w : World) :
    Calls Try.prog 19 #[.int .i64 n, .string s] w fun e w' => ∃ r, IsA n s.data.toList r ∧ AnsAns w w' e r := by
  by_cases h : 1 ≤ n ∧ n ≤ 12
  · obtain ⟨m, rfl⟩ := Int.eq_ofNat_of_zero_le (show 0 ≤ n by omega)
    exact iReadAnswer_in m (by omega) (by omega) s hs w
  · exact iReadAnswer_out n s h w
end Go.Proofs.Ytkhhagjcmbbdpaa
