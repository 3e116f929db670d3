/- The methods that tell what an order wants done as a text. The specification's OrderText. The specification's AnswerText. The specification's OrderText. -/
import Derived.Test.YthnibebljbljdaaGreatDoorKITy10
import Derived.Test.YthnibebljbljdaaGreatDoorKSRd10
import Derived.Test.YthnibebljbljdaaGreatDoorKLawB10
namespace Go.Proofs.YthnibebljbljdaaGreatDoor
open Go.RowKit Vt

theorem ob1 : ((1 : UInt8).toNat : Int) = 1 := rfl

theorem cRel_any (v : Int) (hv : 0 ≤ v ∧ v ≤ 1000) (w : World) :
    Calls Tryz.prog 174 #[.agg #[.int .i64 v]] w fun e w' => e = .returned (.string (str (3 :: (vt v.toNat ++ et [])))) ∧ Below w.heap.size w w' := by
  have HC := hideIt (commandText_any 3 3 v rfl hv [] 0 none 0 (by omega) (fun e he => by cases he) (w.alloc (.cells #[.int .i64 v] 188)) ⟨rfl, .inl rfl⟩)
  go_enter Tryz.func174, Tryz.ntmps174
  go_wp2_with (go_at_call 175; refine HC.out.mono ?_; rintro e w1 ⟨rfl, hb⟩)
  go_ret
  exact ⟨rfl, (bel1 _ _).trans (hb.mono (by simp))⟩

theorem cAcc_any (es : List EdgeV) (k : Nat) (a : Option Addr) (c : Nat) (hk : k ≤ 100) (hby : EB8 es) (w : World) (h : Es w w.heap.size a k es) :
    Calls Tryz.prog 178 #[.agg #[.slice a k c]] w fun e w' => e = .returned (.string (str (4 :: (vt 0 ++ et es)))) ∧ Below w.heap.size w w' := by
  have HC := hideIt (commandText_any 4 4 0 rfl (by omega) es k a c hk hby (w.alloc (.cells #[.slice a k c] 193)) ((h.alloc (Nat.le_refl _) _).mono (by simp)))
  clear h hby
  go_enter Tryz.func178, Tryz.ntmps178
  go_wp2_with (go_at_call 175; refine HC.out.mono ?_; rintro e w1 ⟨rfl, hb⟩)
  go_ret
  exact ⟨rfl, (bel1 _ _).trans (hb.mono (by simp))⟩

theorem es_one (w : World) (f : EdgeV) (t : TypeId) : Es (w.alloc (.cells #[.int .i64 f.1, .int .i64 f.2] t)) (w.alloc (.cells #[.int .i64 f.1, .int .i64 f.2] t)).heap.size (some ⟨w.heap.size, 0, none⟩) 1 [f] := by
  refine ⟨rfl, .inr ⟨w.heap.size, 0, rfl, by simp, fun j g hg => ?_⟩⟩
  match j, hg with
  | 0, hg => simp at hg; subst hg; simp

theorem cAdd_any (f : EdgeV) (hf : EB8 [f]) (w : World) :
    Calls Tryz.prog 176 #[.agg #[.int .i64 f.1, .int .i64 f.2]] w fun e w' => e = .returned (.string (str (1 :: (vt 0 ++ et [f])))) ∧ Below w.heap.size w w' := by
  have HC := hideIt (commandText_any 1 1 0 rfl (by omega) [f] 1 (some ⟨w.heap.size + 1, 0, none⟩) 1 (by omega) hf ((w.alloc (.cells #[.int .i64 f.1, .int .i64 f.2] 190)).alloc (.cells #[.int .i64 f.1, .int .i64 f.2] 120)) (by have := es_one (w.alloc (.cells #[.int .i64 f.1, .int .i64 f.2] 190)) f 120; simpa using this))
  clear hf
  go_enter Tryz.func176, Tryz.ntmps176
  go_wp2_with (go_at_call 175; refine HC.out.mono ?_; rintro e w1 ⟨rfl, hb⟩)
  go_ret
  exact ⟨rfl, bel2 _ _ hb⟩

theorem cTake_any (f : EdgeV) (hf : EB8 [f]) (w : World) :
    Calls Tryz.prog 177 #[.agg #[.int .i64 f.1, .int .i64 f.2]] w fun e w' => e = .returned (.string (str (2 :: (vt 0 ++ et [f])))) ∧ Below w.heap.size w w' := by
  have HC := hideIt (commandText_any 2 2 0 rfl (by omega) [f] 1 (some ⟨w.heap.size + 1, 0, none⟩) 1 (by omega) hf ((w.alloc (.cells #[.int .i64 f.1, .int .i64 f.2] 191)).alloc (.cells #[.int .i64 f.1, .int .i64 f.2] 120)) (by have := es_one (w.alloc (.cells #[.int .i64 f.1, .int .i64 f.2] 191)) f 120; simpa using this))
  clear hf
  go_enter Tryz.func177, Tryz.ntmps177
  go_wp2_with (go_at_call 175; refine HC.out.mono ?_; rintro e w1 ⟨rfl, hb⟩)
  go_ret
  exact ⟨rfl, bel2 _ _ hb⟩

/-- an order's text, or none -/
def otV (n : Int) (o : OrdV) : Value := if oB n o then .tuple #[.string (str (oText o)), .bool true] else .tuple #[.string ⟨#[]⟩, .bool false]
theorem otV_yes {n : Int} {o : OrdV} (h : oB n o = true) : otV n o = .tuple #[.string (str (oText o)), .bool true] := by unfold otV; rw [h]; rfl
theorem otV_no {n : Int} {o : OrdV} (h : oB n o = false) : otV n o = .tuple #[.string ⟨#[]⟩, .bool false] := by unfold otV; rw [h]; rfl

set_option maxRecDepth 100000 in
set_option maxHeartbeats 4000000 in
theorem iOrderText_no (n num op : Int) (es : List EdgeV) (v : Int) (k : Nat) (a : Option Addr) (c : Nat) (hk : k ≤ 1048576) (w : World) (h : Es w w.heap.size a k es) (hB : oB n ⟨num, op, es, v⟩ = false) :
    Calls Tryz.prog 80 #[.int .i64 n, ordV num op a k c v] w fun e w' => e = .returned (.tuple #[.string ⟨#[]⟩, .bool false]) ∧ Below w.heap.size w w' := by
  have HO := hideIt (iOrderOk_any n num op es v k a c hk (w.alloc (.cells #[.int .i64 num, .int .i64 op, .slice a k c, .int .i64 v] 55)) ((h.alloc (Nat.le_refl _) _).mono (by simp)))
  rw [hB] at HO
  unfold ordV at HO ⊢
  clear h hB
  go_enter Tryz.func80, Tryz.ntmps80
  go_wp2_with (go_at_call 111; refine HO.out.mono ?_; rintro e w1 ⟨rfl, hb⟩)
  go_ret2
  exact ⟨rfl, (bel1 _ _).trans (hb.mono (by simp))⟩

set_option maxRecDepth 100000 in
set_option maxHeartbeats 4000000 in
theorem iOrderText_rel (n num v : Int) (a : Option Addr) (c : Nat) (w : World) (h : Es w w.heap.size a 0 []) (hB : oB n ⟨num, 3, [], v⟩ = true) :
    Calls Tryz.prog 80 #[.int .i64 n, ordV num 3 a 0 c v] w fun e w' => e = .returned (.tuple #[.string (str (oText ⟨num, 3, [], v⟩)), .bool true]) ∧ Below w.heap.size w w' := by
  obtain ⟨p0, p1, p2, p3, p4⟩ := oB_parts hB
  dsimp only at p1 p2 p3 p4
  have HO : Hid (Calls Tryz.prog 111 #[.int .i64 n, ordV num 3 a 0 c v] (w.alloc (.cells #[.int .i64 num, .int .i64 3, .slice a 0 c, .int .i64 v] 55)) fun e w' => e = .returned (.bool true) ∧ Below w.heap.size w w' ∧
      w'.cell? ⟨w.heap.size, 0, none⟩ = some (.int .i64 num) ∧ w'.cell? ⟨w.heap.size, 1, none⟩ = some (.int .i64 3) ∧ w'.cell? ⟨w.heap.size, 2, none⟩ = some (.slice a 0 c) ∧ w'.cell? ⟨w.heap.size, 3, none⟩ = some (.int .i64 v) ∧ w.heap.size < w'.heap.size) :=
    (iOrderOk_any n num 3 [] v 0 a c (by omega) (w.alloc (.cells #[.int .i64 num, .int .i64 3, .slice a 0 c, .int .i64 v] 55)) ((h.alloc (Nat.le_refl _) _).mono (by simp))).mono fun _ _ ⟨he, hb⟩ =>
      ⟨by rw [he, hB], (bel1 _ _).trans (hb.mono (by simp)), by rw [hb.cell (by simp)]; simp, by rw [hb.cell (by simp)]; simp, by rw [hb.cell (by simp)]; simp, by rw [hb.cell (by simp)]; simp, by have := hb.size; simp at this; omega⟩
  have HN := hideIt (numberText_any num num.toNat (by omega) (by omega))
  have HC := hideIt (commandOf_rel num v a c)
  have HM := hideIt (cRel_any v (by omega))
  have hm : ∀ w, (method 327 188 (.agg #[.int .i64 v]) "loop.example/g00130/impl.text").run Tryz.prog w = .ok (174, .agg #[.int .i64 v]) w := fun _ => by kernel_rfl
  have hl1 := vt_le5 num.toNat (by omega)
  have hl2 := vt_le5 v.toNat (by omega)
  have A1 : ∀ wx, (Op.stringOp .add (str (vt num.toNat)) (str (3 :: (vt v.toNat ++ et [])))).run Tryz.prog wx = .ok (.string (str (vt num.toNat ++ (3 :: (vt v.toNat ++ et []))))) wx := str_add _ _ (by simp [et, eb, vt_small 0 (by omega)]; omega)
  have FN : Hid (str (vt num.toNat ++ (3 :: (vt v.toNat ++ et []))) = str (oText ⟨num, 3, [], v⟩)) := by show _ = _; rfl
  unfold ordV at HO HC ⊢
  clear h hB
  go_enter Tryz.func80, Tryz.ntmps80
  go_wp2_with (go_at_call 111; refine HO.out.mono ?_; rintro e w1 ⟨rfl, hb1, q0, q1, q2, q3, z1⟩; refine Hid.out ?_)
  refine (show ∀ {p : Prop}, p → Hid p from fun h => h) ?_
  have KC : Hid (∀ W, Below w1.heap.size w1 W → (W.cell? ⟨w.heap.size, 0, none⟩ = some (.int .i64 num) ∧ W.cell? ⟨w.heap.size, 1, none⟩ = some (.int .i64 3) ∧ W.cell? ⟨w.heap.size, 2, none⟩ = some (.slice a 0 c) ∧ W.cell? ⟨w.heap.size, 3, none⟩ = some (.int .i64 v))) := fun W hW =>
    ⟨by rw [hW.cell z1]; exact q0, by rw [hW.cell z1]; exact q1, by rw [hW.cell z1]; exact q2, by rw [hW.cell z1]; exact q3⟩
  have Z1 : Hid (∀ W, Below w1.heap.size w1 W → Below w.heap.size w W) := fun W hW => hb1.trans (hW.mono hb1.size)
  have B0 : Below w1.heap.size w1 w1.drew := (Below.refl _ _).drew
  go_wp2
  go_region_held3 (fun u => Below w1.heap.size w1 u ∧ (u.cell? ⟨w.heap.size, 0, none⟩ = some (.int .i64 num) ∧ u.cell? ⟨w.heap.size, 1, none⟩ = some (.int .i64 3) ∧ u.cell? ⟨w.heap.size, 2, none⟩ = some (.slice a 0 c) ∧ u.cell? ⟨w.heap.size, 3, none⟩ = some (.int .i64 v)))
    (first | exact ⟨B4, KC.out _ B4⟩ | exact ⟨B3, KC.out _ B3⟩ | exact ⟨B2, KC.out _ B2⟩ | exact ⟨B0, KC.out _ B0⟩)
    (first
    | (go_at_call 109; refine (HN.out _).mono ?_; rintro e w2 ⟨rfl, hb2⟩; have B2 := B0.trans (hb2.mono B0.size))
    | (go_at_call 112; refine (HC.out _).mono ?_; rintro e w3 ⟨rfl, hb3⟩; have B3 := B2.trans (hb3.mono B2.size))
    | (go_at_call 174; refine (HM.out _).mono ?_; rintro e w4 ⟨rfl, hb4⟩; have B4 := B3.trans (hb4.mono B3.size)))
  all_goals
    go_wp2
    go_ret2
    exact ⟨by rw [← FN.out]; rfl, Z1.out _ B4⟩
set_option maxRecDepth 100000 in
set_option maxHeartbeats 4000000 in
theorem iOrderText_add (n num : Int) (f : EdgeV) (b off c : Nat) (w : World) (h : Es w w.heap.size (some ⟨b, off, none⟩) 1 [f]) (hB : oB n ⟨num, 1, [f], 0⟩ = true) :
    Calls Tryz.prog 80 #[.int .i64 n, ordV num 1 (some ⟨b, off, none⟩) 1 c 0] w fun e w' => e = .returned (.tuple #[.string (str (oText ⟨num, 1, [f], 0⟩)), .bool true]) ∧ Below w.heap.size w w' := by
  obtain ⟨p0, p1, p2, p3, p4⟩ := oB_parts hB
  dsimp only at p1 p2 p3 p4
  have HO : Hid (Calls Tryz.prog 111 #[.int .i64 n, ordV num 1 (some ⟨b, off, none⟩) 1 c 0] (w.alloc (.cells #[.int .i64 num, .int .i64 1, .slice (some ⟨b, off, none⟩) 1 c, .int .i64 0] 55)) fun e w' => e = .returned (.bool true) ∧ Below w.heap.size w w' ∧
      w'.cell? ⟨w.heap.size, 0, none⟩ = some (.int .i64 num) ∧ w'.cell? ⟨w.heap.size, 1, none⟩ = some (.int .i64 1) ∧ w'.cell? ⟨w.heap.size, 2, none⟩ = some (.slice (some ⟨b, off, none⟩) 1 c) ∧ w'.cell? ⟨w.heap.size, 3, none⟩ = some (.int .i64 0) ∧ w.heap.size < w'.heap.size) :=
    (iOrderOk_any n num 1 [f] 0 1 (some ⟨b, off, none⟩) c (by omega) (w.alloc (.cells #[.int .i64 num, .int .i64 1, .slice (some ⟨b, off, none⟩) 1 c, .int .i64 0] 55)) ((h.alloc (Nat.le_refl _) _).mono (by simp))).mono fun _ _ ⟨he, hb⟩ =>
      ⟨by rw [he, hB], (bel1 _ _).trans (hb.mono (by simp)), by rw [hb.cell (by simp)]; simp, by rw [hb.cell (by simp)]; simp, by rw [hb.cell (by simp)]; simp, by rw [hb.cell (by simp)]; simp, by have := hb.size; simp at this; omega⟩
  have HN := hideIt (numberText_any num num.toNat (by omega) (by omega))
  have HC : Hid (∀ W, Below w.heap.size w W → Calls Tryz.prog 112 #[ordV num 1 (some ⟨b, off, none⟩) 1 c 0] W fun x w' => x = .returned (.iface 190 (.agg #[.int .i64 f.1, .int .i64 f.2])) ∧ Below W.heap.size W w') := fun W hW => by
    rcases h.2 with h0 | ⟨b', off', e, hb0, hc⟩
    · omega
    · simp at e
      obtain ⟨rfl, rfl⟩ := e
      obtain ⟨c0, c1⟩ := hc 0 f rfl
      rw [Nat.zero_mul, Nat.add_zero] at c0 c1
      exact commandOf_add num f b off c W (by rw [hW.cell hb0]; exact c0) (by rw [hW.cell hb0]; exact c1) (Nat.lt_of_lt_of_le hb0 hW.size)
  have HM := hideIt (cAdd_any f p2.1)
  have hm : ∀ w, (method 327 190 (.agg #[.int .i64 f.1, .int .i64 f.2]) "loop.example/g00130/impl.text").run Tryz.prog w = .ok (176, .agg #[.int .i64 f.1, .int .i64 f.2]) w := fun _ => by kernel_rfl
  have hl1 := vt_le5 num.toNat (by omega)
  have hl2 := vt_le5 0 (by omega)
  have hl3 : (et [f]).length ≤ 205 := by
    unfold et
    rw [List.length_append, eb_length]
    have := vt_le5 (List.length [f]) (by simp)
    simp only [List.length_cons, List.length_nil] at *; omega
  have A1 : ∀ wx, (Op.stringOp .add (str (vt num.toNat)) (str (1 :: (vt 0 ++ et [f])))).run Tryz.prog wx = .ok (.string (str (vt num.toNat ++ (1 :: (vt 0 ++ et [f]))))) wx := str_add _ _ (by rw [List.length_cons, List.length_append]; omega)
  have FN : Hid (str (vt num.toNat ++ (1 :: (vt 0 ++ et [f]))) = str (oText ⟨num, 1, [f], 0⟩)) := by show _ = _; rfl
  unfold ordV at HO HC ⊢
  clear hB
  have H0 := hideIt h
  clear h
  go_enter Tryz.func80, Tryz.ntmps80
  go_wp2_with (go_at_call 111; refine HO.out.mono ?_; rintro e w1 ⟨rfl, hb1, q0, q1, q2, q3, z1⟩; refine Hid.out ?_)
  refine (show ∀ {p : Prop}, p → Hid p from fun h => h) ?_
  have KC : Hid (∀ W, Below w1.heap.size w1 W → (W.cell? ⟨w.heap.size, 0, none⟩ = some (.int .i64 num) ∧ W.cell? ⟨w.heap.size, 1, none⟩ = some (.int .i64 1) ∧ W.cell? ⟨w.heap.size, 2, none⟩ = some (.slice (some ⟨b, off, none⟩) 1 c) ∧ W.cell? ⟨w.heap.size, 3, none⟩ = some (.int .i64 0))) := fun W hW =>
    ⟨by rw [hW.cell z1]; exact q0, by rw [hW.cell z1]; exact q1, by rw [hW.cell z1]; exact q2, by rw [hW.cell z1]; exact q3⟩
  have Z1 : Hid (∀ W, Below w1.heap.size w1 W → Below w.heap.size w W) := fun W hW => hb1.trans (hW.mono hb1.size)
  have B0 : Below w1.heap.size w1 w1.drew := (Below.refl _ _).drew
  go_wp2
  go_region_held3 (fun u => Below w1.heap.size w1 u ∧ (u.cell? ⟨w.heap.size, 0, none⟩ = some (.int .i64 num) ∧ u.cell? ⟨w.heap.size, 1, none⟩ = some (.int .i64 1) ∧ u.cell? ⟨w.heap.size, 2, none⟩ = some (.slice (some ⟨b, off, none⟩) 1 c) ∧ u.cell? ⟨w.heap.size, 3, none⟩ = some (.int .i64 0)))
    (first | exact ⟨B4, KC.out _ B4⟩ | exact ⟨B3, KC.out _ B3⟩ | exact ⟨B2, KC.out _ B2⟩ | exact ⟨B0, KC.out _ B0⟩)
    (first
    | (go_at_call 109; refine (HN.out _).mono ?_; rintro e w2 ⟨rfl, hb2⟩; have B2 := B0.trans (hb2.mono B0.size))
    | (go_at_call 112; refine (HC.out _ (Z1.out _ B2)).mono ?_; rintro e w3 ⟨rfl, hb3⟩; have B3 := B2.trans (hb3.mono B2.size))
    | (go_at_call 176; refine (HM.out _).mono ?_; rintro e w4 ⟨rfl, hb4⟩; have B4 := B3.trans (hb4.mono B3.size)))
  all_goals
    go_wp2
    go_ret2
    exact ⟨by rw [← FN.out]; rfl, Z1.out _ B4⟩
set_option maxRecDepth 100000 in
set_option maxHeartbeats 4000000 in
theorem iOrderText_take (n num : Int) (f : EdgeV) (b off c : Nat) (w : World) (h : Es w w.heap.size (some ⟨b, off, none⟩) 1 [f]) (hB : oB n ⟨num, 2, [f], 0⟩ = true) :
    Calls Tryz.prog 80 #[.int .i64 n, ordV num 2 (some ⟨b, off, none⟩) 1 c 0] w fun e w' => e = .returned (.tuple #[.string (str (oText ⟨num, 2, [f], 0⟩)), .bool true]) ∧ Below w.heap.size w w' := by
  obtain ⟨p0, p1, p2, p3, p4⟩ := oB_parts hB
  dsimp only at p1 p2 p3 p4
  have HO : Hid (Calls Tryz.prog 111 #[.int .i64 n, ordV num 2 (some ⟨b, off, none⟩) 1 c 0] (w.alloc (.cells #[.int .i64 num, .int .i64 2, .slice (some ⟨b, off, none⟩) 1 c, .int .i64 0] 55)) fun e w' => e = .returned (.bool true) ∧ Below w.heap.size w w' ∧
      w'.cell? ⟨w.heap.size, 0, none⟩ = some (.int .i64 num) ∧ w'.cell? ⟨w.heap.size, 1, none⟩ = some (.int .i64 2) ∧ w'.cell? ⟨w.heap.size, 2, none⟩ = some (.slice (some ⟨b, off, none⟩) 1 c) ∧ w'.cell? ⟨w.heap.size, 3, none⟩ = some (.int .i64 0) ∧ w.heap.size < w'.heap.size) :=
    (iOrderOk_any n num 2 [f] 0 1 (some ⟨b, off, none⟩) c (by omega) (w.alloc (.cells #[.int .i64 num, .int .i64 2, .slice (some ⟨b, off, none⟩) 1 c, .int .i64 0] 55)) ((h.alloc (Nat.le_refl _) _).mono (by simp))).mono fun _ _ ⟨he, hb⟩ =>
      ⟨by rw [he, hB], (bel1 _ _).trans (hb.mono (by simp)), by rw [hb.cell (by simp)]; simp, by rw [hb.cell (by simp)]; simp, by rw [hb.cell (by simp)]; simp, by rw [hb.cell (by simp)]; simp, by have := hb.size; simp at this; omega⟩
  have HN := hideIt (numberText_any num num.toNat (by omega) (by omega))
  have HC : Hid (∀ W, Below w.heap.size w W → Calls Tryz.prog 112 #[ordV num 2 (some ⟨b, off, none⟩) 1 c 0] W fun x w' => x = .returned (.iface 191 (.agg #[.int .i64 f.1, .int .i64 f.2])) ∧ Below W.heap.size W w') := fun W hW => by
    rcases h.2 with h0 | ⟨b', off', e, hb0, hc⟩
    · omega
    · simp at e
      obtain ⟨rfl, rfl⟩ := e
      obtain ⟨c0, c1⟩ := hc 0 f rfl
      rw [Nat.zero_mul, Nat.add_zero] at c0 c1
      exact commandOf_take num f b off c W (by rw [hW.cell hb0]; exact c0) (by rw [hW.cell hb0]; exact c1) (Nat.lt_of_lt_of_le hb0 hW.size)
  have HM := hideIt (cTake_any f p2.1)
  have hm : ∀ w, (method 327 191 (.agg #[.int .i64 f.1, .int .i64 f.2]) "loop.example/g00130/impl.text").run Tryz.prog w = .ok (177, .agg #[.int .i64 f.1, .int .i64 f.2]) w := fun _ => by kernel_rfl
  have hl1 := vt_le5 num.toNat (by omega)
  have hl2 := vt_le5 0 (by omega)
  have hl3 : (et [f]).length ≤ 205 := by
    unfold et
    rw [List.length_append, eb_length]
    have := vt_le5 (List.length [f]) (by simp)
    simp only [List.length_cons, List.length_nil] at *; omega
  have A1 : ∀ wx, (Op.stringOp .add (str (vt num.toNat)) (str (2 :: (vt 0 ++ et [f])))).run Tryz.prog wx = .ok (.string (str (vt num.toNat ++ (2 :: (vt 0 ++ et [f]))))) wx := str_add _ _ (by rw [List.length_cons, List.length_append]; omega)
  have FN : Hid (str (vt num.toNat ++ (2 :: (vt 0 ++ et [f]))) = str (oText ⟨num, 2, [f], 0⟩)) := by show _ = _; rfl
  unfold ordV at HO HC ⊢
  clear hB
  have H0 := hideIt h
  clear h
  go_enter Tryz.func80, Tryz.ntmps80
  go_wp2_with (go_at_call 111; refine HO.out.mono ?_; rintro e w1 ⟨rfl, hb1, q0, q1, q2, q3, z1⟩; refine Hid.out ?_)
  refine (show ∀ {p : Prop}, p → Hid p from fun h => h) ?_
  have KC : Hid (∀ W, Below w1.heap.size w1 W → (W.cell? ⟨w.heap.size, 0, none⟩ = some (.int .i64 num) ∧ W.cell? ⟨w.heap.size, 1, none⟩ = some (.int .i64 2) ∧ W.cell? ⟨w.heap.size, 2, none⟩ = some (.slice (some ⟨b, off, none⟩) 1 c) ∧ W.cell? ⟨w.heap.size, 3, none⟩ = some (.int .i64 0))) := fun W hW =>
    ⟨by rw [hW.cell z1]; exact q0, by rw [hW.cell z1]; exact q1, by rw [hW.cell z1]; exact q2, by rw [hW.cell z1]; exact q3⟩
  have Z1 : Hid (∀ W, Below w1.heap.size w1 W → Below w.heap.size w W) := fun W hW => hb1.trans (hW.mono hb1.size)
  have B0 : Below w1.heap.size w1 w1.drew := (Below.refl _ _).drew
  go_wp2
  go_region_held3 (fun u => Below w1.heap.size w1 u ∧ (u.cell? ⟨w.heap.size, 0, none⟩ = some (.int .i64 num) ∧ u.cell? ⟨w.heap.size, 1, none⟩ = some (.int .i64 2) ∧ u.cell? ⟨w.heap.size, 2, none⟩ = some (.slice (some ⟨b, off, none⟩) 1 c) ∧ u.cell? ⟨w.heap.size, 3, none⟩ = some (.int .i64 0)))
    (first | exact ⟨B4, KC.out _ B4⟩ | exact ⟨B3, KC.out _ B3⟩ | exact ⟨B2, KC.out _ B2⟩ | exact ⟨B0, KC.out _ B0⟩)
    (first
    | (go_at_call 109; refine (HN.out _).mono ?_; rintro e w2 ⟨rfl, hb2⟩; have B2 := B0.trans (hb2.mono B0.size))
    | (go_at_call 112; refine (HC.out _ (Z1.out _ B2)).mono ?_; rintro e w3 ⟨rfl, hb3⟩; have B3 := B2.trans (hb3.mono B2.size))
    | (go_at_call 177; refine (HM.out _).mono ?_; rintro e w4 ⟨rfl, hb4⟩; have B4 := B3.trans (hb4.mono B3.size)))
  all_goals
    go_wp2
    go_ret2
    exact ⟨by rw [← FN.out]; rfl, Z1.out _ B4⟩
set_option maxRecDepth 100000 in
set_option maxHeartbeats 4000000 in
theorem iOrderText_acc (n num : Int) (es : List EdgeV) (k : Nat) (a : Option Addr) (c : Nat) (hk : 0 < k) (hk2 : k ≤ 1048576) (w : World) (h : Es w w.heap.size a k es) (hB : oB n ⟨num, 4, es, 0⟩ = true) :
    Calls Tryz.prog 80 #[.int .i64 n, ordV num 4 a k c 0] w fun e w' => e = .returned (.tuple #[.string (str (oText ⟨num, 4, es, 0⟩)), .bool true]) ∧ Below w.heap.size w w' := by
  obtain ⟨p0, p1, p2, p3, p4⟩ := oB_parts hB
  dsimp only at p1 p2 p3 p4
  have HO : Hid (Calls Tryz.prog 111 #[.int .i64 n, ordV num 4 a k c 0] (w.alloc (.cells #[.int .i64 num, .int .i64 4, .slice a k c, .int .i64 0] 55)) fun e w' => e = .returned (.bool true) ∧ Below w.heap.size w w' ∧
      w'.cell? ⟨w.heap.size, 0, none⟩ = some (.int .i64 num) ∧ w'.cell? ⟨w.heap.size, 1, none⟩ = some (.int .i64 4) ∧ w'.cell? ⟨w.heap.size, 2, none⟩ = some (.slice a k c) ∧ w'.cell? ⟨w.heap.size, 3, none⟩ = some (.int .i64 0) ∧ w.heap.size < w'.heap.size) :=
    (iOrderOk_any n num 4 es 0 k a c (by omega) (w.alloc (.cells #[.int .i64 num, .int .i64 4, .slice a k c, .int .i64 0] 55)) ((h.alloc (Nat.le_refl _) _).mono (by simp))).mono fun _ _ ⟨he, hb⟩ =>
      ⟨by rw [he, hB], (bel1 _ _).trans (hb.mono (by simp)), by rw [hb.cell (by simp)]; simp, by rw [hb.cell (by simp)]; simp, by rw [hb.cell (by simp)]; simp, by rw [hb.cell (by simp)]; simp, by have := hb.size; simp at this; omega⟩
  have HN := hideIt (numberText_any num num.toNat (by omega) (by omega))
  have HC : Hid (∀ W, Below w.heap.size w W → Calls Tryz.prog 112 #[ordV num 4 a k c 0] W fun x w' => x = .returned (.iface 193 (.agg #[.slice a k c])) ∧ Below W.heap.size W w') := fun W _ => commandOf_acc num a k c hk W
  have HM : Hid (∀ W, Below w.heap.size w W → Calls Tryz.prog 178 #[.agg #[.slice a k c]] W fun e w' => e = .returned (.string (str (4 :: (vt 0 ++ et es)))) ∧ Below W.heap.size W w') := fun W hW => cAcc_any es k a c (by have := h.1; omega) p2.1 W (h.up hW)
  have hm : ∀ w, (method 327 193 (.agg #[.slice a k c]) "loop.example/g00130/impl.text").run Tryz.prog w = .ok (178, .agg #[.slice a k c]) w := fun _ => by kernel_rfl
  have hl1 := vt_le5 num.toNat (by omega)
  have hl2 := vt_le5 0 (by omega)
  have hl3 : (et es).length ≤ 205 := by
    unfold et
    rw [List.length_append, eb_length]
    have := vt_le5 (List.length es) (by omega)
    omega
  have A1 : ∀ wx, (Op.stringOp .add (str (vt num.toNat)) (str (4 :: (vt 0 ++ et es)))).run Tryz.prog wx = .ok (.string (str (vt num.toNat ++ (4 :: (vt 0 ++ et es))))) wx := str_add _ _ (by rw [List.length_cons, List.length_append]; omega)
  have FN : Hid (str (vt num.toNat ++ (4 :: (vt 0 ++ et es))) = str (oText ⟨num, 4, es, 0⟩)) := by show _ = _; rfl
  unfold ordV at HO HC ⊢
  clear hB
  have H0 := hideIt h
  clear h
  go_enter Tryz.func80, Tryz.ntmps80
  go_wp2_with (go_at_call 111; refine HO.out.mono ?_; rintro e w1 ⟨rfl, hb1, q0, q1, q2, q3, z1⟩; refine Hid.out ?_)
  refine (show ∀ {p : Prop}, p → Hid p from fun h => h) ?_
  have KC : Hid (∀ W, Below w1.heap.size w1 W → (W.cell? ⟨w.heap.size, 0, none⟩ = some (.int .i64 num) ∧ W.cell? ⟨w.heap.size, 1, none⟩ = some (.int .i64 4) ∧ W.cell? ⟨w.heap.size, 2, none⟩ = some (.slice a k c) ∧ W.cell? ⟨w.heap.size, 3, none⟩ = some (.int .i64 0))) := fun W hW =>
    ⟨by rw [hW.cell z1]; exact q0, by rw [hW.cell z1]; exact q1, by rw [hW.cell z1]; exact q2, by rw [hW.cell z1]; exact q3⟩
  have Z1 : Hid (∀ W, Below w1.heap.size w1 W → Below w.heap.size w W) := fun W hW => hb1.trans (hW.mono hb1.size)
  have B0 : Below w1.heap.size w1 w1.drew := (Below.refl _ _).drew
  go_wp2
  go_region_held3 (fun u => Below w1.heap.size w1 u ∧ (u.cell? ⟨w.heap.size, 0, none⟩ = some (.int .i64 num) ∧ u.cell? ⟨w.heap.size, 1, none⟩ = some (.int .i64 4) ∧ u.cell? ⟨w.heap.size, 2, none⟩ = some (.slice a k c) ∧ u.cell? ⟨w.heap.size, 3, none⟩ = some (.int .i64 0)))
    (first | exact ⟨B4, KC.out _ B4⟩ | exact ⟨B3, KC.out _ B3⟩ | exact ⟨B2, KC.out _ B2⟩ | exact ⟨B0, KC.out _ B0⟩)
    (first
    | (go_at_call 109; refine (HN.out _).mono ?_; rintro e w2 ⟨rfl, hb2⟩; have B2 := B0.trans (hb2.mono B0.size))
    | (go_at_call 112; refine (HC.out _ (Z1.out _ B2)).mono ?_; rintro e w3 ⟨rfl, hb3⟩; have B3 := B2.trans (hb3.mono B2.size))
    | (go_at_call 178; refine (HM.out _ (Z1.out _ B3)).mono ?_; rintro e w4 ⟨rfl, hb4⟩; have B4 := B3.trans (hb4.mono B3.size)))
  all_goals
    go_wp2
    go_ret2
    exact ⟨by rw [← FN.out]; rfl, Z1.out _ B4⟩

theorem iOrderText_any (n num op : Int) (es : List EdgeV) (v : Int) (k : Nat) (a : Option Addr) (c : Nat) (hk : k ≤ 1048576) (w : World) (h : Es w w.heap.size a k es) :
    Calls Tryz.prog 80 #[.int .i64 n, ordV num op a k c v] w fun e w' => e = .returned (otV n ⟨num, op, es, v⟩) ∧ Below w.heap.size w w' := by
  cases hB : oB n ⟨num, op, es, v⟩ with
  | false => rw [otV_no hB]; exact iOrderText_no n num op es v k a c hk w h hB
  | true =>
    rw [otV_yes hB]
    have hO : OpOk n ⟨num, op, es, v⟩ := by
      unfold oB at hB
      simp only [Bool.and_eq_true, decide_eq_true_eq] at hB
      exact hB.2.2.2
    have hlen := h.1
    rcases hO with ⟨h1, h2, _⟩ | ⟨h1, h2, h3⟩ | ⟨h1, h2, h3⟩
    · dsimp only at h1 h2
      subst h1
      obtain rfl : es = [] := List.length_eq_zero_iff.1 h2
      obtain rfl : k = 0 := by simpa using hlen.symm
      exact iOrderText_rel n num v a c w h hB
    · dsimp only at h1 h2 h3
      subst h1
      obtain ⟨f, rfl⟩ := List.length_eq_one_iff.1 h3
      obtain rfl : k = 1 := by simpa using hlen.symm
      rcases h.2 with h0 | ⟨b, off, rfl, _⟩
      · omega
      · rcases h2 with rfl | rfl
        · exact iOrderText_add n num f b off c w h hB
        · exact iOrderText_take n num f b off c w h hB
    · dsimp only at h1 h2 h3
      subst h1 h2
      exact iOrderText_acc n num es k a c (by omega) hk w h hB
end Go.Proofs.YthnibebljbljdaaGreatDoor
namespace Go.Proofs.YthnibebljbljdaaGreatDoor
open Go.RowKit Vt

theorem l01Var_str (x : Int) (h0 : 0 ≤ x) (h1 : x ≤ 1000000000) (w : World) :
    Calls Tryz.prog 58 #[.int .i64 x] w fun e w' => e = .returned (.string (str (vt x.toNat))) ∧ Below w.heap.size w w' := by
  obtain ⟨N, rfl⟩ := Int.eq_ofNat_of_zero_le h0
  exact l01Var_any N (by omega) w

theorem l09Byte_any (x : Int) (h0 : 0 ≤ x) (h1 : x < 256) (w : World) :
    Calls Tryz.prog 99 #[.int .i64 x] w fun e w' => e = .returned (.string (str [ob x])) ∧ Below w.heap.size w w' := by
  have CV : ∀ (g : Nat) (W : World), W.cell? ⟨g, 0, none⟩ = some (.int .u8 x) → (convert 136 9 (.slice (some ⟨g, 0, none⟩) 1 1)).run Tryz.prog W = .ok (.string (str [ob x])) W := fun g W hW => conv_g g (ob x) x (ob_back ⟨h0, h1⟩) W hW
  go_enter Tryz.func99, Tryz.ntmps99
  go_wp2
  go_ret
  exact ⟨rfl, bel1 _ _⟩

set_option maxRecDepth 100000 in
set_option maxHeartbeats 4000000 in
theorem l09Edges_any (es : List EdgeV) (k : Nat) (a : Option Addr) (c : Nat) (hk : k ≤ 100) (hby : EB8 es) (w : World) (h : Es w w.heap.size a k es) :
    Calls Tryz.prog 98 #[.slice a k c] w fun e w' => e = .returned (.string (str (et es))) ∧ Below w.heap.size w w' := by
  obtain ⟨hlen, hrow⟩ := h
  have HR := hideIt hrow
  have HL := hideIt hlen
  have HN := hideIt (l01Var_str (k : Int) (by omega) (by omega) w)
  rw [Int.toNat_natCast] at HN
  have hv5 := vt_le5 k (by omega)
  have HB := hideIt hby
  clear hrow hby
  go_enter Tryz.func98, Tryz.ntmps98
  go_wp2_with (go_at_call 58; refine HN.out.mono ?_; rintro e w1 ⟨rfl, hb1⟩)
  clear HN
  go_loopw [3, 4] (fun s i wr => ∃ (j : Nat) (L : List UInt8), j ≤ k ∧ i = .int .i64 (j : Int) ∧ s = .string (str L) ∧ Hid (L = vt k ++ eb (es.take j)) ∧ Below w.heap.size w wr) (fun _ i _ => k - (intOf i).toNat)
  case atStart => exact ⟨0, vt k, by omega, rfl, rfl, by show _ = _; simp [eb], hb1⟩
  case round =>
    obtain ⟨j, L, hj, rfl, rfl, hL, hb⟩ := hrel
    by_cases hlt : j < k
    · rcases HR.out with hz | ⟨b, off, rfl, hbl, hc⟩
      · omega
      · obtain ⟨f, hf⟩ : ∃ f, es[j]? = some f := ⟨es[j]'(by omega), List.getElem?_eq_getElem (by omega)⟩
        obtain ⟨c0, c1⟩ := hc j f hf
        obtain ⟨⟨f1, f2⟩, f3, f4⟩ := HB.out f (List.mem_of_getElem? hf)
        have b1 : (0 : Int) ≤ (j : Int) := by omega
        have b2 : (j : Int) < (k : Int) := by omega
        have HTk := hideIt (take_snocF es j f hf)
        have hle : L.length ≤ 205 := by rw [hL.out, List.length_append, eb_length]; simp; omega
        have A1 : ∀ wx, (Op.stringOp .add (str L) (str [ob f.1])).run Tryz.prog wx = .ok (.string (str (L ++ [ob f.1]))) wx := str_add _ _ (by simp; omega)
        have A2 : ∀ wx, (Op.stringOp .add (str (L ++ [ob f.1])) (str [ob f.2])).run Tryz.prog wx = .ok (.string (str (L ++ [ob f.1] ++ [ob f.2]))) wx := str_add _ _ (by simp; omega)
        have HL1 : Hid (L ++ [ob f.1, ob f.2] = vt k ++ eb (es.take (j + 1))) := by show _ = _; rw [HTk.out, eb_append, hL.out]; simp [eb]
        have HK : Hid (∀ W : World, Below w.heap.size w W → (W.cell? ⟨b, off + j * 2, none⟩ = some (.int .i64 f.1) ∧ W.cell? ⟨b, off + j * 2 + 1, none⟩ = some (.int .i64 f.2))) := fun W hW =>
          ⟨by rw [hW.cell hbl]; exact c0, by rw [hW.cell hbl]; exact c1⟩
        have HY : Hid (∀ (x : Int) (W : World), 0 ≤ x → x < 256 → Below w.heap.size w W → Calls Tryz.prog 99 #[.int .i64 x] W fun e w' => e = .returned (.string (str [ob x])) ∧ Below w.heap.size w w') := fun x W h0 h1 hW =>
          (l09Byte_any x h0 h1 W).mono fun _ _ ⟨he, hb⟩ => ⟨he, hW.trans (hb.mono hW.size)⟩
        have B0 := hb.drew
        clear c0 c1 hc hf hL HTk hle
        go_wp2
        go_region_held3 (fun u => Below w.heap.size w u ∧ u.cell? ⟨b, off + j * 2, none⟩ = some (.int .i64 f.1) ∧ u.cell? ⟨b, off + j * 2 + 1, none⟩ = some (.int .i64 f.2))
          (first | exact ⟨B2, HK.out _ B2⟩ | exact ⟨B1, HK.out _ B1⟩ | exact ⟨B0, HK.out _ B0⟩)
          (first
          | (go_at_call 99; refine (HY.out f.2 _ f3 f4 B1).mono ?_; rintro e w3 ⟨rfl, B2⟩)
          | (go_at_call 99; refine (HY.out f.1 _ f1 f2 B0).mono ?_; rintro e w2 ⟨rfl, B1⟩))
        all_goals
          go_wp2
          exact ⟨⟨j + 1, _, by omega, by go_num, rfl, HL1, B2⟩, by simp [intOf]; omega⟩
    · have e : es.take j = es := List.take_of_length_le (by omega)
      have hz : Hid (L = et es) := by show _ = _; rw [hL.out, e]; unfold et; rw [HL.out]
      clear e hL HL hlen
      go_wp2
      go_ret
      exact ⟨by show Ending.returned (.string (str L)) = _; rw [hz.out], hb⟩

end Go.Proofs.YthnibebljbljdaaGreatDoor
namespace Go.Proofs.YthnibebljbljdaaGreatDoor
open Go.RowKit Vt

/-- an answer's text, or none -/
def atV (n : Int) (o : AnsV) : Value := if aB n o then .tuple #[.string (str (aText o)), .bool true] else .tuple #[.string ⟨#[]⟩, .bool false]
theorem atV_yes {n : Int} {o : AnsV} (h : aB n o = true) : atV n o = .tuple #[.string (str (aText o)), .bool true] := by unfold atV; rw [h]; rfl
theorem atV_no {n : Int} {o : AnsV} (h : aB n o = false) : atV n o = .tuple #[.string ⟨#[]⟩, .bool false] := by unfold atV; rw [h]; rfl

theorem l09Flag_any (b : Bool) (w : World) : Calls Tryz.prog 97 #[.bool b] w fun e w' => e = .returned (.string (str [okb b])) ∧ w' = w := by
  cases b
  · go_enter Tryz.func97, Tryz.ntmps97
    go_wp2
    go_ret
    exact ⟨rfl, rfl⟩
  · go_enter Tryz.func97, Tryz.ntmps97
    go_wp2
    go_ret
    exact ⟨rfl, rfl⟩

theorem et_len {es : List EdgeV} (h : es.length ≤ 100) : (et es).length ≤ 205 := by
  unfold et
  rw [List.length_append, eb_length]
  have := vt_le5 es.length (by omega)
  omega

set_option maxRecDepth 100000 in
set_option maxHeartbeats 4000000 in
theorem sAnswerText_no (n num : Int) (ok : Bool) (es : List EdgeV) (ls : List Int) (k : Nat) (a : Option Addr) (c : Nat) (hk : k ≤ 1048576) (k' : Nat) (a' : Option Addr) (c' : Nat) (hk' : k' ≤ 1048576) (w : World) (h : Es w w.heap.size a k es) (h' : Is w w.heap.size a' k' ls) (hB : aB n ⟨num, ok, es, ls⟩ = false) :
    Calls Tryz.prog 69 #[.int .i64 n, ansV num ok a k c a' k' c'] w fun e w' => e = .returned (.tuple #[.string ⟨#[]⟩, .bool false]) ∧ Below w.heap.size w w' := by
  have HO := hideIt (sAnswerOk_any n num ok es ls k a c hk k' a' c' hk' (w.alloc (.cells #[.int .i64 num, .bool ok, .slice a k c, .slice a' k' c'] 53)) ((h.alloc (Nat.le_refl _) _).mono (by simp)) (h'.alloc _))
  rw [hB] at HO
  unfold ansV at HO ⊢
  clear h h' hB
  go_enter Tryz.func69, Tryz.ntmps69
  go_wp2_with (go_at_call 96; refine HO.out.mono ?_; rintro e w1 ⟨rfl, hb⟩)
  go_ret2
  exact ⟨rfl, (bel1 _ _).trans (hb.mono (by simp))⟩

set_option maxRecDepth 100000 in
set_option maxHeartbeats 4000000 in
theorem sAnswerText_yes (n num : Int) (ok : Bool) (es : List EdgeV) (ls : List Int) (k : Nat) (a : Option Addr) (c : Nat) (hk : k ≤ 1048576) (k' : Nat) (a' : Option Addr) (c' : Nat) (hk' : k' ≤ 1048576) (w : World) (h : Es w w.heap.size a k es) (h' : Is w w.heap.size a' k' ls) (hB : aB n ⟨num, ok, es, ls⟩ = true) :
    Calls Tryz.prog 69 #[.int .i64 n, ansV num ok a k c a' k' c'] w fun e w' => e = .returned (.tuple #[.string (str (aText ⟨num, ok, es, ls⟩)), .bool true]) ∧ Below w.heap.size w w' := by
  obtain ⟨p0, p1, p2, p3⟩ := aB_parts hB
  dsimp only at p1 p2 p3
  obtain ⟨p4, p5⟩ := lB_bytes p0.2 p3
  have hk3 : (k' : Int) = n := by rw [← h'.1]; exact p4
  have HO : Hid (Calls Tryz.prog 96 #[.int .i64 n, ansV num ok a k c a' k' c'] (w.alloc (.cells #[.int .i64 num, .bool ok, .slice a k c, .slice a' k' c'] 53)) fun e w' => e = .returned (.bool true) ∧ Below w.heap.size w w' ∧
      w'.cell? ⟨w.heap.size, 0, none⟩ = some (.int .i64 num) ∧ w'.cell? ⟨w.heap.size, 1, none⟩ = some (.bool ok) ∧ w'.cell? ⟨w.heap.size, 2, none⟩ = some (.slice a k c) ∧ w'.cell? ⟨w.heap.size, 3, none⟩ = some (.slice a' k' c') ∧ w.heap.size < w'.heap.size) :=
    (sAnswerOk_any n num ok es ls k a c hk k' a' c' hk' (w.alloc (.cells #[.int .i64 num, .bool ok, .slice a k c, .slice a' k' c'] 53)) ((h.alloc (Nat.le_refl _) _).mono (by simp)) (h'.alloc _)).mono fun _ _ ⟨he, hb⟩ =>
      ⟨by rw [he, hB], (bel1 _ _).trans (hb.mono (by simp)), by rw [hb.cell (by simp)]; simp, by rw [hb.cell (by simp)]; simp, by rw [hb.cell (by simp)]; simp, by rw [hb.cell (by simp)]; simp, by have := hb.size; simp at this; omega⟩
  have HN := hideIt (l01Var_str num (by omega) (by omega))
  have HF := hideIt (l09Flag_any ok)
  have HE : Hid (∀ W, Below w.heap.size w W → Calls Tryz.prog 98 #[.slice a k c] W fun e w' => e = .returned (.string (str (et es))) ∧ Below W.heap.size W w') := fun W hW => l09Edges_any es k a c (by have := h.1; omega) p2.1 W (h.up hW)
  have hl1 := vt_le5 num.toNat (by omega)
  have hl3 := et_len (es := es) (by omega)
  have A1 : ∀ wx, (Op.stringOp .add (str (vt num.toNat)) (str [okb ok])).run Tryz.prog wx = .ok (.string (str (vt num.toNat ++ [okb ok]))) wx := str_add _ _ (by simp; omega)
  have A2 : ∀ wx, (Op.stringOp .add (str (vt num.toNat ++ [okb ok])) (str (et es))).run Tryz.prog wx = .ok (.string (str (vt num.toNat ++ [okb ok] ++ et es))) wx := str_add _ _ (by simp; omega)
  have HFN : Hid (vt num.toNat ++ [okb ok] ++ et es ++ ls.map ob = aText ⟨num, ok, es, ls⟩) := by show _ = _; unfold aText; simp [okb]
  have HLn : Hid ((vt num.toNat ++ [okb ok] ++ et es).length ≤ 220) := by show _ ≤ _; simp; omega
  generalize hT : vt num.toNat ++ [okb ok] ++ et es = T0 at A2 HFN HLn
  generalize str (vt num.toNat ++ [okb ok]) = s1 at A1 A2
  have H' := hideIt h'
  have HP5 := hideIt p5
  unfold ansV at HO ⊢
  subst hk3
  clear h h' hB hl1 hl3 p2 hT p3 p4 p5
  go_enter Tryz.func69, Tryz.ntmps69
  go_wp2_with (go_at_call 96; refine HO.out.mono ?_; rintro e w1 ⟨rfl, hb1, q0, q1, q2, q3, z1⟩; refine Hid.out ?_)
  refine (show ∀ {p : Prop}, p → Hid p from fun h => h) ?_
  have KC : Hid (∀ W, Below w1.heap.size w1 W → (W.cell? ⟨w.heap.size, 0, none⟩ = some (.int .i64 num) ∧ W.cell? ⟨w.heap.size, 1, none⟩ = some (.bool ok) ∧ W.cell? ⟨w.heap.size, 2, none⟩ = some (.slice a k c) ∧ W.cell? ⟨w.heap.size, 3, none⟩ = some (.slice a' k' c'))) := fun W hW =>
    ⟨by rw [hW.cell z1]; exact q0, by rw [hW.cell z1]; exact q1, by rw [hW.cell z1]; exact q2, by rw [hW.cell z1]; exact q3⟩
  have Z1 : Hid (∀ W, Below w1.heap.size w1 W → Below w.heap.size w W) := fun W hW => hb1.trans (hW.mono hb1.size)
  have B0 : Below w1.heap.size w1 w1.drew := (Below.refl _ _).drew
  clear HO
  go_wp2
  go_region_held3 (fun u => Below w1.heap.size w1 u ∧ (u.cell? ⟨w.heap.size, 0, none⟩ = some (.int .i64 num) ∧ u.cell? ⟨w.heap.size, 1, none⟩ = some (.bool ok) ∧ u.cell? ⟨w.heap.size, 2, none⟩ = some (.slice a k c) ∧ u.cell? ⟨w.heap.size, 3, none⟩ = some (.slice a' k' c')))
    (first | exact ⟨B2, KC.out _ B2⟩ | exact ⟨B1, KC.out _ B1⟩ | exact ⟨B0, KC.out _ B0⟩)
    (first
    | (go_at_call 98; refine (HE.out _ (Z1.out _ B1)).mono ?_; rintro e w5 ⟨rfl, hb5⟩; have B2 := B1.trans (hb5.mono B1.size))
    | (go_at_call 97; refine (HF.out _).mono ?_; rintro e w3 ⟨rfl, rfl⟩)
    | (go_at_call 58; refine (HN.out _).mono ?_; rintro e w2 ⟨rfl, hb2⟩; have B1 := B0.trans (hb2.mono B0.size)))
  go_wp2
  go_loopw [6, 7] (fun t i wr => ∃ (j : Nat) (L : List UInt8), j ≤ k' ∧ i = .int .i64 (j : Int) ∧ t = .string (str L) ∧ Hid (L = T0 ++ (ls.take j).map ob) ∧ Below w1.heap.size w1 wr) (fun _ i _ => k' - (intOf i).toNat)
  case atStart => exact ⟨0, T0, by omega, rfl, rfl, by show _ = _; simp, B2⟩
  case round =>
    obtain ⟨j, L, hj, rfl, rfl, hL, hb⟩ := hrel
    by_cases hlt : j < k'
    · have h9 := H'.out
      rcases h9.2 with hz | ⟨b, off, rfl, hbl, hc⟩
      · omega
      · obtain ⟨x, hx⟩ : ∃ x, ls[j]? = some x := ⟨ls[j]'(by have := h9.1; omega), List.getElem?_eq_getElem (by have := h9.1; omega)⟩
        have c0 : wr.cell? ⟨b, off + j, none⟩ = some (.int .i64 x) := by rw [(Z1.out _ hb).cell hbl]; exact hc j x hx
        obtain ⟨x1, x2⟩ := HP5.out x (List.mem_of_getElem? hx)
        obtain ⟨k0, k1, k2, k3⟩ := KC.out _ hb
        have b1 : (0 : Int) ≤ (j : Int) := by omega
        have b2 : (j : Int) < (k' : Int) := by omega
        have hle : L.length ≤ 300 := by rw [hL.out, List.length_append]; have := HLn.out; simp; omega
        have A5 : ∀ wx, (Op.stringOp .add (str L) (str [ob x])).run Tryz.prog wx = .ok (.string (str (L ++ [ob x]))) wx := str_add _ _ (by simp; omega)
        have HL1 : Hid (L ++ [ob x] = T0 ++ (ls.take (j + 1)).map ob) := by show _ = _; rw [take_snocF ls j x hx, hL.out]; simp
        have HY := hideIt (l09Byte_any x x1 x2)
        clear hc hx h9 hL hle
        go_wp2_with (go_at_call 99; refine (HY.out _).mono ?_; rintro e w6 ⟨rfl, hb6⟩)
        refine ⟨⟨j + 1, _, by omega, by go_num, rfl, HL1, hb.trans (hb6.mono hb.size)⟩, by simp [intOf]; omega⟩
    · have hz : Hid (L = aText ⟨num, ok, es, ls⟩) := by
        show _ = _
        rw [hL.out, List.take_of_length_le (by have := H'.out.1; omega), HFN.out]
      clear hL
      go_wp2
      go_ret2
      exact ⟨by rw [← hz.out]; rfl, Z1.out _ hb⟩

theorem sAnswerText_any (n num : Int) (ok : Bool) (es : List EdgeV) (ls : List Int) (k : Nat) (a : Option Addr) (c : Nat) (hk : k ≤ 1048576) (k' : Nat) (a' : Option Addr) (c' : Nat) (hk' : k' ≤ 1048576) (w : World) (h : Es w w.heap.size a k es) (h' : Is w w.heap.size a' k' ls) :
    Calls Tryz.prog 69 #[.int .i64 n, ansV num ok a k c a' k' c'] w fun e w' => e = .returned (atV n ⟨num, ok, es, ls⟩) ∧ Below w.heap.size w w' := by
  cases hB : aB n ⟨num, ok, es, ls⟩ with
  | false => rw [atV_no hB]; exact sAnswerText_no n num ok es ls k a c hk k' a' c' hk' w h h' hB
  | true => rw [atV_yes hB]; exact sAnswerText_yes n num ok es ls k a c hk k' a' c' hk' w h h' hB
end Go.Proofs.YthnibebljbljdaaGreatDoor
namespace Go.Proofs.YthnibebljbljdaaGreatDoor
open Go.RowKit Vt

set_option maxRecDepth 100000 in
set_option maxHeartbeats 4000000 in
theorem sOrderText_no (n num op : Int) (es : List EdgeV) (v : Int) (k : Nat) (a : Option Addr) (c : Nat) (hk : k ≤ 1048576) (w : World) (h : Es w w.heap.size a k es) (hB : oB n ⟨num, op, es, v⟩ = false) :
    Calls Tryz.prog 71 #[.int .i64 n, ordV num op a k c v] w fun e w' => e = .returned (.tuple #[.string ⟨#[]⟩, .bool false]) ∧ Below w.heap.size w w' := by
  have HO := hideIt (sOrderOk_any n num op es v k a c hk (w.alloc (.cells #[.int .i64 num, .int .i64 op, .slice a k c, .int .i64 v] 55)) ((h.alloc (Nat.le_refl _) _).mono (by simp)))
  rw [hB] at HO
  unfold ordV at HO ⊢
  clear h hB
  go_enter Tryz.func71, Tryz.ntmps71
  go_wp2_with (go_at_call 100; refine HO.out.mono ?_; rintro e w1 ⟨rfl, hb⟩)
  go_ret2
  exact ⟨rfl, (bel1 _ _).trans (hb.mono (by simp))⟩

set_option maxRecDepth 100000 in
set_option maxHeartbeats 4000000 in
theorem sOrderText_yes (n num op : Int) (es : List EdgeV) (v : Int) (k : Nat) (a : Option Addr) (c : Nat) (hk : k ≤ 1048576) (w : World) (h : Es w w.heap.size a k es) (hB : oB n ⟨num, op, es, v⟩ = true) :
    Calls Tryz.prog 71 #[.int .i64 n, ordV num op a k c v] w fun e w' => e = .returned (.tuple #[.string (str (oText ⟨num, op, es, v⟩)), .bool true]) ∧ Below w.heap.size w w' := by
  obtain ⟨p0, p1, p2, p3, p4⟩ := oB_parts hB
  dsimp only at p1 p2 p3 p4
  have HO : Hid (Calls Tryz.prog 100 #[.int .i64 n, ordV num op a k c v] (w.alloc (.cells #[.int .i64 num, .int .i64 op, .slice a k c, .int .i64 v] 55)) fun e w' => e = .returned (.bool true) ∧ Below w.heap.size w w' ∧
      w'.cell? ⟨w.heap.size, 0, none⟩ = some (.int .i64 num) ∧ w'.cell? ⟨w.heap.size, 1, none⟩ = some (.int .i64 op) ∧ w'.cell? ⟨w.heap.size, 2, none⟩ = some (.slice a k c) ∧ w'.cell? ⟨w.heap.size, 3, none⟩ = some (.int .i64 v) ∧ w.heap.size < w'.heap.size) :=
    (sOrderOk_any n num op es v k a c hk (w.alloc (.cells #[.int .i64 num, .int .i64 op, .slice a k c, .int .i64 v] 55)) ((h.alloc (Nat.le_refl _) _).mono (by simp))).mono fun _ _ ⟨he, hb⟩ =>
      ⟨by rw [he, hB], (bel1 _ _).trans (hb.mono (by simp)), by rw [hb.cell (by simp)]; simp, by rw [hb.cell (by simp)]; simp, by rw [hb.cell (by simp)]; simp, by rw [hb.cell (by simp)]; simp, by have := hb.size; simp at this; omega⟩
  have HN : Hid (∀ (x : Int) (W : World), 0 ≤ x → x ≤ 1000000000 → Calls Tryz.prog 58 #[.int .i64 x] W fun e w' => e = .returned (.string (str (vt x.toNat))) ∧ Below W.heap.size W w') := fun x W h0 h1 => l01Var_str x h0 h1 W
  have HY := hideIt (l09Byte_any op (by omega) (by omega))
  have HE : Hid (∀ W, Below w.heap.size w W → Calls Tryz.prog 98 #[.slice a k c] W fun e w' => e = .returned (.string (str (et es))) ∧ Below W.heap.size W w') := fun W hW => l09Edges_any es k a c (by have := h.1; omega) p2.1 W (h.up hW)
  have hl1 := vt_le5 num.toNat (by omega)
  have hl2 := vt_le5 v.toNat (by omega)
  have hl3 : (et es).length ≤ 205 := by
    unfold et
    rw [List.length_append, eb_length]
    have := vt_le5 es.length (by omega)
    omega
  have A1 : ∀ wx, (Op.stringOp .add (str (vt num.toNat)) (str [ob op])).run Tryz.prog wx = .ok (.string (str (vt num.toNat ++ [ob op]))) wx := str_add _ _ (by simp; omega)
  have A2 : ∀ wx, (Op.stringOp .add (str (vt num.toNat ++ [ob op])) (str (vt v.toNat))).run Tryz.prog wx = .ok (.string (str (vt num.toNat ++ [ob op] ++ vt v.toNat))) wx := str_add _ _ (by simp; omega)
  have A3 : ∀ wx, (Op.stringOp .add (str (vt num.toNat ++ [ob op] ++ vt v.toNat)) (str (et es))).run Tryz.prog wx = .ok (.string (str (vt num.toNat ++ [ob op] ++ vt v.toNat ++ et es))) wx := str_add _ _ (by simp; omega)
  have FN : Hid (str (vt num.toNat ++ [ob op] ++ vt v.toNat ++ et es) = str (oText ⟨num, op, es, v⟩)) := by show _ = _; unfold oText; simp
  generalize str (vt num.toNat ++ [ob op] ++ vt v.toNat ++ et es) = s3 at A3 FN
  generalize str (vt num.toNat ++ [ob op] ++ vt v.toNat) = s2 at A2 A3
  generalize str (vt num.toNat ++ [ob op]) = s1 at A1 A2
  have n1 : 0 ≤ num := by omega
  have n2 : num ≤ 1000000000 := by omega
  have n3 : 0 ≤ v := by omega
  have n4 : v ≤ 1000000000 := by omega
  unfold ordV at HO ⊢
  clear h hB hl1 hl2 hl3 p2
  go_enter Tryz.func71, Tryz.ntmps71
  go_wp2_with (go_at_call 100; refine HO.out.mono ?_; rintro e w1 ⟨rfl, hb1, q0, q1, q2, q3, z1⟩; refine Hid.out ?_)
  refine (show ∀ {p : Prop}, p → Hid p from fun h => h) ?_
  have KC : Hid (∀ W, Below w1.heap.size w1 W → (W.cell? ⟨w.heap.size, 0, none⟩ = some (.int .i64 num) ∧ W.cell? ⟨w.heap.size, 1, none⟩ = some (.int .i64 op) ∧ W.cell? ⟨w.heap.size, 2, none⟩ = some (.slice a k c) ∧ W.cell? ⟨w.heap.size, 3, none⟩ = some (.int .i64 v))) := fun W hW =>
    ⟨by rw [hW.cell z1]; exact q0, by rw [hW.cell z1]; exact q1, by rw [hW.cell z1]; exact q2, by rw [hW.cell z1]; exact q3⟩
  have Z1 : Hid (∀ W, Below w1.heap.size w1 W → Below w.heap.size w W) := fun W hW => hb1.trans (hW.mono hb1.size)
  have B0 : Below w1.heap.size w1 w1.drew := (Below.refl _ _).drew
  go_wp2
  go_region_held3 (fun u => Below w1.heap.size w1 u ∧ (u.cell? ⟨w.heap.size, 0, none⟩ = some (.int .i64 num) ∧ u.cell? ⟨w.heap.size, 1, none⟩ = some (.int .i64 op) ∧ u.cell? ⟨w.heap.size, 2, none⟩ = some (.slice a k c) ∧ u.cell? ⟨w.heap.size, 3, none⟩ = some (.int .i64 v)))
    (first | exact ⟨B4, KC.out _ B4⟩ | exact ⟨B3, KC.out _ B3⟩ | exact ⟨B2, KC.out _ B2⟩ | exact ⟨B1, KC.out _ B1⟩ | exact ⟨B0, KC.out _ B0⟩)
    (first
    | (go_at_call 98; refine (HE.out _ (Z1.out _ B3)).mono ?_; rintro e w5 ⟨rfl, hb5⟩; have B4 := B3.trans (hb5.mono B3.size))
    | (go_at_call 58; refine (HN.out _ _ (by first | exact n1 | exact n3) (by first | exact n2 | exact n4)).mono ?_; rintro e w4 ⟨rfl, hb4⟩; (first | (have B3 := B2.trans (hb4.mono B2.size)) | (have B1 := B0.trans (hb4.mono B0.size))))
    | (go_at_call 99; refine (HY.out _).mono ?_; rintro e w3 ⟨rfl, hb3⟩; have B2 := B1.trans (hb3.mono B1.size)))
  all_goals
    go_wp2
    go_ret2
    exact ⟨by rw [← FN.out]; rfl, Z1.out _ B4⟩

theorem sOrderText_any (n num op : Int) (es : List EdgeV) (v : Int) (k : Nat) (a : Option Addr) (c : Nat) (hk : k ≤ 1048576) (w : World) (h : Es w w.heap.size a k es) :
    Calls Tryz.prog 71 #[.int .i64 n, ordV num op a k c v] w fun e w' => e = .returned (otV n ⟨num, op, es, v⟩) ∧ Below w.heap.size w w' := by
  cases hB : oB n ⟨num, op, es, v⟩ with
  | false => rw [otV_no hB]; exact sOrderText_no n num op es v k a c hk w h hB
  | true => rw [otV_yes hB]; exact sOrderText_yes n num op es v k a c hk w h hB
end Go.Proofs.YthnibebljbljdaaGreatDoor
