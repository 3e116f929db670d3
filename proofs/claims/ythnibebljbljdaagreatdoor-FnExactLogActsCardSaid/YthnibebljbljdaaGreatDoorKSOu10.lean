/- The specification's AnswerText. The specification's OrderText. -/
import Derived.Test.YthnibebljbljdaaGreatDoorKRp14
import Derived.Test.YthnibebljbljdaaGreatDoorKSOt10
namespace Go.Proofs.YthnibebljbljdaaGreatDoor
open Go.RowKit Vt

/-- an answer's text, or none -/
def atV (n : Int) (o : AnsV) : Value := if aB n o then .tuple #[.string (str (aText o)), .bool true] else .tuple #[.string ⟨#[]⟩, .bool false]
theorem atV_yes {n : Int} {o : AnsV} (h : aB n o = true) : atV n o = .tuple #[.string (str (aText o)), .bool true] := by unfold atV; rw [h]; rfl
theorem atV_no {n : Int} {o : AnsV} (h : aB n o = false) : atV n o = .tuple #[.string ⟨#[]⟩, .bool false] := by unfold atV; rw [h]; rfl

theorem l09Flag_any (b : Bool) (w : World) : Calls Tryz.prog 97 #[.bool b] w fun e w' => e = .returned (.string (str [okb b])) ∧ w' = w := by
  cases b
  · go_enter Tryz.func97, Tryz.ntmps97
    go_wp2
    go_ret
    exact ⟨rfl, rfl⟩
  · go_enter Tryz.func97, Tryz.ntmps97
    go_wp2
    go_ret
    exact ⟨rfl, rfl⟩

theorem et_len {es : List EdgeV} (h : es.length ≤ 100) : (et es).length ≤ 205 := by
  unfold et
  rw [List.length_append, eb_length]
  have := vt_le5 es.length (by omega)
  omega

set_option maxRecDepth 100000 in
set_option maxHeartbeats 4000000 in
theorem sAnswerText_no (n num : Int) (ok : Bool) (es : List EdgeV) (ls : List Int) (k : Nat) (a : Option Addr) (c : Nat) (hk : k ≤ 1048576) (k' : Nat) (a' : Option Addr) (c' : Nat) (hk' : k' ≤ 1048576) (w : World) (h : Es w w.heap.size a k es) (h' : Is w w.heap.size a' k' ls) (hB : aB n ⟨num, ok, es, ls⟩ = false) :
    Calls Tryz.prog 69 #[.int .i64 n, ansV num ok a k c a' k' c'] w fun e w' => e = .returned (.tuple #[.string ⟨#[]⟩, .bool false]) ∧ Below w.heap.size w w' := by
  have HO := hideIt (sAnswerOk_any n num ok es ls k a c hk k' a' c' hk' (w.alloc (.cells #[.int .i64 num, .bool ok, .slice a k c, .slice a' k' c'] 53)) ((h.alloc (Nat.le_refl _) _).mono (by simp)) (h'.alloc _))
  rw [hB] at HO
  unfold ansV at HO ⊢
  clear h h' hB
  go_enter Tryz.func69, Tryz.ntmps69
  go_wp2_with (go_at_call 96; refine HO.out.mono ?_; rintro e w1 ⟨rfl, hb⟩)
  go_ret2
  exact ⟨rfl, (bel1 _ _).trans (hb.mono (by simp))⟩

set_option maxRecDepth 100000 in
set_option maxHeartbeats 4000000 in
theorem sAnswerText_yes (n num : Int) (ok : Bool) (es : List EdgeV) (ls : List Int) (k : Nat) (a : Option Addr) (c : Nat) (hk : k ≤ 1048576) (k' : Nat) (a' : Option Addr) (c' : Nat) (hk' : k' ≤ 1048576) (w : World) (h : Es w w.heap.size a k es) (h' : Is w w.heap.size a' k' ls) (hB : aB n ⟨num, ok, es, ls⟩ = true) :
    Calls Tryz.prog 69 #[.int .i64 n, ansV num ok a k c a' k' c'] w fun e w' => e = .returned (.tuple #[.string (str (aText ⟨num, ok, es, ls⟩)), .bool true]) ∧ Below w.heap.size w w' := by
  obtain ⟨p0, p1, p2, p3⟩ := aB_parts hB
  dsimp only at p1 p2 p3
  obtain ⟨p4, p5⟩ := lB_bytes p0.2 p3
  have hk3 : (k' : Int) = n := by rw [← h'.1]; exact p4
  have HO : Hid (Calls Tryz.prog 96 #[.int .i64 n, ansV num ok a k c a' k' c'] (w.alloc (.cells #[.int .i64 num, .bool ok, .slice a k c, .slice a' k' c'] 53)) fun e w' => e = .returned (.bool true) ∧ Below w.heap.size w w' ∧
      w'.cell? ⟨w.heap.size, 0, none⟩ = some (.int .i64 num) ∧ w'.cell? ⟨w.heap.size, 1, none⟩ = some (.bool ok) ∧ w'.cell? ⟨w.heap.size, 2, none⟩ = some (.slice a k c) ∧ w'.cell? ⟨w.heap.size, 3, none⟩ = some (.slice a' k' c') ∧ w.heap.size < w'.heap.size) :=
    (sAnswerOk_any n num ok es ls k a c hk k' a' c' hk' (w.alloc (.cells #[.int .i64 num, .bool ok, .slice a k c, .slice a' k' c'] 53)) ((h.alloc (Nat.le_refl _) _).mono (by simp)) (h'.alloc _)).mono fun _ _ ⟨he, hb⟩ =>
      ⟨by rw [he, hB], (bel1 _ _).trans (hb.mono (by simp)), by rw [hb.cell (by simp)]; simp, by rw [hb.cell (by simp)]; simp, by rw [hb.cell (by simp)]; simp, by rw [hb.cell (by simp)]; simp, by have := hb.size; simp at this; omega⟩
  have HN := hideIt (l01Var_str num (by omega) (by omega))
  have HF := hideIt (l09Flag_any ok)
  have HE : Hid (∀ W, Below w.heap.size w W → Calls Tryz.prog 98 #[.slice a k c] W fun e w' => e = .returned (.string (str (et es))) ∧ Below W.heap.size W w') := fun W hW => l09Edges_any es k a c (by have := h.1; omega) p2.1 W (h.up hW)
  have hl1 := vt_le5 num.toNat (by omega)
  have hl3 := et_len (es := es) (by omega)
  have A1 : ∀ wx, (Op.stringOp .add (str (vt num.toNat)) (str [okb ok])).run Tryz.prog wx = .ok (.string (str (vt num.toNat ++ [okb ok]))) wx := str_add _ _ (by simp; omega)
  have A2 : ∀ wx, (Op.stringOp .add (str (vt num.toNat ++ [okb ok])) (str (et es))).run Tryz.prog wx = .ok (.string (str (vt num.toNat ++ [okb ok] ++ et es))) wx := str_add _ _ (by simp; omega)
  have HFN : Hid (vt num.toNat ++ [okb ok] ++ et es ++ ls.map ob = aText ⟨num, ok, es, ls⟩) := by show _ = _; unfold aText; simp [okb]
  have HLn : Hid ((vt num.toNat ++ [okb ok] ++ et es).length ≤ 220) := by show _ ≤ _; simp; omega
  generalize hT : vt num.toNat ++ [okb ok] ++ et es = T0 at A2 HFN HLn
  generalize str (vt num.toNat ++ [okb ok]) = s1 at A1 A2
  have H' := hideIt h'
  have HP5 := hideIt p5
  unfold ansV at HO ⊢
  subst hk3
  clear h h' hB hl1 hl3 p2 hT p3 p4 p5
  go_enter Tryz.func69, Tryz.ntmps69
  go_wp2_with (go_at_call 96; refine HO.out.mono ?_; rintro e w1 ⟨rfl, hb1, q0, q1, q2, q3, z1⟩; refine Hid.out ?_)
  refine (show ∀ {p : Prop}, p → Hid p from fun h => h) ?_
  have KC : Hid (∀ W, Below w1.heap.size w1 W → (W.cell? ⟨w.heap.size, 0, none⟩ = some (.int .i64 num) ∧ W.cell? ⟨w.heap.size, 1, none⟩ = some (.bool ok) ∧ W.cell? ⟨w.heap.size, 2, none⟩ = some (.slice a k c) ∧ W.cell? ⟨w.heap.size, 3, none⟩ = some (.slice a' k' c'))) := fun W hW =>
    ⟨by rw [hW.cell z1]; exact q0, by rw [hW.cell z1]; exact q1, by rw [hW.cell z1]; exact q2, by rw [hW.cell z1]; exact q3⟩
  have Z1 : Hid (∀ W, Below w1.heap.size w1 W → Below w.heap.size w W) := fun W hW => hb1.trans (hW.mono hb1.size)
  have B0 : Below w1.heap.size w1 w1.drew := (Below.refl _ _).drew
  clear HO
  go_wp2
  go_region_held3 (fun u => Below w1.heap.size w1 u ∧ (u.cell? ⟨w.heap.size, 0, none⟩ = some (.int .i64 num) ∧ u.cell? ⟨w.heap.size, 1, none⟩ = some (.bool ok) ∧ u.cell? ⟨w.heap.size, 2, none⟩ = some (.slice a k c) ∧ u.cell? ⟨w.heap.size, 3, none⟩ = some (.slice a' k' c')))
    (first | exact ⟨B2, KC.out _ B2⟩ | exact ⟨B1, KC.out _ B1⟩ | exact ⟨B0, KC.out _ B0⟩)
    (first
    | (go_at_call 98; refine (HE.out _ (Z1.out _ B1)).mono ?_; rintro e w5 ⟨rfl, hb5⟩; have B2 := B1.trans (hb5.mono B1.size))
    | (go_at_call 97; refine (HF.out _).mono ?_; rintro e w3 ⟨rfl, rfl⟩)
    | (go_at_call 58; refine (HN.out _).mono ?_; rintro e w2 ⟨rfl, hb2⟩; have B1 := B0.trans (hb2.mono B0.size)))
  go_wp2
  go_loopw [6, 7] (fun t i wr => ∃ (j : Nat) (L : List UInt8), j ≤ k' ∧ i = .int .i64 (j : Int) ∧ t = .string (str L) ∧ Hid (L = T0 ++ (ls.take j).map ob) ∧ Below w1.heap.size w1 wr) (fun _ i _ => k' - (intOf i).toNat)
  case atStart => exact ⟨0, T0, by omega, rfl, rfl, by show _ = _; simp, B2⟩
  case round =>
    obtain ⟨j, L, hj, rfl, rfl, hL, hb⟩ := hrel
    by_cases hlt : j < k'
    · have h9 := H'.out
      rcases h9.2 with hz | ⟨b, off, rfl, hbl, hc⟩
      · omega
      · obtain ⟨x, hx⟩ : ∃ x, ls[j]? = some x := ⟨ls[j]'(by have := h9.1; omega), List.getElem?_eq_getElem (by have := h9.1; omega)⟩
        have c0 : wr.cell? ⟨b, off + j, none⟩ = some (.int .i64 x) := by rw [(Z1.out _ hb).cell hbl]; exact hc j x hx
        obtain ⟨x1, x2⟩ := HP5.out x (List.mem_of_getElem? hx)
        obtain ⟨k0, k1, k2, k3⟩ := KC.out _ hb
        have b1 : (0 : Int) ≤ (j : Int) := by omega
        have b2 : (j : Int) < (k' : Int) := by omega
        have hle : L.length ≤ 300 := by rw [hL.out, List.length_append]; have := HLn.out; simp; omega
        have A5 : ∀ wx, (Op.stringOp .add (str L) (str [ob x])).run Tryz.prog wx = .ok (.string (str (L ++ [ob x]))) wx := str_add _ _ (by simp; omega)
        have HL1 : Hid (L ++ [ob x] = T0 ++ (ls.take (j + 1)).map ob) := by show _ = _; rw [take_snocF ls j x hx, hL.out]; simp
        have HY := hideIt (l09Byte_any x x1 x2)
        clear hc hx h9 hL hle
        go_wp2_with (go_at_call 99; refine (HY.out _).mono ?_; rintro e w6 ⟨rfl, hb6⟩)
        refine ⟨⟨j + 1, _, by omega, by go_num, rfl, HL1, hb.trans (hb6.mono hb.size)⟩, by simp [intOf]; omega⟩
    · have hz : Hid (L = aText ⟨num, ok, es, ls⟩) := by
        show _ = _
        rw [hL.out, List.take_of_length_le (by have := H'.out.1; omega), HFN.out]
      clear hL
      go_wp2
      go_ret2
      exact ⟨by rw [← hz.out]; rfl, Z1.out _ hb⟩

theorem sAnswerText_any (n num : Int) (ok : Bool) (es : List EdgeV) (ls : List Int) (k : Nat) (a : Option Addr) (c : Nat) (hk : k ≤ 1048576) (k' : Nat) (a' : Option Addr) (c' : Nat) (hk' : k' ≤ 1048576) (w : World) (h : Es w w.heap.size a k es) (h' : Is w w.heap.size a' k' ls) :
    Calls Tryz.prog 69 #[.int .i64 n, ansV num ok a k c a' k' c'] w fun e w' => e = .returned (atV n ⟨num, ok, es, ls⟩) ∧ Below w.heap.size w w' := by
  cases hB : aB n ⟨num, ok, es, ls⟩ with
  | false => rw [atV_no hB]; exact sAnswerText_no n num ok es ls k a c hk k' a' c' hk' w h h' hB
  | true => rw [atV_yes hB]; exact sAnswerText_yes n num ok es ls k a c hk k' a' c' hk' w h h' hB
end Go.Proofs.YthnibebljbljdaaGreatDoor
namespace Go.Proofs.YthnibebljbljdaaGreatDoor
open Go.RowKit Vt

set_option maxRecDepth 100000 in
set_option maxHeartbeats 4000000 in
theorem sOrderText_no (n num op : Int) (es : List EdgeV) (v : Int) (k : Nat) (a : Option Addr) (c : Nat) (hk : k ≤ 1048576) (w : World) (h : Es w w.heap.size a k es) (hB : oB n ⟨num, op, es, v⟩ = false) :
    Calls Tryz.prog 71 #[.int .i64 n, ordV num op a k c v] w fun e w' => e = .returned (.tuple #[.string ⟨#[]⟩, .bool false]) ∧ Below w.heap.size w w' := by
  have HO := hideIt (sOrderOk_any n num op es v k a c hk (w.alloc (.cells #[.int .i64 num, .int .i64 op, .slice a k c, .int .i64 v] 55)) ((h.alloc (Nat.le_refl _) _).mono (by simp)))
  rw [hB] at HO
  unfold ordV at HO ⊢
  clear h hB
  go_enter Tryz.func71, Tryz.ntmps71
  go_wp2_with (go_at_call 100; refine HO.out.mono ?_; rintro e w1 ⟨rfl, hb⟩)
  go_ret2
  exact ⟨rfl, (bel1 _ _).trans (hb.mono (by simp))⟩

set_option maxRecDepth 100000 in
set_option maxHeartbeats 4000000 in
theorem sOrderText_yes (n num op : Int) (es : List EdgeV) (v : Int) (k : Nat) (a : Option Addr) (c : Nat) (hk : k ≤ 1048576) (w : World) (h : Es w w.heap.size a k es) (hB : oB n ⟨num, op, es, v⟩ = true) :
    Calls Tryz.prog 71 #[.int .i64 n, ordV num op a k c v] w fun e w' => e = .returned (.tuple #[.string (str (oText ⟨num, op, es, v⟩)), .bool true]) ∧ Below w.heap.size w w' := by
  obtain ⟨p0, p1, p2, p3, p4⟩ := oB_parts hB
  dsimp only at p1 p2 p3 p4
  have HO : Hid (Calls Tryz.prog 100 #[.int .i64 n, ordV num op a k c v] (w.alloc (.cells #[.int .i64 num, .int .i64 op, .slice a k c, .int .i64 v] 55)) fun e w' => e = .returned (.bool true) ∧ Below w.heap.size w w' ∧
      w'.cell? ⟨w.heap.size, 0, none⟩ = some (.int .i64 num) ∧ w'.cell? ⟨w.heap.size, 1, none⟩ = some (.int .i64 op) ∧ w'.cell? ⟨w.heap.size, 2, none⟩ = some (.slice a k c) ∧ w'.cell? ⟨w.heap.size, 3, none⟩ = some (.int .i64 v) ∧ w.heap.size < w'.heap.size) :=
    (sOrderOk_any n num op es v k a c hk (w.alloc (.cells #[.int .i64 num, .int .i64 op, .slice a k c, .int .i64 v] 55)) ((h.alloc (Nat.le_refl _) _).mono (by simp))).mono fun _ _ ⟨he, hb⟩ =>
      ⟨by rw [he, hB], (bel1 _ _).trans (hb.mono (by simp)), by rw [hb.cell (by simp)]; simp, by rw [hb.cell (by simp)]; simp, by rw [hb.cell (by simp)]; simp, by rw [hb.cell (by simp)]; simp, by have := hb.size; simp at this; omega⟩
  have HN : Hid (∀ (x : Int) (W : World), 0 ≤ x → x ≤ 1000000000 → Calls Tryz.prog 58 #[.int .i64 x] W fun e w' => e = .returned (.string (str (vt x.toNat))) ∧ Below W.heap.size W w') := fun x W h0 h1 => l01Var_str x h0 h1 W
  have HY := hideIt (l09Byte_any op (by omega) (by omega))
  have HE : Hid (∀ W, Below w.heap.size w W → Calls Tryz.prog 98 #[.slice a k c] W fun e w' => e = .returned (.string (str (et es))) ∧ Below W.heap.size W w') := fun W hW => l09Edges_any es k a c (by have := h.1; omega) p2.1 W (h.up hW)
  have hl1 := vt_le5 num.toNat (by omega)
  have hl2 := vt_le5 v.toNat (by omega)
  have hl3 : (et es).length ≤ 205 := by
    unfold et
    rw [List.length_append, eb_length]
    have := vt_le5 es.length (by omega)
    omega
  have A1 : ∀ wx, (Op.stringOp .add (str (vt num.toNat)) (str [ob op])).run Tryz.prog wx = .ok (.string (str (vt num.toNat ++ [ob op]))) wx := str_add _ _ (by simp; omega)
  have A2 : ∀ wx, (Op.stringOp .add (str (vt num.toNat ++ [ob op])) (str (vt v.toNat))).run Tryz.prog wx = .ok (.string (str (vt num.toNat ++ [ob op] ++ vt v.toNat))) wx := str_add _ _ (by simp; omega)
  have A3 : ∀ wx, (Op.stringOp .add (str (vt num.toNat ++ [ob op] ++ vt v.toNat)) (str (et es))).run Tryz.prog wx = .ok (.string (str (vt num.toNat ++ [ob op] ++ vt v.toNat ++ et es))) wx := str_add _ _ (by simp; omega)
  have FN : Hid (str (vt num.toNat ++ [ob op] ++ vt v.toNat ++ et es) = str (oText ⟨num, op, es, v⟩)) := by show _ = _; unfold oText; simp
  generalize str (vt num.toNat ++ [ob op] ++ vt v.toNat ++ et es) = s3 at A3 FN
  generalize str (vt num.toNat ++ [ob op] ++ vt v.toNat) = s2 at A2 A3
  generalize str (vt num.toNat ++ [ob op]) = s1 at A1 A2
  have n1 : 0 ≤ num := by omega
  have n2 : num ≤ 1000000000 := by omega
  have n3 : 0 ≤ v := by omega
  have n4 : v ≤ 1000000000 := by omega
  unfold ordV at HO ⊢
  clear h hB hl1 hl2 hl3 p2
  go_enter Tryz.func71, Tryz.ntmps71
  go_wp2_with (go_at_call 100; refine HO.out.mono ?_; rintro e w1 ⟨rfl, hb1, q0, q1, q2, q3, z1⟩; refine Hid.out ?_)
  refine (show ∀ {p : Prop}, p → Hid p from fun h => h) ?_
  have KC : Hid (∀ W, Below w1.heap.size w1 W → (W.cell? ⟨w.heap.size, 0, none⟩ = some (.int .i64 num) ∧ W.cell? ⟨w.heap.size, 1, none⟩ = some (.int .i64 op) ∧ W.cell? ⟨w.heap.size, 2, none⟩ = some (.slice a k c) ∧ W.cell? ⟨w.heap.size, 3, none⟩ = some (.int .i64 v))) := fun W hW =>
    ⟨by rw [hW.cell z1]; exact q0, by rw [hW.cell z1]; exact q1, by rw [hW.cell z1]; exact q2, by rw [hW.cell z1]; exact q3⟩
  have Z1 : Hid (∀ W, Below w1.heap.size w1 W → Below w.heap.size w W) := fun W hW => hb1.trans (hW.mono hb1.size)
  have B0 : Below w1.heap.size w1 w1.drew := (Below.refl _ _).drew
  go_wp2
  go_region_held3 (fun u => Below w1.heap.size w1 u ∧ (u.cell? ⟨w.heap.size, 0, none⟩ = some (.int .i64 num) ∧ u.cell? ⟨w.heap.size, 1, none⟩ = some (.int .i64 op) ∧ u.cell? ⟨w.heap.size, 2, none⟩ = some (.slice a k c) ∧ u.cell? ⟨w.heap.size, 3, none⟩ = some (.int .i64 v)))
    (first | exact ⟨B4, KC.out _ B4⟩ | exact ⟨B3, KC.out _ B3⟩ | exact ⟨B2, KC.out _ B2⟩ | exact ⟨B1, KC.out _ B1⟩ | exact ⟨B0, KC.out _ B0⟩)
    (first
    | (go_at_call 98; refine (HE.out _ (Z1.out _ B3)).mono ?_; rintro e w5 ⟨rfl, hb5⟩; have B4 := B3.trans (hb5.mono B3.size))
    | (go_at_call 58; refine (HN.out _ _ (by first | exact n1 | exact n3) (by first | exact n2 | exact n4)).mono ?_; rintro e w4 ⟨rfl, hb4⟩; (first | (have B3 := B2.trans (hb4.mono B2.size)) | (have B1 := B0.trans (hb4.mono B0.size))))
    | (go_at_call 99; refine (HY.out _).mono ?_; rintro e w3 ⟨rfl, hb3⟩; have B2 := B1.trans (hb3.mono B1.size)))
  all_goals
    go_wp2
    go_ret2
    exact ⟨by rw [← FN.out]; rfl, Z1.out _ B4⟩

theorem sOrderText_any (n num op : Int) (es : List EdgeV) (v : Int) (k : Nat) (a : Option Addr) (c : Nat) (hk : k ≤ 1048576) (w : World) (h : Es w w.heap.size a k es) :
    Calls Tryz.prog 71 #[.int .i64 n, ordV num op a k c v] w fun e w' => e = .returned (otV n ⟨num, op, es, v⟩) ∧ Below w.heap.size w w' := by
  cases hB : oB n ⟨num, op, es, v⟩ with
  | false => rw [otV_no hB]; exact sOrderText_no n num op es v k a c hk w h hB
  | true => rw [otV_yes hB]; exact sOrderText_yes n num op es v k a c hk w h hB
end Go.Proofs.YthnibebljbljdaaGreatDoor
