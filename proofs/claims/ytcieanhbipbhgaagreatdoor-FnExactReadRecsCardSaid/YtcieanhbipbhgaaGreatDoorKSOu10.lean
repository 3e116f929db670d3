/- The program's texts of numbers, of edges and of what an order wants done. The text of what an order wants done. The methods that tell what an order wants done as a text. The specification's OrderText. The specification's AnswerText. The specification's OrderText. -/
import Derived.Test.YtcieanhbipbhgaaGreatDoorKRow10
import Derived.Test.YtcieanhbipbhgaaGreatDoorKIUnseal
import Derived.Test.YtcieanhbipbhgaaGreatDoorKAOk10
import Derived.Test.YtcieanhbipbhgaaGreatDoorKBq14
import Derived.Test.YtcieanhbipbhgaaGreatDoorKRp14
namespace Go.Proofs.YtcieanhbipbhgaaGreatDoor
open Go.RowKit Vt

/-- bytes as a text -/
def str (L : List UInt8) : ByteArray := ⟨L.toArray⟩
theorem str_size (L : List UInt8) : (str L).size = L.length := by simp [str, ByteArray.size]
theorem str_app (L M : List UInt8) : str L ++ str M = str (L ++ M) := by
  apply ByteArray.ext
  simp [str, ByteArray.data_append]
theorem str_list (L : List UInt8) : (str L).data.toList = L := by simp [str]
theorem str_add {P : Program} (L M : List UInt8) (h : L.length + M.length ≤ 1000000) (w : World) : (Op.stringOp .add (str L) (str M)).run P w = .ok (.string (str (L ++ M))) w := by
  rw [run_string_add_sum w _ _ (by rw [str_size, str_size]; omega), str_app]

theorem vt_le5 (n : Nat) (h : n ≤ 1000000000) : (vt n).length ≤ 5 := vt_len 4 n (by
  have : (128 : Nat) ^ (4 + 1) = 34359738368 := by decide
  omega)

theorem two_new (w : World) (a b : UInt8) (x y : Int) (hx : (a.toNat : Int) = x) (hy : (b.toNat : Int) = y) (t : TypeId) : ∀ j u, (bv [a, b])[j]? = some u → (w.alloc (.cells #[.int .u8 x, .int .u8 y] t)).cell? ((⟨w.heap.size, 0, none⟩ : Addr).add j) = some u := by
  subst hx hy
  intro j u hj
  match j, hj with
  | 0, hj => simp [bv] at hj; subst hj; simp [Addr.add]
  | 1, hj => simp [bv] at hj; subst hj; simp [Addr.add]

theorem one_newG (w : World) (a : UInt8) (x : Int) (hx : (a.toNat : Int) = x) (t : TypeId) : ∀ j u, (bv [a])[j]? = some u → (w.alloc (.cells #[.int .u8 x] t)).cell? ((⟨w.heap.size, 0, none⟩ : Addr).add j) = some u := by
  subst hx
  intro j u hj
  match j, hj with
  | 0, hj => simp [bv] at hj; subst hj; simp [Addr.add]

end Go.Proofs.YtcieanhbipbhgaaGreatDoor
namespace Go.Proofs.YtcieanhbipbhgaaGreatDoor
open Go.RowKit Vt

theorem conv_g (g : Nat) (b : UInt8) (x : Int) (hx : (b.toNat : Int) = x) (W : World) (h : W.cell? ⟨g, 0, none⟩ = some (.int .u8 x)) :
    (convert 86 9 (.slice (some ⟨g, 0, none⟩) 1 1)).run Tryz.prog W = .ok (.string (str [b])) W := by
  subst hx
  refine run_convert_bytes_back (P := Tryz.prog) W 86 9 5 ⟨g, 0, none⟩ 1 [b] Tryz.underlying86 Tryz.underlying5 Tryz.underlying9 ?_
  intro j hj
  match j, hj with
  | 0, _ => exact h

theorem new_then1 (w : World) (x : Value) {w1 : World} (hb : Below (w.alloc (.cells #[x] 5)).heap.size (w.alloc (.cells #[x] 5)) w1) : w1.cell? ⟨w.heap.size, 0, none⟩ = some x ∧ w.heap.size < w1.heap.size :=
  ⟨by rw [hb.cell (by simp)]; simp, by have := hb.size; simp at this; omega⟩
/-- what was new ahead of a call stands there behind it -/
theorem new_then (w : World) (x : Value) {w1 : World} (hb : Below (w.drew.alloc (.cells #[x] 5)).heap.size (w.drew.alloc (.cells #[x] 5)) w1) : w1.cell? ⟨w.heap.size, 0, none⟩ = some x ∧ w.heap.size < w1.heap.size :=
  new_then1 w.drew x hb
theorem old_then {w w1 : World} {g : Nat} {x : Value} (h : w.cell? ⟨g, 0, none⟩ = some x ∧ g < w.heap.size) (hb : Below w.heap.size w w1) : w1.cell? ⟨g, 0, none⟩ = some x ∧ g < w1.heap.size :=
  ⟨by rw [hb.cell h.2]; exact h.1, Nat.lt_of_lt_of_le h.2 hb.size⟩

end Go.Proofs.YtcieanhbipbhgaaGreatDoor
namespace Go.Proofs.YtcieanhbipbhgaaGreatDoor
open Go.RowKit Vt

theorem ob1 : ((1 : UInt8).toNat : Int) = 1 := rfl

theorem es_one (w : World) (f : EdgeV) (t : TypeId) : Es (w.alloc (.cells #[.int .i64 f.1, .int .i64 f.2] t)) (w.alloc (.cells #[.int .i64 f.1, .int .i64 f.2] t)).heap.size (some ⟨w.heap.size, 0, none⟩) 1 [f] := by
  refine ⟨rfl, .inr ⟨w.heap.size, 0, rfl, by simp, fun j g hg => ?_⟩⟩
  match j, hg with
  | 0, hg => simp at hg; subst hg; simp

/-- an order's text, or none -/
def otV (n : Int) (o : OrdV) : Value := if oB n o then .tuple #[.string (str (oText o)), .bool true] else .tuple #[.string ⟨#[]⟩, .bool false]
theorem otV_yes {n : Int} {o : OrdV} (h : oB n o = true) : otV n o = .tuple #[.string (str (oText o)), .bool true] := by unfold otV; rw [h]; rfl
theorem otV_no {n : Int} {o : OrdV} (h : oB n o = false) : otV n o = .tuple #[.string ⟨#[]⟩, .bool false] := by unfold otV; rw [h]; rfl

end Go.Proofs.YtcieanhbipbhgaaGreatDoor
namespace Go.Proofs.YtcieanhbipbhgaaGreatDoor
open Go.RowKit Vt

theorem l01Var_str (x : Int) (h0 : 0 ≤ x) (h1 : x ≤ 1000000000) (w : World) :
    Calls Tryz.prog 27 #[.int .i64 x] w fun e w' => e = .returned (.string (str (vt x.toNat))) ∧ Below w.heap.size w w' := by
  obtain ⟨N, rfl⟩ := Int.eq_ofNat_of_zero_le h0
  exact l01Var_any N (by omega) w

theorem l09Byte_any (x : Int) (h0 : 0 ≤ x) (h1 : x < 256) (w : World) :
    Calls Tryz.prog 54 #[.int .i64 x] w fun e w' => e = .returned (.string (str [ob x])) ∧ Below w.heap.size w w' := by
  have CV : ∀ (g : Nat) (W : World), W.cell? ⟨g, 0, none⟩ = some (.int .u8 x) → (convert 86 9 (.slice (some ⟨g, 0, none⟩) 1 1)).run Tryz.prog W = .ok (.string (str [ob x])) W := fun g W hW => conv_g g (ob x) x (ob_back ⟨h0, h1⟩) W hW
  go_enter Tryz.func54, Tryz.ntmps54
  go_wp2
  go_ret
  exact ⟨rfl, bel1 _ _⟩

set_option maxRecDepth 100000 in
set_option maxHeartbeats 4000000 in
theorem l09Edges_any (es : List EdgeV) (k : Nat) (a : Option Addr) (c : Nat) (hk : k ≤ 100) (hby : EB8 es) (w : World) (h : Es w w.heap.size a k es) :
    Calls Tryz.prog 53 #[.slice a k c] w fun e w' => e = .returned (.string (str (et es))) ∧ Below w.heap.size w w' := by
  obtain ⟨hlen, hrow⟩ := h
  have HR := hideIt hrow
  have HL := hideIt hlen
  have HN := hideIt (l01Var_str (k : Int) (by omega) (by omega) w)
  rw [Int.toNat_natCast] at HN
  have hv5 := vt_le5 k (by omega)
  have HB := hideIt hby
  clear hrow hby
  go_enter Tryz.func53, Tryz.ntmps53
  go_wp2_with (go_at_call 27; refine HN.out.mono ?_; rintro e w1 ⟨rfl, hb1⟩)
  clear HN
  go_loopw [3, 4] (fun s i wr => ∃ (j : Nat) (L : List UInt8), j ≤ k ∧ i = .int .i64 (j : Int) ∧ s = .string (str L) ∧ Hid (L = vt k ++ eb (es.take j)) ∧ Below w.heap.size w wr) (fun _ i _ => k - (intOf i).toNat)
  case atStart => exact ⟨0, vt k, by omega, rfl, rfl, by show _ = _; simp [eb], hb1⟩
  case round =>
    obtain ⟨j, L, hj, rfl, rfl, hL, hb⟩ := hrel
    by_cases hlt : j < k
    · rcases HR.out with hz | ⟨b, off, rfl, hbl, hc⟩
      · omega
      · obtain ⟨f, hf⟩ : ∃ f, es[j]? = some f := ⟨es[j]'(by omega), List.getElem?_eq_getElem (by omega)⟩
        obtain ⟨c0, c1⟩ := hc j f hf
        obtain ⟨⟨f1, f2⟩, f3, f4⟩ := HB.out f (List.mem_of_getElem? hf)
        have b1 : (0 : Int) ≤ (j : Int) := by omega
        have b2 : (j : Int) < (k : Int) := by omega
        have HTk := hideIt (take_snocF es j f hf)
        have hle : L.length ≤ 205 := by rw [hL.out, List.length_append, eb_length]; simp; omega
        have A1 : ∀ wx, (Op.stringOp .add (str L) (str [ob f.1])).run Tryz.prog wx = .ok (.string (str (L ++ [ob f.1]))) wx := str_add _ _ (by simp; omega)
        have A2 : ∀ wx, (Op.stringOp .add (str (L ++ [ob f.1])) (str [ob f.2])).run Tryz.prog wx = .ok (.string (str (L ++ [ob f.1] ++ [ob f.2]))) wx := str_add _ _ (by simp; omega)
        have HL1 : Hid (L ++ [ob f.1, ob f.2] = vt k ++ eb (es.take (j + 1))) := by show _ = _; rw [HTk.out, eb_append, hL.out]; simp [eb]
        have HK : Hid (∀ W : World, Below w.heap.size w W → (W.cell? ⟨b, off + j * 2, none⟩ = some (.int .i64 f.1) ∧ W.cell? ⟨b, off + j * 2 + 1, none⟩ = some (.int .i64 f.2))) := fun W hW =>
          ⟨by rw [hW.cell hbl]; exact c0, by rw [hW.cell hbl]; exact c1⟩
        have HY : Hid (∀ (x : Int) (W : World), 0 ≤ x → x < 256 → Below w.heap.size w W → Calls Tryz.prog 54 #[.int .i64 x] W fun e w' => e = .returned (.string (str [ob x])) ∧ Below w.heap.size w w') := fun x W h0 h1 hW =>
          (l09Byte_any x h0 h1 W).mono fun _ _ ⟨he, hb⟩ => ⟨he, hW.trans (hb.mono hW.size)⟩
        have B0 := hb.drew
        clear c0 c1 hc hf hL HTk hle
        go_wp2
        go_region_held3 (fun u => Below w.heap.size w u ∧ u.cell? ⟨b, off + j * 2, none⟩ = some (.int .i64 f.1) ∧ u.cell? ⟨b, off + j * 2 + 1, none⟩ = some (.int .i64 f.2))
          (first | exact ⟨B2, HK.out _ B2⟩ | exact ⟨B1, HK.out _ B1⟩ | exact ⟨B0, HK.out _ B0⟩)
          (first
          | (go_at_call 54; refine (HY.out f.2 _ f3 f4 B1).mono ?_; rintro e w3 ⟨rfl, B2⟩)
          | (go_at_call 54; refine (HY.out f.1 _ f1 f2 B0).mono ?_; rintro e w2 ⟨rfl, B1⟩))
        all_goals
          go_wp2
          exact ⟨⟨j + 1, _, by omega, by go_num, rfl, HL1, B2⟩, by simp [intOf]; omega⟩
    · have e : es.take j = es := List.take_of_length_le (by omega)
      have hz : Hid (L = et es) := by show _ = _; rw [hL.out, e]; unfold et; rw [HL.out]
      clear e hL HL hlen
      go_wp2
      go_ret
      exact ⟨by show Ending.returned (.string (str L)) = _; rw [hz.out], hb⟩

end Go.Proofs.YtcieanhbipbhgaaGreatDoor
namespace Go.Proofs.YtcieanhbipbhgaaGreatDoor
open Go.RowKit Vt

/-- an answer's text, or none -/
def atV (n : Int) (o : AnsV) : Value := if aB n o then .tuple #[.string (str (aText o)), .bool true] else .tuple #[.string ⟨#[]⟩, .bool false]
theorem atV_yes {n : Int} {o : AnsV} (h : aB n o = true) : atV n o = .tuple #[.string (str (aText o)), .bool true] := by unfold atV; rw [h]; rfl
theorem atV_no {n : Int} {o : AnsV} (h : aB n o = false) : atV n o = .tuple #[.string ⟨#[]⟩, .bool false] := by unfold atV; rw [h]; rfl

theorem l09Flag_any (b : Bool) (w : World) : Calls Tryz.prog 52 #[.bool b] w fun e w' => e = .returned (.string (str [okb b])) ∧ w' = w := by
  cases b
  · go_enter Tryz.func52, Tryz.ntmps52
    go_wp2
    go_ret
    exact ⟨rfl, rfl⟩
  · go_enter Tryz.func52, Tryz.ntmps52
    go_wp2
    go_ret
    exact ⟨rfl, rfl⟩

theorem et_len {es : List EdgeV} (h : es.length ≤ 100) : (et es).length ≤ 205 := by
  unfold et
  rw [List.length_append, eb_length]
  have := vt_le5 es.length (by omega)
  omega

set_option maxRecDepth 100000 in
set_option maxHeartbeats 4000000 in
theorem sAnswerText_no (n num : Int) (ok : Bool) (es : List EdgeV) (ls : List Int) (k : Nat) (a : Option Addr) (c : Nat) (hk : k ≤ 1048576) (k' : Nat) (a' : Option Addr) (c' : Nat) (hk' : k' ≤ 1048576) (w : World) (h : Es w w.heap.size a k es) (h' : Is w w.heap.size a' k' ls) (hB : aB n ⟨num, ok, es, ls⟩ = false) :
    Calls Tryz.prog 37 #[.int .i64 n, ansV num ok a k c a' k' c'] w fun e w' => e = .returned (.tuple #[.string ⟨#[]⟩, .bool false]) ∧ Below w.heap.size w w' := by
  have HO := hideIt (sAnswerOk_any n num ok es ls k a c hk k' a' c' hk' (w.alloc (.cells #[.int .i64 num, .bool ok, .slice a k c, .slice a' k' c'] 36)) ((h.alloc (Nat.le_refl _) _).mono (by simp)) (h'.alloc _))
  rw [hB] at HO
  unfold ansV at HO ⊢
  clear h h' hB
  go_enter Tryz.func37, Tryz.ntmps37
  go_wp2_with (go_at_call 51; refine HO.out.mono ?_; rintro e w1 ⟨rfl, hb⟩)
  go_ret2
  exact ⟨rfl, (bel1 _ _).trans (hb.mono (by simp))⟩

set_option maxRecDepth 100000 in
set_option maxHeartbeats 4000000 in
theorem sAnswerText_yes (n num : Int) (ok : Bool) (es : List EdgeV) (ls : List Int) (k : Nat) (a : Option Addr) (c : Nat) (hk : k ≤ 1048576) (k' : Nat) (a' : Option Addr) (c' : Nat) (hk' : k' ≤ 1048576) (w : World) (h : Es w w.heap.size a k es) (h' : Is w w.heap.size a' k' ls) (hB : aB n ⟨num, ok, es, ls⟩ = true) :
    Calls Tryz.prog 37 #[.int .i64 n, ansV num ok a k c a' k' c'] w fun e w' => e = .returned (.tuple #[.string (str (aText ⟨num, ok, es, ls⟩)), .bool true]) ∧ Below w.heap.size w w' := by
  obtain ⟨p0, p1, p2, p3⟩ := aB_parts hB
  dsimp only at p1 p2 p3
  obtain ⟨p4, p5⟩ := lB_bytes p0.2 p3
  have hk3 : (k' : Int) = n := by rw [← h'.1]; exact p4
  have HO : Hid (Calls Tryz.prog 51 #[.int .i64 n, ansV num ok a k c a' k' c'] (w.alloc (.cells #[.int .i64 num, .bool ok, .slice a k c, .slice a' k' c'] 36)) fun e w' => e = .returned (.bool true) ∧ Below w.heap.size w w' ∧
      w'.cell? ⟨w.heap.size, 0, none⟩ = some (.int .i64 num) ∧ w'.cell? ⟨w.heap.size, 1, none⟩ = some (.bool ok) ∧ w'.cell? ⟨w.heap.size, 2, none⟩ = some (.slice a k c) ∧ w'.cell? ⟨w.heap.size, 3, none⟩ = some (.slice a' k' c') ∧ w.heap.size < w'.heap.size) :=
    (sAnswerOk_any n num ok es ls k a c hk k' a' c' hk' (w.alloc (.cells #[.int .i64 num, .bool ok, .slice a k c, .slice a' k' c'] 36)) ((h.alloc (Nat.le_refl _) _).mono (by simp)) (h'.alloc _)).mono fun _ _ ⟨he, hb⟩ =>
      ⟨by rw [he, hB], (bel1 _ _).trans (hb.mono (by simp)), by rw [hb.cell (by simp)]; simp, by rw [hb.cell (by simp)]; simp, by rw [hb.cell (by simp)]; simp, by rw [hb.cell (by simp)]; simp, by have := hb.size; simp at this; omega⟩
  have HN := hideIt (l01Var_str num (by omega) (by omega))
  have HF := hideIt (l09Flag_any ok)
  have HE : Hid (∀ W, Below w.heap.size w W → Calls Tryz.prog 53 #[.slice a k c] W fun e w' => e = .returned (.string (str (et es))) ∧ Below W.heap.size W w') := fun W hW => l09Edges_any es k a c (by have := h.1; omega) p2.1 W (h.up hW)
  have hl1 := vt_le5 num.toNat (by omega)
  have hl3 := et_len (es := es) (by omega)
  have A1 : ∀ wx, (Op.stringOp .add (str (vt num.toNat)) (str [okb ok])).run Tryz.prog wx = .ok (.string (str (vt num.toNat ++ [okb ok]))) wx := str_add _ _ (by simp; omega)
  have A2 : ∀ wx, (Op.stringOp .add (str (vt num.toNat ++ [okb ok])) (str (et es))).run Tryz.prog wx = .ok (.string (str (vt num.toNat ++ [okb ok] ++ et es))) wx := str_add _ _ (by simp; omega)
  have HFN : Hid (vt num.toNat ++ [okb ok] ++ et es ++ ls.map ob = aText ⟨num, ok, es, ls⟩) := by show _ = _; unfold aText; simp [okb]
  have HLn : Hid ((vt num.toNat ++ [okb ok] ++ et es).length ≤ 220) := by show _ ≤ _; simp; omega
  generalize hT : vt num.toNat ++ [okb ok] ++ et es = T0 at A2 HFN HLn
  generalize str (vt num.toNat ++ [okb ok]) = s1 at A1 A2
  have H' := hideIt h'
  have HP5 := hideIt p5
  unfold ansV at HO ⊢
  subst hk3
  clear h h' hB hl1 hl3 p2 hT p3 p4 p5
  go_enter Tryz.func37, Tryz.ntmps37
  go_wp2_with (go_at_call 51; refine HO.out.mono ?_; rintro e w1 ⟨rfl, hb1, q0, q1, q2, q3, z1⟩; refine Hid.out ?_)
  refine (show ∀ {p : Prop}, p → Hid p from fun h => h) ?_
  have KC : Hid (∀ W, Below w1.heap.size w1 W → (W.cell? ⟨w.heap.size, 0, none⟩ = some (.int .i64 num) ∧ W.cell? ⟨w.heap.size, 1, none⟩ = some (.bool ok) ∧ W.cell? ⟨w.heap.size, 2, none⟩ = some (.slice a k c) ∧ W.cell? ⟨w.heap.size, 3, none⟩ = some (.slice a' k' c'))) := fun W hW =>
    ⟨by rw [hW.cell z1]; exact q0, by rw [hW.cell z1]; exact q1, by rw [hW.cell z1]; exact q2, by rw [hW.cell z1]; exact q3⟩
  have Z1 : Hid (∀ W, Below w1.heap.size w1 W → Below w.heap.size w W) := fun W hW => hb1.trans (hW.mono hb1.size)
  have B0 : Below w1.heap.size w1 w1.drew := (Below.refl _ _).drew
  clear HO
  go_wp2
  go_region_held3 (fun u => Below w1.heap.size w1 u ∧ (u.cell? ⟨w.heap.size, 0, none⟩ = some (.int .i64 num) ∧ u.cell? ⟨w.heap.size, 1, none⟩ = some (.bool ok) ∧ u.cell? ⟨w.heap.size, 2, none⟩ = some (.slice a k c) ∧ u.cell? ⟨w.heap.size, 3, none⟩ = some (.slice a' k' c')))
    (first | exact ⟨B2, KC.out _ B2⟩ | exact ⟨B1, KC.out _ B1⟩ | exact ⟨B0, KC.out _ B0⟩)
    (first
    | (go_at_call 53; refine (HE.out _ (Z1.out _ B1)).mono ?_; rintro e w5 ⟨rfl, hb5⟩; have B2 := B1.trans (hb5.mono B1.size))
    | (go_at_call 52; refine (HF.out _).mono ?_; rintro e w3 ⟨rfl, rfl⟩)
    | (go_at_call 27; refine (HN.out _).mono ?_; rintro e w2 ⟨rfl, hb2⟩; have B1 := B0.trans (hb2.mono B0.size)))
  go_wp2
  go_loopw [6, 7] (fun t i wr => ∃ (j : Nat) (L : List UInt8), j ≤ k' ∧ i = .int .i64 (j : Int) ∧ t = .string (str L) ∧ Hid (L = T0 ++ (ls.take j).map ob) ∧ Below w1.heap.size w1 wr) (fun _ i _ => k' - (intOf i).toNat)
  case atStart => exact ⟨0, T0, by omega, rfl, rfl, by show _ = _; simp, B2⟩
  case round =>
    obtain ⟨j, L, hj, rfl, rfl, hL, hb⟩ := hrel
    by_cases hlt : j < k'
    · have h9 := H'.out
      rcases h9.2 with hz | ⟨b, off, rfl, hbl, hc⟩
      · omega
      · obtain ⟨x, hx⟩ : ∃ x, ls[j]? = some x := ⟨ls[j]'(by have := h9.1; omega), List.getElem?_eq_getElem (by have := h9.1; omega)⟩
        have c0 : wr.cell? ⟨b, off + j, none⟩ = some (.int .i64 x) := by rw [(Z1.out _ hb).cell hbl]; exact hc j x hx
        obtain ⟨x1, x2⟩ := HP5.out x (List.mem_of_getElem? hx)
        obtain ⟨k0, k1, k2, k3⟩ := KC.out _ hb
        have b1 : (0 : Int) ≤ (j : Int) := by omega
        have b2 : (j : Int) < (k' : Int) := by omega
        have hle : L.length ≤ 300 := by rw [hL.out, List.length_append]; have := HLn.out; simp; omega
        have A5 : ∀ wx, (Op.stringOp .add (str L) (str [ob x])).run Tryz.prog wx = .ok (.string (str (L ++ [ob x]))) wx := str_add _ _ (by simp; omega)
        have HL1 : Hid (L ++ [ob x] = T0 ++ (ls.take (j + 1)).map ob) := by show _ = _; rw [take_snocF ls j x hx, hL.out]; simp
        have HY := hideIt (l09Byte_any x x1 x2)
        clear hc hx h9 hL hle
        go_wp2_with (go_at_call 54; refine (HY.out _).mono ?_; rintro e w6 ⟨rfl, hb6⟩)
        refine ⟨⟨j + 1, _, by omega, by go_num, rfl, HL1, hb.trans (hb6.mono hb.size)⟩, by simp [intOf]; omega⟩
    · have hz : Hid (L = aText ⟨num, ok, es, ls⟩) := by
        show _ = _
        rw [hL.out, List.take_of_length_le (by have := H'.out.1; omega), HFN.out]
      clear hL
      go_wp2
      go_ret2
      exact ⟨by rw [← hz.out]; rfl, Z1.out _ hb⟩

theorem sAnswerText_any (n num : Int) (ok : Bool) (es : List EdgeV) (ls : List Int) (k : Nat) (a : Option Addr) (c : Nat) (hk : k ≤ 1048576) (k' : Nat) (a' : Option Addr) (c' : Nat) (hk' : k' ≤ 1048576) (w : World) (h : Es w w.heap.size a k es) (h' : Is w w.heap.size a' k' ls) :
    Calls Tryz.prog 37 #[.int .i64 n, ansV num ok a k c a' k' c'] w fun e w' => e = .returned (atV n ⟨num, ok, es, ls⟩) ∧ Below w.heap.size w w' := by
  cases hB : aB n ⟨num, ok, es, ls⟩ with
  | false => rw [atV_no hB]; exact sAnswerText_no n num ok es ls k a c hk k' a' c' hk' w h h' hB
  | true => rw [atV_yes hB]; exact sAnswerText_yes n num ok es ls k a c hk k' a' c' hk' w h h' hB
end Go.Proofs.YtcieanhbipbhgaaGreatDoor
namespace Go.Proofs.YtcieanhbipbhgaaGreatDoor
open Go.RowKit Vt

set_option maxRecDepth 100000 in
set_option maxHeartbeats 4000000 in
theorem sOrderText_no (n num op : Int) (es : List EdgeV) (v : Int) (k : Nat) (a : Option Addr) (c : Nat) (hk : k ≤ 1048576) (w : World) (h : Es w w.heap.size a k es) (hB : oB n ⟨num, op, es, v⟩ = false) :
    Calls Tryz.prog 38 #[.int .i64 n, ordV num op a k c v] w fun e w' => e = .returned (.tuple #[.string ⟨#[]⟩, .bool false]) ∧ Below w.heap.size w w' := by
  have HO := hideIt (sOrderOk_any n num op es v k a c hk (w.alloc (.cells #[.int .i64 num, .int .i64 op, .slice a k c, .int .i64 v] 38)) ((h.alloc (Nat.le_refl _) _).mono (by simp)))
  rw [hB] at HO
  unfold ordV at HO ⊢
  clear h hB
  go_enter Tryz.func38, Tryz.ntmps38
  go_wp2_with (go_at_call 55; refine HO.out.mono ?_; rintro e w1 ⟨rfl, hb⟩)
  go_ret2
  exact ⟨rfl, (bel1 _ _).trans (hb.mono (by simp))⟩

set_option maxRecDepth 100000 in
set_option maxHeartbeats 4000000 in
theorem sOrderText_yes (n num op : Int) (es : List EdgeV) (v : Int) (k : Nat) (a : Option Addr) (c : Nat) (hk : k ≤ 1048576) (w : World) (h : Es w w.heap.size a k es) (hB : oB n ⟨num, op, es, v⟩ = true) :
    Calls Tryz.prog 38 #[.int .i64 n, ordV num op a k c v] w fun e w' => e = .returned (.tuple #[.string (str (oText ⟨num, op, es, v⟩)), .bool true]) ∧ Below w.heap.size w w' := by
  obtain ⟨p0, p1, p2, p3, p4⟩ := oB_parts hB
  dsimp only at p1 p2 p3 p4
  have HO : Hid (Calls Tryz.prog 55 #[.int .i64 n, ordV num op a k c v] (w.alloc (.cells #[.int .i64 num, .int .i64 op, .slice a k c, .int .i64 v] 38)) fun e w' => e = .returned (.bool true) ∧ Below w.heap.size w w' ∧
      w'.cell? ⟨w.heap.size, 0, none⟩ = some (.int .i64 num) ∧ w'.cell? ⟨w.heap.size, 1, none⟩ = some (.int .i64 op) ∧ w'.cell? ⟨w.heap.size, 2, none⟩ = some (.slice a k c) ∧ w'.cell? ⟨w.heap.size, 3, none⟩ = some (.int .i64 v) ∧ w.heap.size < w'.heap.size) :=
    (sOrderOk_any n num op es v k a c hk (w.alloc (.cells #[.int .i64 num, .int .i64 op, .slice a k c, .int .i64 v] 38)) ((h.alloc (Nat.le_refl _) _).mono (by simp))).mono fun _ _ ⟨he, hb⟩ =>
      ⟨by rw [he, hB], (bel1 _ _).trans (hb.mono (by simp)), by rw [hb.cell (by simp)]; simp, by rw [hb.cell (by simp)]; simp, by rw [hb.cell (by simp)]; simp, by rw [hb.cell (by simp)]; simp, by have := hb.size; simp at this; omega⟩
  have HN : Hid (∀ (x : Int) (W : World), 0 ≤ x → x ≤ 1000000000 → Calls Tryz.prog 27 #[.int .i64 x] W fun e w' => e = .returned (.string (str (vt x.toNat))) ∧ Below W.heap.size W w') := fun x W h0 h1 => l01Var_str x h0 h1 W
  have HY := hideIt (l09Byte_any op (by omega) (by omega))
  have HE : Hid (∀ W, Below w.heap.size w W → Calls Tryz.prog 53 #[.slice a k c] W fun e w' => e = .returned (.string (str (et es))) ∧ Below W.heap.size W w') := fun W hW => l09Edges_any es k a c (by have := h.1; omega) p2.1 W (h.up hW)
  have hl1 := vt_le5 num.toNat (by omega)
  have hl2 := vt_le5 v.toNat (by omega)
  have hl3 : (et es).length ≤ 205 := by
    unfold et
    rw [List.length_append, eb_length]
    have := vt_le5 es.length (by omega)
    omega
  have A1 : ∀ wx, (Op.stringOp .add (str (vt num.toNat)) (str [ob op])).run Tryz.prog wx = .ok (.string (str (vt num.toNat ++ [ob op]))) wx := str_add _ _ (by simp; omega)
  have A2 : ∀ wx, (Op.stringOp .add (str (vt num.toNat ++ [ob op])) (str (vt v.toNat))).run Tryz.prog wx = .ok (.string (str (vt num.toNat ++ [ob op] ++ vt v.toNat))) wx := str_add _ _ (by simp; omega)
  have A3 : ∀ wx, (Op.stringOp .add (str (vt num.toNat ++ [ob op] ++ vt v.toNat)) (str (et es))).run Tryz.prog wx = .ok (.string (str (vt num.toNat ++ [ob op] ++ vt v.toNat ++ et es))) wx := str_add _ _ (by simp; omega)
  have FN : Hid (str (vt num.toNat ++ [ob op] ++ vt v.toNat ++ et es) = str (oText ⟨num, op, es, v⟩)) := by show _ = _; unfold oText; simp
  generalize str (vt num.toNat ++ [ob op] ++ vt v.toNat ++ et es) = s3 at A3 FN
  generalize str (vt num.toNat ++ [ob op] ++ vt v.toNat) = s2 at A2 A3
  generalize str (vt num.toNat ++ [ob op]) = s1 at A1 A2
  have n1 : 0 ≤ num := by omega
  have n2 : num ≤ 1000000000 := by omega
  have n3 : 0 ≤ v := by omega
  have n4 : v ≤ 1000000000 := by omega
  unfold ordV at HO ⊢
  clear h hB hl1 hl2 hl3 p2
  go_enter Tryz.func38, Tryz.ntmps38
  go_wp2_with (go_at_call 55; refine HO.out.mono ?_; rintro e w1 ⟨rfl, hb1, q0, q1, q2, q3, z1⟩; refine Hid.out ?_)
  refine (show ∀ {p : Prop}, p → Hid p from fun h => h) ?_
  have KC : Hid (∀ W, Below w1.heap.size w1 W → (W.cell? ⟨w.heap.size, 0, none⟩ = some (.int .i64 num) ∧ W.cell? ⟨w.heap.size, 1, none⟩ = some (.int .i64 op) ∧ W.cell? ⟨w.heap.size, 2, none⟩ = some (.slice a k c) ∧ W.cell? ⟨w.heap.size, 3, none⟩ = some (.int .i64 v))) := fun W hW =>
    ⟨by rw [hW.cell z1]; exact q0, by rw [hW.cell z1]; exact q1, by rw [hW.cell z1]; exact q2, by rw [hW.cell z1]; exact q3⟩
  have Z1 : Hid (∀ W, Below w1.heap.size w1 W → Below w.heap.size w W) := fun W hW => hb1.trans (hW.mono hb1.size)
  have B0 : Below w1.heap.size w1 w1.drew := (Below.refl _ _).drew
  go_wp2
  go_region_held3 (fun u => Below w1.heap.size w1 u ∧ (u.cell? ⟨w.heap.size, 0, none⟩ = some (.int .i64 num) ∧ u.cell? ⟨w.heap.size, 1, none⟩ = some (.int .i64 op) ∧ u.cell? ⟨w.heap.size, 2, none⟩ = some (.slice a k c) ∧ u.cell? ⟨w.heap.size, 3, none⟩ = some (.int .i64 v)))
    (first | exact ⟨B4, KC.out _ B4⟩ | exact ⟨B3, KC.out _ B3⟩ | exact ⟨B2, KC.out _ B2⟩ | exact ⟨B1, KC.out _ B1⟩ | exact ⟨B0, KC.out _ B0⟩)
    (first
    | (go_at_call 53; refine (HE.out _ (Z1.out _ B3)).mono ?_; rintro e w5 ⟨rfl, hb5⟩; have B4 := B3.trans (hb5.mono B3.size))
    | (go_at_call 27; refine (HN.out _ _ (by first | exact n1 | exact n3) (by first | exact n2 | exact n4)).mono ?_; rintro e w4 ⟨rfl, hb4⟩; (first | (have B3 := B2.trans (hb4.mono B2.size)) | (have B1 := B0.trans (hb4.mono B0.size))))
    | (go_at_call 54; refine (HY.out _).mono ?_; rintro e w3 ⟨rfl, hb3⟩; have B2 := B1.trans (hb3.mono B1.size)))
  all_goals
    go_wp2
    go_ret2
    exact ⟨by rw [← FN.out]; rfl, Z1.out _ B4⟩

theorem sOrderText_any (n num op : Int) (es : List EdgeV) (v : Int) (k : Nat) (a : Option Addr) (c : Nat) (hk : k ≤ 1048576) (w : World) (h : Es w w.heap.size a k es) :
    Calls Tryz.prog 38 #[.int .i64 n, ordV num op a k c v] w fun e w' => e = .returned (otV n ⟨num, op, es, v⟩) ∧ Below w.heap.size w w' := by
  cases hB : oB n ⟨num, op, es, v⟩ with
  | false => rw [otV_no hB]; exact sOrderText_no n num op es v k a c hk w h hB
  | true => rw [otV_yes hB]; exact sOrderText_yes n num op es v k a c hk w h hB
end Go.Proofs.YtcieanhbipbhgaaGreatDoor
