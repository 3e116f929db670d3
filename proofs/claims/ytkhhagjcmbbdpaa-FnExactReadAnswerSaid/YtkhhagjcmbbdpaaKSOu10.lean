/- The program's texts of numbers, of edges and of what an order wants done. The text of what an order wants done. The methods that tell what an order wants done as a text. What the specification's l01Var and l01In answer. The specification's OrderText. The specification's OrderText. -/
import Derived.Test.YtkhhagjcmbbdpaaKRow10
import Derived.Test.YtkhhagjcmbbdpaaKICmo10
import Derived.Test.YtkhhagjcmbbdpaaKMem
import Derived.Test.YtkhhagjcmbbdpaaKOr10
namespace Go.Proofs.Ytkhhagjcmbbdpaa
open Go.RowKit Vt

/-- bytes as a text -/
def str (L : List UInt8) : ByteArray := ⟨L.toArray⟩
theorem str_size (L : List UInt8) : (str L).size = L.length := by simp [str, ByteArray.size]
theorem str_app (L M : List UInt8) : str L ++ str M = str (L ++ M) := by
  apply ByteArray.ext
  simp [str, ByteArray.data_append]
theorem str_list (L : List UInt8) : (str L).data.toList = L := by simp [str]
theorem str_add {P : Program} (L M : List UInt8) (h : L.length + M.length ≤ 1000000) (w : World) : (Op.stringOp .add (str L) (str M)).run P w = .ok (.string (str (L ++ M))) w := by
  rw [run_string_add_sum w _ _ (by rw [str_size, str_size]; omega), str_app]

theorem vt_le5 (n : Nat) (h : n ≤ 1000000000) : (vt n).length ≤ 5 := vt_len 4 n (by
  have : (128 : Nat) ^ (4 + 1) = 34359738368 := by decide
  omega)

theorem numberText_any (x : Int) (N : Nat) (hx : (N : Int) = x) (hN : N ≤ 1000000000) (w : World) :
    Calls Try.prog 40 #[.int .i64 x] w fun e w' => e = .returned (.string (str (vt N))) ∧ Below w.heap.size w w' := by
  subst hx
  have HV := hideIt (iVarText_yes N hN)
  change Hid (∀ w, Calls _ _ _ w fun e w' => e = .returned (.tuple #[.string (str (vt N)), .bool true]) ∧ _) at HV
  go_enter Try.func40, Try.ntmps40
  go_wp2_with (go_at_call 83; refine (HV.out _).mono ?_; rintro e w1 ⟨rfl, hb⟩)
  go_ret
  exact ⟨rfl, hb⟩

theorem two_new (w : World) (a b : UInt8) (x y : Int) (hx : (a.toNat : Int) = x) (hy : (b.toNat : Int) = y) (t : TypeId) : ∀ j u, (bv [a, b])[j]? = some u → (w.alloc (.cells #[.int .u8 x, .int .u8 y] t)).cell? ((⟨w.heap.size, 0, none⟩ : Addr).add j) = some u := by
  subst hx hy
  intro j u hj
  match j, hj with
  | 0, hj => simp [bv] at hj; subst hj; simp [Addr.add]
  | 1, hj => simp [bv] at hj; subst hj; simp [Addr.add]

theorem one_newG (w : World) (a : UInt8) (x : Int) (hx : (a.toNat : Int) = x) (t : TypeId) : ∀ j u, (bv [a])[j]? = some u → (w.alloc (.cells #[.int .u8 x] t)).cell? ((⟨w.heap.size, 0, none⟩ : Addr).add j) = some u := by
  subst hx
  intro j u hj
  match j, hj with
  | 0, hj => simp [bv] at hj; subst hj; simp [Addr.add]

set_option maxRecDepth 100000 in
set_option maxHeartbeats 4000000 in
theorem edgesText_any (es : List EdgeV) (k : Nat) (a : Option Addr) (c : Nat) (hk : k ≤ 100) (hby : EB8 es) (w : World) (h : Es w w.heap.size a k es) :
    Calls Try.prog 52 #[.slice a k c] w fun e w' => e = .returned (.string (str (et es))) ∧ Below w.heap.size w w' := by
  obtain ⟨hlen, hrow⟩ := h
  have HR := hideIt hrow
  have HL := hideIt hlen
  have HN := hideIt (numberText_any (k : Int) k rfl (by omega) w)
  have hv5 := vt_le5 k (by omega)
  have HB := hideIt hby
  clear hrow hby
  go_enter Try.func52, Try.ntmps52
  go_wp2_with (go_at_call 40; refine HN.out.mono ?_; rintro e w1 ⟨rfl, hb1⟩; refine Hid.out ?_)
  refine (show ∀ {p : Prop}, p → Hid p from fun h => h) ?_
  obtain ⟨v0, w2, hcv, hown, hb2⟩ := conv_newG (vt k) (by omega) w1
  change (convert 9 22 (.string (str (vt k)))).run Try.prog w1 = .ok v0 w2 at hcv
  have hb12 := hb1.trans (hb2.mono hb1.size)
  have hs1 := hb1.size
  have hown : Hid (OwnG w2 w.heap.size v0 (vt k)) := by
    obtain ⟨g, cap, cur, fz, hv, hbg, rest⟩ := hown
    exact ⟨g, cap, cur, fz, hv, Nat.le_trans hs1 hbg, rest⟩
  clear HN hb1 hb2 hs1
  go_wp2
  go_loopw [3, 12] (fun v i wr => ∃ j : Nat, j ≤ k ∧ i = .int .i64 (j : Int) ∧ Hid (OwnG wr w.heap.size v (vt k ++ eb (es.take j))) ∧ Below w.heap.size w wr) (fun _ i _ => k - (intOf i).toNat)
  case atStart => exact ⟨0, by omega, rfl, by show OwnG _ _ _ _; simpa [eb] using hown.out, hb12⟩
  case round =>
    obtain ⟨j, hj, rfl, hO, hb⟩ := hrel
    by_cases hlt : j < k
    · rcases HR.out with hz | ⟨b, off, rfl, hbl, hc⟩
      · omega
      · obtain ⟨f, hf⟩ : ∃ f, es[j]? = some f := ⟨es[j]'(by omega), List.getElem?_eq_getElem (by omega)⟩
        obtain ⟨c0, c1⟩ := hc j f hf
        have e0 : wr.cell? ⟨b, off + j * 2, none⟩ = some (.int .i64 f.1) := by rw [hb.cell hbl]; exact c0
        have e1 : wr.cell? ⟨b, off + j * 2 + 1, none⟩ = some (.int .i64 f.2) := by rw [hb.cell hbl]; exact c1
        obtain ⟨⟨f1, f2⟩, f3, f4⟩ := HB.out f (List.mem_of_getElem? hf)
        have b1 : (0 : Int) ≤ (j : Int) := by omega
        have b2 : (j : Int) < (k : Int) := by omega
        have HTk := hideIt (take_snocF es j f hf)
        have hle : (vt k ++ eb (es.take j)).length ≤ 5 + 200 := by rw [List.length_append, eb_length]; simp; omega
        have hsz := hb.size
        have HLe := hideIt hle
        clear c0 c1 hc hf hle
        go_wp2_with (at_builtin; refine wpList_appendG rfl _ _ rfl w.heap.size _ _ rfl ((hO.out.alloc _).alloc _) ⟨wr.heap.size + 1, 0, none⟩ 2 2 [ob f.1, ob f.2] rfl rfl ?_ (by have := HLe.out; simp only [List.length_cons, List.length_nil]; omega) (by simp; omega) ?_)
        · have := two_new (wr.alloc (.cells #[.int .i64 f.1, .int .i64 f.2] 78)) (ob f.1) (ob f.2) f.1 f.2 (ob_back ⟨f1, f2⟩) (ob_back ⟨f3, f4⟩) 5
          simpa using this
        · intro v1 w1 hown1 hg1
          have hb1 : Below w.heap.size w w1 := ((hb.alloc (by omega) _).alloc (by simp; omega) _).grown hg1 (by simp; omega) (fun q hq => (hO.out.lt q hq).1)
          have HO1 : Hid (OwnG w1 w.heap.size v1 (vt k ++ eb (es.take (j + 1)))) := by
            show OwnG _ _ _ _
            rw [HTk.out, eb_append, eb_cons]
            exact hown1
          clear hown1 hg1 hO
          go_wp2
          go_roundw
          case rel => exact ⟨j + 1, by omega, by go_num, HO1, hb1⟩
          case measure => simp [intOf]; omega
    · have e : es.take j = es := List.take_of_length_le (by omega)
      have hcb := conv_backG hO.out
      rw [e] at hcb
      have hz : (⟨(vt k ++ eb es).toArray⟩ : ByteArray) = str (et es) := by unfold et; rw [HL.out]; rfl
      rw [hz] at hcb
      clear hz e hO HL hlen
      go_wp2
      go_ret
      exact ⟨rfl, hb⟩
end Go.Proofs.Ytkhhagjcmbbdpaa
namespace Go.Proofs.Ytkhhagjcmbbdpaa
open Go.RowKit Vt

theorem conv_g (g : Nat) (b : UInt8) (x : Int) (hx : (b.toNat : Int) = x) (W : World) (h : W.cell? ⟨g, 0, none⟩ = some (.int .u8 x)) :
    (convert 22 9 (.slice (some ⟨g, 0, none⟩) 1 1)).run Try.prog W = .ok (.string (str [b])) W := by
  subst hx
  refine run_convert_bytes_back (P := Try.prog) W 22 9 5 ⟨g, 0, none⟩ 1 [b] Try.underlying22 Try.underlying5 Try.underlying9 ?_
  intro j hj
  match j, hj with
  | 0, _ => exact h

theorem new_then1 (w : World) (x : Value) {w1 : World} (hb : Below (w.alloc (.cells #[x] 5)).heap.size (w.alloc (.cells #[x] 5)) w1) : w1.cell? ⟨w.heap.size, 0, none⟩ = some x ∧ w.heap.size < w1.heap.size :=
  ⟨by rw [hb.cell (by simp)]; simp, by have := hb.size; simp at this; omega⟩
/-- what was new ahead of a call stands there behind it -/
theorem new_then (w : World) (x : Value) {w1 : World} (hb : Below (w.drew.alloc (.cells #[x] 5)).heap.size (w.drew.alloc (.cells #[x] 5)) w1) : w1.cell? ⟨w.heap.size, 0, none⟩ = some x ∧ w.heap.size < w1.heap.size :=
  new_then1 w.drew x hb
theorem old_then {w w1 : World} {g : Nat} {x : Value} (h : w.cell? ⟨g, 0, none⟩ = some x ∧ g < w.heap.size) (hb : Below w.heap.size w w1) : w1.cell? ⟨g, 0, none⟩ = some x ∧ g < w1.heap.size :=
  ⟨by rw [hb.cell h.2]; exact h.1, Nat.lt_of_lt_of_le h.2 hb.size⟩

set_option maxRecDepth 100000 in
set_option maxHeartbeats 4000000 in
theorem commandText_any (op : UInt8) (x v : Int) (hx : (op.toNat : Int) = x) (hv : 0 ≤ v ∧ v ≤ 1000) (es : List EdgeV) (k : Nat) (a : Option Addr) (c : Nat) (hk : k ≤ 100) (hby : EB8 es) (w : World) (h : Es w w.heap.size a k es) :
    Calls Try.prog 126 #[.int .u8 x, .int .i64 v, .slice a k c] w fun e w' => e = .returned (.string (str (op :: (vt v.toNat ++ et es)))) ∧ Below w.heap.size w w' := by
  have HN : Hid (∀ W, Below w.heap.size w W → Calls Try.prog 40 #[.int .i64 v] W fun e w' => e = .returned (.string (str (vt v.toNat))) ∧ Below w.heap.size w w' ∧ Below W.heap.size W w') := fun W hW =>
    (numberText_any v v.toNat (by omega) (by omega) W).mono fun _ _ ⟨he, hb⟩ => ⟨he, hW.trans (hb.mono hW.size), hb⟩
  have HE : Hid (∀ W, Below w.heap.size w W → Calls Try.prog 52 #[.slice a k c] W fun e w' => e = .returned (.string (str (et es))) ∧ Below w.heap.size w w' ∧ Below W.heap.size W w') := fun W hW =>
    (edgesText_any es k a c hk hby W (h.up hW)).mono fun _ _ ⟨he, hb⟩ => ⟨he, hW.trans (hb.mono hW.size), hb⟩
  have hl1 := vt_le5 v.toNat (by omega)
  have hl2 : (et es).length ≤ 205 := by
    have := h.1
    unfold et
    rw [List.length_append, eb_length]
    have := vt_le5 es.length (by omega)
    omega
  have A1 : ∀ wx, (Op.stringOp .add (str [op]) (str (vt v.toNat))).run Try.prog wx = .ok (.string (str ([op] ++ vt v.toNat))) wx := str_add _ _ (by simp; omega)
  have A2 : ∀ wx, (Op.stringOp .add (str ([op] ++ vt v.toNat)) (str (et es))).run Try.prog wx = .ok (.string (str ([op] ++ vt v.toNat ++ et es))) wx := str_add _ _ (by simp; omega)
  have FN : Hid (str ([op] ++ vt v.toNat ++ et es) = str (op :: (vt v.toNat ++ et es))) := by show _ = _; simp
  have CV : ∀ (g : Nat) (W : World), W.cell? ⟨g, 0, none⟩ = some (.int .u8 x) → (convert 22 9 (.slice (some ⟨g, 0, none⟩) 1 1)).run Try.prog W = .ok (.string (str [op])) W := fun g W hW => conv_g g op x hx W hW
  generalize hs1 : str [op] = s1 at *
  generalize hs2 : str (vt v.toNat) = s2 at *
  generalize hs3 : str (et es) = s3 at *
  generalize hs4 : str ([op] ++ vt v.toNat) = s4 at *
  generalize hs5 : str ([op] ++ vt v.toNat ++ et es) = s5 at *
  clear hs1 hs2 hs3 hs4 hs5 hl1 hl2 h hby
  have B0 : Below w.heap.size w w.drew := (Below.refl _ _).drew
  go_enter Try.func126, Try.ntmps126
  go_wp2
  go_region_with (first
    | (go_at_call 40; refine (HN.out _ (by first | exact B0 | exact B0.alloc (Nat.le_refl _) _)).mono ?_; rintro e w1 ⟨rfl, B1, hb1⟩; (first | (have q1 := new_then w _ hb1; clear hb1) | clear hb1))
    | (go_at_call 52; refine (HE.out _ (by first | exact B1 | exact B1.alloc B1.size _)).mono ?_; rintro e w2 ⟨rfl, B2, hb2⟩; (first | (have q2 := old_then q1 hb2; clear hb2) | (have q3 := new_then1 w1 _ hb2; clear hb2) | clear hb2)))
  all_goals
    go_wp2
    go_ret
    exact ⟨by show Ending.returned (.string s5) = _; rw [FN.out], by first | exact B2 | exact B2.alloc B2.size _⟩
end Go.Proofs.Ytkhhagjcmbbdpaa
namespace Go.Proofs.Ytkhhagjcmbbdpaa
open Go.RowKit Vt

theorem ob1 : ((1 : UInt8).toNat : Int) = 1 := rfl

theorem cRel_any (v : Int) (hv : 0 ≤ v ∧ v ≤ 1000) (w : World) :
    Calls Try.prog 125 #[.agg #[.int .i64 v]] w fun e w' => e = .returned (.string (str (3 :: (vt v.toNat ++ et [])))) ∧ Below w.heap.size w w' := by
  have HC := hideIt (commandText_any 3 3 v rfl hv [] 0 none 0 (by omega) (fun e he => by cases he) (w.alloc (.cells #[.int .i64 v] 104)) ⟨rfl, .inl rfl⟩)
  go_enter Try.func125, Try.ntmps125
  go_wp2_with (go_at_call 126; refine HC.out.mono ?_; rintro e w1 ⟨rfl, hb⟩)
  go_ret
  exact ⟨rfl, (bel1 _ _).trans (hb.mono (by simp))⟩

theorem cAcc_any (es : List EdgeV) (k : Nat) (a : Option Addr) (c : Nat) (hk : k ≤ 100) (hby : EB8 es) (w : World) (h : Es w w.heap.size a k es) :
    Calls Try.prog 129 #[.agg #[.slice a k c]] w fun e w' => e = .returned (.string (str (4 :: (vt 0 ++ et es)))) ∧ Below w.heap.size w w' := by
  have HC := hideIt (commandText_any 4 4 0 rfl (by omega) es k a c hk hby (w.alloc (.cells #[.slice a k c] 109)) ((h.alloc (Nat.le_refl _) _).mono (by simp)))
  clear h hby
  go_enter Try.func129, Try.ntmps129
  go_wp2_with (go_at_call 126; refine HC.out.mono ?_; rintro e w1 ⟨rfl, hb⟩)
  go_ret
  exact ⟨rfl, (bel1 _ _).trans (hb.mono (by simp))⟩

theorem es_one (w : World) (f : EdgeV) (t : TypeId) : Es (w.alloc (.cells #[.int .i64 f.1, .int .i64 f.2] t)) (w.alloc (.cells #[.int .i64 f.1, .int .i64 f.2] t)).heap.size (some ⟨w.heap.size, 0, none⟩) 1 [f] := by
  refine ⟨rfl, .inr ⟨w.heap.size, 0, rfl, by simp, fun j g hg => ?_⟩⟩
  match j, hg with
  | 0, hg => simp at hg; subst hg; simp

theorem cAdd_any (f : EdgeV) (hf : EB8 [f]) (w : World) :
    Calls Try.prog 127 #[.agg #[.int .i64 f.1, .int .i64 f.2]] w fun e w' => e = .returned (.string (str (1 :: (vt 0 ++ et [f])))) ∧ Below w.heap.size w w' := by
  have HC := hideIt (commandText_any 1 1 0 rfl (by omega) [f] 1 (some ⟨w.heap.size + 1, 0, none⟩) 1 (by omega) hf ((w.alloc (.cells #[.int .i64 f.1, .int .i64 f.2] 106)).alloc (.cells #[.int .i64 f.1, .int .i64 f.2] 78)) (by have := es_one (w.alloc (.cells #[.int .i64 f.1, .int .i64 f.2] 106)) f 78; simpa using this))
  clear hf
  go_enter Try.func127, Try.ntmps127
  go_wp2_with (go_at_call 126; refine HC.out.mono ?_; rintro e w1 ⟨rfl, hb⟩)
  go_ret
  exact ⟨rfl, bel2 _ _ hb⟩

theorem cTake_any (f : EdgeV) (hf : EB8 [f]) (w : World) :
    Calls Try.prog 128 #[.agg #[.int .i64 f.1, .int .i64 f.2]] w fun e w' => e = .returned (.string (str (2 :: (vt 0 ++ et [f])))) ∧ Below w.heap.size w w' := by
  have HC := hideIt (commandText_any 2 2 0 rfl (by omega) [f] 1 (some ⟨w.heap.size + 1, 0, none⟩) 1 (by omega) hf ((w.alloc (.cells #[.int .i64 f.1, .int .i64 f.2] 107)).alloc (.cells #[.int .i64 f.1, .int .i64 f.2] 78)) (by have := es_one (w.alloc (.cells #[.int .i64 f.1, .int .i64 f.2] 107)) f 78; simpa using this))
  clear hf
  go_enter Try.func128, Try.ntmps128
  go_wp2_with (go_at_call 126; refine HC.out.mono ?_; rintro e w1 ⟨rfl, hb⟩)
  go_ret
  exact ⟨rfl, bel2 _ _ hb⟩

/-- an order's text, or none -/
def otV (n : Int) (o : OrdV) : Value := if oB n o then .tuple #[.string (str (oText o)), .bool true] else .tuple #[.string ⟨#[]⟩, .bool false]
theorem otV_yes {n : Int} {o : OrdV} (h : oB n o = true) : otV n o = .tuple #[.string (str (oText o)), .bool true] := by unfold otV; rw [h]; rfl
theorem otV_no {n : Int} {o : OrdV} (h : oB n o = false) : otV n o = .tuple #[.string ⟨#[]⟩, .bool false] := by unfold otV; rw [h]; rfl

set_option maxRecDepth 100000 in
set_option maxHeartbeats 4000000 in
theorem iOrderText_no (n num op : Int) (es : List EdgeV) (v : Int) (k : Nat) (a : Option Addr) (c : Nat) (hk : k ≤ 1048576) (w : World) (h : Es w w.heap.size a k es) (hB : oB n ⟨num, op, es, v⟩ = false) :
    Calls Try.prog 12 #[.int .i64 n, ordV num op a k c v] w fun e w' => e = .returned (.tuple #[.string ⟨#[]⟩, .bool false]) ∧ Below w.heap.size w w' := by
  have HO := hideIt (iOrderOk_any n num op es v k a c hk (w.alloc (.cells #[.int .i64 num, .int .i64 op, .slice a k c, .int .i64 v] 26)) ((h.alloc (Nat.le_refl _) _).mono (by simp)))
  rw [hB] at HO
  unfold ordV at HO ⊢
  clear h hB
  go_enter Try.func12, Try.ntmps12
  go_wp2_with (go_at_call 15; refine HO.out.mono ?_; rintro e w1 ⟨rfl, hb⟩)
  go_ret2
  exact ⟨rfl, (bel1 _ _).trans (hb.mono (by simp))⟩

set_option maxRecDepth 100000 in
set_option maxHeartbeats 4000000 in
theorem iOrderText_rel (n num v : Int) (a : Option Addr) (c : Nat) (w : World) (h : Es w w.heap.size a 0 []) (hB : oB n ⟨num, 3, [], v⟩ = true) :
    Calls Try.prog 12 #[.int .i64 n, ordV num 3 a 0 c v] w fun e w' => e = .returned (.tuple #[.string (str (oText ⟨num, 3, [], v⟩)), .bool true]) ∧ Below w.heap.size w w' := by
  obtain ⟨p0, p1, p2, p3, p4⟩ := oB_parts hB
  dsimp only at p1 p2 p3 p4
  have HO : Hid (Calls Try.prog 15 #[.int .i64 n, ordV num 3 a 0 c v] (w.alloc (.cells #[.int .i64 num, .int .i64 3, .slice a 0 c, .int .i64 v] 26)) fun e w' => e = .returned (.bool true) ∧ Below w.heap.size w w' ∧
      w'.cell? ⟨w.heap.size, 0, none⟩ = some (.int .i64 num) ∧ w'.cell? ⟨w.heap.size, 1, none⟩ = some (.int .i64 3) ∧ w'.cell? ⟨w.heap.size, 2, none⟩ = some (.slice a 0 c) ∧ w'.cell? ⟨w.heap.size, 3, none⟩ = some (.int .i64 v) ∧ w.heap.size < w'.heap.size) :=
    (iOrderOk_any n num 3 [] v 0 a c (by omega) (w.alloc (.cells #[.int .i64 num, .int .i64 3, .slice a 0 c, .int .i64 v] 26)) ((h.alloc (Nat.le_refl _) _).mono (by simp))).mono fun _ _ ⟨he, hb⟩ =>
      ⟨by rw [he, hB], (bel1 _ _).trans (hb.mono (by simp)), by rw [hb.cell (by simp)]; simp, by rw [hb.cell (by simp)]; simp, by rw [hb.cell (by simp)]; simp, by rw [hb.cell (by simp)]; simp, by have := hb.size; simp at this; omega⟩
  have HN := hideIt (numberText_any num num.toNat (by omega) (by omega))
  have HC := hideIt (commandOf_rel num v a c)
  have HM := hideIt (cRel_any v (by omega))
  have hm : ∀ w, (method 251 104 (.agg #[.int .i64 v]) "loop.example/g00130/impl.text").run Try.prog w = .ok (125, .agg #[.int .i64 v]) w := fun _ => by kernel_rfl
  have hl1 := vt_le5 num.toNat (by omega)
  have hl2 := vt_le5 v.toNat (by omega)
  have A1 : ∀ wx, (Op.stringOp .add (str (vt num.toNat)) (str (3 :: (vt v.toNat ++ et [])))).run Try.prog wx = .ok (.string (str (vt num.toNat ++ (3 :: (vt v.toNat ++ et []))))) wx := str_add _ _ (by simp [et, eb, vt_small 0 (by omega)]; omega)
  have FN : Hid (str (vt num.toNat ++ (3 :: (vt v.toNat ++ et []))) = str (oText ⟨num, 3, [], v⟩)) := by show _ = _; rfl
  unfold ordV at HO HC ⊢
  clear h hB
  go_enter Try.func12, Try.ntmps12
  go_wp2_with (go_at_call 15; refine HO.out.mono ?_; rintro e w1 ⟨rfl, hb1, q0, q1, q2, q3, z1⟩; refine Hid.out ?_)
  refine (show ∀ {p : Prop}, p → Hid p from fun h => h) ?_
  have KC : Hid (∀ W, Below w1.heap.size w1 W → (W.cell? ⟨w.heap.size, 0, none⟩ = some (.int .i64 num) ∧ W.cell? ⟨w.heap.size, 1, none⟩ = some (.int .i64 3) ∧ W.cell? ⟨w.heap.size, 2, none⟩ = some (.slice a 0 c) ∧ W.cell? ⟨w.heap.size, 3, none⟩ = some (.int .i64 v))) := fun W hW =>
    ⟨by rw [hW.cell z1]; exact q0, by rw [hW.cell z1]; exact q1, by rw [hW.cell z1]; exact q2, by rw [hW.cell z1]; exact q3⟩
  have Z1 : Hid (∀ W, Below w1.heap.size w1 W → Below w.heap.size w W) := fun W hW => hb1.trans (hW.mono hb1.size)
  have B0 : Below w1.heap.size w1 w1.drew := (Below.refl _ _).drew
  go_wp2
  go_region_held3 (fun u => Below w1.heap.size w1 u ∧ (u.cell? ⟨w.heap.size, 0, none⟩ = some (.int .i64 num) ∧ u.cell? ⟨w.heap.size, 1, none⟩ = some (.int .i64 3) ∧ u.cell? ⟨w.heap.size, 2, none⟩ = some (.slice a 0 c) ∧ u.cell? ⟨w.heap.size, 3, none⟩ = some (.int .i64 v)))
    (first | exact ⟨B4, KC.out _ B4⟩ | exact ⟨B3, KC.out _ B3⟩ | exact ⟨B2, KC.out _ B2⟩ | exact ⟨B0, KC.out _ B0⟩)
    (first
    | (go_at_call 40; refine (HN.out _).mono ?_; rintro e w2 ⟨rfl, hb2⟩; have B2 := B0.trans (hb2.mono B0.size))
    | (go_at_call 41; refine (HC.out _).mono ?_; rintro e w3 ⟨rfl, hb3⟩; have B3 := B2.trans (hb3.mono B2.size))
    | (go_at_call 125; refine (HM.out _).mono ?_; rintro e w4 ⟨rfl, hb4⟩; have B4 := B3.trans (hb4.mono B3.size)))
  all_goals
    go_wp2
    go_ret2
    exact ⟨by rw [← FN.out]; rfl, Z1.out _ B4⟩
set_option maxRecDepth 100000 in
set_option maxHeartbeats 4000000 in
theorem iOrderText_add (n num : Int) (f : EdgeV) (b off c : Nat) (w : World) (h : Es w w.heap.size (some ⟨b, off, none⟩) 1 [f]) (hB : oB n ⟨num, 1, [f], 0⟩ = true) :
    Calls Try.prog 12 #[.int .i64 n, ordV num 1 (some ⟨b, off, none⟩) 1 c 0] w fun e w' => e = .returned (.tuple #[.string (str (oText ⟨num, 1, [f], 0⟩)), .bool true]) ∧ Below w.heap.size w w' := by
  obtain ⟨p0, p1, p2, p3, p4⟩ := oB_parts hB
  dsimp only at p1 p2 p3 p4
  have HO : Hid (Calls Try.prog 15 #[.int .i64 n, ordV num 1 (some ⟨b, off, none⟩) 1 c 0] (w.alloc (.cells #[.int .i64 num, .int .i64 1, .slice (some ⟨b, off, none⟩) 1 c, .int .i64 0] 26)) fun e w' => e = .returned (.bool true) ∧ Below w.heap.size w w' ∧
      w'.cell? ⟨w.heap.size, 0, none⟩ = some (.int .i64 num) ∧ w'.cell? ⟨w.heap.size, 1, none⟩ = some (.int .i64 1) ∧ w'.cell? ⟨w.heap.size, 2, none⟩ = some (.slice (some ⟨b, off, none⟩) 1 c) ∧ w'.cell? ⟨w.heap.size, 3, none⟩ = some (.int .i64 0) ∧ w.heap.size < w'.heap.size) :=
    (iOrderOk_any n num 1 [f] 0 1 (some ⟨b, off, none⟩) c (by omega) (w.alloc (.cells #[.int .i64 num, .int .i64 1, .slice (some ⟨b, off, none⟩) 1 c, .int .i64 0] 26)) ((h.alloc (Nat.le_refl _) _).mono (by simp))).mono fun _ _ ⟨he, hb⟩ =>
      ⟨by rw [he, hB], (bel1 _ _).trans (hb.mono (by simp)), by rw [hb.cell (by simp)]; simp, by rw [hb.cell (by simp)]; simp, by rw [hb.cell (by simp)]; simp, by rw [hb.cell (by simp)]; simp, by have := hb.size; simp at this; omega⟩
  have HN := hideIt (numberText_any num num.toNat (by omega) (by omega))
  have HC : Hid (∀ W, Below w.heap.size w W → Calls Try.prog 41 #[ordV num 1 (some ⟨b, off, none⟩) 1 c 0] W fun x w' => x = .returned (.iface 106 (.agg #[.int .i64 f.1, .int .i64 f.2])) ∧ Below W.heap.size W w') := fun W hW => by
    rcases h.2 with h0 | ⟨b', off', e, hb0, hc⟩
    · omega
    · simp at e
      obtain ⟨rfl, rfl⟩ := e
      obtain ⟨c0, c1⟩ := hc 0 f rfl
      rw [Nat.zero_mul, Nat.add_zero] at c0 c1
      exact commandOf_add num f b off c W (by rw [hW.cell hb0]; exact c0) (by rw [hW.cell hb0]; exact c1) (Nat.lt_of_lt_of_le hb0 hW.size)
  have HM := hideIt (cAdd_any f p2.1)
  have hm : ∀ w, (method 251 106 (.agg #[.int .i64 f.1, .int .i64 f.2]) "loop.example/g00130/impl.text").run Try.prog w = .ok (127, .agg #[.int .i64 f.1, .int .i64 f.2]) w := fun _ => by kernel_rfl
  have hl1 := vt_le5 num.toNat (by omega)
  have hl2 := vt_le5 0 (by omega)
  have hl3 : (et [f]).length ≤ 205 := by
    unfold et
    rw [List.length_append, eb_length]
    have := vt_le5 (List.length [f]) (by simp)
    simp only [List.length_cons, List.length_nil] at *; omega
  have A1 : ∀ wx, (Op.stringOp .add (str (vt num.toNat)) (str (1 :: (vt 0 ++ et [f])))).run Try.prog wx = .ok (.string (str (vt num.toNat ++ (1 :: (vt 0 ++ et [f]))))) wx := str_add _ _ (by rw [List.length_cons, List.length_append]; omega)
  have FN : Hid (str (vt num.toNat ++ (1 :: (vt 0 ++ et [f]))) = str (oText ⟨num, 1, [f], 0⟩)) := by show _ = _; rfl
  unfold ordV at HO HC ⊢
  clear hB
  have H0 := hideIt h
  clear h
  go_enter Try.func12, Try.ntmps12
  go_wp2_with (go_at_call 15; refine HO.out.mono ?_; rintro e w1 ⟨rfl, hb1, q0, q1, q2, q3, z1⟩; refine Hid.out ?_)
  refine (show ∀ {p : Prop}, p → Hid p from fun h => h) ?_
  have KC : Hid (∀ W, Below w1.heap.size w1 W → (W.cell? ⟨w.heap.size, 0, none⟩ = some (.int .i64 num) ∧ W.cell? ⟨w.heap.size, 1, none⟩ = some (.int .i64 1) ∧ W.cell? ⟨w.heap.size, 2, none⟩ = some (.slice (some ⟨b, off, none⟩) 1 c) ∧ W.cell? ⟨w.heap.size, 3, none⟩ = some (.int .i64 0))) := fun W hW =>
    ⟨by rw [hW.cell z1]; exact q0, by rw [hW.cell z1]; exact q1, by rw [hW.cell z1]; exact q2, by rw [hW.cell z1]; exact q3⟩
  have Z1 : Hid (∀ W, Below w1.heap.size w1 W → Below w.heap.size w W) := fun W hW => hb1.trans (hW.mono hb1.size)
  have B0 : Below w1.heap.size w1 w1.drew := (Below.refl _ _).drew
  go_wp2
  go_region_held3 (fun u => Below w1.heap.size w1 u ∧ (u.cell? ⟨w.heap.size, 0, none⟩ = some (.int .i64 num) ∧ u.cell? ⟨w.heap.size, 1, none⟩ = some (.int .i64 1) ∧ u.cell? ⟨w.heap.size, 2, none⟩ = some (.slice (some ⟨b, off, none⟩) 1 c) ∧ u.cell? ⟨w.heap.size, 3, none⟩ = some (.int .i64 0)))
    (first | exact ⟨B4, KC.out _ B4⟩ | exact ⟨B3, KC.out _ B3⟩ | exact ⟨B2, KC.out _ B2⟩ | exact ⟨B0, KC.out _ B0⟩)
    (first
    | (go_at_call 40; refine (HN.out _).mono ?_; rintro e w2 ⟨rfl, hb2⟩; have B2 := B0.trans (hb2.mono B0.size))
    | (go_at_call 41; refine (HC.out _ (Z1.out _ B2)).mono ?_; rintro e w3 ⟨rfl, hb3⟩; have B3 := B2.trans (hb3.mono B2.size))
    | (go_at_call 127; refine (HM.out _).mono ?_; rintro e w4 ⟨rfl, hb4⟩; have B4 := B3.trans (hb4.mono B3.size)))
  all_goals
    go_wp2
    go_ret2
    exact ⟨by rw [← FN.out]; rfl, Z1.out _ B4⟩
set_option maxRecDepth 100000 in
set_option maxHeartbeats 4000000 in
theorem iOrderText_take (n num : Int) (f : EdgeV) (b off c : Nat) (w : World) (h : Es w w.heap.size (some ⟨b, off, none⟩) 1 [f]) (hB : oB n ⟨num, 2, [f], 0⟩ = true) :
    Calls Try.prog 12 #[.int .i64 n, ordV num 2 (some ⟨b, off, none⟩) 1 c 0] w fun e w' => e = .returned (.tuple #[.string (str (oText ⟨num, 2, [f], 0⟩)), .bool true]) ∧ Below w.heap.size w w' := by
  obtain ⟨p0, p1, p2, p3, p4⟩ := oB_parts hB
  dsimp only at p1 p2 p3 p4
  have HO : Hid (Calls Try.prog 15 #[.int .i64 n, ordV num 2 (some ⟨b, off, none⟩) 1 c 0] (w.alloc (.cells #[.int .i64 num, .int .i64 2, .slice (some ⟨b, off, none⟩) 1 c, .int .i64 0] 26)) fun e w' => e = .returned (.bool true) ∧ Below w.heap.size w w' ∧
      w'.cell? ⟨w.heap.size, 0, none⟩ = some (.int .i64 num) ∧ w'.cell? ⟨w.heap.size, 1, none⟩ = some (.int .i64 2) ∧ w'.cell? ⟨w.heap.size, 2, none⟩ = some (.slice (some ⟨b, off, none⟩) 1 c) ∧ w'.cell? ⟨w.heap.size, 3, none⟩ = some (.int .i64 0) ∧ w.heap.size < w'.heap.size) :=
    (iOrderOk_any n num 2 [f] 0 1 (some ⟨b, off, none⟩) c (by omega) (w.alloc (.cells #[.int .i64 num, .int .i64 2, .slice (some ⟨b, off, none⟩) 1 c, .int .i64 0] 26)) ((h.alloc (Nat.le_refl _) _).mono (by simp))).mono fun _ _ ⟨he, hb⟩ =>
      ⟨by rw [he, hB], (bel1 _ _).trans (hb.mono (by simp)), by rw [hb.cell (by simp)]; simp, by rw [hb.cell (by simp)]; simp, by rw [hb.cell (by simp)]; simp, by rw [hb.cell (by simp)]; simp, by have := hb.size; simp at this; omega⟩
  have HN := hideIt (numberText_any num num.toNat (by omega) (by omega))
  have HC : Hid (∀ W, Below w.heap.size w W → Calls Try.prog 41 #[ordV num 2 (some ⟨b, off, none⟩) 1 c 0] W fun x w' => x = .returned (.iface 107 (.agg #[.int .i64 f.1, .int .i64 f.2])) ∧ Below W.heap.size W w') := fun W hW => by
    rcases h.2 with h0 | ⟨b', off', e, hb0, hc⟩
    · omega
    · simp at e
      obtain ⟨rfl, rfl⟩ := e
      obtain ⟨c0, c1⟩ := hc 0 f rfl
      rw [Nat.zero_mul, Nat.add_zero] at c0 c1
      exact commandOf_take num f b off c W (by rw [hW.cell hb0]; exact c0) (by rw [hW.cell hb0]; exact c1) (Nat.lt_of_lt_of_le hb0 hW.size)
  have HM := hideIt (cTake_any f p2.1)
  have hm : ∀ w, (method 251 107 (.agg #[.int .i64 f.1, .int .i64 f.2]) "loop.example/g00130/impl.text").run Try.prog w = .ok (128, .agg #[.int .i64 f.1, .int .i64 f.2]) w := fun _ => by kernel_rfl
  have hl1 := vt_le5 num.toNat (by omega)
  have hl2 := vt_le5 0 (by omega)
  have hl3 : (et [f]).length ≤ 205 := by
    unfold et
    rw [List.length_append, eb_length]
    have := vt_le5 (List.length [f]) (by simp)
    simp only [List.length_cons, List.length_nil] at *; omega
  have A1 : ∀ wx, (Op.stringOp .add (str (vt num.toNat)) (str (2 :: (vt 0 ++ et [f])))).run Try.prog wx = .ok (.string (str (vt num.toNat ++ (2 :: (vt 0 ++ et [f]))))) wx := str_add _ _ (by rw [List.length_cons, List.length_append]; omega)
  have FN : Hid (str (vt num.toNat ++ (2 :: (vt 0 ++ et [f]))) = str (oText ⟨num, 2, [f], 0⟩)) := by show _ = _; rfl
  unfold ordV at HO HC ⊢
  clear hB
  have H0 := hideIt h
  clear h
  go_enter Try.func12, Try.ntmps12
  go_wp2_with (go_at_call 15; refine HO.out.mono ?_; rintro e w1 ⟨rfl, hb1, q0, q1, q2, q3, z1⟩; refine Hid.out ?_)
  refine (show ∀ {p : Prop}, p → Hid p from fun h => h) ?_
  have KC : Hid (∀ W, Below w1.heap.size w1 W → (W.cell? ⟨w.heap.size, 0, none⟩ = some (.int .i64 num) ∧ W.cell? ⟨w.heap.size, 1, none⟩ = some (.int .i64 2) ∧ W.cell? ⟨w.heap.size, 2, none⟩ = some (.slice (some ⟨b, off, none⟩) 1 c) ∧ W.cell? ⟨w.heap.size, 3, none⟩ = some (.int .i64 0))) := fun W hW =>
    ⟨by rw [hW.cell z1]; exact q0, by rw [hW.cell z1]; exact q1, by rw [hW.cell z1]; exact q2, by rw [hW.cell z1]; exact q3⟩
  have Z1 : Hid (∀ W, Below w1.heap.size w1 W → Below w.heap.size w W) := fun W hW => hb1.trans (hW.mono hb1.size)
  have B0 : Below w1.heap.size w1 w1.drew := (Below.refl _ _).drew
  go_wp2
  go_region_held3 (fun u => Below w1.heap.size w1 u ∧ (u.cell? ⟨w.heap.size, 0, none⟩ = some (.int .i64 num) ∧ u.cell? ⟨w.heap.size, 1, none⟩ = some (.int .i64 2) ∧ u.cell? ⟨w.heap.size, 2, none⟩ = some (.slice (some ⟨b, off, none⟩) 1 c) ∧ u.cell? ⟨w.heap.size, 3, none⟩ = some (.int .i64 0)))
    (first | exact ⟨B4, KC.out _ B4⟩ | exact ⟨B3, KC.out _ B3⟩ | exact ⟨B2, KC.out _ B2⟩ | exact ⟨B0, KC.out _ B0⟩)
    (first
    | (go_at_call 40; refine (HN.out _).mono ?_; rintro e w2 ⟨rfl, hb2⟩; have B2 := B0.trans (hb2.mono B0.size))
    | (go_at_call 41; refine (HC.out _ (Z1.out _ B2)).mono ?_; rintro e w3 ⟨rfl, hb3⟩; have B3 := B2.trans (hb3.mono B2.size))
    | (go_at_call 128; refine (HM.out _).mono ?_; rintro e w4 ⟨rfl, hb4⟩; have B4 := B3.trans (hb4.mono B3.size)))
  all_goals
    go_wp2
    go_ret2
    exact ⟨by rw [← FN.out]; rfl, Z1.out _ B4⟩
set_option maxRecDepth 100000 in
set_option maxHeartbeats 4000000 in
theorem iOrderText_acc (n num : Int) (es : List EdgeV) (k : Nat) (a : Option Addr) (c : Nat) (hk : 0 < k) (hk2 : k ≤ 1048576) (w : World) (h : Es w w.heap.size a k es) (hB : oB n ⟨num, 4, es, 0⟩ = true) :
    Calls Try.prog 12 #[.int .i64 n, ordV num 4 a k c 0] w fun e w' => e = .returned (.tuple #[.string (str (oText ⟨num, 4, es, 0⟩)), .bool true]) ∧ Below w.heap.size w w' := by
  obtain ⟨p0, p1, p2, p3, p4⟩ := oB_parts hB
  dsimp only at p1 p2 p3 p4
  have HO : Hid (Calls Try.prog 15 #[.int .i64 n, ordV num 4 a k c 0] (w.alloc (.cells #[.int .i64 num, .int .i64 4, .slice a k c, .int .i64 0] 26)) fun e w' => e = .returned (.bool true) ∧ Below w.heap.size w w' ∧
      w'.cell? ⟨w.heap.size, 0, none⟩ = some (.int .i64 num) ∧ w'.cell? ⟨w.heap.size, 1, none⟩ = some (.int .i64 4) ∧ w'.cell? ⟨w.heap.size, 2, none⟩ = some (.slice a k c) ∧ w'.cell? ⟨w.heap.size, 3, none⟩ = some (.int .i64 0) ∧ w.heap.size < w'.heap.size) :=
    (iOrderOk_any n num 4 es 0 k a c (by omega) (w.alloc (.cells #[.int .i64 num, .int .i64 4, .slice a k c, .int .i64 0] 26)) ((h.alloc (Nat.le_refl _) _).mono (by simp))).mono fun _ _ ⟨he, hb⟩ =>
      ⟨by rw [he, hB], (bel1 _ _).trans (hb.mono (by simp)), by rw [hb.cell (by simp)]; simp, by rw [hb.cell (by simp)]; simp, by rw [hb.cell (by simp)]; simp, by rw [hb.cell (by simp)]; simp, by have := hb.size; simp at this; omega⟩
  have HN := hideIt (numberText_any num num.toNat (by omega) (by omega))
  have HC : Hid (∀ W, Below w.heap.size w W → Calls Try.prog 41 #[ordV num 4 a k c 0] W fun x w' => x = .returned (.iface 109 (.agg #[.slice a k c])) ∧ Below W.heap.size W w') := fun W _ => commandOf_acc num a k c hk W
  have HM : Hid (∀ W, Below w.heap.size w W → Calls Try.prog 129 #[.agg #[.slice a k c]] W fun e w' => e = .returned (.string (str (4 :: (vt 0 ++ et es)))) ∧ Below W.heap.size W w') := fun W hW => cAcc_any es k a c (by have := h.1; omega) p2.1 W (h.up hW)
  have hm : ∀ w, (method 251 109 (.agg #[.slice a k c]) "loop.example/g00130/impl.text").run Try.prog w = .ok (129, .agg #[.slice a k c]) w := fun _ => by kernel_rfl
  have hl1 := vt_le5 num.toNat (by omega)
  have hl2 := vt_le5 0 (by omega)
  have hl3 : (et es).length ≤ 205 := by
    unfold et
    rw [List.length_append, eb_length]
    have := vt_le5 (List.length es) (by omega)
    omega
  have A1 : ∀ wx, (Op.stringOp .add (str (vt num.toNat)) (str (4 :: (vt 0 ++ et es)))).run Try.prog wx = .ok (.string (str (vt num.toNat ++ (4 :: (vt 0 ++ et es))))) wx := str_add _ _ (by rw [List.length_cons, List.length_append]; omega)
  have FN : Hid (str (vt num.toNat ++ (4 :: (vt 0 ++ et es))) = str (oText ⟨num, 4, es, 0⟩)) := by show _ = _; rfl
  unfold ordV at HO HC ⊢
  clear hB
  have H0 := hideIt h
  clear h
  go_enter Try.func12, Try.ntmps12
  go_wp2_with (go_at_call 15; refine HO.out.mono ?_; rintro e w1 ⟨rfl, hb1, q0, q1, q2, q3, z1⟩; refine Hid.out ?_)
  refine (show ∀ {p : Prop}, p → Hid p from fun h => h) ?_
  have KC : Hid (∀ W, Below w1.heap.size w1 W → (W.cell? ⟨w.heap.size, 0, none⟩ = some (.int .i64 num) ∧ W.cell? ⟨w.heap.size, 1, none⟩ = some (.int .i64 4) ∧ W.cell? ⟨w.heap.size, 2, none⟩ = some (.slice a k c) ∧ W.cell? ⟨w.heap.size, 3, none⟩ = some (.int .i64 0))) := fun W hW =>
    ⟨by rw [hW.cell z1]; exact q0, by rw [hW.cell z1]; exact q1, by rw [hW.cell z1]; exact q2, by rw [hW.cell z1]; exact q3⟩
  have Z1 : Hid (∀ W, Below w1.heap.size w1 W → Below w.heap.size w W) := fun W hW => hb1.trans (hW.mono hb1.size)
  have B0 : Below w1.heap.size w1 w1.drew := (Below.refl _ _).drew
  go_wp2
  go_region_held3 (fun u => Below w1.heap.size w1 u ∧ (u.cell? ⟨w.heap.size, 0, none⟩ = some (.int .i64 num) ∧ u.cell? ⟨w.heap.size, 1, none⟩ = some (.int .i64 4) ∧ u.cell? ⟨w.heap.size, 2, none⟩ = some (.slice a k c) ∧ u.cell? ⟨w.heap.size, 3, none⟩ = some (.int .i64 0)))
    (first | exact ⟨B4, KC.out _ B4⟩ | exact ⟨B3, KC.out _ B3⟩ | exact ⟨B2, KC.out _ B2⟩ | exact ⟨B0, KC.out _ B0⟩)
    (first
    | (go_at_call 40; refine (HN.out _).mono ?_; rintro e w2 ⟨rfl, hb2⟩; have B2 := B0.trans (hb2.mono B0.size))
    | (go_at_call 41; refine (HC.out _ (Z1.out _ B2)).mono ?_; rintro e w3 ⟨rfl, hb3⟩; have B3 := B2.trans (hb3.mono B2.size))
    | (go_at_call 129; refine (HM.out _ (Z1.out _ B3)).mono ?_; rintro e w4 ⟨rfl, hb4⟩; have B4 := B3.trans (hb4.mono B3.size)))
  all_goals
    go_wp2
    go_ret2
    exact ⟨by rw [← FN.out]; rfl, Z1.out _ B4⟩

theorem iOrderText_any (n num op : Int) (es : List EdgeV) (v : Int) (k : Nat) (a : Option Addr) (c : Nat) (hk : k ≤ 1048576) (w : World) (h : Es w w.heap.size a k es) :
    Calls Try.prog 12 #[.int .i64 n, ordV num op a k c v] w fun e w' => e = .returned (otV n ⟨num, op, es, v⟩) ∧ Below w.heap.size w w' := by
  cases hB : oB n ⟨num, op, es, v⟩ with
  | false => rw [otV_no hB]; exact iOrderText_no n num op es v k a c hk w h hB
  | true =>
    rw [otV_yes hB]
    have hO : OpOk n ⟨num, op, es, v⟩ := by
      unfold oB at hB
      simp only [Bool.and_eq_true, decide_eq_true_eq] at hB
      exact hB.2.2.2
    have hlen := h.1
    rcases hO with ⟨h1, h2, _⟩ | ⟨h1, h2, h3⟩ | ⟨h1, h2, h3⟩
    · dsimp only at h1 h2
      subst h1
      obtain rfl : es = [] := List.length_eq_zero_iff.1 h2
      obtain rfl : k = 0 := by simpa using hlen.symm
      exact iOrderText_rel n num v a c w h hB
    · dsimp only at h1 h2 h3
      subst h1
      obtain ⟨f, rfl⟩ := List.length_eq_one_iff.1 h3
      obtain rfl : k = 1 := by simpa using hlen.symm
      rcases h.2 with h0 | ⟨b, off, rfl, _⟩
      · omega
      · rcases h2 with rfl | rfl
        · exact iOrderText_add n num f b off c w h hB
        · exact iOrderText_take n num f b off c w h hB
    · dsimp only at h1 h2 h3
      subst h1 h2
      exact iOrderText_acc n num es k a c (by omega) hk w h hB
end Go.Proofs.Ytkhhagjcmbbdpaa
namespace Go.Proofs.Ytkhhagjcmbbdpaa
open Go.RowKit Vt

set_option maxRecDepth 100000 in
set_option maxHeartbeats 1000000 in
theorem l01Var_any (N : Nat) (hN : N ≤ 1000000000) (w : World) :
    Calls Try.prog 75 #[.int .i64 (N : Int)] w fun e w' => e = .returned (.string ⟨(vt N).toArray⟩) ∧ Below w.heap.size w w' := by
  obtain ⟨i0, hi, hz0, hz1, hz2⟩ := info_parts info5
  have hlen := vt_length N N (Nat.le_refl _)
  go_enter Try.func75, Try.ntmps75
  go_wp2
  go_loopw [0, 3] (fun n out wr => ∃ (m : Nat) (pre : List UInt8), m ≤ N ∧ n = .int .i64 m ∧ Hid (pre ++ vt m = vt N) ∧ wr.ownsRow w.heap.size 5 1 out pre.length (bv pre) ∧ Below w.heap.size w wr)
    (fun n _ _ => (intOf n).toNat)
  case atStart => exact ⟨N, [], Nat.le_refl _, rfl, rfl, World.ownsRow_made _ _ _ (Nat.le_refl _) (by unfold maxLen; omega) rfl, (Below.refl _ _).alloc (Nat.le_refl _) _⟩
  case round =>
    obtain ⟨m, pre, hm, rfl, hv, hown, hb⟩ := hrel
    have hl : pre.length + (vt m).length = (vt N).length := by rw [← hv.out]; simp
    have hp := vt_pos m
    have hsz := hb.size
    by_cases hlt : m < 128
    · go_wp2_with (at_builtin; refine wpList_append_own _ rfl _ _ 22 rfl w.heap.size 5 i0 (.int .u8 0) 1 1 Try.underlying22 hi hz0 hz1 hz2 rfl (by decide) _ _ _ rfl (hown.alloc _) ⟨wr.heap.size, 0, none⟩ 1 1 [Value.int .u8 (m : Int)] rfl rfl (one_new _ _ _) (by intro u hu; simp at hu; subst hu; rfl) (by unfold maxLen; omega) (by omega) (by simp; omega) ?_)
      intro v1 w1 hown1 hg1 hn1
      have hb1 := below_app hb (Nat.le_refl _) hown hg1
      rw [bv_snoc pre (UInt8.ofNat m) m (by simp; omega)] at hown1
      have HV : pre ++ [UInt8.ofNat m] = vt N := by rw [← vt_small m hlt]; exact hv.out
      rw [HV] at hown1
      obtain ⟨g, cap, hv1, hcv⟩ := conv_own hown1 hn1
      clear HV
      rw [hv1]
      clear hown1 hg1 hown hv1 hn1
      go_wp2
      go_ret
      exact ⟨rfl, hb1⟩
    · go_wp2_with (at_builtin; refine wpList_append_own _ rfl _ _ 22 rfl w.heap.size 5 i0 (.int .u8 0) 1 1 Try.underlying22 hi hz0 hz1 hz2 rfl (by decide) _ _ _ rfl (hown.alloc _) ⟨wr.heap.size, 0, none⟩ 1 1 [Value.int .u8 ((m : Int) % 128 + 128)] rfl rfl (one_new _ _ _) (by intro u hu; simp at hu; subst hu; rfl) (by unfold maxLen; omega) (by omega) (by simp; omega) ?_)
      intro v1 w1 hown1 hg1 _
      have hb1 := below_app hb (Nat.le_refl _) hown hg1
      rw [bv_snoc pre (UInt8.ofNat (m % 128 + 128)) _ (by simp; omega)] at hown1
      have HV : Hid ((pre ++ [UInt8.ofNat (m % 128 + 128)]) ++ vt (m / 128) = vt N) := by
        show _ = _
        rw [List.append_assoc, List.singleton_append, ← vt_big m hlt]; exact hv.out
      clear hg1 hown hv
      go_wp2
      go_roundw
      case rel => exact ⟨m / 128, pre ++ [UInt8.ofNat (m % 128 + 128)], by omega, by go_num, HV, by simpa using hown1, hb1⟩
      case measure => simp [intOf]; omega

theorem l01In_yes (x a b : Int) (h1 : a ≤ x) (h2 : x ≤ b) (w : World) :
    Calls Try.prog 46 #[.int .i64 x, .int .i64 a, .int .i64 b] w fun e w' => e = .returned (.bool true) ∧ w' = w := by
  have d1 : decide (a ≤ x) = true := by simp [h1]
  have d2 : decide (x ≤ b) = true := by simp [h2]
  go_enter Try.func46, Try.ntmps46
  go_wp2
  go_ret
  exact ⟨by simp, rfl⟩

theorem l01In_no (x a b : Int) (h : x < a ∨ b < x) (w : World) :
    Calls Try.prog 46 #[.int .i64 x, .int .i64 a, .int .i64 b] w fun e w' => e = .returned (.bool false) ∧ w' = w := by
  by_cases h1 : a ≤ x
  · have d1 : decide (a ≤ x) = true := by simp [h1]
    have h2 : ¬ x ≤ b := by omega
    have d2 : decide (x ≤ b) = false := by simp [h2]
    go_enter Try.func46, Try.ntmps46
    go_wp2
    go_ret
    exact ⟨by simp, rfl⟩
  · have d1 : decide (a ≤ x) = false := by simp [h1]
    go_enter Try.func46, Try.ntmps46
    go_wp2
    go_ret
    exact ⟨by simp, rfl⟩

end Go.Proofs.Ytkhhagjcmbbdpaa
namespace Go.Proofs.Ytkhhagjcmbbdpaa
open Go.RowKit Vt

theorem l01Var_str (x : Int) (h0 : 0 ≤ x) (h1 : x ≤ 1000000000) (w : World) :
    Calls Try.prog 75 #[.int .i64 x] w fun e w' => e = .returned (.string (str (vt x.toNat))) ∧ Below w.heap.size w w' := by
  obtain ⟨N, rfl⟩ := Int.eq_ofNat_of_zero_le h0
  exact l01Var_any N (by omega) w

theorem l09Byte_any (x : Int) (h0 : 0 ≤ x) (h1 : x < 256) (w : World) :
    Calls Try.prog 76 #[.int .i64 x] w fun e w' => e = .returned (.string (str [ob x])) ∧ Below w.heap.size w w' := by
  have CV : ∀ (g : Nat) (W : World), W.cell? ⟨g, 0, none⟩ = some (.int .u8 x) → (convert 22 9 (.slice (some ⟨g, 0, none⟩) 1 1)).run Try.prog W = .ok (.string (str [ob x])) W := fun g W hW => conv_g g (ob x) x (ob_back ⟨h0, h1⟩) W hW
  go_enter Try.func76, Try.ntmps76
  go_wp2
  go_ret
  exact ⟨rfl, bel1 _ _⟩

set_option maxRecDepth 100000 in
set_option maxHeartbeats 4000000 in
theorem l09Edges_any (es : List EdgeV) (k : Nat) (a : Option Addr) (c : Nat) (hk : k ≤ 100) (hby : EB8 es) (w : World) (h : Es w w.heap.size a k es) :
    Calls Try.prog 77 #[.slice a k c] w fun e w' => e = .returned (.string (str (et es))) ∧ Below w.heap.size w w' := by
  obtain ⟨hlen, hrow⟩ := h
  have HR := hideIt hrow
  have HL := hideIt hlen
  have HN := hideIt (l01Var_str (k : Int) (by omega) (by omega) w)
  rw [Int.toNat_natCast] at HN
  have hv5 := vt_le5 k (by omega)
  have HB := hideIt hby
  clear hrow hby
  go_enter Try.func77, Try.ntmps77
  go_wp2_with (go_at_call 75; refine HN.out.mono ?_; rintro e w1 ⟨rfl, hb1⟩)
  clear HN
  go_loopw [3, 4] (fun s i wr => ∃ (j : Nat) (L : List UInt8), j ≤ k ∧ i = .int .i64 (j : Int) ∧ s = .string (str L) ∧ Hid (L = vt k ++ eb (es.take j)) ∧ Below w.heap.size w wr) (fun _ i _ => k - (intOf i).toNat)
  case atStart => exact ⟨0, vt k, by omega, rfl, rfl, by show _ = _; simp [eb], hb1⟩
  case round =>
    obtain ⟨j, L, hj, rfl, rfl, hL, hb⟩ := hrel
    by_cases hlt : j < k
    · rcases HR.out with hz | ⟨b, off, rfl, hbl, hc⟩
      · omega
      · obtain ⟨f, hf⟩ : ∃ f, es[j]? = some f := ⟨es[j]'(by omega), List.getElem?_eq_getElem (by omega)⟩
        obtain ⟨c0, c1⟩ := hc j f hf
        obtain ⟨⟨f1, f2⟩, f3, f4⟩ := HB.out f (List.mem_of_getElem? hf)
        have b1 : (0 : Int) ≤ (j : Int) := by omega
        have b2 : (j : Int) < (k : Int) := by omega
        have HTk := hideIt (take_snocF es j f hf)
        have hle : L.length ≤ 205 := by rw [hL.out, List.length_append, eb_length]; simp; omega
        have A1 : ∀ wx, (Op.stringOp .add (str L) (str [ob f.1])).run Try.prog wx = .ok (.string (str (L ++ [ob f.1]))) wx := str_add _ _ (by simp; omega)
        have A2 : ∀ wx, (Op.stringOp .add (str (L ++ [ob f.1])) (str [ob f.2])).run Try.prog wx = .ok (.string (str (L ++ [ob f.1] ++ [ob f.2]))) wx := str_add _ _ (by simp; omega)
        have HL1 : Hid (L ++ [ob f.1, ob f.2] = vt k ++ eb (es.take (j + 1))) := by show _ = _; rw [HTk.out, eb_append, hL.out]; simp [eb]
        have HK : Hid (∀ W : World, Below w.heap.size w W → (W.cell? ⟨b, off + j * 2, none⟩ = some (.int .i64 f.1) ∧ W.cell? ⟨b, off + j * 2 + 1, none⟩ = some (.int .i64 f.2))) := fun W hW =>
          ⟨by rw [hW.cell hbl]; exact c0, by rw [hW.cell hbl]; exact c1⟩
        have HY : Hid (∀ (x : Int) (W : World), 0 ≤ x → x < 256 → Below w.heap.size w W → Calls Try.prog 76 #[.int .i64 x] W fun e w' => e = .returned (.string (str [ob x])) ∧ Below w.heap.size w w') := fun x W h0 h1 hW =>
          (l09Byte_any x h0 h1 W).mono fun _ _ ⟨he, hb⟩ => ⟨he, hW.trans (hb.mono hW.size)⟩
        have B0 := hb.drew
        clear c0 c1 hc hf hL HTk hle
        go_wp2
        go_region_held3 (fun u => Below w.heap.size w u ∧ u.cell? ⟨b, off + j * 2, none⟩ = some (.int .i64 f.1) ∧ u.cell? ⟨b, off + j * 2 + 1, none⟩ = some (.int .i64 f.2))
          (first | exact ⟨B2, HK.out _ B2⟩ | exact ⟨B1, HK.out _ B1⟩ | exact ⟨B0, HK.out _ B0⟩)
          (first
          | (go_at_call 76; refine (HY.out f.2 _ f3 f4 B1).mono ?_; rintro e w3 ⟨rfl, B2⟩)
          | (go_at_call 76; refine (HY.out f.1 _ f1 f2 B0).mono ?_; rintro e w2 ⟨rfl, B1⟩))
        all_goals
          go_wp2
          exact ⟨⟨j + 1, _, by omega, by go_num, rfl, HL1, B2⟩, by simp [intOf]; omega⟩
    · have e : es.take j = es := List.take_of_length_le (by omega)
      have hz : Hid (L = et es) := by show _ = _; rw [hL.out, e]; unfold et; rw [HL.out]
      clear e hL HL hlen
      go_wp2
      go_ret
      exact ⟨by show Ending.returned (.string (str L)) = _; rw [hz.out], hb⟩

end Go.Proofs.Ytkhhagjcmbbdpaa
namespace Go.Proofs.Ytkhhagjcmbbdpaa
open Go.RowKit Vt

set_option maxRecDepth 100000 in
set_option maxHeartbeats 4000000 in
theorem sOrderText_no (n num op : Int) (es : List EdgeV) (v : Int) (k : Nat) (a : Option Addr) (c : Nat) (hk : k ≤ 1048576) (w : World) (h : Es w w.heap.size a k es) (hB : oB n ⟨num, op, es, v⟩ = false) :
    Calls Try.prog 33 #[.int .i64 n, ordV num op a k c v] w fun e w' => e = .returned (.tuple #[.string ⟨#[]⟩, .bool false]) ∧ Below w.heap.size w w' := by
  have HO := hideIt (sOrderOk_any n num op es v k a c hk (w.alloc (.cells #[.int .i64 num, .int .i64 op, .slice a k c, .int .i64 v] 26)) ((h.alloc (Nat.le_refl _) _).mono (by simp)))
  rw [hB] at HO
  unfold ordV at HO ⊢
  clear h hB
  go_enter Try.func33, Try.ntmps33
  go_wp2_with (go_at_call 14; refine HO.out.mono ?_; rintro e w1 ⟨rfl, hb⟩)
  go_ret2
  exact ⟨rfl, (bel1 _ _).trans (hb.mono (by simp))⟩

set_option maxRecDepth 100000 in
set_option maxHeartbeats 4000000 in
theorem sOrderText_yes (n num op : Int) (es : List EdgeV) (v : Int) (k : Nat) (a : Option Addr) (c : Nat) (hk : k ≤ 1048576) (w : World) (h : Es w w.heap.size a k es) (hB : oB n ⟨num, op, es, v⟩ = true) :
    Calls Try.prog 33 #[.int .i64 n, ordV num op a k c v] w fun e w' => e = .returned (.tuple #[.string (str (oText ⟨num, op, es, v⟩)), .bool true]) ∧ Below w.heap.size w w' := by
  obtain ⟨p0, p1, p2, p3, p4⟩ := oB_parts hB
  dsimp only at p1 p2 p3 p4
  have HO : Hid (Calls Try.prog 14 #[.int .i64 n, ordV num op a k c v] (w.alloc (.cells #[.int .i64 num, .int .i64 op, .slice a k c, .int .i64 v] 26)) fun e w' => e = .returned (.bool true) ∧ Below w.heap.size w w' ∧
      w'.cell? ⟨w.heap.size, 0, none⟩ = some (.int .i64 num) ∧ w'.cell? ⟨w.heap.size, 1, none⟩ = some (.int .i64 op) ∧ w'.cell? ⟨w.heap.size, 2, none⟩ = some (.slice a k c) ∧ w'.cell? ⟨w.heap.size, 3, none⟩ = some (.int .i64 v) ∧ w.heap.size < w'.heap.size) :=
    (sOrderOk_any n num op es v k a c hk (w.alloc (.cells #[.int .i64 num, .int .i64 op, .slice a k c, .int .i64 v] 26)) ((h.alloc (Nat.le_refl _) _).mono (by simp))).mono fun _ _ ⟨he, hb⟩ =>
      ⟨by rw [he, hB], (bel1 _ _).trans (hb.mono (by simp)), by rw [hb.cell (by simp)]; simp, by rw [hb.cell (by simp)]; simp, by rw [hb.cell (by simp)]; simp, by rw [hb.cell (by simp)]; simp, by have := hb.size; simp at this; omega⟩
  have HN : Hid (∀ (x : Int) (W : World), 0 ≤ x → x ≤ 1000000000 → Calls Try.prog 75 #[.int .i64 x] W fun e w' => e = .returned (.string (str (vt x.toNat))) ∧ Below W.heap.size W w') := fun x W h0 h1 => l01Var_str x h0 h1 W
  have HY := hideIt (l09Byte_any op (by omega) (by omega))
  have HE : Hid (∀ W, Below w.heap.size w W → Calls Try.prog 77 #[.slice a k c] W fun e w' => e = .returned (.string (str (et es))) ∧ Below W.heap.size W w') := fun W hW => l09Edges_any es k a c (by have := h.1; omega) p2.1 W (h.up hW)
  have hl1 := vt_le5 num.toNat (by omega)
  have hl2 := vt_le5 v.toNat (by omega)
  have hl3 : (et es).length ≤ 205 := by
    unfold et
    rw [List.length_append, eb_length]
    have := vt_le5 es.length (by omega)
    omega
  have A1 : ∀ wx, (Op.stringOp .add (str (vt num.toNat)) (str [ob op])).run Try.prog wx = .ok (.string (str (vt num.toNat ++ [ob op]))) wx := str_add _ _ (by simp; omega)
  have A2 : ∀ wx, (Op.stringOp .add (str (vt num.toNat ++ [ob op])) (str (vt v.toNat))).run Try.prog wx = .ok (.string (str (vt num.toNat ++ [ob op] ++ vt v.toNat))) wx := str_add _ _ (by simp; omega)
  have A3 : ∀ wx, (Op.stringOp .add (str (vt num.toNat ++ [ob op] ++ vt v.toNat)) (str (et es))).run Try.prog wx = .ok (.string (str (vt num.toNat ++ [ob op] ++ vt v.toNat ++ et es))) wx := str_add _ _ (by simp; omega)
  have FN : Hid (str (vt num.toNat ++ [ob op] ++ vt v.toNat ++ et es) = str (oText ⟨num, op, es, v⟩)) := by show _ = _; unfold oText; simp
  generalize str (vt num.toNat ++ [ob op] ++ vt v.toNat ++ et es) = s3 at A3 FN
  generalize str (vt num.toNat ++ [ob op] ++ vt v.toNat) = s2 at A2 A3
  generalize str (vt num.toNat ++ [ob op]) = s1 at A1 A2
  have n1 : 0 ≤ num := by omega
  have n2 : num ≤ 1000000000 := by omega
  have n3 : 0 ≤ v := by omega
  have n4 : v ≤ 1000000000 := by omega
  unfold ordV at HO ⊢
  clear h hB hl1 hl2 hl3 p2
  go_enter Try.func33, Try.ntmps33
  go_wp2_with (go_at_call 14; refine HO.out.mono ?_; rintro e w1 ⟨rfl, hb1, q0, q1, q2, q3, z1⟩; refine Hid.out ?_)
  refine (show ∀ {p : Prop}, p → Hid p from fun h => h) ?_
  have KC : Hid (∀ W, Below w1.heap.size w1 W → (W.cell? ⟨w.heap.size, 0, none⟩ = some (.int .i64 num) ∧ W.cell? ⟨w.heap.size, 1, none⟩ = some (.int .i64 op) ∧ W.cell? ⟨w.heap.size, 2, none⟩ = some (.slice a k c) ∧ W.cell? ⟨w.heap.size, 3, none⟩ = some (.int .i64 v))) := fun W hW =>
    ⟨by rw [hW.cell z1]; exact q0, by rw [hW.cell z1]; exact q1, by rw [hW.cell z1]; exact q2, by rw [hW.cell z1]; exact q3⟩
  have Z1 : Hid (∀ W, Below w1.heap.size w1 W → Below w.heap.size w W) := fun W hW => hb1.trans (hW.mono hb1.size)
  have B0 : Below w1.heap.size w1 w1.drew := (Below.refl _ _).drew
  go_wp2
  go_region_held3 (fun u => Below w1.heap.size w1 u ∧ (u.cell? ⟨w.heap.size, 0, none⟩ = some (.int .i64 num) ∧ u.cell? ⟨w.heap.size, 1, none⟩ = some (.int .i64 op) ∧ u.cell? ⟨w.heap.size, 2, none⟩ = some (.slice a k c) ∧ u.cell? ⟨w.heap.size, 3, none⟩ = some (.int .i64 v)))
    (first | exact ⟨B4, KC.out _ B4⟩ | exact ⟨B3, KC.out _ B3⟩ | exact ⟨B2, KC.out _ B2⟩ | exact ⟨B1, KC.out _ B1⟩ | exact ⟨B0, KC.out _ B0⟩)
    (first
    | (go_at_call 77; refine (HE.out _ (Z1.out _ B3)).mono ?_; rintro e w5 ⟨rfl, hb5⟩; have B4 := B3.trans (hb5.mono B3.size))
    | (go_at_call 75; refine (HN.out _ _ (by first | exact n1 | exact n3) (by first | exact n2 | exact n4)).mono ?_; rintro e w4 ⟨rfl, hb4⟩; (first | (have B3 := B2.trans (hb4.mono B2.size)) | (have B1 := B0.trans (hb4.mono B0.size))))
    | (go_at_call 76; refine (HY.out _).mono ?_; rintro e w3 ⟨rfl, hb3⟩; have B2 := B1.trans (hb3.mono B1.size)))
  all_goals
    go_wp2
    go_ret2
    exact ⟨by rw [← FN.out]; rfl, Z1.out _ B4⟩

theorem sOrderText_any (n num op : Int) (es : List EdgeV) (v : Int) (k : Nat) (a : Option Addr) (c : Nat) (hk : k ≤ 1048576) (w : World) (h : Es w w.heap.size a k es) :
    Calls Try.prog 33 #[.int .i64 n, ordV num op a k c v] w fun e w' => e = .returned (otV n ⟨num, op, es, v⟩) ∧ Below w.heap.size w w' := by
  cases hB : oB n ⟨num, op, es, v⟩ with
  | false => rw [otV_no hB]; exact sOrderText_no n num op es v k a c hk w h hB
  | true => rw [otV_yes hB]; exact sOrderText_yes n num op es v k a c hk w h hB
end Go.Proofs.Ytkhhagjcmbbdpaa
