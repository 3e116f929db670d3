/- A row of bytes that the call made out of a text: what is appended to it, and the text of it again. Its mark of frozen cells lies behind its room. What the program's VarText answers at every number in its range. The program's texts of numbers, of edges and of what an order wants done. The text of what an order wants done. The methods that tell what an order wants done as a text. The specification's OrderText. -/
import Derived.Test.YtaipbkigngjkbaaKMem
import Derived.Lib.FrozenHead
import Derived.Test.YtaipbkigngjkbaaKOr10
import Derived.Test.YtaipbkigngjkbaaKAOk10
import Derived.Test.YtaipbkigngjkbaaKBq14
namespace Go.Proofs.Ytaipbkigngjkbaa
open Go.RowKit

/-- the slice v owns the bytes l; what is frozen of its block lies behind its room -/
def OwnG (w : World) (base : Nat) (v : Value) (l : List UInt8) : Prop :=
  ∃ g cap cur fz, v = .slice (some ⟨g, 0, none⟩) l.length cap ∧ base ≤ g ∧ w.heap[g]? = some (.cells cur 5 fz) ∧ (cap ≤ fz.1 ∨ fz.2 = 0) ∧ l.length ≤ cap ∧ cap ≤ maxLen ∧ cur.size = cap ∧ cur.toList.take l.length = bv l

theorem OwnG.lt {w : World} {base : Nat} {v : Value} {l : List UInt8} (h : OwnG w base v l) : ∀ k, v.ownBlock = some k → base ≤ k ∧ k < w.heap.size := by
  obtain ⟨g, cap, cur, fz, rfl, hb, hg, _⟩ := h
  intro k hk
  simp [Value.ownBlock] at hk
  subst hk
  exact ⟨hb, (Array.getElem?_eq_some_iff.1 hg).1⟩

theorem OwnG.kept {w w' : World} {base : Nat} {v : Value} {l : List UInt8} {row : Option Nat} (h : OwnG w base v l) (hg : w.grownBy w' row) (hne : v.ownBlock ≠ row) : OwnG w' base v l := by
  obtain ⟨g, cap, cur, fz, rfl, hb, hgg, rest⟩ := h
  refine ⟨g, cap, cur, fz, rfl, hb, ?_, rest⟩
  rw [hg.block g (Array.getElem?_eq_some_iff.1 hgg).1 (by simpa [Value.ownBlock] using hne)]
  exact hgg

theorem OwnG.alloc {w : World} {base : Nat} {v : Value} {l : List UInt8} (h : OwnG w base v l) (o : Obj) : OwnG (w.alloc o) base v l := by
  refine h.kept (World.grownBy_alloc w o none) ?_
  obtain ⟨g, cap, cur, fz, rfl, _⟩ := h
  simp [Value.ownBlock]

theorem OwnG.cells {w : World} {base g cap : Nat} {l : List UInt8} (h : OwnG w base (.slice (some ⟨g, 0, none⟩) l.length cap) l) : ∀ j u, (bv l)[j]? = some u → w.cell? ((⟨g, 0, none⟩ : Addr).add j) = some u := by
  intro j u hu
  obtain ⟨g', cap', cur, fz, hv, _, hgg, _, _, _, _, htake⟩ := h
  simp at hv
  obtain ⟨rfl, rfl⟩ := hv
  have hadd : (⟨g, 0, none⟩ : Addr).add j = ⟨g, j, none⟩ := by unfold Addr.add; split <;> simp_all
  rw [hadd, cell_of_row w g j cur 5 fz hgg]
  rw [← htake, List.getElem?_take] at hu
  split at hu
  · simpa using hu
  · cases hu

/-- cells are stored one behind the other where nothing is frozen -/
theorem storeG (P : Program) (g o : Nat) (t : TypeId) (fz : Nat × Nat) : ∀ (vs : List Value) (i : Nat) (cur : Array Value) (w : World), w.heap[g]? = some (.cells cur t fz) → (cur.size ≤ fz.1 ∨ fz.2 = 0) → o + i + vs.length ≤ cur.size → (∀ v ∈ vs, v.oneCell' = true) →
    (storeCells ⟨g, o, none⟩ vs i).run P w = .ok () (w.setRow g (cur.toList.take (o + i) ++ vs ++ cur.toList.drop (o + i + vs.length)).toArray) := by
  intro vs
  induction vs with
  | nil =>
    intro i cur w hg _ _ _
    simp only [storeCells, List.append_nil, List.length_nil, Nat.add_zero, List.take_append_drop, Array.toArray_toList]
    rw [setRow_self w g cur t fz hg]
    rfl
  | cons v rest ih =>
    intro i cur w hg hfz hl h1
    have hi : o + i < cur.size := by simp at hl; omega
    have hadd : (⟨g, o, none⟩ : Addr).add i = ⟨g, o + i, none⟩ := by unfold Addr.add; split <;> simp_all
    have hcell : w.cell? ⟨g, o + i, none⟩ = some cur[o + i] := by simp [World.cell?, hg, hi]
    have hfro : w.frozen? ⟨g, o + i, none⟩ = false := by
      obtain ⟨lo, hi'⟩ := fz
      simp only [World.frozen?, hg, Bool.and_eq_false_iff, decide_eq_false_iff_not]
      simp only at hfz
      omega
    have hst : (store ((⟨g, o, none⟩ : Addr).add i) v).run P w = .ok () (w.setRow g (cur.setIfInBounds (o + i) v)) := by
      rw [hadd, run_store P w _ v _ (h1 v (by simp)), hcell]
      simp [hfro, setCell_eq_setRow w g (o + i) cur t fz v hg]
    have ih := ih (i + 1) (cur.setIfInBounds (o + i) v) (w.setRow g (cur.setIfInBounds (o + i) v)) (setRow_heap w g cur _ t _ hg) (by simpa using hfz) (by simp at hl ⊢; omega) (fun x hx => h1 x (by simp [hx]))
    simp only [storeCells, Sem.run_bind, hst, Result.andThen_ok, ih, setRow_setRow]
    congr 3
    have e := list_seg_step cur.toList (o + i) v rest (by simp at hl ⊢; omega)
    simpa [Array.toList_setIfInBounds, Nat.add_assoc] using e

theorem bv_app (l m : List UInt8) : bv (l ++ m) = bv l ++ bv m := by simp [bv]
theorem bv_len (l : List UInt8) : (bv l).length = l.length := by simp [bv]
theorem bv_one (l : List UInt8) : ∀ u ∈ bv l, u.oneCell' = true := by
  intro u hu
  simp only [bv, List.mem_map] at hu
  obtain ⟨b, _, rfl⟩ := hu
  rfl

/-- bytes are appended to it -/
theorem run_appendG (w : World) (base : Nat) (ty : TypeId) (v : Value) (l : List UInt8) (hown : OwnG w base v l)
    (a : Addr) (c : Nat) (m : List UInt8) (hnews : ∀ j u, (bv m)[j]? = some u → w.cell? (a.add j) = some u) (hsm : l.length + m.length ≤ 1000000) (hbase : base ≤ w.heap.size) :
    ∃ v' w', (Builtin.append_ #[81, 81] ty #[v, .slice (some a) m.length c]).run Try.prog w = .ok v' w' ∧ OwnG w' base v' (l ++ m) ∧ w.grownBy w' v.ownBlock := by
  obtain ⟨i0, hi, hz0, hz1, hz2⟩ := info_parts info5
  have hown0 := hown
  obtain ⟨g, cap, cur, fz, rfl, hbg, hg, hfz, hnc, hcm, hcs, htake⟩ := hown
  have hf := run_firstCells_some (P := Try.prog) w i0.size m.length a m.length c (bv m) (by rw [bv_len, hz1]; omega) hnews
  by_cases hroom : l.length + m.length ≤ cap
  · have hst := storeG Try.prog g (l.length * i0.size) 5 fz (bv m) 0 cur w hg (by omega) (by rw [bv_len, hz1]; omega) (bv_one m)
    simp only [Nat.add_zero] at hst
    have hr : (Builtin.append_ #[81, 81] ty #[.slice (some ⟨g, 0, none⟩) l.length cap, .slice (some a) m.length c]).run Try.prog w = .ok (.slice (some ⟨g, 0, none⟩) (l.length + m.length) cap) (w.setRow g (cur.toList.take (l.length * i0.size) ++ bv m ++ cur.toList.drop (l.length * i0.size + (bv m).length)).toArray) := by
      simp [Builtin.append_, run_underlying Try.underlying81, sizeOf, typeInfo, hi, Builtin.lenOf, hroom, hf, Addr.add_lit, hst]
    refine ⟨_, _, hr, ⟨g, cap, _, fz, by simp, hbg, setRow_heap w g cur _ 5 _ hg, hfz, by simpa using hroom, hcm, ?_, ?_⟩, ⟨rfl, rfl, rfl, by simp, fun k _ hk => setRow_other w g k _ (fun e => hk (by simp [Value.ownBlock, e]))⟩⟩
    · simp only [List.size_toArray, List.length_append, List.length_take, List.length_drop, Array.length_toList, bv_len, hz1]
      omega
    · rw [hz1, Nat.mul_one, htake, bv_app, ← bv_len, bv_app]
      exact List.take_left
  · have hr := run_append_grow (P := Try.prog) w 81 ty 5 i0 (.int .u8 0) Try.underlying81 hi hz0 ⟨g, 0, none⟩ l.length cap (bv l) (by rw [bv_len, hz1]; omega) hown0.cells a m.length c (bv m) (by rw [bv_len, hz1]; omega) hnews (by omega) (by omega) (growslice_fits (by omega) (by rw [hz2]; omega))
    have hge := grownCap_ge w (l.length + m.length) cap 5
    have hcm2 : grownCap w (l.length + m.length) cap 5 ≤ maxLen := grownCap_le_maxLen w (l.length + m.length) cap 5 (by unfold maxLen; omega)
    refine ⟨_, _, hr, ⟨w.heap.size, _, _, (0, 0), by simp, hbase, heap_alloc_new w.drew _, .inr rfl, by simpa using hge, hcm2, ?_, ?_⟩, ⟨rfl, rfl, rfl, by simp, fun k hk _ => Below.heap_alloc w.drew _ k hk⟩⟩
    · simp only [Array.size_append, List.size_toArray, size_zeroCells, bv_len]
      simp [Value.cells]
      omega
    · simp only [Array.toList_append, List.append_assoc]
      rw [← List.append_assoc, ← bv_app, ← bv_len]
      exact List.take_left

theorem wpList_appendG {ops : Array Oper} {rest : List Oper} {o : Oper} {a : Act} {w : World} {Q : Exit → Act → World → Prop} (hgd : o.guard = none) (s x : Operand)
    (ho : o.op = .call { callee := .builtin .append, args := #[s, x], argTypes := #[81, 81] })
    (base : Nat) (v : Value) (l : List UInt8) (hs : a.eval s = v) (hown : OwnG w base v l)
    (ad : Addr) (k c : Nat) (m : List UInt8) (hk : m.length = k) (hx : a.eval x = .slice (some ad) k c) (hnews : ∀ j u, (bv m)[j]? = some u → w.cell? (ad.add j) = some u) (hsm : l.length + m.length ≤ 1000000) (hbase : base ≤ w.heap.size)
    (h : ∀ v' w', OwnG w' base v' (l ++ m) → w.grownBy w' v.ownBlock → wpList Try.prog ops Q rest (a.put o.dst v') w') : wpList Try.prog ops Q (o :: rest) a w := by
  subst hk
  refine wpList_plain hgd fun K hK => ?_
  obtain ⟨v', w', hr, h2, h3⟩ := run_appendG w base o.type v l hown ad c m hnews hsm hbase
  unfold Oper.wp execOp
  simp only [ho, resolve, invoke, builtin, Sem.run_bind, Sem.run_pure, Result.andThen_ok, List.map_toArray, List.map_cons, List.map_nil, hs, hx, hr]
  exact hK _ _ (h v' w' h2 h3)

/-- '[]byte(t)': a new row of its bytes -/
theorem conv_newG (t : List UInt8) (ht : t.length ≤ 1000000) (u : World) :
    ∃ v w', (convert 9 81 (.string ⟨t.toArray⟩)).run Try.prog u = .ok v w' ∧ OwnG w' u.heap.size v t ∧ Below u.heap.size u w' := by
  refine ⟨_, _, run_bytes_of_string u 9 81 5 ⟨t.toArray⟩ Try.underlying9 Try.underlying81 Try.underlying5, ?_, (Below.refl _ _).drew.alloc (Nat.le_refl _) _⟩
  have hs : (⟨t.toArray⟩ : ByteArray).size = t.length := by simp [ByteArray.size]
  rw [hs]
  have hge := grownCap_ge u t.length 0 5
  refine ⟨u.heap.size, grownCap u t.length 0 5, _, _, rfl, Nat.le_refl _, heap_alloc_new u.drew _, ?_, hge, grownCap_le_maxLen u t.length 0 5 (by unfold maxLen; omega), ?_, ?_⟩
  · left
    simp [bytesRow, hs]
    omega
  · simp [bytesRow, hs]
    omega
  · simp only [bytesRow, Array.toList_append, Array.toList_map]
    rw [List.take_append_of_le_length (by simp)]
    rw [List.take_of_length_le (by simp)]
    rfl

/-- 'string(b)' of it -/
theorem conv_backG {w : World} {base : Nat} {v : Value} {l : List UInt8} (h : OwnG w base v l) : (convert 81 9 v).run Try.prog w = .ok (.string ⟨l.toArray⟩) w := by
  have h0 := h
  obtain ⟨g, cap, cur, fz, rfl, _⟩ := h
  exact run_convert_bytes_back (P := Try.prog) w 81 9 5 ⟨g, 0, none⟩ cap l Try.underlying81 Try.underlying5 Try.underlying9 (fun j hj => h0.cells j _ (by simp [bv, hj]))

theorem below_appG {B : Nat} {w wr w1 : World} {v : Value} {l : List UInt8} {o : Obj} (hb : Below B w wr) (hB : B ≤ w.heap.size)
    (hown : OwnG wr B v l) (hg : (wr.alloc o).grownBy w1 v.ownBlock) : Below B w w1 :=
  (hb.alloc (by have := hb.size; omega) _).grown hg (by have := hb.size; simp; omega) (fun k hk => (hown.lt k hk).1)
end Go.Proofs.Ytaipbkigngjkbaa
namespace Go.Proofs.Ytaipbkigngjkbaa
open Go.RowKit Vt

end Go.Proofs.Ytaipbkigngjkbaa
namespace Go.Proofs.Ytaipbkigngjkbaa
open Go.RowKit Vt

/-- bytes as a text -/
def str (L : List UInt8) : ByteArray := ⟨L.toArray⟩
theorem str_size (L : List UInt8) : (str L).size = L.length := by simp [str, ByteArray.size]
theorem str_app (L M : List UInt8) : str L ++ str M = str (L ++ M) := by
  apply ByteArray.ext
  simp [str, ByteArray.data_append]
theorem str_list (L : List UInt8) : (str L).data.toList = L := by simp [str]
theorem str_add {P : Program} (L M : List UInt8) (h : L.length + M.length ≤ 1000000) (w : World) : (Op.stringOp .add (str L) (str M)).run P w = .ok (.string (str (L ++ M))) w := by
  rw [run_string_add_sum w _ _ (by rw [str_size, str_size]; omega), str_app]

theorem vt_le5 (n : Nat) (h : n ≤ 1000000000) : (vt n).length ≤ 5 := vt_len 4 n (by
  have : (128 : Nat) ^ (4 + 1) = 34359738368 := by decide
  omega)

theorem two_new (w : World) (a b : UInt8) (x y : Int) (hx : (a.toNat : Int) = x) (hy : (b.toNat : Int) = y) (t : TypeId) : ∀ j u, (bv [a, b])[j]? = some u → (w.alloc (.cells #[.int .u8 x, .int .u8 y] t)).cell? ((⟨w.heap.size, 0, none⟩ : Addr).add j) = some u := by
  subst hx hy
  intro j u hj
  match j, hj with
  | 0, hj => simp [bv] at hj; subst hj; simp [Addr.add]
  | 1, hj => simp [bv] at hj; subst hj; simp [Addr.add]

theorem one_newG (w : World) (a : UInt8) (x : Int) (hx : (a.toNat : Int) = x) (t : TypeId) : ∀ j u, (bv [a])[j]? = some u → (w.alloc (.cells #[.int .u8 x] t)).cell? ((⟨w.heap.size, 0, none⟩ : Addr).add j) = some u := by
  subst hx
  intro j u hj
  match j, hj with
  | 0, hj => simp [bv] at hj; subst hj; simp [Addr.add]

end Go.Proofs.Ytaipbkigngjkbaa
namespace Go.Proofs.Ytaipbkigngjkbaa
open Go.RowKit Vt

theorem conv_g (g : Nat) (b : UInt8) (x : Int) (hx : (b.toNat : Int) = x) (W : World) (h : W.cell? ⟨g, 0, none⟩ = some (.int .u8 x)) :
    (convert 81 9 (.slice (some ⟨g, 0, none⟩) 1 1)).run Try.prog W = .ok (.string (str [b])) W := by
  subst hx
  refine run_convert_bytes_back (P := Try.prog) W 81 9 5 ⟨g, 0, none⟩ 1 [b] Try.underlying81 Try.underlying5 Try.underlying9 ?_
  intro j hj
  match j, hj with
  | 0, _ => exact h

theorem new_then1 (w : World) (x : Value) {w1 : World} (hb : Below (w.alloc (.cells #[x] 5)).heap.size (w.alloc (.cells #[x] 5)) w1) : w1.cell? ⟨w.heap.size, 0, none⟩ = some x ∧ w.heap.size < w1.heap.size :=
  ⟨by rw [hb.cell (by simp)]; simp, by have := hb.size; simp at this; omega⟩
/-- what was new ahead of a call stands there behind it -/
theorem new_then (w : World) (x : Value) {w1 : World} (hb : Below (w.drew.alloc (.cells #[x] 5)).heap.size (w.drew.alloc (.cells #[x] 5)) w1) : w1.cell? ⟨w.heap.size, 0, none⟩ = some x ∧ w.heap.size < w1.heap.size :=
  new_then1 w.drew x hb
theorem old_then {w w1 : World} {g : Nat} {x : Value} (h : w.cell? ⟨g, 0, none⟩ = some x ∧ g < w.heap.size) (hb : Below w.heap.size w w1) : w1.cell? ⟨g, 0, none⟩ = some x ∧ g < w1.heap.size :=
  ⟨by rw [hb.cell h.2]; exact h.1, Nat.lt_of_lt_of_le h.2 hb.size⟩

end Go.Proofs.Ytaipbkigngjkbaa
namespace Go.Proofs.Ytaipbkigngjkbaa
open Go.RowKit Vt

theorem ob1 : ((1 : UInt8).toNat : Int) = 1 := rfl

theorem es_one (w : World) (f : EdgeV) (t : TypeId) : Es (w.alloc (.cells #[.int .i64 f.1, .int .i64 f.2] t)) (w.alloc (.cells #[.int .i64 f.1, .int .i64 f.2] t)).heap.size (some ⟨w.heap.size, 0, none⟩) 1 [f] := by
  refine ⟨rfl, .inr ⟨w.heap.size, 0, rfl, by simp, fun j g hg => ?_⟩⟩
  match j, hg with
  | 0, hg => simp at hg; subst hg; simp

/-- an order's text, or none -/
def otV (n : Int) (o : OrdV) : Value := if oB n o then .tuple #[.string (str (oText o)), .bool true] else .tuple #[.string ⟨#[]⟩, .bool false]
theorem otV_yes {n : Int} {o : OrdV} (h : oB n o = true) : otV n o = .tuple #[.string (str (oText o)), .bool true] := by unfold otV; rw [h]; rfl
theorem otV_no {n : Int} {o : OrdV} (h : oB n o = false) : otV n o = .tuple #[.string ⟨#[]⟩, .bool false] := by unfold otV; rw [h]; rfl

end Go.Proofs.Ytaipbkigngjkbaa
namespace Go.Proofs.Ytaipbkigngjkbaa
open Go.RowKit Vt

theorem l01Var_str (x : Int) (h0 : 0 ≤ x) (h1 : x ≤ 1000000000) (w : World) :
    Calls Try.prog 30 #[.int .i64 x] w fun e w' => e = .returned (.string (str (vt x.toNat))) ∧ Below w.heap.size w w' := by
  obtain ⟨N, rfl⟩ := Int.eq_ofNat_of_zero_le h0
  exact l01Var_any N (by omega) w

theorem l09Byte_any (x : Int) (h0 : 0 ≤ x) (h1 : x < 256) (w : World) :
    Calls Try.prog 43 #[.int .i64 x] w fun e w' => e = .returned (.string (str [ob x])) ∧ Below w.heap.size w w' := by
  have CV : ∀ (g : Nat) (W : World), W.cell? ⟨g, 0, none⟩ = some (.int .u8 x) → (convert 81 9 (.slice (some ⟨g, 0, none⟩) 1 1)).run Try.prog W = .ok (.string (str [ob x])) W := fun g W hW => conv_g g (ob x) x (ob_back ⟨h0, h1⟩) W hW
  go_enter Try.func43, Try.ntmps43
  go_wp2
  go_ret
  exact ⟨rfl, bel1 _ _⟩

set_option maxRecDepth 100000 in
set_option maxHeartbeats 4000000 in
theorem l09Edges_any (es : List EdgeV) (k : Nat) (a : Option Addr) (c : Nat) (hk : k ≤ 100) (hby : EB8 es) (w : World) (h : Es w w.heap.size a k es) :
    Calls Try.prog 42 #[.slice a k c] w fun e w' => e = .returned (.string (str (et es))) ∧ Below w.heap.size w w' := by
  obtain ⟨hlen, hrow⟩ := h
  have HR := hideIt hrow
  have HL := hideIt hlen
  have HN := hideIt (l01Var_str (k : Int) (by omega) (by omega) w)
  rw [Int.toNat_natCast] at HN
  have hv5 := vt_le5 k (by omega)
  have HB := hideIt hby
  clear hrow hby
  go_enter Try.func42, Try.ntmps42
  go_wp2_with (go_at_call 30; refine HN.out.mono ?_; rintro e w1 ⟨rfl, hb1⟩)
  clear HN
  go_loopw [3, 4] (fun s i wr => ∃ (j : Nat) (L : List UInt8), j ≤ k ∧ i = .int .i64 (j : Int) ∧ s = .string (str L) ∧ Hid (L = vt k ++ eb (es.take j)) ∧ Below w.heap.size w wr) (fun _ i _ => k - (intOf i).toNat)
  case atStart => exact ⟨0, vt k, by omega, rfl, rfl, by show _ = _; simp [eb], hb1⟩
  case round =>
    obtain ⟨j, L, hj, rfl, rfl, hL, hb⟩ := hrel
    by_cases hlt : j < k
    · rcases HR.out with hz | ⟨b, off, rfl, hbl, hc⟩
      · omega
      · obtain ⟨f, hf⟩ : ∃ f, es[j]? = some f := ⟨es[j]'(by omega), List.getElem?_eq_getElem (by omega)⟩
        obtain ⟨c0, c1⟩ := hc j f hf
        obtain ⟨⟨f1, f2⟩, f3, f4⟩ := HB.out f (List.mem_of_getElem? hf)
        have b1 : (0 : Int) ≤ (j : Int) := by omega
        have b2 : (j : Int) < (k : Int) := by omega
        have HTk := hideIt (take_snocF es j f hf)
        have hle : L.length ≤ 205 := by rw [hL.out, List.length_append, eb_length]; simp; omega
        have A1 : ∀ wx, (Op.stringOp .add (str L) (str [ob f.1])).run Try.prog wx = .ok (.string (str (L ++ [ob f.1]))) wx := str_add _ _ (by simp; omega)
        have A2 : ∀ wx, (Op.stringOp .add (str (L ++ [ob f.1])) (str [ob f.2])).run Try.prog wx = .ok (.string (str (L ++ [ob f.1] ++ [ob f.2]))) wx := str_add _ _ (by simp; omega)
        have HL1 : Hid (L ++ [ob f.1, ob f.2] = vt k ++ eb (es.take (j + 1))) := by show _ = _; rw [HTk.out, eb_append, hL.out]; simp [eb]
        have HK : Hid (∀ W : World, Below w.heap.size w W → (W.cell? ⟨b, off + j * 2, none⟩ = some (.int .i64 f.1) ∧ W.cell? ⟨b, off + j * 2 + 1, none⟩ = some (.int .i64 f.2))) := fun W hW =>
          ⟨by rw [hW.cell hbl]; exact c0, by rw [hW.cell hbl]; exact c1⟩
        have HY : Hid (∀ (x : Int) (W : World), 0 ≤ x → x < 256 → Below w.heap.size w W → Calls Try.prog 43 #[.int .i64 x] W fun e w' => e = .returned (.string (str [ob x])) ∧ Below w.heap.size w w') := fun x W h0 h1 hW =>
          (l09Byte_any x h0 h1 W).mono fun _ _ ⟨he, hb⟩ => ⟨he, hW.trans (hb.mono hW.size)⟩
        have B0 := hb.drew
        clear c0 c1 hc hf hL HTk hle
        go_wp2
        go_region_held3 (fun u => Below w.heap.size w u ∧ u.cell? ⟨b, off + j * 2, none⟩ = some (.int .i64 f.1) ∧ u.cell? ⟨b, off + j * 2 + 1, none⟩ = some (.int .i64 f.2))
          (first | exact ⟨B2, HK.out _ B2⟩ | exact ⟨B1, HK.out _ B1⟩ | exact ⟨B0, HK.out _ B0⟩)
          (first
          | (go_at_call 43; refine (HY.out f.2 _ f3 f4 B1).mono ?_; rintro e w3 ⟨rfl, B2⟩)
          | (go_at_call 43; refine (HY.out f.1 _ f1 f2 B0).mono ?_; rintro e w2 ⟨rfl, B1⟩))
        all_goals
          go_wp2
          exact ⟨⟨j + 1, _, by omega, by go_num, rfl, HL1, B2⟩, by simp [intOf]; omega⟩
    · have e : es.take j = es := List.take_of_length_le (by omega)
      have hz : Hid (L = et es) := by show _ = _; rw [hL.out, e]; unfold et; rw [HL.out]
      clear e hL HL hlen
      go_wp2
      go_ret
      exact ⟨by show Ending.returned (.string (str L)) = _; rw [hz.out], hb⟩

end Go.Proofs.Ytaipbkigngjkbaa
