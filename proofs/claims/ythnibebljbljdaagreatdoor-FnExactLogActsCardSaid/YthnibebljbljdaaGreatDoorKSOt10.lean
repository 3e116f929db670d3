/- A row of bytes that the call made out of a text: what is appended to it, and the text of it again. Its mark of frozen cells lies behind its room. What the program's VarText answers at every number in its range. The program's texts of numbers, of edges and of what an order wants done. The text of what an order wants done. The methods that tell what an order wants done as a text. The specification's OrderText. -/
import Derived.Test.YthnibebljbljdaaGreatDoorKMem
import Derived.Lib.FrozenHead
import Derived.Test.YthnibebljbljdaaGreatDoorKOr10
import Derived.Test.YthnibebljbljdaaGreatDoorKAOk10
import Derived.Test.YthnibebljbljdaaGreatDoorKBq14
namespace Go.Proofs.YthnibebljbljdaaGreatDoor
open Go.RowKit

/-- the slice v owns the bytes l; what is frozen of its block lies behind its room -/
def OwnG (w : World) (base : Nat) (v : Value) (l : List UInt8) : Prop :=
  ∃ g cap cur fz, v = .slice (some ⟨g, 0, none⟩) l.length cap ∧ base ≤ g ∧ w.heap[g]? = some (.cells cur 5 fz) ∧ (cap ≤ fz.1 ∨ fz.2 = 0) ∧ l.length ≤ cap ∧ cap ≤ maxLen ∧ cur.size = cap ∧ cur.toList.take l.length = bv l

theorem OwnG.lt {w : World} {base : Nat} {v : Value} {l : List UInt8} (h : OwnG w base v l) : ∀ k, v.ownBlock = some k → base ≤ k ∧ k < w.heap.size := by
  obtain ⟨g, cap, cur, fz, rfl, hb, hg, _⟩ := h
  intro k hk
  simp [Value.ownBlock] at hk
  subst hk
  exact ⟨hb, (Array.getElem?_eq_some_iff.1 hg).1⟩

theorem OwnG.kept {w w' : World} {base : Nat} {v : Value} {l : List UInt8} {row : Option Nat} (h : OwnG w base v l) (hg : w.grownBy w' row) (hne : v.ownBlock ≠ row) : OwnG w' base v l := by
  obtain ⟨g, cap, cur, fz, rfl, hb, hgg, rest⟩ := h
  refine ⟨g, cap, cur, fz, rfl, hb, ?_, rest⟩
  rw [hg.block g (Array.getElem?_eq_some_iff.1 hgg).1 (by simpa [Value.ownBlock] using hne)]
  exact hgg

theorem OwnG.alloc {w : World} {base : Nat} {v : Value} {l : List UInt8} (h : OwnG w base v l) (o : Obj) : OwnG (w.alloc o) base v l := by
  refine h.kept (World.grownBy_alloc w o none) ?_
  obtain ⟨g, cap, cur, fz, rfl, _⟩ := h
  simp [Value.ownBlock]

theorem OwnG.cells {w : World} {base g cap : Nat} {l : List UInt8} (h : OwnG w base (.slice (some ⟨g, 0, none⟩) l.length cap) l) : ∀ j u, (bv l)[j]? = some u → w.cell? ((⟨g, 0, none⟩ : Addr).add j) = some u := by
  intro j u hu
  obtain ⟨g', cap', cur, fz, hv, _, hgg, _, _, _, _, htake⟩ := h
  simp at hv
  obtain ⟨rfl, rfl⟩ := hv
  have hadd : (⟨g, 0, none⟩ : Addr).add j = ⟨g, j, none⟩ := by unfold Addr.add; split <;> simp_all
  rw [hadd, cell_of_row w g j cur 5 fz hgg]
  rw [← htake, List.getElem?_take] at hu
  split at hu
  · simpa using hu
  · cases hu

/-- cells are stored one behind the other where nothing is frozen -/
theorem storeG (P : Program) (g o : Nat) (t : TypeId) (fz : Nat × Nat) : ∀ (vs : List Value) (i : Nat) (cur : Array Value) (w : World), w.heap[g]? = some (.cells cur t fz) → (cur.size ≤ fz.1 ∨ fz.2 = 0) → o + i + vs.length ≤ cur.size → (∀ v ∈ vs, v.oneCell' = true) →
    (storeCells ⟨g, o, none⟩ vs i).run P w = .ok () (w.setRow g (cur.toList.take (o + i) ++ vs ++ cur.toList.drop (o + i + vs.length)).toArray) := by
  intro vs
  induction vs with
  | nil =>
    intro i cur w hg _ _ _
    simp only [storeCells, List.append_nil, List.length_nil, Nat.add_zero, List.take_append_drop, Array.toArray_toList]
    rw [setRow_self w g cur t fz hg]
    rfl
  | cons v rest ih =>
    intro i cur w hg hfz hl h1
    have hi : o + i < cur.size := by simp at hl; omega
    have hadd : (⟨g, o, none⟩ : Addr).add i = ⟨g, o + i, none⟩ := by unfold Addr.add; split <;> simp_all
    have hcell : w.cell? ⟨g, o + i, none⟩ = some cur[o + i] := by simp [World.cell?, hg, hi]
    have hfro : w.frozen? ⟨g, o + i, none⟩ = false := by
      obtain ⟨lo, hi'⟩ := fz
      simp only [World.frozen?, hg, Bool.and_eq_false_iff, decide_eq_false_iff_not]
      simp only at hfz
      omega
    have hst : (store ((⟨g, o, none⟩ : Addr).add i) v).run P w = .ok () (w.setRow g (cur.setIfInBounds (o + i) v)) := by
      rw [hadd, run_store P w _ v _ (h1 v (by simp)), hcell]
      simp [hfro, setCell_eq_setRow w g (o + i) cur t fz v hg]
    have ih := ih (i + 1) (cur.setIfInBounds (o + i) v) (w.setRow g (cur.setIfInBounds (o + i) v)) (setRow_heap w g cur _ t _ hg) (by simpa using hfz) (by simp at hl ⊢; omega) (fun x hx => h1 x (by simp [hx]))
    simp only [storeCells, Sem.run_bind, hst, Result.andThen_ok, ih, setRow_setRow]
    congr 3
    have e := list_seg_step cur.toList (o + i) v rest (by simp at hl ⊢; omega)
    simpa [Array.toList_setIfInBounds, Nat.add_assoc] using e

theorem bv_app (l m : List UInt8) : bv (l ++ m) = bv l ++ bv m := by simp [bv]
theorem bv_len (l : List UInt8) : (bv l).length = l.length := by simp [bv]
theorem bv_one (l : List UInt8) : ∀ u ∈ bv l, u.oneCell' = true := by
  intro u hu
  simp only [bv, List.mem_map] at hu
  obtain ⟨b, _, rfl⟩ := hu
  rfl

/-- bytes are appended to it -/
theorem run_appendG (w : World) (base : Nat) (ty : TypeId) (v : Value) (l : List UInt8) (hown : OwnG w base v l)
    (a : Addr) (c : Nat) (m : List UInt8) (hnews : ∀ j u, (bv m)[j]? = some u → w.cell? (a.add j) = some u) (hsm : l.length + m.length ≤ 1000000) (hbase : base ≤ w.heap.size) :
    ∃ v' w', (Builtin.append_ #[136, 136] ty #[v, .slice (some a) m.length c]).run Tryz.prog w = .ok v' w' ∧ OwnG w' base v' (l ++ m) ∧ w.grownBy w' v.ownBlock := by
  obtain ⟨i0, hi, hz0, hz1, hz2⟩ := info_parts info5
  have hown0 := hown
  obtain ⟨g, cap, cur, fz, rfl, hbg, hg, hfz, hnc, hcm, hcs, htake⟩ := hown
  have hf := run_firstCells_some (P := Tryz.prog) w i0.size m.length a m.length c (bv m) (by rw [bv_len, hz1]; omega) hnews
  by_cases hroom : l.length + m.length ≤ cap
  · have hst := storeG Tryz.prog g (l.length * i0.size) 5 fz (bv m) 0 cur w hg (by omega) (by rw [bv_len, hz1]; omega) (bv_one m)
    simp only [Nat.add_zero] at hst
    have hr : (Builtin.append_ #[136, 136] ty #[.slice (some ⟨g, 0, none⟩) l.length cap, .slice (some a) m.length c]).run Tryz.prog w = .ok (.slice (some ⟨g, 0, none⟩) (l.length + m.length) cap) (w.setRow g (cur.toList.take (l.length * i0.size) ++ bv m ++ cur.toList.drop (l.length * i0.size + (bv m).length)).toArray) := by
      simp [Builtin.append_, run_underlying Tryz.underlying136, sizeOf, typeInfo, hi, Builtin.lenOf, hroom, hf, Addr.add_lit, hst]
    refine ⟨_, _, hr, ⟨g, cap, _, fz, by simp, hbg, setRow_heap w g cur _ 5 _ hg, hfz, by simpa using hroom, hcm, ?_, ?_⟩, ⟨rfl, rfl, rfl, by simp, fun k _ hk => setRow_other w g k _ (fun e => hk (by simp [Value.ownBlock, e]))⟩⟩
    · simp only [List.size_toArray, List.length_append, List.length_take, List.length_drop, Array.length_toList, bv_len, hz1]
      omega
    · rw [hz1, Nat.mul_one, htake, bv_app, ← bv_len, bv_app]
      exact List.take_left
  · have hr := run_append_grow (P := Tryz.prog) w 136 ty 5 i0 (.int .u8 0) Tryz.underlying136 hi hz0 ⟨g, 0, none⟩ l.length cap (bv l) (by rw [bv_len, hz1]; omega) hown0.cells a m.length c (bv m) (by rw [bv_len, hz1]; omega) hnews (by omega) (by omega) (growslice_fits (by omega) (by rw [hz2]; omega))
    have hge := grownCap_ge w (l.length + m.length) cap 5
    have hcm2 : grownCap w (l.length + m.length) cap 5 ≤ maxLen := grownCap_le_maxLen w (l.length + m.length) cap 5 (by unfold maxLen; omega)
    refine ⟨_, _, hr, ⟨w.heap.size, _, _, (0, 0), by simp, hbase, heap_alloc_new w.drew _, .inr rfl, by simpa using hge, hcm2, ?_, ?_⟩, ⟨rfl, rfl, rfl, by simp, fun k hk _ => Below.heap_alloc w.drew _ k hk⟩⟩
    · simp only [Array.size_append, List.size_toArray, size_zeroCells, bv_len]
      simp [Value.cells]
      omega
    · simp only [Array.toList_append, List.append_assoc]
      rw [← List.append_assoc, ← bv_app, ← bv_len]
      exact List.take_left

theorem wpList_appendG {ops : Array Oper} {rest : List Oper} {o : Oper} {a : Act} {w : World} {Q : Exit → Act → World → Prop} (hgd : o.guard = none) (s x : Operand)
    (ho : o.op = .call { callee := .builtin .append, args := #[s, x], argTypes := #[136, 136] })
    (base : Nat) (v : Value) (l : List UInt8) (hs : a.eval s = v) (hown : OwnG w base v l)
    (ad : Addr) (k c : Nat) (m : List UInt8) (hk : m.length = k) (hx : a.eval x = .slice (some ad) k c) (hnews : ∀ j u, (bv m)[j]? = some u → w.cell? (ad.add j) = some u) (hsm : l.length + m.length ≤ 1000000) (hbase : base ≤ w.heap.size)
    (h : ∀ v' w', OwnG w' base v' (l ++ m) → w.grownBy w' v.ownBlock → wpList Tryz.prog ops Q rest (a.put o.dst v') w') : wpList Tryz.prog ops Q (o :: rest) a w := by
  subst hk
  refine wpList_plain hgd fun K hK => ?_
  obtain ⟨v', w', hr, h2, h3⟩ := run_appendG w base o.type v l hown ad c m hnews hsm hbase
  unfold Oper.wp execOp
  simp only [ho, resolve, invoke, builtin, Sem.run_bind, Sem.run_pure, Result.andThen_ok, List.map_toArray, List.map_cons, List.map_nil, hs, hx, hr]
  exact hK _ _ (h v' w' h2 h3)

/-- '[]byte(t)': a new row of its bytes -/
theorem conv_newG (t : List UInt8) (ht : t.length ≤ 1000000) (u : World) :
    ∃ v w', (convert 9 136 (.string ⟨t.toArray⟩)).run Tryz.prog u = .ok v w' ∧ OwnG w' u.heap.size v t ∧ Below u.heap.size u w' := by
  refine ⟨_, _, run_bytes_of_string u 9 136 5 ⟨t.toArray⟩ Tryz.underlying9 Tryz.underlying136 Tryz.underlying5, ?_, (Below.refl _ _).drew.alloc (Nat.le_refl _) _⟩
  have hs : (⟨t.toArray⟩ : ByteArray).size = t.length := by simp [ByteArray.size]
  rw [hs]
  have hge := grownCap_ge u t.length 0 5
  refine ⟨u.heap.size, grownCap u t.length 0 5, _, _, rfl, Nat.le_refl _, heap_alloc_new u.drew _, ?_, hge, grownCap_le_maxLen u t.length 0 5 (by unfold maxLen; omega), ?_, ?_⟩
  · left
    simp [bytesRow, hs]
    omega
  · simp [bytesRow, hs]
    omega
  · simp only [bytesRow, Array.toList_append, Array.toList_map]
    rw [List.take_append_of_le_length (by simp)]
    rw [List.take_of_length_le (by simp)]
    rfl

/-- 'string(b)' of it -/
theorem conv_backG {w : World} {base : Nat} {v : Value} {l : List UInt8} (h : OwnG w base v l) : (convert 136 9 v).run Tryz.prog w = .ok (.string ⟨l.toArray⟩) w := by
  have h0 := h
  obtain ⟨g, cap, cur, fz, rfl, _⟩ := h
  exact run_convert_bytes_back (P := Tryz.prog) w 136 9 5 ⟨g, 0, none⟩ cap l Tryz.underlying136 Tryz.underlying5 Tryz.underlying9 (fun j hj => h0.cells j _ (by simp [bv, hj]))

theorem below_appG {B : Nat} {w wr w1 : World} {v : Value} {l : List UInt8} {o : Obj} (hb : Below B w wr) (hB : B ≤ w.heap.size)
    (hown : OwnG wr B v l) (hg : (wr.alloc o).grownBy w1 v.ownBlock) : Below B w w1 :=
  (hb.alloc (by have := hb.size; omega) _).grown hg (by have := hb.size; simp; omega) (fun k hk => (hown.lt k hk).1)
end Go.Proofs.YthnibebljbljdaaGreatDoor
namespace Go.Proofs.YthnibebljbljdaaGreatDoor
open Go.RowKit Vt

set_option maxRecDepth 100000 in
set_option maxHeartbeats 1000000 in
theorem iVarText_yes (N : Nat) (hN : N ≤ 1000000000) (w : World) :
    Calls Tryz.prog 83 #[.int .i64 (N : Int)] w fun e w' => e = .returned (.tuple #[.string ⟨(vt N).toArray⟩, .bool true]) ∧ Below w.heap.size w w' := by
  obtain ⟨i0, hi, hz0, hz1, hz2⟩ := info_parts info5
  have hlen := vt_length N N (Nat.le_refl _)
  have d1 : decide ((N : Int) < 0) = false := by simp
  have d2 : decide ((1000000000 : Int) < (N : Int)) = false := by simp; omega
  go_enter Tryz.func83, Tryz.ntmps83
  go_wp2
  go_loopw [0, 4] (fun n out wr => ∃ (m : Nat) (pre : List UInt8), m ≤ N ∧ n = .int .i64 m ∧ Hid (pre ++ vt m = vt N) ∧ wr.ownsRow w.heap.size 5 1 out pre.length (bv pre) ∧ Below w.heap.size w wr)
    (fun n _ _ => (intOf n).toNat)
  case atStart => exact ⟨N, [], Nat.le_refl _, rfl, rfl, World.ownsRow_made _ _ _ (Nat.le_refl _) (by unfold maxLen; omega) rfl, (Below.refl _ _).alloc (Nat.le_refl _) _⟩
  case round =>
    obtain ⟨m, pre, hm, rfl, hv, hown, hb⟩ := hrel
    have hl : pre.length + (vt m).length = (vt N).length := by rw [← hv.out]; simp
    have hp := vt_pos m
    have hsz := hb.size
    by_cases hlt : m < 128
    · go_wp2_with (at_builtin; refine wpList_append_own _ rfl _ _ 136 rfl w.heap.size 5 i0 (.int .u8 0) 1 1 Tryz.underlying136 hi hz0 hz1 hz2 rfl (by decide) _ _ _ rfl (hown.alloc _) ⟨wr.heap.size, 0, none⟩ 1 1 [Value.int .u8 (m : Int)] rfl rfl (one_new _ _ _) (by intro u hu; simp at hu; subst hu; rfl) (by unfold maxLen; omega) (by omega) (by simp; omega) ?_)
      intro v1 w1 hown1 hg1 hn1
      have hb1 := below_app hb (Nat.le_refl _) hown hg1
      rw [bv_snoc pre (UInt8.ofNat m) m (by simp; omega)] at hown1
      have HV : pre ++ [UInt8.ofNat m] = vt N := by rw [← vt_small m hlt]; exact hv.out
      rw [HV] at hown1
      obtain ⟨g, cap, hv1, hcv⟩ := conv_own hown1 hn1
      clear HV
      rw [hv1]
      clear hown1 hg1 hown hv1 hn1
      go_wp2
      go_ret2
      exact ⟨rfl, hb1⟩
    · go_wp2_with (at_builtin; refine wpList_append_own _ rfl _ _ 136 rfl w.heap.size 5 i0 (.int .u8 0) 1 1 Tryz.underlying136 hi hz0 hz1 hz2 rfl (by decide) _ _ _ rfl (hown.alloc _) ⟨wr.heap.size, 0, none⟩ 1 1 [Value.int .u8 ((m : Int) % 128 + 128)] rfl rfl (one_new _ _ _) (by intro u hu; simp at hu; subst hu; rfl) (by unfold maxLen; omega) (by omega) (by simp; omega) ?_)
      intro v1 w1 hown1 hg1 _
      have hb1 := below_app hb (Nat.le_refl _) hown hg1
      rw [bv_snoc pre (UInt8.ofNat (m % 128 + 128)) _ (by simp; omega)] at hown1
      have HV : Hid ((pre ++ [UInt8.ofNat (m % 128 + 128)]) ++ vt (m / 128) = vt N) := by
        show _ = _
        rw [List.append_assoc, List.singleton_append, ← vt_big m hlt]; exact hv.out
      clear hg1 hown hv
      go_wp2
      go_roundw
      case rel => exact ⟨m / 128, pre ++ [UInt8.ofNat (m % 128 + 128)], by omega, by go_num, HV, by simpa using hown1, hb1⟩
      case measure => simp [intOf]; omega

end Go.Proofs.YthnibebljbljdaaGreatDoor
namespace Go.Proofs.YthnibebljbljdaaGreatDoor
open Go.RowKit Vt

/-- bytes as a text -/
def str (L : List UInt8) : ByteArray := ⟨L.toArray⟩
theorem str_size (L : List UInt8) : (str L).size = L.length := by simp [str, ByteArray.size]
theorem str_app (L M : List UInt8) : str L ++ str M = str (L ++ M) := by
  apply ByteArray.ext
  simp [str, ByteArray.data_append]
theorem str_list (L : List UInt8) : (str L).data.toList = L := by simp [str]
theorem str_add {P : Program} (L M : List UInt8) (h : L.length + M.length ≤ 1000000) (w : World) : (Op.stringOp .add (str L) (str M)).run P w = .ok (.string (str (L ++ M))) w := by
  rw [run_string_add_sum w _ _ (by rw [str_size, str_size]; omega), str_app]

theorem vt_le5 (n : Nat) (h : n ≤ 1000000000) : (vt n).length ≤ 5 := vt_len 4 n (by
  have : (128 : Nat) ^ (4 + 1) = 34359738368 := by decide
  omega)

theorem numberText_any (x : Int) (N : Nat) (hx : (N : Int) = x) (hN : N ≤ 1000000000) (w : World) :
    Calls Tryz.prog 109 #[.int .i64 x] w fun e w' => e = .returned (.string (str (vt N))) ∧ Below w.heap.size w w' := by
  subst hx
  have HV := hideIt (iVarText_yes N hN)
  change Hid (∀ w, Calls _ _ _ w fun e w' => e = .returned (.tuple #[.string (str (vt N)), .bool true]) ∧ _) at HV
  go_enter Tryz.func109, Tryz.ntmps109
  go_wp2_with (go_at_call 83; refine (HV.out _).mono ?_; rintro e w1 ⟨rfl, hb⟩)
  go_ret
  exact ⟨rfl, hb⟩

theorem two_new (w : World) (a b : UInt8) (x y : Int) (hx : (a.toNat : Int) = x) (hy : (b.toNat : Int) = y) (t : TypeId) : ∀ j u, (bv [a, b])[j]? = some u → (w.alloc (.cells #[.int .u8 x, .int .u8 y] t)).cell? ((⟨w.heap.size, 0, none⟩ : Addr).add j) = some u := by
  subst hx hy
  intro j u hj
  match j, hj with
  | 0, hj => simp [bv] at hj; subst hj; simp [Addr.add]
  | 1, hj => simp [bv] at hj; subst hj; simp [Addr.add]

theorem one_newG (w : World) (a : UInt8) (x : Int) (hx : (a.toNat : Int) = x) (t : TypeId) : ∀ j u, (bv [a])[j]? = some u → (w.alloc (.cells #[.int .u8 x] t)).cell? ((⟨w.heap.size, 0, none⟩ : Addr).add j) = some u := by
  subst hx
  intro j u hj
  match j, hj with
  | 0, hj => simp [bv] at hj; subst hj; simp [Addr.add]

set_option maxRecDepth 100000 in
set_option maxHeartbeats 4000000 in
theorem edgesText_any (es : List EdgeV) (k : Nat) (a : Option Addr) (c : Nat) (hk : k ≤ 100) (hby : EB8 es) (w : World) (h : Es w w.heap.size a k es) :
    Calls Tryz.prog 110 #[.slice a k c] w fun e w' => e = .returned (.string (str (et es))) ∧ Below w.heap.size w w' := by
  obtain ⟨hlen, hrow⟩ := h
  have HR := hideIt hrow
  have HL := hideIt hlen
  have HN := hideIt (numberText_any (k : Int) k rfl (by omega) w)
  have hv5 := vt_le5 k (by omega)
  have HB := hideIt hby
  clear hrow hby
  go_enter Tryz.func110, Tryz.ntmps110
  go_wp2_with (go_at_call 109; refine HN.out.mono ?_; rintro e w1 ⟨rfl, hb1⟩; refine Hid.out ?_)
  refine (show ∀ {p : Prop}, p → Hid p from fun h => h) ?_
  obtain ⟨v0, w2, hcv, hown, hb2⟩ := conv_newG (vt k) (by omega) w1
  change (convert 9 136 (.string (str (vt k)))).run Tryz.prog w1 = .ok v0 w2 at hcv
  have hb12 := hb1.trans (hb2.mono hb1.size)
  have hs1 := hb1.size
  have hown : Hid (OwnG w2 w.heap.size v0 (vt k)) := by
    obtain ⟨g, cap, cur, fz, hv, hbg, rest⟩ := hown
    exact ⟨g, cap, cur, fz, hv, Nat.le_trans hs1 hbg, rest⟩
  clear HN hb1 hb2 hs1
  go_wp2
  go_loopw [3, 12] (fun v i wr => ∃ j : Nat, j ≤ k ∧ i = .int .i64 (j : Int) ∧ Hid (OwnG wr w.heap.size v (vt k ++ eb (es.take j))) ∧ Below w.heap.size w wr) (fun _ i _ => k - (intOf i).toNat)
  case atStart => exact ⟨0, by omega, rfl, by show OwnG _ _ _ _; simpa [eb] using hown.out, hb12⟩
  case round =>
    obtain ⟨j, hj, rfl, hO, hb⟩ := hrel
    by_cases hlt : j < k
    · rcases HR.out with hz | ⟨b, off, rfl, hbl, hc⟩
      · omega
      · obtain ⟨f, hf⟩ : ∃ f, es[j]? = some f := ⟨es[j]'(by omega), List.getElem?_eq_getElem (by omega)⟩
        obtain ⟨c0, c1⟩ := hc j f hf
        have e0 : wr.cell? ⟨b, off + j * 2, none⟩ = some (.int .i64 f.1) := by rw [hb.cell hbl]; exact c0
        have e1 : wr.cell? ⟨b, off + j * 2 + 1, none⟩ = some (.int .i64 f.2) := by rw [hb.cell hbl]; exact c1
        obtain ⟨⟨f1, f2⟩, f3, f4⟩ := HB.out f (List.mem_of_getElem? hf)
        have b1 : (0 : Int) ≤ (j : Int) := by omega
        have b2 : (j : Int) < (k : Int) := by omega
        have HTk := hideIt (take_snocF es j f hf)
        have hle : (vt k ++ eb (es.take j)).length ≤ 5 + 200 := by rw [List.length_append, eb_length]; simp; omega
        have hsz := hb.size
        have HLe := hideIt hle
        clear c0 c1 hc hf hle
        go_wp2_with (at_builtin; refine wpList_appendG rfl _ _ rfl w.heap.size _ _ rfl ((hO.out.alloc _).alloc _) ⟨wr.heap.size + 1, 0, none⟩ 2 2 [ob f.1, ob f.2] rfl rfl ?_ (by have := HLe.out; simp only [List.length_cons, List.length_nil]; omega) (by simp; omega) ?_)
        · have := two_new (wr.alloc (.cells #[.int .i64 f.1, .int .i64 f.2] 120)) (ob f.1) (ob f.2) f.1 f.2 (ob_back ⟨f1, f2⟩) (ob_back ⟨f3, f4⟩) 5
          simpa using this
        · intro v1 w1 hown1 hg1
          have hb1 : Below w.heap.size w w1 := ((hb.alloc (by omega) _).alloc (by simp; omega) _).grown hg1 (by simp; omega) (fun q hq => (hO.out.lt q hq).1)
          have HO1 : Hid (OwnG w1 w.heap.size v1 (vt k ++ eb (es.take (j + 1)))) := by
            show OwnG _ _ _ _
            rw [HTk.out, eb_append, eb_cons]
            exact hown1
          clear hown1 hg1 hO
          go_wp2
          go_roundw
          case rel => exact ⟨j + 1, by omega, by go_num, HO1, hb1⟩
          case measure => simp [intOf]; omega
    · have e : es.take j = es := List.take_of_length_le (by omega)
      have hcb := conv_backG hO.out
      rw [e] at hcb
      have hz : (⟨(vt k ++ eb es).toArray⟩ : ByteArray) = str (et es) := by unfold et; rw [HL.out]; rfl
      rw [hz] at hcb
      clear hz e hO HL hlen
      go_wp2
      go_ret
      exact ⟨rfl, hb⟩
end Go.Proofs.YthnibebljbljdaaGreatDoor
namespace Go.Proofs.YthnibebljbljdaaGreatDoor
open Go.RowKit Vt

theorem conv_g (g : Nat) (b : UInt8) (x : Int) (hx : (b.toNat : Int) = x) (W : World) (h : W.cell? ⟨g, 0, none⟩ = some (.int .u8 x)) :
    (convert 136 9 (.slice (some ⟨g, 0, none⟩) 1 1)).run Tryz.prog W = .ok (.string (str [b])) W := by
  subst hx
  refine run_convert_bytes_back (P := Tryz.prog) W 136 9 5 ⟨g, 0, none⟩ 1 [b] Tryz.underlying136 Tryz.underlying5 Tryz.underlying9 ?_
  intro j hj
  match j, hj with
  | 0, _ => exact h

theorem new_then1 (w : World) (x : Value) {w1 : World} (hb : Below (w.alloc (.cells #[x] 5)).heap.size (w.alloc (.cells #[x] 5)) w1) : w1.cell? ⟨w.heap.size, 0, none⟩ = some x ∧ w.heap.size < w1.heap.size :=
  ⟨by rw [hb.cell (by simp)]; simp, by have := hb.size; simp at this; omega⟩
/-- what was new ahead of a call stands there behind it -/
theorem new_then (w : World) (x : Value) {w1 : World} (hb : Below (w.drew.alloc (.cells #[x] 5)).heap.size (w.drew.alloc (.cells #[x] 5)) w1) : w1.cell? ⟨w.heap.size, 0, none⟩ = some x ∧ w.heap.size < w1.heap.size :=
  new_then1 w.drew x hb
theorem old_then {w w1 : World} {g : Nat} {x : Value} (h : w.cell? ⟨g, 0, none⟩ = some x ∧ g < w.heap.size) (hb : Below w.heap.size w w1) : w1.cell? ⟨g, 0, none⟩ = some x ∧ g < w1.heap.size :=
  ⟨by rw [hb.cell h.2]; exact h.1, Nat.lt_of_lt_of_le h.2 hb.size⟩

set_option maxRecDepth 100000 in
set_option maxHeartbeats 4000000 in
theorem commandText_any (op : UInt8) (x v : Int) (hx : (op.toNat : Int) = x) (hv : 0 ≤ v ∧ v ≤ 1000) (es : List EdgeV) (k : Nat) (a : Option Addr) (c : Nat) (hk : k ≤ 100) (hby : EB8 es) (w : World) (h : Es w w.heap.size a k es) :
    Calls Tryz.prog 175 #[.int .u8 x, .int .i64 v, .slice a k c] w fun e w' => e = .returned (.string (str (op :: (vt v.toNat ++ et es)))) ∧ Below w.heap.size w w' := by
  have HN : Hid (∀ W, Below w.heap.size w W → Calls Tryz.prog 109 #[.int .i64 v] W fun e w' => e = .returned (.string (str (vt v.toNat))) ∧ Below w.heap.size w w' ∧ Below W.heap.size W w') := fun W hW =>
    (numberText_any v v.toNat (by omega) (by omega) W).mono fun _ _ ⟨he, hb⟩ => ⟨he, hW.trans (hb.mono hW.size), hb⟩
  have HE : Hid (∀ W, Below w.heap.size w W → Calls Tryz.prog 110 #[.slice a k c] W fun e w' => e = .returned (.string (str (et es))) ∧ Below w.heap.size w w' ∧ Below W.heap.size W w') := fun W hW =>
    (edgesText_any es k a c hk hby W (h.up hW)).mono fun _ _ ⟨he, hb⟩ => ⟨he, hW.trans (hb.mono hW.size), hb⟩
  have hl1 := vt_le5 v.toNat (by omega)
  have hl2 : (et es).length ≤ 205 := by
    have := h.1
    unfold et
    rw [List.length_append, eb_length]
    have := vt_le5 es.length (by omega)
    omega
  have A1 : ∀ wx, (Op.stringOp .add (str [op]) (str (vt v.toNat))).run Tryz.prog wx = .ok (.string (str ([op] ++ vt v.toNat))) wx := str_add _ _ (by simp; omega)
  have A2 : ∀ wx, (Op.stringOp .add (str ([op] ++ vt v.toNat)) (str (et es))).run Tryz.prog wx = .ok (.string (str ([op] ++ vt v.toNat ++ et es))) wx := str_add _ _ (by simp; omega)
  have FN : Hid (str ([op] ++ vt v.toNat ++ et es) = str (op :: (vt v.toNat ++ et es))) := by show _ = _; simp
  have CV : ∀ (g : Nat) (W : World), W.cell? ⟨g, 0, none⟩ = some (.int .u8 x) → (convert 136 9 (.slice (some ⟨g, 0, none⟩) 1 1)).run Tryz.prog W = .ok (.string (str [op])) W := fun g W hW => conv_g g op x hx W hW
  generalize hs1 : str [op] = s1 at *
  generalize hs2 : str (vt v.toNat) = s2 at *
  generalize hs3 : str (et es) = s3 at *
  generalize hs4 : str ([op] ++ vt v.toNat) = s4 at *
  generalize hs5 : str ([op] ++ vt v.toNat ++ et es) = s5 at *
  clear hs1 hs2 hs3 hs4 hs5 hl1 hl2 h hby
  have B0 : Below w.heap.size w w.drew := (Below.refl _ _).drew
  go_enter Tryz.func175, Tryz.ntmps175
  go_wp2
  go_region_with (first
    | (go_at_call 109; refine (HN.out _ (by first | exact B0 | exact B0.alloc (Nat.le_refl _) _)).mono ?_; rintro e w1 ⟨rfl, B1, hb1⟩; (first | (have q1 := new_then w _ hb1; clear hb1) | clear hb1))
    | (go_at_call 110; refine (HE.out _ (by first | exact B1 | exact B1.alloc B1.size _)).mono ?_; rintro e w2 ⟨rfl, B2, hb2⟩; (first | (have q2 := old_then q1 hb2; clear hb2) | (have q3 := new_then1 w1 _ hb2; clear hb2) | clear hb2)))
  all_goals
    go_wp2
    go_ret
    exact ⟨by show Ending.returned (.string s5) = _; rw [FN.out], by first | exact B2 | exact B2.alloc B2.size _⟩
end Go.Proofs.YthnibebljbljdaaGreatDoor
namespace Go.Proofs.YthnibebljbljdaaGreatDoor
open Go.RowKit Vt

theorem ob1 : ((1 : UInt8).toNat : Int) = 1 := rfl

theorem cRel_any (v : Int) (hv : 0 ≤ v ∧ v ≤ 1000) (w : World) :
    Calls Tryz.prog 174 #[.agg #[.int .i64 v]] w fun e w' => e = .returned (.string (str (3 :: (vt v.toNat ++ et [])))) ∧ Below w.heap.size w w' := by
  have HC := hideIt (commandText_any 3 3 v rfl hv [] 0 none 0 (by omega) (fun e he => by cases he) (w.alloc (.cells #[.int .i64 v] 188)) ⟨rfl, .inl rfl⟩)
  go_enter Tryz.func174, Tryz.ntmps174
  go_wp2_with (go_at_call 175; refine HC.out.mono ?_; rintro e w1 ⟨rfl, hb⟩)
  go_ret
  exact ⟨rfl, (bel1 _ _).trans (hb.mono (by simp))⟩

theorem cAcc_any (es : List EdgeV) (k : Nat) (a : Option Addr) (c : Nat) (hk : k ≤ 100) (hby : EB8 es) (w : World) (h : Es w w.heap.size a k es) :
    Calls Tryz.prog 178 #[.agg #[.slice a k c]] w fun e w' => e = .returned (.string (str (4 :: (vt 0 ++ et es)))) ∧ Below w.heap.size w w' := by
  have HC := hideIt (commandText_any 4 4 0 rfl (by omega) es k a c hk hby (w.alloc (.cells #[.slice a k c] 193)) ((h.alloc (Nat.le_refl _) _).mono (by simp)))
  clear h hby
  go_enter Tryz.func178, Tryz.ntmps178
  go_wp2_with (go_at_call 175; refine HC.out.mono ?_; rintro e w1 ⟨rfl, hb⟩)
  go_ret
  exact ⟨rfl, (bel1 _ _).trans (hb.mono (by simp))⟩

theorem es_one (w : World) (f : EdgeV) (t : TypeId) : Es (w.alloc (.cells #[.int .i64 f.1, .int .i64 f.2] t)) (w.alloc (.cells #[.int .i64 f.1, .int .i64 f.2] t)).heap.size (some ⟨w.heap.size, 0, none⟩) 1 [f] := by
  refine ⟨rfl, .inr ⟨w.heap.size, 0, rfl, by simp, fun j g hg => ?_⟩⟩
  match j, hg with
  | 0, hg => simp at hg; subst hg; simp

theorem cAdd_any (f : EdgeV) (hf : EB8 [f]) (w : World) :
    Calls Tryz.prog 176 #[.agg #[.int .i64 f.1, .int .i64 f.2]] w fun e w' => e = .returned (.string (str (1 :: (vt 0 ++ et [f])))) ∧ Below w.heap.size w w' := by
  have HC := hideIt (commandText_any 1 1 0 rfl (by omega) [f] 1 (some ⟨w.heap.size + 1, 0, none⟩) 1 (by omega) hf ((w.alloc (.cells #[.int .i64 f.1, .int .i64 f.2] 190)).alloc (.cells #[.int .i64 f.1, .int .i64 f.2] 120)) (by have := es_one (w.alloc (.cells #[.int .i64 f.1, .int .i64 f.2] 190)) f 120; simpa using this))
  clear hf
  go_enter Tryz.func176, Tryz.ntmps176
  go_wp2_with (go_at_call 175; refine HC.out.mono ?_; rintro e w1 ⟨rfl, hb⟩)
  go_ret
  exact ⟨rfl, bel2 _ _ hb⟩

theorem cTake_any (f : EdgeV) (hf : EB8 [f]) (w : World) :
    Calls Tryz.prog 177 #[.agg #[.int .i64 f.1, .int .i64 f.2]] w fun e w' => e = .returned (.string (str (2 :: (vt 0 ++ et [f])))) ∧ Below w.heap.size w w' := by
  have HC := hideIt (commandText_any 2 2 0 rfl (by omega) [f] 1 (some ⟨w.heap.size + 1, 0, none⟩) 1 (by omega) hf ((w.alloc (.cells #[.int .i64 f.1, .int .i64 f.2] 191)).alloc (.cells #[.int .i64 f.1, .int .i64 f.2] 120)) (by have := es_one (w.alloc (.cells #[.int .i64 f.1, .int .i64 f.2] 191)) f 120; simpa using this))
  clear hf
  go_enter Tryz.func177, Tryz.ntmps177
  go_wp2_with (go_at_call 175; refine HC.out.mono ?_; rintro e w1 ⟨rfl, hb⟩)
  go_ret
  exact ⟨rfl, bel2 _ _ hb⟩

/-- an order's text, or none -/
def otV (n : Int) (o : OrdV) : Value := if oB n o then .tuple #[.string (str (oText o)), .bool true] else .tuple #[.string ⟨#[]⟩, .bool false]
theorem otV_yes {n : Int} {o : OrdV} (h : oB n o = true) : otV n o = .tuple #[.string (str (oText o)), .bool true] := by unfold otV; rw [h]; rfl
theorem otV_no {n : Int} {o : OrdV} (h : oB n o = false) : otV n o = .tuple #[.string ⟨#[]⟩, .bool false] := by unfold otV; rw [h]; rfl

set_option maxRecDepth 100000 in
set_option maxHeartbeats 4000000 in
theorem iOrderText_no (n num op : Int) (es : List EdgeV) (v : Int) (k : Nat) (a : Option Addr) (c : Nat) (hk : k ≤ 1048576) (w : World) (h : Es w w.heap.size a k es) (hB : oB n ⟨num, op, es, v⟩ = false) :
    Calls Tryz.prog 80 #[.int .i64 n, ordV num op a k c v] w fun e w' => e = .returned (.tuple #[.string ⟨#[]⟩, .bool false]) ∧ Below w.heap.size w w' := by
  have HO := hideIt (iOrderOk_any n num op es v k a c hk (w.alloc (.cells #[.int .i64 num, .int .i64 op, .slice a k c, .int .i64 v] 55)) ((h.alloc (Nat.le_refl _) _).mono (by simp)))
  rw [hB] at HO
  unfold ordV at HO ⊢
  clear h hB
  go_enter Tryz.func80, Tryz.ntmps80
  go_wp2_with (go_at_call 111; refine HO.out.mono ?_; rintro e w1 ⟨rfl, hb⟩)
  go_ret2
  exact ⟨rfl, (bel1 _ _).trans (hb.mono (by simp))⟩

set_option maxRecDepth 100000 in
set_option maxHeartbeats 4000000 in
theorem iOrderText_rel (n num v : Int) (a : Option Addr) (c : Nat) (w : World) (h : Es w w.heap.size a 0 []) (hB : oB n ⟨num, 3, [], v⟩ = true) :
    Calls Tryz.prog 80 #[.int .i64 n, ordV num 3 a 0 c v] w fun e w' => e = .returned (.tuple #[.string (str (oText ⟨num, 3, [], v⟩)), .bool true]) ∧ Below w.heap.size w w' := by
  obtain ⟨p0, p1, p2, p3, p4⟩ := oB_parts hB
  dsimp only at p1 p2 p3 p4
  have HO : Hid (Calls Tryz.prog 111 #[.int .i64 n, ordV num 3 a 0 c v] (w.alloc (.cells #[.int .i64 num, .int .i64 3, .slice a 0 c, .int .i64 v] 55)) fun e w' => e = .returned (.bool true) ∧ Below w.heap.size w w' ∧
      w'.cell? ⟨w.heap.size, 0, none⟩ = some (.int .i64 num) ∧ w'.cell? ⟨w.heap.size, 1, none⟩ = some (.int .i64 3) ∧ w'.cell? ⟨w.heap.size, 2, none⟩ = some (.slice a 0 c) ∧ w'.cell? ⟨w.heap.size, 3, none⟩ = some (.int .i64 v) ∧ w.heap.size < w'.heap.size) :=
    (iOrderOk_any n num 3 [] v 0 a c (by omega) (w.alloc (.cells #[.int .i64 num, .int .i64 3, .slice a 0 c, .int .i64 v] 55)) ((h.alloc (Nat.le_refl _) _).mono (by simp))).mono fun _ _ ⟨he, hb⟩ =>
      ⟨by rw [he, hB], (bel1 _ _).trans (hb.mono (by simp)), by rw [hb.cell (by simp)]; simp, by rw [hb.cell (by simp)]; simp, by rw [hb.cell (by simp)]; simp, by rw [hb.cell (by simp)]; simp, by have := hb.size; simp at this; omega⟩
  have HN := hideIt (numberText_any num num.toNat (by omega) (by omega))
  have HC := hideIt (commandOf_rel num v a c)
  have HM := hideIt (cRel_any v (by omega))
  have hm : ∀ w, (method 327 188 (.agg #[.int .i64 v]) "loop.example/g00130/impl.text").run Tryz.prog w = .ok (174, .agg #[.int .i64 v]) w := fun _ => by kernel_rfl
  have hl1 := vt_le5 num.toNat (by omega)
  have hl2 := vt_le5 v.toNat (by omega)
  have A1 : ∀ wx, (Op.stringOp .add (str (vt num.toNat)) (str (3 :: (vt v.toNat ++ et [])))).run Tryz.prog wx = .ok (.string (str (vt num.toNat ++ (3 :: (vt v.toNat ++ et []))))) wx := str_add _ _ (by simp [et, eb, vt_small 0 (by omega)]; omega)
  have FN : Hid (str (vt num.toNat ++ (3 :: (vt v.toNat ++ et []))) = str (oText ⟨num, 3, [], v⟩)) := by show _ = _; rfl
  unfold ordV at HO HC ⊢
  clear h hB
  go_enter Tryz.func80, Tryz.ntmps80
  go_wp2_with (go_at_call 111; refine HO.out.mono ?_; rintro e w1 ⟨rfl, hb1, q0, q1, q2, q3, z1⟩; refine Hid.out ?_)
  refine (show ∀ {p : Prop}, p → Hid p from fun h => h) ?_
  have KC : Hid (∀ W, Below w1.heap.size w1 W → (W.cell? ⟨w.heap.size, 0, none⟩ = some (.int .i64 num) ∧ W.cell? ⟨w.heap.size, 1, none⟩ = some (.int .i64 3) ∧ W.cell? ⟨w.heap.size, 2, none⟩ = some (.slice a 0 c) ∧ W.cell? ⟨w.heap.size, 3, none⟩ = some (.int .i64 v))) := fun W hW =>
    ⟨by rw [hW.cell z1]; exact q0, by rw [hW.cell z1]; exact q1, by rw [hW.cell z1]; exact q2, by rw [hW.cell z1]; exact q3⟩
  have Z1 : Hid (∀ W, Below w1.heap.size w1 W → Below w.heap.size w W) := fun W hW => hb1.trans (hW.mono hb1.size)
  have B0 : Below w1.heap.size w1 w1.drew := (Below.refl _ _).drew
  go_wp2
  go_region_held3 (fun u => Below w1.heap.size w1 u ∧ (u.cell? ⟨w.heap.size, 0, none⟩ = some (.int .i64 num) ∧ u.cell? ⟨w.heap.size, 1, none⟩ = some (.int .i64 3) ∧ u.cell? ⟨w.heap.size, 2, none⟩ = some (.slice a 0 c) ∧ u.cell? ⟨w.heap.size, 3, none⟩ = some (.int .i64 v)))
    (first | exact ⟨B4, KC.out _ B4⟩ | exact ⟨B3, KC.out _ B3⟩ | exact ⟨B2, KC.out _ B2⟩ | exact ⟨B0, KC.out _ B0⟩)
    (first
    | (go_at_call 109; refine (HN.out _).mono ?_; rintro e w2 ⟨rfl, hb2⟩; have B2 := B0.trans (hb2.mono B0.size))
    | (go_at_call 112; refine (HC.out _).mono ?_; rintro e w3 ⟨rfl, hb3⟩; have B3 := B2.trans (hb3.mono B2.size))
    | (go_at_call 174; refine (HM.out _).mono ?_; rintro e w4 ⟨rfl, hb4⟩; have B4 := B3.trans (hb4.mono B3.size)))
  all_goals
    go_wp2
    go_ret2
    exact ⟨by rw [← FN.out]; rfl, Z1.out _ B4⟩
set_option maxRecDepth 100000 in
set_option maxHeartbeats 4000000 in
theorem iOrderText_add (n num : Int) (f : EdgeV) (b off c : Nat) (w : World) (h : Es w w.heap.size (some ⟨b, off, none⟩) 1 [f]) (hB : oB n ⟨num, 1, [f], 0⟩ = true) :
    Calls Tryz.prog 80 #[.int .i64 n, ordV num 1 (some ⟨b, off, none⟩) 1 c 0] w fun e w' => e = .returned (.tuple #[.string (str (oText ⟨num, 1, [f], 0⟩)), .bool true]) ∧ Below w.heap.size w w' := by
  obtain ⟨p0, p1, p2, p3, p4⟩ := oB_parts hB
  dsimp only at p1 p2 p3 p4
  have HO : Hid (Calls Tryz.prog 111 #[.int .i64 n, ordV num 1 (some ⟨b, off, none⟩) 1 c 0] (w.alloc (.cells #[.int .i64 num, .int .i64 1, .slice (some ⟨b, off, none⟩) 1 c, .int .i64 0] 55)) fun e w' => e = .returned (.bool true) ∧ Below w.heap.size w w' ∧
      w'.cell? ⟨w.heap.size, 0, none⟩ = some (.int .i64 num) ∧ w'.cell? ⟨w.heap.size, 1, none⟩ = some (.int .i64 1) ∧ w'.cell? ⟨w.heap.size, 2, none⟩ = some (.slice (some ⟨b, off, none⟩) 1 c) ∧ w'.cell? ⟨w.heap.size, 3, none⟩ = some (.int .i64 0) ∧ w.heap.size < w'.heap.size) :=
    (iOrderOk_any n num 1 [f] 0 1 (some ⟨b, off, none⟩) c (by omega) (w.alloc (.cells #[.int .i64 num, .int .i64 1, .slice (some ⟨b, off, none⟩) 1 c, .int .i64 0] 55)) ((h.alloc (Nat.le_refl _) _).mono (by simp))).mono fun _ _ ⟨he, hb⟩ =>
      ⟨by rw [he, hB], (bel1 _ _).trans (hb.mono (by simp)), by rw [hb.cell (by simp)]; simp, by rw [hb.cell (by simp)]; simp, by rw [hb.cell (by simp)]; simp, by rw [hb.cell (by simp)]; simp, by have := hb.size; simp at this; omega⟩
  have HN := hideIt (numberText_any num num.toNat (by omega) (by omega))
  have HC : Hid (∀ W, Below w.heap.size w W → Calls Tryz.prog 112 #[ordV num 1 (some ⟨b, off, none⟩) 1 c 0] W fun x w' => x = .returned (.iface 190 (.agg #[.int .i64 f.1, .int .i64 f.2])) ∧ Below W.heap.size W w') := fun W hW => by
    rcases h.2 with h0 | ⟨b', off', e, hb0, hc⟩
    · omega
    · simp at e
      obtain ⟨rfl, rfl⟩ := e
      obtain ⟨c0, c1⟩ := hc 0 f rfl
      rw [Nat.zero_mul, Nat.add_zero] at c0 c1
      exact commandOf_add num f b off c W (by rw [hW.cell hb0]; exact c0) (by rw [hW.cell hb0]; exact c1) (Nat.lt_of_lt_of_le hb0 hW.size)
  have HM := hideIt (cAdd_any f p2.1)
  have hm : ∀ w, (method 327 190 (.agg #[.int .i64 f.1, .int .i64 f.2]) "loop.example/g00130/impl.text").run Tryz.prog w = .ok (176, .agg #[.int .i64 f.1, .int .i64 f.2]) w := fun _ => by kernel_rfl
  have hl1 := vt_le5 num.toNat (by omega)
  have hl2 := vt_le5 0 (by omega)
  have hl3 : (et [f]).length ≤ 205 := by
    unfold et
    rw [List.length_append, eb_length]
    have := vt_le5 (List.length [f]) (by simp)
    simp only [List.length_cons, List.length_nil] at *; omega
  have A1 : ∀ wx, (Op.stringOp .add (str (vt num.toNat)) (str (1 :: (vt 0 ++ et [f])))).run Tryz.prog wx = .ok (.string (str (vt num.toNat ++ (1 :: (vt 0 ++ et [f]))))) wx := str_add _ _ (by rw [List.length_cons, List.length_append]; omega)
  have FN : Hid (str (vt num.toNat ++ (1 :: (vt 0 ++ et [f]))) = str (oText ⟨num, 1, [f], 0⟩)) := by show _ = _; rfl
  unfold ordV at HO HC ⊢
  clear hB
  have H0 := hideIt h
  clear h
  go_enter Tryz.func80, Tryz.ntmps80
  go_wp2_with (go_at_call 111; refine HO.out.mono ?_; rintro e w1 ⟨rfl, hb1, q0, q1, q2, q3, z1⟩; refine Hid.out ?_)
  refine (show ∀ {p : Prop}, p → Hid p from fun h => h) ?_
  have KC : Hid (∀ W, Below w1.heap.size w1 W → (W.cell? ⟨w.heap.size, 0, none⟩ = some (.int .i64 num) ∧ W.cell? ⟨w.heap.size, 1, none⟩ = some (.int .i64 1) ∧ W.cell? ⟨w.heap.size, 2, none⟩ = some (.slice (some ⟨b, off, none⟩) 1 c) ∧ W.cell? ⟨w.heap.size, 3, none⟩ = some (.int .i64 0))) := fun W hW =>
    ⟨by rw [hW.cell z1]; exact q0, by rw [hW.cell z1]; exact q1, by rw [hW.cell z1]; exact q2, by rw [hW.cell z1]; exact q3⟩
  have Z1 : Hid (∀ W, Below w1.heap.size w1 W → Below w.heap.size w W) := fun W hW => hb1.trans (hW.mono hb1.size)
  have B0 : Below w1.heap.size w1 w1.drew := (Below.refl _ _).drew
  go_wp2
  go_region_held3 (fun u => Below w1.heap.size w1 u ∧ (u.cell? ⟨w.heap.size, 0, none⟩ = some (.int .i64 num) ∧ u.cell? ⟨w.heap.size, 1, none⟩ = some (.int .i64 1) ∧ u.cell? ⟨w.heap.size, 2, none⟩ = some (.slice (some ⟨b, off, none⟩) 1 c) ∧ u.cell? ⟨w.heap.size, 3, none⟩ = some (.int .i64 0)))
    (first | exact ⟨B4, KC.out _ B4⟩ | exact ⟨B3, KC.out _ B3⟩ | exact ⟨B2, KC.out _ B2⟩ | exact ⟨B0, KC.out _ B0⟩)
    (first
    | (go_at_call 109; refine (HN.out _).mono ?_; rintro e w2 ⟨rfl, hb2⟩; have B2 := B0.trans (hb2.mono B0.size))
    | (go_at_call 112; refine (HC.out _ (Z1.out _ B2)).mono ?_; rintro e w3 ⟨rfl, hb3⟩; have B3 := B2.trans (hb3.mono B2.size))
    | (go_at_call 176; refine (HM.out _).mono ?_; rintro e w4 ⟨rfl, hb4⟩; have B4 := B3.trans (hb4.mono B3.size)))
  all_goals
    go_wp2
    go_ret2
    exact ⟨by rw [← FN.out]; rfl, Z1.out _ B4⟩
set_option maxRecDepth 100000 in
set_option maxHeartbeats 4000000 in
theorem iOrderText_take (n num : Int) (f : EdgeV) (b off c : Nat) (w : World) (h : Es w w.heap.size (some ⟨b, off, none⟩) 1 [f]) (hB : oB n ⟨num, 2, [f], 0⟩ = true) :
    Calls Tryz.prog 80 #[.int .i64 n, ordV num 2 (some ⟨b, off, none⟩) 1 c 0] w fun e w' => e = .returned (.tuple #[.string (str (oText ⟨num, 2, [f], 0⟩)), .bool true]) ∧ Below w.heap.size w w' := by
  obtain ⟨p0, p1, p2, p3, p4⟩ := oB_parts hB
  dsimp only at p1 p2 p3 p4
  have HO : Hid (Calls Tryz.prog 111 #[.int .i64 n, ordV num 2 (some ⟨b, off, none⟩) 1 c 0] (w.alloc (.cells #[.int .i64 num, .int .i64 2, .slice (some ⟨b, off, none⟩) 1 c, .int .i64 0] 55)) fun e w' => e = .returned (.bool true) ∧ Below w.heap.size w w' ∧
      w'.cell? ⟨w.heap.size, 0, none⟩ = some (.int .i64 num) ∧ w'.cell? ⟨w.heap.size, 1, none⟩ = some (.int .i64 2) ∧ w'.cell? ⟨w.heap.size, 2, none⟩ = some (.slice (some ⟨b, off, none⟩) 1 c) ∧ w'.cell? ⟨w.heap.size, 3, none⟩ = some (.int .i64 0) ∧ w.heap.size < w'.heap.size) :=
    (iOrderOk_any n num 2 [f] 0 1 (some ⟨b, off, none⟩) c (by omega) (w.alloc (.cells #[.int .i64 num, .int .i64 2, .slice (some ⟨b, off, none⟩) 1 c, .int .i64 0] 55)) ((h.alloc (Nat.le_refl _) _).mono (by simp))).mono fun _ _ ⟨he, hb⟩ =>
      ⟨by rw [he, hB], (bel1 _ _).trans (hb.mono (by simp)), by rw [hb.cell (by simp)]; simp, by rw [hb.cell (by simp)]; simp, by rw [hb.cell (by simp)]; simp, by rw [hb.cell (by simp)]; simp, by have := hb.size; simp at this; omega⟩
  have HN := hideIt (numberText_any num num.toNat (by omega) (by omega))
  have HC : Hid (∀ W, Below w.heap.size w W → Calls Tryz.prog 112 #[ordV num 2 (some ⟨b, off, none⟩) 1 c 0] W fun x w' => x = .returned (.iface 191 (.agg #[.int .i64 f.1, .int .i64 f.2])) ∧ Below W.heap.size W w') := fun W hW => by
    rcases h.2 with h0 | ⟨b', off', e, hb0, hc⟩
    · omega
    · simp at e
      obtain ⟨rfl, rfl⟩ := e
      obtain ⟨c0, c1⟩ := hc 0 f rfl
      rw [Nat.zero_mul, Nat.add_zero] at c0 c1
      exact commandOf_take num f b off c W (by rw [hW.cell hb0]; exact c0) (by rw [hW.cell hb0]; exact c1) (Nat.lt_of_lt_of_le hb0 hW.size)
  have HM := hideIt (cTake_any f p2.1)
  have hm : ∀ w, (method 327 191 (.agg #[.int .i64 f.1, .int .i64 f.2]) "loop.example/g00130/impl.text").run Tryz.prog w = .ok (177, .agg #[.int .i64 f.1, .int .i64 f.2]) w := fun _ => by kernel_rfl
  have hl1 := vt_le5 num.toNat (by omega)
  have hl2 := vt_le5 0 (by omega)
  have hl3 : (et [f]).length ≤ 205 := by
    unfold et
    rw [List.length_append, eb_length]
    have := vt_le5 (List.length [f]) (by simp)
    simp only [List.length_cons, List.length_nil] at *; omega
  have A1 : ∀ wx, (Op.stringOp .add (str (vt num.toNat)) (str (2 :: (vt 0 ++ et [f])))).run Tryz.prog wx = .ok (.string (str (vt num.toNat ++ (2 :: (vt 0 ++ et [f]))))) wx := str_add _ _ (by rw [List.length_cons, List.length_append]; omega)
  have FN : Hid (str (vt num.toNat ++ (2 :: (vt 0 ++ et [f]))) = str (oText ⟨num, 2, [f], 0⟩)) := by show _ = _; rfl
  unfold ordV at HO HC ⊢
  clear hB
  have H0 := hideIt h
  clear h
  go_enter Tryz.func80, Tryz.ntmps80
  go_wp2_with (go_at_call 111; refine HO.out.mono ?_; rintro e w1 ⟨rfl, hb1, q0, q1, q2, q3, z1⟩; refine Hid.out ?_)
  refine (show ∀ {p : Prop}, p → Hid p from fun h => h) ?_
  have KC : Hid (∀ W, Below w1.heap.size w1 W → (W.cell? ⟨w.heap.size, 0, none⟩ = some (.int .i64 num) ∧ W.cell? ⟨w.heap.size, 1, none⟩ = some (.int .i64 2) ∧ W.cell? ⟨w.heap.size, 2, none⟩ = some (.slice (some ⟨b, off, none⟩) 1 c) ∧ W.cell? ⟨w.heap.size, 3, none⟩ = some (.int .i64 0))) := fun W hW =>
    ⟨by rw [hW.cell z1]; exact q0, by rw [hW.cell z1]; exact q1, by rw [hW.cell z1]; exact q2, by rw [hW.cell z1]; exact q3⟩
  have Z1 : Hid (∀ W, Below w1.heap.size w1 W → Below w.heap.size w W) := fun W hW => hb1.trans (hW.mono hb1.size)
  have B0 : Below w1.heap.size w1 w1.drew := (Below.refl _ _).drew
  go_wp2
  go_region_held3 (fun u => Below w1.heap.size w1 u ∧ (u.cell? ⟨w.heap.size, 0, none⟩ = some (.int .i64 num) ∧ u.cell? ⟨w.heap.size, 1, none⟩ = some (.int .i64 2) ∧ u.cell? ⟨w.heap.size, 2, none⟩ = some (.slice (some ⟨b, off, none⟩) 1 c) ∧ u.cell? ⟨w.heap.size, 3, none⟩ = some (.int .i64 0)))
    (first | exact ⟨B4, KC.out _ B4⟩ | exact ⟨B3, KC.out _ B3⟩ | exact ⟨B2, KC.out _ B2⟩ | exact ⟨B0, KC.out _ B0⟩)
    (first
    | (go_at_call 109; refine (HN.out _).mono ?_; rintro e w2 ⟨rfl, hb2⟩; have B2 := B0.trans (hb2.mono B0.size))
    | (go_at_call 112; refine (HC.out _ (Z1.out _ B2)).mono ?_; rintro e w3 ⟨rfl, hb3⟩; have B3 := B2.trans (hb3.mono B2.size))
    | (go_at_call 177; refine (HM.out _).mono ?_; rintro e w4 ⟨rfl, hb4⟩; have B4 := B3.trans (hb4.mono B3.size)))
  all_goals
    go_wp2
    go_ret2
    exact ⟨by rw [← FN.out]; rfl, Z1.out _ B4⟩
set_option maxRecDepth 100000 in
set_option maxHeartbeats 4000000 in
theorem iOrderText_acc (n num : Int) (es : List EdgeV) (k : Nat) (a : Option Addr) (c : Nat) (hk : 0 < k) (hk2 : k ≤ 1048576) (w : World) (h : Es w w.heap.size a k es) (hB : oB n ⟨num, 4, es, 0⟩ = true) :
    Calls Tryz.prog 80 #[.int .i64 n, ordV num 4 a k c 0] w fun e w' => e = .returned (.tuple #[.string (str (oText ⟨num, 4, es, 0⟩)), .bool true]) ∧ Below w.heap.size w w' := by
  obtain ⟨p0, p1, p2, p3, p4⟩ := oB_parts hB
  dsimp only at p1 p2 p3 p4
  have HO : Hid (Calls Tryz.prog 111 #[.int .i64 n, ordV num 4 a k c 0] (w.alloc (.cells #[.int .i64 num, .int .i64 4, .slice a k c, .int .i64 0] 55)) fun e w' => e = .returned (.bool true) ∧ Below w.heap.size w w' ∧
      w'.cell? ⟨w.heap.size, 0, none⟩ = some (.int .i64 num) ∧ w'.cell? ⟨w.heap.size, 1, none⟩ = some (.int .i64 4) ∧ w'.cell? ⟨w.heap.size, 2, none⟩ = some (.slice a k c) ∧ w'.cell? ⟨w.heap.size, 3, none⟩ = some (.int .i64 0) ∧ w.heap.size < w'.heap.size) :=
    (iOrderOk_any n num 4 es 0 k a c (by omega) (w.alloc (.cells #[.int .i64 num, .int .i64 4, .slice a k c, .int .i64 0] 55)) ((h.alloc (Nat.le_refl _) _).mono (by simp))).mono fun _ _ ⟨he, hb⟩ =>
      ⟨by rw [he, hB], (bel1 _ _).trans (hb.mono (by simp)), by rw [hb.cell (by simp)]; simp, by rw [hb.cell (by simp)]; simp, by rw [hb.cell (by simp)]; simp, by rw [hb.cell (by simp)]; simp, by have := hb.size; simp at this; omega⟩
  have HN := hideIt (numberText_any num num.toNat (by omega) (by omega))
  have HC : Hid (∀ W, Below w.heap.size w W → Calls Tryz.prog 112 #[ordV num 4 a k c 0] W fun x w' => x = .returned (.iface 193 (.agg #[.slice a k c])) ∧ Below W.heap.size W w') := fun W _ => commandOf_acc num a k c hk W
  have HM : Hid (∀ W, Below w.heap.size w W → Calls Tryz.prog 178 #[.agg #[.slice a k c]] W fun e w' => e = .returned (.string (str (4 :: (vt 0 ++ et es)))) ∧ Below W.heap.size W w') := fun W hW => cAcc_any es k a c (by have := h.1; omega) p2.1 W (h.up hW)
  have hm : ∀ w, (method 327 193 (.agg #[.slice a k c]) "loop.example/g00130/impl.text").run Tryz.prog w = .ok (178, .agg #[.slice a k c]) w := fun _ => by kernel_rfl
  have hl1 := vt_le5 num.toNat (by omega)
  have hl2 := vt_le5 0 (by omega)
  have hl3 : (et es).length ≤ 205 := by
    unfold et
    rw [List.length_append, eb_length]
    have := vt_le5 (List.length es) (by omega)
    omega
  have A1 : ∀ wx, (Op.stringOp .add (str (vt num.toNat)) (str (4 :: (vt 0 ++ et es)))).run Tryz.prog wx = .ok (.string (str (vt num.toNat ++ (4 :: (vt 0 ++ et es))))) wx := str_add _ _ (by rw [List.length_cons, List.length_append]; omega)
  have FN : Hid (str (vt num.toNat ++ (4 :: (vt 0 ++ et es))) = str (oText ⟨num, 4, es, 0⟩)) := by show _ = _; rfl
  unfold ordV at HO HC ⊢
  clear hB
  have H0 := hideIt h
  clear h
  go_enter Tryz.func80, Tryz.ntmps80
  go_wp2_with (go_at_call 111; refine HO.out.mono ?_; rintro e w1 ⟨rfl, hb1, q0, q1, q2, q3, z1⟩; refine Hid.out ?_)
  refine (show ∀ {p : Prop}, p → Hid p from fun h => h) ?_
  have KC : Hid (∀ W, Below w1.heap.size w1 W → (W.cell? ⟨w.heap.size, 0, none⟩ = some (.int .i64 num) ∧ W.cell? ⟨w.heap.size, 1, none⟩ = some (.int .i64 4) ∧ W.cell? ⟨w.heap.size, 2, none⟩ = some (.slice a k c) ∧ W.cell? ⟨w.heap.size, 3, none⟩ = some (.int .i64 0))) := fun W hW =>
    ⟨by rw [hW.cell z1]; exact q0, by rw [hW.cell z1]; exact q1, by rw [hW.cell z1]; exact q2, by rw [hW.cell z1]; exact q3⟩
  have Z1 : Hid (∀ W, Below w1.heap.size w1 W → Below w.heap.size w W) := fun W hW => hb1.trans (hW.mono hb1.size)
  have B0 : Below w1.heap.size w1 w1.drew := (Below.refl _ _).drew
  go_wp2
  go_region_held3 (fun u => Below w1.heap.size w1 u ∧ (u.cell? ⟨w.heap.size, 0, none⟩ = some (.int .i64 num) ∧ u.cell? ⟨w.heap.size, 1, none⟩ = some (.int .i64 4) ∧ u.cell? ⟨w.heap.size, 2, none⟩ = some (.slice a k c) ∧ u.cell? ⟨w.heap.size, 3, none⟩ = some (.int .i64 0)))
    (first | exact ⟨B4, KC.out _ B4⟩ | exact ⟨B3, KC.out _ B3⟩ | exact ⟨B2, KC.out _ B2⟩ | exact ⟨B0, KC.out _ B0⟩)
    (first
    | (go_at_call 109; refine (HN.out _).mono ?_; rintro e w2 ⟨rfl, hb2⟩; have B2 := B0.trans (hb2.mono B0.size))
    | (go_at_call 112; refine (HC.out _ (Z1.out _ B2)).mono ?_; rintro e w3 ⟨rfl, hb3⟩; have B3 := B2.trans (hb3.mono B2.size))
    | (go_at_call 178; refine (HM.out _ (Z1.out _ B3)).mono ?_; rintro e w4 ⟨rfl, hb4⟩; have B4 := B3.trans (hb4.mono B3.size)))
  all_goals
    go_wp2
    go_ret2
    exact ⟨by rw [← FN.out]; rfl, Z1.out _ B4⟩

theorem iOrderText_any (n num op : Int) (es : List EdgeV) (v : Int) (k : Nat) (a : Option Addr) (c : Nat) (hk : k ≤ 1048576) (w : World) (h : Es w w.heap.size a k es) :
    Calls Tryz.prog 80 #[.int .i64 n, ordV num op a k c v] w fun e w' => e = .returned (otV n ⟨num, op, es, v⟩) ∧ Below w.heap.size w w' := by
  cases hB : oB n ⟨num, op, es, v⟩ with
  | false => rw [otV_no hB]; exact iOrderText_no n num op es v k a c hk w h hB
  | true =>
    rw [otV_yes hB]
    have hO : OpOk n ⟨num, op, es, v⟩ := by
      unfold oB at hB
      simp only [Bool.and_eq_true, decide_eq_true_eq] at hB
      exact hB.2.2.2
    have hlen := h.1
    rcases hO with ⟨h1, h2, _⟩ | ⟨h1, h2, h3⟩ | ⟨h1, h2, h3⟩
    · dsimp only at h1 h2
      subst h1
      obtain rfl : es = [] := List.length_eq_zero_iff.1 h2
      obtain rfl : k = 0 := by simpa using hlen.symm
      exact iOrderText_rel n num v a c w h hB
    · dsimp only at h1 h2 h3
      subst h1
      obtain ⟨f, rfl⟩ := List.length_eq_one_iff.1 h3
      obtain rfl : k = 1 := by simpa using hlen.symm
      rcases h.2 with h0 | ⟨b, off, rfl, _⟩
      · omega
      · rcases h2 with rfl | rfl
        · exact iOrderText_add n num f b off c w h hB
        · exact iOrderText_take n num f b off c w h hB
    · dsimp only at h1 h2 h3
      subst h1 h2
      exact iOrderText_acc n num es k a c (by omega) hk w h hB
end Go.Proofs.YthnibebljbljdaaGreatDoor
namespace Go.Proofs.YthnibebljbljdaaGreatDoor
open Go.RowKit Vt

theorem l01Var_str (x : Int) (h0 : 0 ≤ x) (h1 : x ≤ 1000000000) (w : World) :
    Calls Tryz.prog 58 #[.int .i64 x] w fun e w' => e = .returned (.string (str (vt x.toNat))) ∧ Below w.heap.size w w' := by
  obtain ⟨N, rfl⟩ := Int.eq_ofNat_of_zero_le h0
  exact l01Var_any N (by omega) w

theorem l09Byte_any (x : Int) (h0 : 0 ≤ x) (h1 : x < 256) (w : World) :
    Calls Tryz.prog 99 #[.int .i64 x] w fun e w' => e = .returned (.string (str [ob x])) ∧ Below w.heap.size w w' := by
  have CV : ∀ (g : Nat) (W : World), W.cell? ⟨g, 0, none⟩ = some (.int .u8 x) → (convert 136 9 (.slice (some ⟨g, 0, none⟩) 1 1)).run Tryz.prog W = .ok (.string (str [ob x])) W := fun g W hW => conv_g g (ob x) x (ob_back ⟨h0, h1⟩) W hW
  go_enter Tryz.func99, Tryz.ntmps99
  go_wp2
  go_ret
  exact ⟨rfl, bel1 _ _⟩

set_option maxRecDepth 100000 in
set_option maxHeartbeats 4000000 in
theorem l09Edges_any (es : List EdgeV) (k : Nat) (a : Option Addr) (c : Nat) (hk : k ≤ 100) (hby : EB8 es) (w : World) (h : Es w w.heap.size a k es) :
    Calls Tryz.prog 98 #[.slice a k c] w fun e w' => e = .returned (.string (str (et es))) ∧ Below w.heap.size w w' := by
  obtain ⟨hlen, hrow⟩ := h
  have HR := hideIt hrow
  have HL := hideIt hlen
  have HN := hideIt (l01Var_str (k : Int) (by omega) (by omega) w)
  rw [Int.toNat_natCast] at HN
  have hv5 := vt_le5 k (by omega)
  have HB := hideIt hby
  clear hrow hby
  go_enter Tryz.func98, Tryz.ntmps98
  go_wp2_with (go_at_call 58; refine HN.out.mono ?_; rintro e w1 ⟨rfl, hb1⟩)
  clear HN
  go_loopw [3, 4] (fun s i wr => ∃ (j : Nat) (L : List UInt8), j ≤ k ∧ i = .int .i64 (j : Int) ∧ s = .string (str L) ∧ Hid (L = vt k ++ eb (es.take j)) ∧ Below w.heap.size w wr) (fun _ i _ => k - (intOf i).toNat)
  case atStart => exact ⟨0, vt k, by omega, rfl, rfl, by show _ = _; simp [eb], hb1⟩
  case round =>
    obtain ⟨j, L, hj, rfl, rfl, hL, hb⟩ := hrel
    by_cases hlt : j < k
    · rcases HR.out with hz | ⟨b, off, rfl, hbl, hc⟩
      · omega
      · obtain ⟨f, hf⟩ : ∃ f, es[j]? = some f := ⟨es[j]'(by omega), List.getElem?_eq_getElem (by omega)⟩
        obtain ⟨c0, c1⟩ := hc j f hf
        obtain ⟨⟨f1, f2⟩, f3, f4⟩ := HB.out f (List.mem_of_getElem? hf)
        have b1 : (0 : Int) ≤ (j : Int) := by omega
        have b2 : (j : Int) < (k : Int) := by omega
        have HTk := hideIt (take_snocF es j f hf)
        have hle : L.length ≤ 205 := by rw [hL.out, List.length_append, eb_length]; simp; omega
        have A1 : ∀ wx, (Op.stringOp .add (str L) (str [ob f.1])).run Tryz.prog wx = .ok (.string (str (L ++ [ob f.1]))) wx := str_add _ _ (by simp; omega)
        have A2 : ∀ wx, (Op.stringOp .add (str (L ++ [ob f.1])) (str [ob f.2])).run Tryz.prog wx = .ok (.string (str (L ++ [ob f.1] ++ [ob f.2]))) wx := str_add _ _ (by simp; omega)
        have HL1 : Hid (L ++ [ob f.1, ob f.2] = vt k ++ eb (es.take (j + 1))) := by show _ = _; rw [HTk.out, eb_append, hL.out]; simp [eb]
        have HK : Hid (∀ W : World, Below w.heap.size w W → (W.cell? ⟨b, off + j * 2, none⟩ = some (.int .i64 f.1) ∧ W.cell? ⟨b, off + j * 2 + 1, none⟩ = some (.int .i64 f.2))) := fun W hW =>
          ⟨by rw [hW.cell hbl]; exact c0, by rw [hW.cell hbl]; exact c1⟩
        have HY : Hid (∀ (x : Int) (W : World), 0 ≤ x → x < 256 → Below w.heap.size w W → Calls Tryz.prog 99 #[.int .i64 x] W fun e w' => e = .returned (.string (str [ob x])) ∧ Below w.heap.size w w') := fun x W h0 h1 hW =>
          (l09Byte_any x h0 h1 W).mono fun _ _ ⟨he, hb⟩ => ⟨he, hW.trans (hb.mono hW.size)⟩
        have B0 := hb.drew
        clear c0 c1 hc hf hL HTk hle
        go_wp2
        go_region_held3 (fun u => Below w.heap.size w u ∧ u.cell? ⟨b, off + j * 2, none⟩ = some (.int .i64 f.1) ∧ u.cell? ⟨b, off + j * 2 + 1, none⟩ = some (.int .i64 f.2))
          (first | exact ⟨B2, HK.out _ B2⟩ | exact ⟨B1, HK.out _ B1⟩ | exact ⟨B0, HK.out _ B0⟩)
          (first
          | (go_at_call 99; refine (HY.out f.2 _ f3 f4 B1).mono ?_; rintro e w3 ⟨rfl, B2⟩)
          | (go_at_call 99; refine (HY.out f.1 _ f1 f2 B0).mono ?_; rintro e w2 ⟨rfl, B1⟩))
        all_goals
          go_wp2
          exact ⟨⟨j + 1, _, by omega, by go_num, rfl, HL1, B2⟩, by simp [intOf]; omega⟩
    · have e : es.take j = es := List.take_of_length_le (by omega)
      have hz : Hid (L = et es) := by show _ = _; rw [hL.out, e]; unfold et; rw [HL.out]
      clear e hL HL hlen
      go_wp2
      go_ret
      exact ⟨by show Ending.returned (.string (str L)) = _; rw [hz.out], hb⟩

end Go.Proofs.YthnibebljbljdaaGreatDoor
