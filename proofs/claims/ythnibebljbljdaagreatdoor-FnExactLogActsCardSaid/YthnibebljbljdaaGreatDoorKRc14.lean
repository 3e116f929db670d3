/- The program's RecText. -/
import Derived.Test.YthnibebljbljdaaGreatDoorKRb14
import Derived.Test.YthnibebljbljdaaGreatDoorKATi10
import Derived.Test.YthnibebljbljdaaGreatDoorKSOu10
namespace Go.Proofs.YthnibebljbljdaaGreatDoor
open Go.RowKit Vt

set_option maxHeartbeats 1000000 in
theorem short_put (B b : Nat) (f ok : Bool) (L M : List UInt8) (w : World) (h : BW B b f L w) (hM : M.length ≤ 300) (hlim : L.length ≤ 100000) :
    Calls Tryz.prog 78 #[.pointer (some ⟨b, 0, none⟩), .string (str M), .bool ok] w fun e w' => e = .returned (.tuple #[]) ∧ BW B b (f || !ok) (L ++ sht M) w' ∧ KB B b w w' := by
  have hz : (str M).size = M.length := str_size M
  have e1 : vtS (str M).size ++ str M = str (sht M) := by
    rw [hz]
    show str (vt M.length) ++ str M = _
    rw [str_app]
    rfl
  have HS := hideIt (iShort_yes (str M) (by omega) w)
  rw [e1] at HS
  have hv := vt_le5 M.length (by omega)
  have HP : Hid (∀ u, Below w.heap.size w u → Calls Tryz.prog 106 #[.pointer (some ⟨b, 0, none⟩), .string (str (sht M)), .bool ok] u fun e v => e = .returned (.tuple #[]) ∧ BW B b (f || !ok) (L ++ sht M) v ∧ KB B b u v) := fun u hu => by
    have := put_any B b f ok L (str (sht M)) u (h.below hu) (by rw [str_size]; unfold sht; rw [List.length_append]; omega)
    have e : (str (sht M)).data.toList = sht M := by simp [str]
    rw [e] at this
    exact this
  have HB : Hid (B ≤ w.heap.size) := h.2
  clear h e1 hz hv
  generalize str (sht M) = sM at *
  cases ok with
  | true =>
    go_enter Tryz.func78, Tryz.ntmps78
    go_wp2_with (first | (go_at_call 107; refine HS.out.mono ?_; rintro e u1 ⟨rfl, g1⟩; have HG1 := hideIt g1; clear g1) | (go_at_call 106; refine (HP.out _ HG1.out).mono ?_; rintro e u2 ⟨rfl, bw, kb⟩))
    refine bodyPost_end (v := .tuple #[]) ?_ rfl ?_
    · simp [results, Tryz.results78, go_sem]
    exact ⟨rfl, bw, (KB.of_below HB.out HG1.out).trans kb⟩
  | false =>
    go_enter Tryz.func78, Tryz.ntmps78
    go_wp2_with (first | (go_at_call 107; refine HS.out.mono ?_; rintro e u1 ⟨rfl, g1⟩; have HG1 := hideIt g1; clear g1) | (go_at_call 106; refine (HP.out _ HG1.out).mono ?_; rintro e u2 ⟨rfl, bw, kb⟩))
    refine bodyPost_end (v := .tuple #[]) ?_ rfl ?_
    · simp [results, Tryz.results78, go_sem]
    exact ⟨rfl, bw, (KB.of_below HB.out HG1.out).trans kb⟩
theorem bw_new (w : World) : BW w.heap.size w.heap.size false [] (w.alloc (.cells #[.slice none 0 0, .int .i64 0, .int .i8 0, .bool false] 142)) :=
  ⟨LibA.zero_isBuffer (Nat.le_refl _) (lr := 0) ⟨_, heap_alloc_new w _, rfl, rfl, rfl, fun i hi => by
    unfold RF
    rcases Nat.lt_or_ge i 4 with h | h
    · have : i = 3 := by omega
      subst this
      rfl
    · rw [if_neg (by omega)]
      exact Array.getElem?_eq_none (by simpa using h)⟩, by simp⟩
theorem tk_of {n kind id op a b sh : Int} {an : AnsV} {o : OrdV} {k1 k2 k3 : Nat} (l1 : an.es.length = k1) (l2 : an.ls.length = k2) (l3 : o.es.length = k3) (h : RecB n ⟨kind, id, op, a, b, sh, an, o⟩) : tkB kind sh (kzB id op a b) (azB an.num an.ok k1 k2) (ozB o.num o.op k3 o.v) = true := by
  obtain ⟨q1, q2, q3, q4⟩ := an
  obtain ⟨p1, p2, p3, p4⟩ := o
  have ia := azB_iff (num := q1) (ok := q2) l1 l2
  have io := ozB_iff (num := p1) (op := p2) (v := p4) l3
  unfold tkB
  rcases h with ⟨rfl, _, h1, h2, h3⟩ | ⟨rfl, h0, _, _, h3⟩ | ⟨rfl, h0, h1, h2, _⟩
  · rw [if_pos rfl, ia.2 h2, io.2 h3, decide_eq_true h1]; rfl
  · rw [if_neg (by simp), if_pos rfl, kzB_iff.2 h0, io.2 h3]; rfl
  · rw [if_neg (by simp), if_neg (by simp), if_pos rfl, kzB_iff.2 h0, ia.2 h2, decide_eq_true h1]; rfl
theorem nmF_no {xs : List Int} (h : nmF xs = false) : ∀ x ∈ xs, N5 x := by
  intro x hx
  unfold nmF at h
  rw [List.any_eq_false] at h
  have := h x hx
  simpa using this
theorem nmF_yes {xs : List Int} (h : nmF xs = true) : ∃ x ∈ xs, ¬ N5 x := by
  unfold nmF at h
  rw [List.any_eq_true] at h
  obtain ⟨x, hx, h⟩ := h
  exact ⟨x, hx, by simpa using h⟩
theorem nmT_yes {x : Int} (h : N5 x) : nmT x = vt x.toNat := by
  unfold nmT
  rw [if_pos ⟨h.1, by have := h.2; omega⟩]
set_option maxRecDepth 100000 in
set_option maxHeartbeats 4000000 in
theorem it_not (n kind id op a b sh anum : Int) (aok : Bool) (aes : List EdgeV) (als : List Int) (onum oop : Int) (oes : List EdgeV) (ov : Int) (a1 : Option Addr) (k1 c1 : Nat) (a2 : Option Addr) (k2 c2 : Nat) (a3 : Option Addr) (k3 c3 : Nat) (w : World) (h1 : Es w w.heap.size a1 k1 aes) (h2 : Is w w.heap.size a2 k2 als) (h3 : Es w w.heap.size a3 k3 oes) (_l1 : k1 ≤ 1048576) (_l2 : k2 ≤ 1048576) (_l3 : k3 ≤ 1048576) (htk : tkB kind sh (kzB id op a b) (azB anum aok k1 k2) (ozB onum oop k3 ov) = false) :
    Calls Tryz.prog 40 #[.int .i64 n, .agg #[.int .i64 kind, .int .i64 id, .int .i64 op, .int .i64 a, .int .i64 b, .int .i64 sh, .int .i64 anum, .bool aok, .slice a1 k1 c1, .slice a2 k2 c2, .int .i64 onum, .int .i64 oop, .slice a3 k3 c3, .int .i64 ov]] w fun e w' => e = .returned (rtV n ⟨kind, id, op, a, b, sh, ⟨anum, aok, aes, als⟩, ⟨onum, oop, oes, ov⟩⟩) ∧ Below w.heap.size w w' := by
  have HN : Hid (rtV n ⟨kind, id, op, a, b, sh, ⟨anum, aok, aes, als⟩, ⟨onum, oop, oes, ov⟩⟩ = .tuple #[.string ⟨#[]⟩, .bool false]) := rtV_no (fun h => by have := tk_of h1.1 h2.1 h3.1 h; rw [htk] at this; cases this)
  obtain ⟨W, hW⟩ : ∃ W, W = w.alloc (.cells #[.int .i64 kind, .int .i64 id, .int .i64 op, .int .i64 a, .int .i64 b, .int .i64 sh, .int .i64 anum, .bool aok, .slice a1 k1 c1, .slice a2 k2 c2, .int .i64 onum, .int .i64 oop, .slice a3 k3 c3, .int .i64 ov] 57) := ⟨_, rfl⟩
  have G0 : Good w W := by rw [hW]; exact (Good.refl w).alloc _
  have HX : Hid (BxQ W w.heap.size 57 #[.int .i64 kind, .int .i64 id, .int .i64 op, .int .i64 a, .int .i64 b, .int .i64 sh, .int .i64 anum, .bool aok, .slice a1 k1 c1, .slice a2 k2 c2, .int .i64 onum, .int .i64 oop, .slice a3 k3 c3, .int .i64 ov]) := by show BxQ _ _ _ _; rw [hW]; exact BxQ.new _ _ _
  have HTl := hideIt (tells_any kind id op a b sh anum aok onum oop ov a1 k1 c1 a2 k2 c2 a3 k3 c3 W)
  rw [htk] at HTl
  have HG := hideIt G0
  have x0 := HX.out.at 0 rfl
  have x1 := HX.out.at 1 rfl
  have x2 := HX.out.at 2 rfl
  have x3 := HX.out.at 3 rfl
  have x4 := HX.out.at 4 rfl
  have x5 := HX.out.at 5 rfl
  have x6 := HX.out.at 6 rfl
  have x7 := HX.out.at 7 rfl
  have x8 := HX.out.at 8 rfl
  have x9 := HX.out.at 9 rfl
  have x10 := HX.out.at 10 rfl
  have x11 := HX.out.at 11 rfl
  have x12 := HX.out.at 12 rfl
  have x13 := HX.out.at 13 rfl
  clear h1 h2 h3 G0
  go_enter Tryz.func40, Tryz.ntmps40
  go_upto_region 1 with fail
  rw [← hW]
  clear hW
  go_wp2_with (go_at_call 75; refine HTl.out.mono ?_; rintro e u1 ⟨rfl, g1⟩; refine Hid.out ?_)
  refine (show ∀ {p : Prop}, p → Hid p from fun h => h) ?_
  clear HTl x0 x1 x2 x3 x4 x5 x6 x7 x8 x9 x10 x11 x12 x13
  have HGz := hideIt (HG.out.up g1)
  clear g1 HX
  go_wp2
  go_ret2
  exact ⟨by rw [HN.out]; rfl, HGz.out⟩
set_option maxRecDepth 100000 in
set_option maxHeartbeats 4000000 in
theorem it_one (n id op a b sh anum : Int) (aok : Bool) (aes : List EdgeV) (als : List Int) (onum oop : Int) (oes : List EdgeV) (ov : Int) (a1 : Option Addr) (k1 c1 : Nat) (a2 : Option Addr) (k2 c2 : Nat) (a3 : Option Addr) (k3 c3 : Nat) (w : World) (h1 : Es w w.heap.size a1 k1 aes) (h2 : Is w w.heap.size a2 k2 als) (h3 : Es w w.heap.size a3 k3 oes) (_l1 : k1 ≤ 1048576) (_l2 : k2 ≤ 1048576) (_l3 : k3 ≤ 1048576) (htk : tkB 1 sh (kzB id op a b) (azB anum aok k1 k2) (ozB onum oop k3 ov) = true) :
    Calls Tryz.prog 40 #[.int .i64 n, .agg #[.int .i64 1, .int .i64 id, .int .i64 op, .int .i64 a, .int .i64 b, .int .i64 sh, .int .i64 anum, .bool aok, .slice a1 k1 c1, .slice a2 k2 c2, .int .i64 onum, .int .i64 oop, .slice a3 k3 c3, .int .i64 ov]] w fun e w' => e = .returned (rtV n ⟨1, id, op, a, b, sh, ⟨anum, aok, aes, als⟩, ⟨onum, oop, oes, ov⟩⟩) ∧ Below w.heap.size w w' := by
  have HZ : Hid (sh = 0 ∧ (⟨anum, aok, aes, als⟩ : AnsV) = zA ∧ (⟨onum, oop, oes, ov⟩ : OrdV) = zO) := by
    have h := htk
    unfold tkB at h
    rw [if_pos rfl] at h
    simp only [Bool.and_eq_true, decide_eq_true_eq] at h
    exact ⟨h.1, (azB_iff h1.1 h2.1).1 h.2.1, (ozB_iff h3.1).1 h.2.2⟩
  obtain ⟨W, hW⟩ : ∃ W, W = w.alloc (.cells #[.int .i64 1, .int .i64 id, .int .i64 op, .int .i64 a, .int .i64 b, .int .i64 sh, .int .i64 anum, .bool aok, .slice a1 k1 c1, .slice a2 k2 c2, .int .i64 onum, .int .i64 oop, .slice a3 k3 c3, .int .i64 ov] 57) := ⟨_, rfl⟩
  have G0 : Good w W := by rw [hW]; exact (Good.refl w).alloc _
  have HX : Hid (BxQ W w.heap.size 57 #[.int .i64 1, .int .i64 id, .int .i64 op, .int .i64 a, .int .i64 b, .int .i64 sh, .int .i64 anum, .bool aok, .slice a1 k1 c1, .slice a2 k2 c2, .int .i64 onum, .int .i64 oop, .slice a3 k3 c3, .int .i64 ov]) := by show BxQ _ _ _ _; rw [hW]; exact BxQ.new _ _ _
  have HTl := hideIt (tells_any 1 id op a b sh anum aok onum oop ov a1 k1 c1 a2 k2 c2 a3 k3 c3 W)
  rw [htk] at HTl
  have HG := hideIt G0
  have x0 := HX.out.at 0 rfl
  have x1 := HX.out.at 1 rfl
  have x2 := HX.out.at 2 rfl
  have x3 := HX.out.at 3 rfl
  have x4 := HX.out.at 4 rfl
  have x5 := HX.out.at 5 rfl
  have x6 := HX.out.at 6 rfl
  have x7 := HX.out.at 7 rfl
  have x8 := HX.out.at 8 rfl
  have x9 := HX.out.at 9 rfl
  have x10 := HX.out.at 10 rfl
  have x11 := HX.out.at 11 rfl
  have x12 := HX.out.at 12 rfl
  have x13 := HX.out.at 13 rfl
  clear h1 h2 h3 G0
  go_enter Tryz.func40, Tryz.ntmps40
  go_upto_region 1 with fail
  rw [← hW]
  clear hW
  go_wp2_with (go_at_call 75; refine HTl.out.mono ?_; rintro e u1 ⟨rfl, g1⟩; refine Hid.out ?_)
  refine (show ∀ {p : Prop}, p → Hid p from fun h => h) ?_
  clear HTl x0 x1 x2 x3 x4 x5 x6 x7 x8 x9 x10 x11 x12 x13
  have GU := HG.out.up g1
  obtain ⟨V, hV⟩ : ∃ V, V = u1.alloc (.cells #[.slice none 0 0, .int .i64 0, .int .i8 0, .bool false] 142) := ⟨_, rfl⟩
  have BV : BW u1.heap.size u1.heap.size false [] V := by rw [hV]; exact bw_new u1
  have bV : Below u1.heap.size u1 V := by rw [hV]; exact (Below.refl _ _).alloc (Nat.le_refl _) _
  have lw : w.heap.size < u1.heap.size := Nat.lt_of_lt_of_le HX.out.lt g1.size
  have X1 := (HX.out.gr (gr_below g1 none) (by simp)).gr (gr_below bV none) (by simp)
  have HGV := hideIt (GU.up bV)
  clear g1 GU HX
  go_upto_region 4 with fail
  rw [← hV]
  clear hV bV
  generalize u1.heap.size = bb at *
  have HXX : Hid (∀ u, Below bb V u → BxQ u w.heap.size 57 #[.int .i64 1, .int .i64 id, .int .i64 op, .int .i64 a, .int .i64 b, .int .i64 sh, .int .i64 anum, .bool aok, .slice a1 k1 c1, .slice a2 k2 c2, .int .i64 onum, .int .i64 oop, .slice a3 k3 c3, .int .i64 ov]) := fun u hu => by unfold BxQ; rw [hu.block _ lw]; exact X1
  have HWB := hideIt (bufWB 142 (RF false) bb bb 0 (Lib.byteCells []) 1 V.drew BV.1 BV.2 (Lib.byteCells_one _) (by simp [Lib.byteCells]))
  have y0 := X1.at 0 rfl
  have HC : Hid (∀ u, Below bb V u → u.cell? ⟨w.heap.size, 0, none⟩ = some (.int .i64 1)) := fun u hu => (HXX.out u hu).at 0 rfl
  have hS0 := HC.out _ (Below.refl bb V).drew
  have HbV : Hid (bb ≤ V.heap.size) := BV.2
  clear X1 BV
  go_region_held3 (fun u => u.cell? ⟨w.heap.size, 0, none⟩ = some (.int .i64 1)) (first | assumption)
    ((go_at_call 76; refine HWB.out.mono ?_; rintro e z ⟨rfl, iz, bz, kz⟩; have hz1 := HC.out _ (((Below.refl bb V).drew).trans bz)))
  have kz1 : KB bb bb V z := KB.trans (show KB bb bb V V.drew from ⟨(Below.refl bb V).drew, (Lib.OthersKept.refl _ _ _).drew⟩) ⟨bz, kz⟩
  have bw1 : BW bb bb false [1] z := ⟨by have e : Lib.byteCells [1] = Lib.byteCells [] ++ [Value.int .u8 1] := rfl; rw [e]; exact iz, Nat.le_trans HbV.out kz1.size⟩
  clear iz bz kz hz1 hS0 HWB HC y0
  have X2 := HXX.out z kz1.1
  have y0 := X2.at 0 rfl
  have y1 := X2.at 1 rfl
  have y2 := X2.at 2 rfl
  have y3 := X2.at 3 rfl
  have y4 := X2.at 4 rfl
  obtain ⟨V2, hV2⟩ : ∃ V2, V2 = z.alloc (.cells #[.int .i64 id, .int .i64 op, .int .i64 a, .int .i64 b] 3) := ⟨_, rfl⟩
  have b2 : Below z.heap.size z V2 := by rw [hV2]; exact (Below.refl _ _).alloc (Nat.le_refl _) _
  have R2 : BxQ V2 z.heap.size 3 ([id, op, a, b].map (Value.int .i64)).toArray := by rw [hV2]; exact BxQ.new _ _ _
  have bw2 := bw1.below b2
  have kb2 : KB bb bb V V2 := kz1.trans (KB.of_below bw1.2 b2)
  have lb := bw1.lt
  have HNu := hideIt (numbers_any bb bb z.heap.size false [1] [id, op, a, b] 4 rfl (by omega) V2 bw2 R2 (by omega) (by simp))
  have HK2 := hideIt kb2
  clear bw1 kz1 X2 b2 R2 bw2 kb2
  go_wp2_with (go_at_call 77; (try rw [← hV2]); refine HNu.out.mono ?_; rintro e uu ⟨rfl, bwF0, kb0⟩; refine Hid.out ?_)
  refine (show ∀ {p : Prop}, p → Hid p from fun h => h) ?_
  have kbF := HK2.out.trans kb0
  have bwF : BW bb bb (nmF [id, op, a, b]) ([1] ++ nmL [id, op, a, b]) uu := bwF0
  clear bwF0 kb0 HNu HK2 hV2 y0 y1 y2 y3 y4
  obtain ⟨FF, hFF⟩ : ∃ FF, FF = nmF [id, op, a, b] := ⟨_, rfl⟩
  rw [← hFF] at bwF
  have HFF := hideIt hFF
  clear hFF
  have cf := bwF.flag
  have HbF := hideIt bwF
  have HkF := hideIt kbF
  clear bwF kbF
  cases hF : FF with
  | true =>
    rw [hF] at cf
    have hfin : Hid (rtV n ⟨1, id, op, a, b, sh, ⟨anum, aok, aes, als⟩, ⟨onum, oop, oes, ov⟩⟩ = .tuple #[.string ⟨#[]⟩, .bool false]) := rtV_no (fun h => by
      obtain ⟨x, hx, h5⟩ := nmF_yes (by rw [← HFF.out]; exact hF)
      rcases h with h | h | h
      · simp only [List.mem_cons, List.not_mem_nil, or_false] at hx
        rcases hx with rfl | rfl | rfl | rfl
        · exact h5 h.2.1.1
        · exact h5 h.2.1.2.1
        · exact h5 h.2.1.2.2.1
        · exact h5 h.2.1.2.2.2
      · exact absurd h.1 (by simp)
      · exact absurd h.1 (by simp))
    have HGz : Hid (Below w.heap.size w uu) := HGV.out.trans (HkF.out.1.mono (by omega))
    go_wp2
    go_ret2
    exact ⟨by rw [hfin.out]; rfl, HGz.out⟩
  | false =>
    rw [hF] at cf HbF
    have hfin : Hid (rtV n ⟨1, id, op, a, b, sh, ⟨anum, aok, aes, als⟩, ⟨onum, oop, oes, ov⟩⟩ = .tuple #[.string ⟨([1] ++ nmL [id, op, a, b]).toArray⟩, .bool true]) := by
      have h5 := nmF_no (by rw [← HFF.out]; exact hF)
      have q1 := h5 id (by simp)
      have q2 := h5 op (by simp)
      have q3 := h5 a (by simp)
      have q4 := h5 b (by simp)
      show _ = _
      rw [rtV_yes (.inl ⟨rfl, ⟨q1, q2, q3, q4⟩, HZ.out⟩)]
      have e : [1] ++ nmL [id, op, a, b] = rText ⟨1, id, op, a, b, sh, ⟨anum, aok, aes, als⟩, ⟨onum, oop, oes, ov⟩⟩ := by
        unfold rText nmL
        rw [if_pos rfl]
        simp [List.flatMap_cons, nmT_yes q1, nmT_yes q2, nmT_yes q3, nmT_yes q4]
      rw [e]
      rfl
    have HSt := hideIt (bufStr 142 (RF false) bb bb 0 _ uu HbF.out.1)
    have HGz : Hid (Below w.heap.size w uu) := HGV.out.trans (HkF.out.1.mono (by omega))
    go_wp2_with (go_at_call 81; refine HSt.out.mono ?_; rintro e z9 ⟨rfl, nn, hz9⟩; refine Hid.out ?_)
    refine (show ∀ {p : Prop}, p → Hid p from fun h => h) ?_
    subst hz9
    go_wp2
    go_ret2
    exact ⟨by rw [hfin.out]; rfl, HGz.out.trans ⟨rfl, rfl, rfl, Nat.le_refl _, fun _ _ => rfl⟩⟩
set_option maxRecDepth 100000 in
set_option maxHeartbeats 4000000 in
theorem it_two (n id op a b sh anum : Int) (aok : Bool) (aes : List EdgeV) (als : List Int) (onum oop : Int) (oes : List EdgeV) (ov : Int) (a1 : Option Addr) (k1 c1 : Nat) (a2 : Option Addr) (k2 c2 : Nat) (a3 : Option Addr) (k3 c3 : Nat) (w : World) (h1 : Es w w.heap.size a1 k1 aes) (h2 : Is w w.heap.size a2 k2 als) (h3 : Es w w.heap.size a3 k3 oes) (l1 : k1 ≤ 1048576) (l2 : k2 ≤ 1048576) (_l3 : k3 ≤ 1048576) (htk : tkB 2 sh (kzB id op a b) (azB anum aok k1 k2) (ozB onum oop k3 ov) = true) :
    Calls Tryz.prog 40 #[.int .i64 n, .agg #[.int .i64 2, .int .i64 id, .int .i64 op, .int .i64 a, .int .i64 b, .int .i64 sh, .int .i64 anum, .bool aok, .slice a1 k1 c1, .slice a2 k2 c2, .int .i64 onum, .int .i64 oop, .slice a3 k3 c3, .int .i64 ov]] w fun e w' => e = .returned (rtV n ⟨2, id, op, a, b, sh, ⟨anum, aok, aes, als⟩, ⟨onum, oop, oes, ov⟩⟩) ∧ Below w.heap.size w w' := by
  have HZ : Hid ((id = 0 ∧ op = 0 ∧ a = 0 ∧ b = 0) ∧ (⟨onum, oop, oes, ov⟩ : OrdV) = zO) := by
    have h := htk
    unfold tkB at h
    rw [if_neg (by simp), if_pos rfl] at h
    simp only [Bool.and_eq_true] at h
    exact ⟨kzB_iff.1 h.1, (ozB_iff h3.1).1 h.2⟩
  obtain ⟨W, hW⟩ : ∃ W, W = w.alloc (.cells #[.int .i64 2, .int .i64 id, .int .i64 op, .int .i64 a, .int .i64 b, .int .i64 sh, .int .i64 anum, .bool aok, .slice a1 k1 c1, .slice a2 k2 c2, .int .i64 onum, .int .i64 oop, .slice a3 k3 c3, .int .i64 ov] 57) := ⟨_, rfl⟩
  have G0 : Good w W := by rw [hW]; exact (Good.refl w).alloc _
  have HX : Hid (BxQ W w.heap.size 57 #[.int .i64 2, .int .i64 id, .int .i64 op, .int .i64 a, .int .i64 b, .int .i64 sh, .int .i64 anum, .bool aok, .slice a1 k1 c1, .slice a2 k2 c2, .int .i64 onum, .int .i64 oop, .slice a3 k3 c3, .int .i64 ov]) := by show BxQ _ _ _ _; rw [hW]; exact BxQ.new _ _ _
  have HTl := hideIt (tells_any 2 id op a b sh anum aok onum oop ov a1 k1 c1 a2 k2 c2 a3 k3 c3 W)
  rw [htk] at HTl
  have HG := hideIt G0
  have x0 := HX.out.at 0 rfl
  have x1 := HX.out.at 1 rfl
  have x2 := HX.out.at 2 rfl
  have x3 := HX.out.at 3 rfl
  have x4 := HX.out.at 4 rfl
  have x5 := HX.out.at 5 rfl
  have x6 := HX.out.at 6 rfl
  have x7 := HX.out.at 7 rfl
  have x8 := HX.out.at 8 rfl
  have x9 := HX.out.at 9 rfl
  have x10 := HX.out.at 10 rfl
  have x11 := HX.out.at 11 rfl
  have x12 := HX.out.at 12 rfl
  have x13 := HX.out.at 13 rfl
  have HT : Hid (∀ u, Good w u → Calls Tryz.prog 79 #[.int .i64 n, .agg #[.int .i64 anum, .bool aok, .slice a1 k1 c1, .slice a2 k2 c2]] u fun e v => e = .returned (atV n ⟨anum, aok, aes, als⟩) ∧ Below u.heap.size u v) := fun u hu => iAnswerText_any n anum aok aes als k1 a1 c1 l1 k2 a2 c2 l2 u (h1.up hu) (h2.up hu)
  clear h1 h2 h3 G0
  go_enter Tryz.func40, Tryz.ntmps40
  go_upto_region 1 with fail
  rw [← hW]
  clear hW
  go_wp2_with (go_at_call 75; refine HTl.out.mono ?_; rintro e u1 ⟨rfl, g1⟩; refine Hid.out ?_)
  refine (show ∀ {p : Prop}, p → Hid p from fun h => h) ?_
  clear HTl x0 x1 x2 x3 x4 x5 x6 x7 x8 x9 x10 x11 x12 x13
  have GU := HG.out.up g1
  obtain ⟨V, hV⟩ : ∃ V, V = u1.alloc (.cells #[.slice none 0 0, .int .i64 0, .int .i8 0, .bool false] 142) := ⟨_, rfl⟩
  have BV : BW u1.heap.size u1.heap.size false [] V := by rw [hV]; exact bw_new u1
  have bV : Below u1.heap.size u1 V := by rw [hV]; exact (Below.refl _ _).alloc (Nat.le_refl _) _
  have lw : w.heap.size < u1.heap.size := Nat.lt_of_lt_of_le HX.out.lt g1.size
  have X1 := (HX.out.gr (gr_below g1 none) (by simp)).gr (gr_below bV none) (by simp)
  have HGV := hideIt (GU.up bV)
  clear g1 GU HX
  go_upto_region 4 with fail
  rw [← hV]
  clear hV bV
  generalize u1.heap.size = bb at *
  have HXX : Hid (∀ u, Below bb V u → BxQ u w.heap.size 57 #[.int .i64 2, .int .i64 id, .int .i64 op, .int .i64 a, .int .i64 b, .int .i64 sh, .int .i64 anum, .bool aok, .slice a1 k1 c1, .slice a2 k2 c2, .int .i64 onum, .int .i64 oop, .slice a3 k3 c3, .int .i64 ov]) := fun u hu => by unfold BxQ; rw [hu.block _ lw]; exact X1
  have HWB := hideIt (bufWB 142 (RF false) bb bb 0 (Lib.byteCells []) 2 V.drew BV.1 BV.2 (Lib.byteCells_one _) (by simp [Lib.byteCells]))
  have y0 := X1.at 0 rfl
  have HC : Hid (∀ u, Below bb V u → u.cell? ⟨w.heap.size, 0, none⟩ = some (.int .i64 2)) := fun u hu => (HXX.out u hu).at 0 rfl
  have hS0 := HC.out _ (Below.refl bb V).drew
  have HbV : Hid (bb ≤ V.heap.size) := BV.2
  clear X1 BV
  go_region_held3 (fun u => u.cell? ⟨w.heap.size, 0, none⟩ = some (.int .i64 2)) (first | assumption)
    ((go_at_call 76; refine HWB.out.mono ?_; rintro e z ⟨rfl, iz, bz, kz⟩; have hz1 := HC.out _ (((Below.refl bb V).drew).trans bz)))
  have kz1 : KB bb bb V z := KB.trans (show KB bb bb V V.drew from ⟨(Below.refl bb V).drew, (Lib.OthersKept.refl _ _ _).drew⟩) ⟨bz, kz⟩
  have bw1 : BW bb bb false [2] z := ⟨by have e : Lib.byteCells [2] = Lib.byteCells [] ++ [Value.int .u8 2] := rfl; rw [e]; exact iz, Nat.le_trans HbV.out kz1.size⟩
  clear iz bz kz hz1 hS0 HWB HC y0
  have X2 := HXX.out z kz1.1
  have y0 := X2.at 0 rfl
  have y5 := X2.at 5 rfl
  obtain ⟨V2, hV2⟩ : ∃ V2, V2 = z.alloc (.cells #[.int .i64 sh] 3) := ⟨_, rfl⟩
  have b2 : Below z.heap.size z V2 := by rw [hV2]; exact (Below.refl _ _).alloc (Nat.le_refl _) _
  have R2 : BxQ V2 z.heap.size 3 ([sh].map (Value.int .i64)).toArray := by rw [hV2]; exact BxQ.new _ _ _
  have bw2 := bw1.below b2
  have kb2 : KB bb bb V V2 := kz1.trans (KB.of_below bw1.2 b2)
  have lb := bw1.lt
  have HNu := hideIt (numbers_any bb bb z.heap.size false [2] [sh] 1 rfl (by omega) V2 bw2 R2 (by omega) (by simp))
  have HK2 := hideIt kb2
  clear bw1 kz1 X2 b2 R2 bw2 kb2
  go_wp2_with (go_at_call 77; (try rw [← hV2]); refine HNu.out.mono ?_; rintro e z2 ⟨rfl, bwN, kbN⟩; refine Hid.out ?_)
  refine (show ∀ {p : Prop}, p → Hid p from fun h => h) ?_
  have kbM := HK2.out.trans kbN
  have bwM : BW bb bb (nmF [sh]) ([2] ++ nmL [sh]) z2 := bwN
  clear bwN kbN HNu HK2 hV2 y0 y5
  have X3 := HXX.out z2 kbM.1
  have y6 := X3.at 6 rfl
  have y7 := X3.at 7 rfl
  have y8 := X3.at 8 rfl
  have y9 := X3.at 9 rfl
  have HGM : Hid (Good w z2) := HGV.out.trans (kbM.1.mono (by omega))
  have HT3 := hideIt (HT.out z2 HGM.out)
  have HbM := hideIt bwM
  have HkM := hideIt kbM
  clear bwM kbM X3 HT
  cases eB : aB n ⟨anum, aok, aes, als⟩ with
  | false =>
    rw [atV_no eB] at HT3
    go_wp2_with (go_at_call 79; refine HT3.out.mono ?_; rintro e z3 ⟨rfl, g3⟩; refine Hid.out ?_)
    refine (show ∀ {p : Prop}, p → Hid p from fun h => h) ?_
    have HSh := hideIt (short_put bb bb (nmF [sh]) false ([2] ++ nmL [sh]) [] z3 (HbM.out.below g3) (by simp) (by have := nmL_len [sh]; simp at this ⊢; omega))
    have kb3 : KB bb bb V z3 := HkM.out.trans (KB.of_below HbM.out.2 g3)
    have HK3 := hideIt kb3
    clear g3 kb3 y6 y7 y8 y9 HT3
    go_wp2_with (go_at_call 78; refine HSh.out.mono ?_; rintro e uu ⟨rfl, bwF0, kb0⟩; refine Hid.out ?_)
    refine (show ∀ {p : Prop}, p → Hid p from fun h => h) ?_
    have kbF := HK3.out.trans kb0
    have bwF : BW bb bb true (([2] ++ nmL [sh]) ++ sht []) uu := by have h := bwF0; rw [show ((nmF [sh]) || !false) = true by simp] at h; exact h
    clear bwF0 kb0 HSh HK3
    have cf := bwF.flag
    have hfin : Hid (rtV n ⟨2, id, op, a, b, sh, ⟨anum, aok, aes, als⟩, ⟨onum, oop, oes, ov⟩⟩ = .tuple #[.string ⟨#[]⟩, .bool false]) := rtV_no (fun h => by
      rcases h with h | h | h
      · exact absurd h.1 (by simp)
      · rw [h.2.2.2.1] at eB; cases eB
      · exact absurd h.1 (by simp))
    have HGz : Hid (Below w.heap.size w uu) := HGV.out.trans (kbF.1.mono (by omega))
    clear bwF kbF
    go_wp2
    go_ret2
    exact ⟨by rw [hfin.out]; rfl, HGz.out⟩
  | true =>
    rw [atV_yes eB] at HT3
    go_wp2_with (go_at_call 79; refine HT3.out.mono ?_; rintro e z3 ⟨rfl, g3⟩; refine Hid.out ?_)
    refine (show ∀ {p : Prop}, p → Hid p from fun h => h) ?_
    have HSh := hideIt (short_put bb bb (nmF [sh]) true ([2] ++ nmL [sh]) (aText ⟨anum, aok, aes, als⟩) z3 (HbM.out.below g3) (aText_len eB) (by have := nmL_len [sh]; simp at this ⊢; omega))
    have kb3 : KB bb bb V z3 := HkM.out.trans (KB.of_below HbM.out.2 g3)
    have HK3 := hideIt kb3
    clear g3 kb3 y6 y7 y8 y9 HT3
    go_wp2_with (go_at_call 78; refine HSh.out.mono ?_; rintro e uu ⟨rfl, bwF0, kb0⟩; refine Hid.out ?_)
    refine (show ∀ {p : Prop}, p → Hid p from fun h => h) ?_
    have kbF := HK3.out.trans kb0
    have bwF : BW bb bb (nmF [sh]) (([2] ++ nmL [sh]) ++ sht (aText ⟨anum, aok, aes, als⟩)) uu := by have h := bwF0; rw [show ((nmF [sh]) || !true) = (nmF [sh]) by simp] at h; exact h
    clear bwF0 kb0 HSh HK3
    obtain ⟨FF, hFF⟩ : ∃ FF, FF = (nmF [sh]) := ⟨_, rfl⟩
    rw [← hFF] at bwF
    have HFF := hideIt hFF
    clear hFF
    have cf := bwF.flag
    have HbF := hideIt bwF
    have HkF := hideIt kbF
    clear bwF kbF
    cases hF : FF with
    | true =>
      rw [hF] at cf
      have hfin : Hid (rtV n ⟨2, id, op, a, b, sh, ⟨anum, aok, aes, als⟩, ⟨onum, oop, oes, ov⟩⟩ = .tuple #[.string ⟨#[]⟩, .bool false]) := rtV_no (fun h => by
        obtain ⟨x, hx, h5⟩ := nmF_yes (by rw [← HFF.out]; exact hF)
        rcases h with h | h | h
        · exact absurd h.1 (by simp)
        · simp only [List.mem_cons, List.not_mem_nil, or_false] at hx
          subst hx
          exact h5 h.2.2.1
        · exact absurd h.1 (by simp))
      have HGz : Hid (Below w.heap.size w uu) := HGV.out.trans (HkF.out.1.mono (by omega))
      go_wp2
      go_ret2
      exact ⟨by rw [hfin.out]; rfl, HGz.out⟩
    | false =>
      rw [hF] at cf HbF
      have hfin : Hid (rtV n ⟨2, id, op, a, b, sh, ⟨anum, aok, aes, als⟩, ⟨onum, oop, oes, ov⟩⟩ = .tuple #[.string ⟨([2] ++ nmL [sh] ++ sht (aText ⟨anum, aok, aes, als⟩)).toArray⟩, .bool true]) := by
        have q1 := nmF_no (by rw [← HFF.out]; exact hF) sh (by simp)
        show _ = _
        rw [rtV_yes (.inr (.inl ⟨rfl, HZ.out.1, q1, eB, HZ.out.2⟩))]
        have e : [2] ++ nmL [sh] ++ sht (aText ⟨anum, aok, aes, als⟩) = rText ⟨2, id, op, a, b, sh, ⟨anum, aok, aes, als⟩, ⟨onum, oop, oes, ov⟩⟩ := by
          unfold rText nmL
          rw [if_neg (by simp), if_pos rfl]
          simp [List.flatMap_cons, nmT_yes q1]
        rw [e]
        rfl
      have HSt := hideIt (bufStr 142 (RF false) bb bb 0 _ uu HbF.out.1)
      have HGz : Hid (Below w.heap.size w uu) := HGV.out.trans (HkF.out.1.mono (by omega))
      go_wp2_with (go_at_call 81; refine HSt.out.mono ?_; rintro e z9 ⟨rfl, nn, hz9⟩; refine Hid.out ?_)
      refine (show ∀ {p : Prop}, p → Hid p from fun h => h) ?_
      subst hz9
      go_wp2
      go_ret2
      exact ⟨by rw [hfin.out]; rfl, HGz.out.trans ⟨rfl, rfl, rfl, Nat.le_refl _, fun _ _ => rfl⟩⟩
set_option maxRecDepth 100000 in
set_option maxHeartbeats 4000000 in
theorem it_three (n id op a b sh anum : Int) (aok : Bool) (aes : List EdgeV) (als : List Int) (onum oop : Int) (oes : List EdgeV) (ov : Int) (a1 : Option Addr) (k1 c1 : Nat) (a2 : Option Addr) (k2 c2 : Nat) (a3 : Option Addr) (k3 c3 : Nat) (w : World) (h1 : Es w w.heap.size a1 k1 aes) (h2 : Is w w.heap.size a2 k2 als) (h3 : Es w w.heap.size a3 k3 oes) (_l1 : k1 ≤ 1048576) (_l2 : k2 ≤ 1048576) (l3 : k3 ≤ 1048576) (htk : tkB 3 sh (kzB id op a b) (azB anum aok k1 k2) (ozB onum oop k3 ov) = true) :
    Calls Tryz.prog 40 #[.int .i64 n, .agg #[.int .i64 3, .int .i64 id, .int .i64 op, .int .i64 a, .int .i64 b, .int .i64 sh, .int .i64 anum, .bool aok, .slice a1 k1 c1, .slice a2 k2 c2, .int .i64 onum, .int .i64 oop, .slice a3 k3 c3, .int .i64 ov]] w fun e w' => e = .returned (rtV n ⟨3, id, op, a, b, sh, ⟨anum, aok, aes, als⟩, ⟨onum, oop, oes, ov⟩⟩) ∧ Below w.heap.size w w' := by
  have HZ : Hid ((id = 0 ∧ op = 0 ∧ a = 0 ∧ b = 0) ∧ sh = 0 ∧ (⟨anum, aok, aes, als⟩ : AnsV) = zA) := by
    have h := htk
    unfold tkB at h
    rw [if_neg (by simp), if_neg (by simp), if_pos rfl] at h
    simp only [Bool.and_eq_true, decide_eq_true_eq] at h
    exact ⟨kzB_iff.1 h.1, h.2.1, (azB_iff h1.1 h2.1).1 h.2.2⟩
  obtain ⟨W, hW⟩ : ∃ W, W = w.alloc (.cells #[.int .i64 3, .int .i64 id, .int .i64 op, .int .i64 a, .int .i64 b, .int .i64 sh, .int .i64 anum, .bool aok, .slice a1 k1 c1, .slice a2 k2 c2, .int .i64 onum, .int .i64 oop, .slice a3 k3 c3, .int .i64 ov] 57) := ⟨_, rfl⟩
  have G0 : Good w W := by rw [hW]; exact (Good.refl w).alloc _
  have HX : Hid (BxQ W w.heap.size 57 #[.int .i64 3, .int .i64 id, .int .i64 op, .int .i64 a, .int .i64 b, .int .i64 sh, .int .i64 anum, .bool aok, .slice a1 k1 c1, .slice a2 k2 c2, .int .i64 onum, .int .i64 oop, .slice a3 k3 c3, .int .i64 ov]) := by show BxQ _ _ _ _; rw [hW]; exact BxQ.new _ _ _
  have HTl := hideIt (tells_any 3 id op a b sh anum aok onum oop ov a1 k1 c1 a2 k2 c2 a3 k3 c3 W)
  rw [htk] at HTl
  have HG := hideIt G0
  have x0 := HX.out.at 0 rfl
  have x1 := HX.out.at 1 rfl
  have x2 := HX.out.at 2 rfl
  have x3 := HX.out.at 3 rfl
  have x4 := HX.out.at 4 rfl
  have x5 := HX.out.at 5 rfl
  have x6 := HX.out.at 6 rfl
  have x7 := HX.out.at 7 rfl
  have x8 := HX.out.at 8 rfl
  have x9 := HX.out.at 9 rfl
  have x10 := HX.out.at 10 rfl
  have x11 := HX.out.at 11 rfl
  have x12 := HX.out.at 12 rfl
  have x13 := HX.out.at 13 rfl
  have HT : Hid (∀ u, Good w u → Calls Tryz.prog 80 #[.int .i64 n, .agg #[.int .i64 onum, .int .i64 oop, .slice a3 k3 c3, .int .i64 ov]] u fun e v => e = .returned (otV n ⟨onum, oop, oes, ov⟩) ∧ Below u.heap.size u v) := fun u hu => iOrderText_any n onum oop oes ov k3 a3 c3 l3 u (h3.up hu)
  clear h1 h2 h3 G0
  go_enter Tryz.func40, Tryz.ntmps40
  go_upto_region 1 with fail
  rw [← hW]
  clear hW
  go_wp2_with (go_at_call 75; refine HTl.out.mono ?_; rintro e u1 ⟨rfl, g1⟩; refine Hid.out ?_)
  refine (show ∀ {p : Prop}, p → Hid p from fun h => h) ?_
  clear HTl x0 x1 x2 x3 x4 x5 x6 x7 x8 x9 x10 x11 x12 x13
  have GU := HG.out.up g1
  obtain ⟨V, hV⟩ : ∃ V, V = u1.alloc (.cells #[.slice none 0 0, .int .i64 0, .int .i8 0, .bool false] 142) := ⟨_, rfl⟩
  have BV : BW u1.heap.size u1.heap.size false [] V := by rw [hV]; exact bw_new u1
  have bV : Below u1.heap.size u1 V := by rw [hV]; exact (Below.refl _ _).alloc (Nat.le_refl _) _
  have lw : w.heap.size < u1.heap.size := Nat.lt_of_lt_of_le HX.out.lt g1.size
  have X1 := (HX.out.gr (gr_below g1 none) (by simp)).gr (gr_below bV none) (by simp)
  have HGV := hideIt (GU.up bV)
  clear g1 GU HX
  go_upto_region 4 with fail
  rw [← hV]
  clear hV bV
  generalize u1.heap.size = bb at *
  have HXX : Hid (∀ u, Below bb V u → BxQ u w.heap.size 57 #[.int .i64 3, .int .i64 id, .int .i64 op, .int .i64 a, .int .i64 b, .int .i64 sh, .int .i64 anum, .bool aok, .slice a1 k1 c1, .slice a2 k2 c2, .int .i64 onum, .int .i64 oop, .slice a3 k3 c3, .int .i64 ov]) := fun u hu => by unfold BxQ; rw [hu.block _ lw]; exact X1
  have HWB := hideIt (bufWB 142 (RF false) bb bb 0 (Lib.byteCells []) 3 V.drew BV.1 BV.2 (Lib.byteCells_one _) (by simp [Lib.byteCells]))
  have y0 := X1.at 0 rfl
  have HC : Hid (∀ u, Below bb V u → u.cell? ⟨w.heap.size, 0, none⟩ = some (.int .i64 3)) := fun u hu => (HXX.out u hu).at 0 rfl
  have hS0 := HC.out _ (Below.refl bb V).drew
  have HbV : Hid (bb ≤ V.heap.size) := BV.2
  clear X1 BV
  go_region_held3 (fun u => u.cell? ⟨w.heap.size, 0, none⟩ = some (.int .i64 3)) (first | assumption)
    ((go_at_call 76; refine HWB.out.mono ?_; rintro e z ⟨rfl, iz, bz, kz⟩; have hz1 := HC.out _ (((Below.refl bb V).drew).trans bz)))
  have kz1 : KB bb bb V z := KB.trans (show KB bb bb V V.drew from ⟨(Below.refl bb V).drew, (Lib.OthersKept.refl _ _ _).drew⟩) ⟨bz, kz⟩
  have bw1 : BW bb bb false [3] z := ⟨by have e : Lib.byteCells [3] = Lib.byteCells [] ++ [Value.int .u8 3] := rfl; rw [e]; exact iz, Nat.le_trans HbV.out kz1.size⟩
  clear iz bz kz hz1 hS0 HWB HC y0
  have kbM := kz1
  have bwM : BW bb bb false [3] z := bw1
  clear kz1 bw1
  have y0q := (HXX.out z kbM.1).at 0 rfl
  have X3 := HXX.out z kbM.1
  have y10 := X3.at 10 rfl
  have y11 := X3.at 11 rfl
  have y12 := X3.at 12 rfl
  have y13 := X3.at 13 rfl
  have HGM : Hid (Good w z) := HGV.out.trans (kbM.1.mono (by omega))
  have HT3 := hideIt (HT.out z HGM.out)
  have HbM := hideIt bwM
  have HkM := hideIt kbM
  clear bwM kbM X3 HT
  cases eB : oB n ⟨onum, oop, oes, ov⟩ with
  | false =>
    rw [otV_no eB] at HT3
    go_wp2_with (go_at_call 80; refine HT3.out.mono ?_; rintro e z3 ⟨rfl, g3⟩; refine Hid.out ?_)
    refine (show ∀ {p : Prop}, p → Hid p from fun h => h) ?_
    have HSh := hideIt (short_put bb bb false false [3] [] z3 (HbM.out.below g3) (by simp) (by simp))
    have kb3 : KB bb bb V z3 := HkM.out.trans (KB.of_below HbM.out.2 g3)
    have HK3 := hideIt kb3
    clear g3 kb3 y10 y11 y12 y13 HT3
    go_wp2_with (go_at_call 78; refine HSh.out.mono ?_; rintro e uu ⟨rfl, bwF0, kb0⟩; refine Hid.out ?_)
    refine (show ∀ {p : Prop}, p → Hid p from fun h => h) ?_
    have kbF := HK3.out.trans kb0
    have bwF : BW bb bb true ([3] ++ sht []) uu := by have h := bwF0; rw [show (false || !false) = true by simp] at h; exact h
    clear bwF0 kb0 HSh HK3
    have cf := bwF.flag
    have hfin : Hid (rtV n ⟨3, id, op, a, b, sh, ⟨anum, aok, aes, als⟩, ⟨onum, oop, oes, ov⟩⟩ = .tuple #[.string ⟨#[]⟩, .bool false]) := rtV_no (fun h => by
      rcases h with h | h | h
      · exact absurd h.1 (by simp)
      · exact absurd h.1 (by simp)
      · rw [h.2.2.2.2] at eB; cases eB)
    have HGz : Hid (Below w.heap.size w uu) := HGV.out.trans (kbF.1.mono (by omega))
    clear bwF kbF
    go_wp2
    go_ret2
    exact ⟨by rw [hfin.out]; rfl, HGz.out⟩
  | true =>
    rw [otV_yes eB] at HT3
    go_wp2_with (go_at_call 80; refine HT3.out.mono ?_; rintro e z3 ⟨rfl, g3⟩; refine Hid.out ?_)
    refine (show ∀ {p : Prop}, p → Hid p from fun h => h) ?_
    have HSh := hideIt (short_put bb bb false true [3] (oText ⟨onum, oop, oes, ov⟩) z3 (HbM.out.below g3) (oText_len eB) (by simp))
    have kb3 : KB bb bb V z3 := HkM.out.trans (KB.of_below HbM.out.2 g3)
    have HK3 := hideIt kb3
    clear g3 kb3 y10 y11 y12 y13 HT3
    go_wp2_with (go_at_call 78; refine HSh.out.mono ?_; rintro e uu ⟨rfl, bwF0, kb0⟩; refine Hid.out ?_)
    refine (show ∀ {p : Prop}, p → Hid p from fun h => h) ?_
    have kbF := HK3.out.trans kb0
    have bwF : BW bb bb false ([3] ++ sht (oText ⟨onum, oop, oes, ov⟩)) uu := bwF0
    clear bwF0 kb0 HSh HK3
    obtain ⟨FF, hFF⟩ : ∃ FF, FF = false := ⟨_, rfl⟩
    rw [← hFF] at bwF
    have HFF := hideIt hFF
    clear hFF
    have cf := bwF.flag
    have HbF := hideIt bwF
    have HkF := hideIt kbF
    clear bwF kbF
    cases hF : FF with
    | true =>
      have h9 : FF = false := HFF.out
      rw [h9] at hF
      exact absurd hF (by simp)
    | false =>
      rw [hF] at cf HbF
      have hfin : Hid (rtV n ⟨3, id, op, a, b, sh, ⟨anum, aok, aes, als⟩, ⟨onum, oop, oes, ov⟩⟩ = .tuple #[.string ⟨([3] ++ sht (oText ⟨onum, oop, oes, ov⟩)).toArray⟩, .bool true]) := by
        show _ = _
        rw [rtV_yes (.inr (.inr ⟨rfl, HZ.out.1, HZ.out.2.1, HZ.out.2.2, eB⟩))]
        rfl
      have HSt := hideIt (bufStr 142 (RF false) bb bb 0 _ uu HbF.out.1)
      have HGz : Hid (Below w.heap.size w uu) := HGV.out.trans (HkF.out.1.mono (by omega))
      go_wp2_with (go_at_call 81; refine HSt.out.mono ?_; rintro e z9 ⟨rfl, nn, hz9⟩; refine Hid.out ?_)
      refine (show ∀ {p : Prop}, p → Hid p from fun h => h) ?_
      subst hz9
      go_wp2
      go_ret2
      exact ⟨by rw [hfin.out]; rfl, HGz.out.trans ⟨rfl, rfl, rfl, Nat.le_refl _, fun _ _ => rfl⟩⟩
theorem iRecText_any (n kind id op a b sh anum : Int) (aok : Bool) (aes : List EdgeV) (als : List Int) (onum oop : Int) (oes : List EdgeV) (ov : Int) (a1 : Option Addr) (k1 c1 : Nat) (a2 : Option Addr) (k2 c2 : Nat) (a3 : Option Addr) (k3 c3 : Nat) (w : World) (h1 : Es w w.heap.size a1 k1 aes) (h2 : Is w w.heap.size a2 k2 als) (h3 : Es w w.heap.size a3 k3 oes) (l1 : k1 ≤ 1048576) (l2 : k2 ≤ 1048576) (l3 : k3 ≤ 1048576) :
    Calls Tryz.prog 40 #[.int .i64 n, .agg #[.int .i64 kind, .int .i64 id, .int .i64 op, .int .i64 a, .int .i64 b, .int .i64 sh, .int .i64 anum, .bool aok, .slice a1 k1 c1, .slice a2 k2 c2, .int .i64 onum, .int .i64 oop, .slice a3 k3 c3, .int .i64 ov]] w fun e w' => e = .returned (rtV n ⟨kind, id, op, a, b, sh, ⟨anum, aok, aes, als⟩, ⟨onum, oop, oes, ov⟩⟩) ∧ Below w.heap.size w w' := by
  cases htk : tkB kind sh (kzB id op a b) (azB anum aok k1 k2) (ozB onum oop k3 ov) with
  | false => exact it_not n kind id op a b sh anum aok aes als onum oop oes ov a1 k1 c1 a2 k2 c2 a3 k3 c3 w h1 h2 h3 l1 l2 l3 htk
  | true =>
    by_cases e1 : kind = 1
    · subst e1; exact it_one n id op a b sh anum aok aes als onum oop oes ov a1 k1 c1 a2 k2 c2 a3 k3 c3 w h1 h2 h3 l1 l2 l3 htk
    · by_cases e2 : kind = 2
      · subst e2; exact it_two n id op a b sh anum aok aes als onum oop oes ov a1 k1 c1 a2 k2 c2 a3 k3 c3 w h1 h2 h3 l1 l2 l3 htk
      · by_cases e3 : kind = 3
        · subst e3; exact it_three n id op a b sh anum aok aes als onum oop oes ov a1 k1 c1 a2 k2 c2 a3 k3 c3 w h1 h2 h3 l1 l2 l3 htk
        · unfold tkB at htk
          rw [if_neg e1, if_neg e2, if_neg e3] at htk
          cases htk
end Go.Proofs.YthnibebljbljdaaGreatDoor
