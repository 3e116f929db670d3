/- The program's table of words. -/
import Derived.Test.YtgdlpmmbeacejaaDoorKMw18
import Derived.Maps.OwnSet
namespace Go.Proofs.YtgdlpmmbeacejaaDoor
open Go.RowKit Go.WideMaps Go.Maps C

theorem kLaw : Keyed Tryd.prog 9 := string_keyed Tryd.underlying9
theorem zeroEW (w : World) : (zeroValue 82).run Tryd.prog w = .ok .nilFunc w := by kernel_rfl
theorem kB_ext {a b : ByteArray} (h : a.data.toList = b.data.toList) : a = b := by
  cases a; cases b
  congr 1
  exact Array.ext' h
def kL (s : ByteArray) : Lit := .string s.data.toList
theorem kL_ne {s t : ByteArray} (h : s ≠ t) : kL s ≠ kL t := fun e => h (kB_ext (by simpa [kL] using e))
theorem kL_is (s : ByteArray) : WideAt.IsKeyLit (kL s) := trivial
theorem kL_of {s : ByteArray} (h : s.size ≤ maxLen) : keyOf Tryd.prog 9 (.string s) = some (kL s) := keyOf_string_mk Tryd.underlying9 h
/-- the i-th word -/
def nmW : Nat → ByteArray
  | 0 => ⟨#[97, 100, 100]⟩
  | 1 => ⟨#[116, 97, 107, 101]⟩
  | 2 => ⟨#[116, 111, 103, 101, 116, 104, 101, 114]⟩
  | 3 => ⟨#[109, 111, 118, 101]⟩
  | 4 => ⟨#[100, 101, 108, 105, 118, 101, 114]⟩
  | 5 => ⟨#[100, 114, 111, 112]⟩
  | 6 => ⟨#[99, 111, 112, 121]⟩
  | 7 => ⟨#[116, 105, 99, 107]⟩
  | 8 => ⟨#[100, 111, 119, 110]⟩
  | 9 => ⟨#[117, 112]⟩
  | _ => ⟨#[]⟩
theorem nmW_inj : ∀ i < 10, ∀ j < 10, (nmW i).data.toList = (nmW j).data.toList → i = j := by decide
theorem nmW_ne {i j : Nat} (hi : i < 10) (hj : j < 10) (h : i ≠ j) : nmW i ≠ nmW j := fun e => h (nmW_inj i hi j hj (by rw [e]))
/-- which word it is -/
def wIdx (s : ByteArray) : Option Nat := (List.range 10).find? fun i => s.data.toList == (nmW i).data.toList
theorem wIdx_some {s : ByteArray} {i : Nat} (h : wIdx s = some i) : i < 10 ∧ s = nmW i := by
  have h1 := List.find?_some h
  have h2 := List.mem_of_find?_eq_some h
  exact ⟨by simpa using h2, kB_ext (by simpa using h1)⟩
theorem wIdx_none {s : ByteArray} (h : wIdx s = none) : ∀ i < 10, s ≠ nmW i := by
  intro i hi e
  have := List.find?_eq_none.1 h i (by simpa using hi)
  rw [e] at this
  simp at this
abbrev wP (b1 b2 : Nat) : DataW Unit := .agg [.lit (.int .i64 (b1 : Int)), .lit (.int .i64 (b2 : Int))]
abbrev wV (b1 b2 : Nat) : Value := .func (.func 51) #[] #[.pointer (some ⟨b1, 0, none⟩), .pointer (some ⟨b2, 0, none⟩)]
theorem wV_inj {b1 b2 c1 c2 : Nat} (h : wV b1 b2 = wV c1 c2) : b1 = c1 ∧ b2 = c2 := by
  injection h with _ _ h
  have h := congrArg Array.toList h
  simpa using h
open Classical in
/-- how a word reads -/
noncomputable def wR (v : Value) : Option (DataW Unit × List MemPlace) :=
  if h : ∃ p : Nat × Nat, v = wV p.1 p.2 then some (wP (Classical.choose h).1 (Classical.choose h).2, [])
  else if v = .nilFunc then some (.lit (.bool false), []) else none
theorem wR_mk (b1 b2 : Nat) : wR (wV b1 b2) = some (wP b1 b2, []) := by
  have h : ∃ p : Nat × Nat, wV b1 b2 = wV p.1 p.2 := ⟨(b1, b2), rfl⟩
  unfold wR
  rw [dif_pos h]
  obtain ⟨h1, h2⟩ := wV_inj (Classical.choose_spec h)
  rw [← h1, ← h2]
theorem wR_zero : wR .nilFunc = some (.lit (.bool false), []) := by
  have h : ¬ ∃ p : Nat × Nat, Value.nilFunc = wV p.1 p.2 := fun ⟨p, hp⟩ => by cases hp
  unfold wR
  rw [dif_neg h, if_pos rfl]
theorem wR_at {v : Value} {b1 b2 : Nat} {ps : List MemPlace} (h : wR v = some (wP b1 b2, ps)) : v = wV b1 b2 := by
  by_cases h1 : ∃ p : Nat × Nat, v = wV p.1 p.2
  · obtain ⟨p, rfl⟩ := h1
    rw [wR_mk] at h
    simp [wP] at h
    obtain ⟨⟨h1, h2⟩, _⟩ := h
    rw [show p.1 = b1 by omega, show p.2 = b2 by omega]
  · unfold wR at h
    rw [dif_neg h1] at h
    split at h
    · simp [wP] at h
    · cases h
theorem wR_nil {v : Value} {ps : List MemPlace} (h : wR v = some (.lit (.bool false), ps)) : v = .nilFunc := by
  by_cases h1 : ∃ p : Nat × Nat, v = wV p.1 p.2
  · obtain ⟨p, rfl⟩ := h1
    rw [wR_mk] at h
    simp [wP] at h
  · unfold wR at h
    rw [dif_neg h1] at h
    split at h
    · assumption
    · cases h
theorem not_map {W : World} {M : Nat} {es : Array MapEntry} {clock : Nat} (hb : W.heap[M]? = some (.map es clock)) {b : Nat} {v : Value} (h : W.cell? ⟨b, 0, none⟩ = some v) : b ≠ M := by
  rintro rfl
  simp [World.cell?, hb] at h
/-- the first m words stand in the table -/
structure TW (W : World) (M : Nat) (D : DataW Unit) (m : Nat) : Prop where
  own : W.ownsMap Tryd.prog 9 wR M m D
  no : ∀ s : ByteArray, (∀ i < m, s ≠ nmW i) → Maps.has D (kL s) = false ∧ ∀ z, D.atKey (kL s) z = z
  yes : ∀ i < m, ∃ b1 b2, WBx W i b1 b2 ∧ Maps.has D (kL (nmW i)) = true ∧ ∀ z, D.atKey (kL (nmW i)) z = wP b1 b2
theorem TW.up {W u : World} {M : Nat} {D : DataW Unit} {m : Nat} (h : TW W M D m) (hb : Below W.heap.size W u) : TW u M D m where
  own := h.own.kept ⟨hb.os, hb.tape, hb.output, hb.size, fun k hk _ => hb.block k hk⟩ (row := none) (by simp)
  no := h.no
  yes := fun i hi => by
    obtain ⟨b1, b2, p1, p2, p3⟩ := h.yes i hi
    exact ⟨b1, b2, p1.up hb, p2, p3⟩
theorem TW.start (w : World) : TW (w.alloc (.map #[] 0)) w.heap.size (.map []) 0 := ⟨World.ownsMap_made w _ _ _, fun s _ => ⟨rfl, fun z => rfl⟩, fun i hi => by omega⟩
theorem WBx.grown {W W' : World} {M m n b1 b2 : Nat} {D : DataW Unit} (h : WBx W m b1 b2) (ho : W.ownsMap Tryd.prog 9 wR M n D) (hg : W.grownBy W' (some M)) : WBx W' m b1 b2 := by
  obtain ⟨es, clock, hb, _⟩ := ho
  obtain ⟨l1, c1, l2, b3, l3, c3, c2⟩ := h
  have k : ∀ {b : Nat} {v : Value}, b < W.heap.size → W.cell? ⟨b, 0, none⟩ = some v → W'.cell? ⟨b, 0, none⟩ = some v := fun {b v} hl hc => by
    have := hg.block b hl (fun e => not_map hb hc (Option.some.inj e))
    unfold World.cell? at hc ⊢
    rw [this]
    exact hc
  exact ⟨Nat.lt_of_lt_of_le l1 hg.size, k l1 c1, Nat.lt_of_lt_of_le l2 hg.size, b3, Nat.lt_of_lt_of_le l3 hg.size, k l3 c3, k l2 c2⟩
theorem TW.put {W W' : World} {M : Nat} {D : DataW Unit} {m b1 b2 : Nat} (h : TW W M D m) (hm : m < 10) (hw : WBx W m b1 b2) (ho : W'.ownsMap Tryd.prog 9 wR M (m + 1) (D.put (kL (nmW m)) (wP b1 b2))) (hg : W.grownBy W' (some M)) : TW W' M (D.put (kL (nmW m)) (wP b1 b2)) (m + 1) where
  own := ho
  no := fun s hs => by
    have hne : kL s ≠ kL (nmW m) := kL_ne (hs m (by omega))
    obtain ⟨p1, p2⟩ := h.no s fun i hi => hs i (by omega)
    exact ⟨by rw [has_put_other hne]; exact p1, fun z => by rw [atKey_put_other hne]; exact p2 z⟩
  yes := fun i hi => by
    by_cases e : i = m
    · subst e
      exact ⟨b1, b2, hw.grown h.own hg, has_put_same h.own.isMap (kL_is _) _, fun z => atKey_put_same h.own.isMap (kL_is _) _ z⟩
    · obtain ⟨c1, c2, p1, p2, p3⟩ := h.yes i (by omega)
      have hne : kL (nmW i) ≠ kL (nmW m) := kL_ne (nmW_ne (by omega) hm e)
      exact ⟨c1, c2, p1.grown h.own hg, by rw [has_put_other hne]; exact p2, fun z => by rw [atKey_put_other hne]; exact p3 z⟩
/-- a look at the table -/
theorem TW.look_yes {W : World} {M : Nat} {D : DataW Unit} (h : TW W M D 10) {s : ByteArray} {i : Nat} (hi : wIdx s = some i) (hs : s.size ≤ maxLen) :
    ∃ b1 b2, WBx W i b1 b2 ∧ ∀ u, Below W.heap.size W u → (Instr.lookup 60 (.map (some M)) (.string s) true).run Tryd.prog u = .ok (.tuple #[.func (.func 51) #[] #[.pointer (some ⟨b1, 0, none⟩), .pointer (some ⟨b2, 0, none⟩)], .bool true]) u := by
  obtain ⟨h1, rfl⟩ := wIdx_some hi
  obtain ⟨b1, b2, p1, p2, p3⟩ := h.yes i h1
  refine ⟨b1, b2, p1, fun u hu => ?_⟩
  obtain ⟨v, ps, hrun, hv⟩ := (h.up hu).own.look_ok kLaw Tryd.underlying60 (zeroEW u) (zd := .lit (.bool false)) (zp := []) wR_zero (kL_of hs)
  rw [p3] at hv
  rw [wR_at hv, p2] at hrun
  exact hrun
theorem TW.look_no {W : World} {M : Nat} {D : DataW Unit} (h : TW W M D 10) {s : ByteArray} (hi : wIdx s = none) (hs : s.size ≤ maxLen) :
    ∀ u, Below W.heap.size W u → (Instr.lookup 60 (.map (some M)) (.string s) true).run Tryd.prog u = .ok (.tuple #[.nilFunc, .bool false]) u := by
  intro u hu
  obtain ⟨p1, p2⟩ := h.no s (wIdx_none hi)
  obtain ⟨v, ps, hrun, hv⟩ := (h.up hu).own.look_ok kLaw Tryd.underlying60 (zeroEW u) (zd := .lit (.bool false)) (zp := []) wR_zero (kL_of hs)
  rw [p2] at hv
  rw [wR_nil hv, p1] at hrun
  exact hrun
/-- a word put into the table, at the operation -/
theorem wpList_insert_own (w : World) {ops : Array Oper} {rest : List Oper} {o : Oper} {a : Act} {Q : Exit → Act → World → Prop}
    (hg : o.guard = none) (m x v : Operand) (t : TypeId) (hop : o.op = Op.insert t m x v)
    (k e : TypeId) (K : Keyed Tryd.prog k) (ht : Tryd.prog.underlying t = some (.map k e)) (b n : Nat) (D : DataW Unit)
    (hm : a.eval m = .map (some b)) (hown : w.ownsMap Tryd.prog k wR b n D) (hn : n < maxLen) (key val : Value) (kl : Lit) (hx : a.eval x = key) (hv : a.eval v = val) (hkey : keyOf Tryd.prog k key = some kl)
    (d : DataW Unit) (ps : List MemPlace) (hval : wR val = some (d, ps))
    (hK : ∀ w', w'.ownsMap Tryd.prog k wR b (n + 1) (D.put kl d) → w.grownBy w' (some b) → wpList Tryd.prog ops Q rest (a.put o.dst undef) w') :
    wpList Tryd.prog ops Q (o :: rest) a w := by
  refine wpList_plain hg fun K' hK' => ?_
  obtain ⟨w', hrun, r1, r2⟩ := hown.update K ht hn hkey hval
  unfold Oper.wp
  simp [execOp, hop, hm, hx, hv, hrun, Result.andThen]
  exact hK' _ _ (hK w' r1 r2)

theorem wordOf_any (q : Int) (f b3 : Nat) (w : World) : Calls Tryd.prog 38 #[.int .i64 q, .func (.func f) #[] #[.pointer (some ⟨b3, 0, none⟩)]] w fun e w' => e = .returned (.func (.func 51) #[] #[.pointer (some ⟨w.heap.size, 0, none⟩), .pointer (some ⟨w.heap.size + 1, 0, none⟩)]) ∧ w' = (w.alloc (.cells #[.int .i64 q] 3)).alloc (.cells #[.func (.func f) #[] #[.pointer (some ⟨b3, 0, none⟩)]] 95) := by
  go_enter Tryd.func38, Tryd.ntmps38
  go_wp2
  go_ret
  exact ⟨rfl, rfl⟩
theorem wbx_new (i f : Nat) (q : Int) (hq : q = (cntW i : Int)) (hf : f = fkW i) (w : World) : WBx (((w.alloc (.cells #[.int .i64 (kkW i)] 3)).alloc (.cells #[.int .i64 q] 3)).alloc (.cells #[.func (.func f) #[] #[.pointer (some ⟨w.heap.size, 0, none⟩)]] 95)) i (w.heap.size + 1) (w.heap.size + 1 + 1) := by
  subst hq; subst hf
  exact ⟨by simp, by simp [go_sem], by simp, w.heap.size, by simp; omega, by simp [go_sem], by simp [go_sem]⟩
theorem askWord_any (i : Nat) (hi : i < 4) (x : Int) (hx : x = kkW i) (w : World) : Calls Tryd.prog 25 #[.int .i64 x] w fun e w' => ∃ b1 b2, e = .returned (.func (.func 51) #[] #[.pointer (some ⟨b1, 0, none⟩), .pointer (some ⟨b2, 0, none⟩)]) ∧ WBx w' i b1 b2 ∧ Below w.heap.size w w' := by
  have HN := hideIt (wbx_new i 39 3 (by unfold cntW; rw [if_pos hi]; rfl) (by unfold fkW; rw [if_pos hi]) w)
  rw [← hx] at HN
  clear hx
  go_enter Tryd.func25, Tryd.ntmps25
  go_wp2_with (go_at_call 38; refine (wordOf_any _ _ _ _).mono ?_; rintro e w1 ⟨rfl, rfl⟩; refine Hid.out ?_)
  refine hidw ?_
  go_wp2
  go_ret
  exact ⟨_, _, rfl, HN.out, (((Below.refl _ _).alloc (Nat.le_refl _) _).alloc (by simp) _).alloc (by simp; omega) _⟩
theorem packetWord_any (i : Nat) (hi : 4 ≤ i ∧ i < 7) (x : Int) (hx : x = kkW i) (w : World) : Calls Tryd.prog 26 #[.int .i64 x] w fun e w' => ∃ b1 b2, e = .returned (.func (.func 51) #[] #[.pointer (some ⟨b1, 0, none⟩), .pointer (some ⟨b2, 0, none⟩)]) ∧ WBx w' i b1 b2 ∧ Below w.heap.size w w' := by
  have HN := hideIt (wbx_new i 40 1 (by unfold cntW; rw [if_neg (by omega)]; rfl) (by unfold fkW; rw [if_neg (by omega), if_pos (by omega)]) w)
  rw [← hx] at HN
  clear hx
  go_enter Tryd.func26, Tryd.ntmps26
  go_wp2_with (go_at_call 38; refine (wordOf_any _ _ _ _).mono ?_; rintro e w1 ⟨rfl, rfl⟩; refine Hid.out ?_)
  refine hidw ?_
  go_wp2
  go_ret
  exact ⟨_, _, rfl, HN.out, (((Below.refl _ _).alloc (Nat.le_refl _) _).alloc (by simp) _).alloc (by simp; omega) _⟩
theorem nodeWord_any (i : Nat) (hi : 7 ≤ i) (x : Int) (hx : x = kkW i) (w : World) : Calls Tryd.prog 27 #[.int .i64 x] w fun e w' => ∃ b1 b2, e = .returned (.func (.func 51) #[] #[.pointer (some ⟨b1, 0, none⟩), .pointer (some ⟨b2, 0, none⟩)]) ∧ WBx w' i b1 b2 ∧ Below w.heap.size w w' := by
  have HN := hideIt (wbx_new i 41 1 (by unfold cntW; rw [if_neg (by omega)]; rfl) (by unfold fkW; rw [if_neg (by omega), if_neg (by omega)]) w)
  rw [← hx] at HN
  clear hx
  go_enter Tryd.func27, Tryd.ntmps27
  go_wp2_with (go_at_call 38; refine (wordOf_any _ _ _ _).mono ?_; rintro e w1 ⟨rfl, rfl⟩; refine Hid.out ?_)
  refine hidw ?_
  go_wp2
  go_ret
  exact ⟨_, _, rfl, HN.out, (((Below.refl _ _).alloc (Nat.le_refl _) _).alloc (by simp) _).alloc (by simp; omega) _⟩

set_option maxRecDepth 100000 in
set_option maxHeartbeats 8000000 in
theorem eventWords_any (w : World) : Calls Tryd.prog 15 #[] w fun e w' => ∃ D, e = .returned (.map (some w.heap.size)) ∧ TW w' w.heap.size D 10 ∧ Below w.heap.size w w' := by
  have hmk : ∀ u : World, (Instr.makeMap 60 none).run Tryd.prog u = .ok (.map (some u.heap.size)) (u.alloc (.map #[] 0)) := fun _ => rfl
  have HT0 : Hid (TW (w.alloc (.map #[] 0)) w.heap.size (.map []) 0) := TW.start w
  have HB0 : Hid (Below w.heap.size w (w.alloc (.map #[] 0))) := belA _ _
  have HBM : Hid (w.heap.size ≤ (w.alloc (.map #[] 0)).heap.size) := by show _ ≤ _; simp
  go_enter Tryd.func15, Tryd.ntmps15
  go_upto_region 1 with fail
  go_wp2_with (go_at_call 25; refine (askWord_any 0 (by omega) 1 (by rfl) _).mono ?_; rintro e V0 ⟨b1_0, b2_0, rfl, w_0, bb0⟩; refine Hid.out ?_)
  refine hidw ?_
  have U0 := HT0.out.up bb0
  have BV0 := hideIt (HB0.out.trans (bb0.mono (Nat.le_trans HBM.out (Nat.le_refl _))))
  have HV0 := hideIt (Nat.le_trans HBM.out bb0.size)
  have HW0 := hideIt w_0
  have HU0 := hideIt U0
  have ow0 := U0.own
  clear U0 bb0 w_0 HT0 HB0
  go_wp2_with (refine wpList_insert_own _ rfl _ _ _ 60 rfl 9 82 kLaw Tryd.underlying60 w.heap.size 0 _ rfl ow0 (by decide) (.string (nmW 0)) _ (kL (nmW 0)) rfl rfl (kL_of (by decide)) (wP b1_0 b2_0) [] (wR_mk _ _) ?_; intro W1 on0 hg0; refine Hid.out ?_)
  refine hidw ?_
  have HT1 := hideIt (HU0.out.put (by omega) HW0.out on0 hg0)
  have HB1 := hideIt (BV0.out.grown hg0 HV0.out (fun j hj => by have := Option.some.inj hj; omega))
  have HS1 := hideIt (Nat.le_trans HV0.out hg0.size)
  clear on0 hg0 ow0 HU0 HW0 BV0 HV0
  go_wp2_with (go_at_call 25; refine (askWord_any 1 (by omega) 2 (by rfl) _).mono ?_; rintro e V1 ⟨b1_1, b2_1, rfl, w_1, bb1⟩; refine Hid.out ?_)
  refine hidw ?_
  have U1 := HT1.out.up bb1
  have BV1 := hideIt (HB1.out.trans (bb1.mono (Nat.le_trans HS1.out (Nat.le_refl _))))
  have HV1 := hideIt (Nat.le_trans HS1.out bb1.size)
  have HW1 := hideIt w_1
  have HU1 := hideIt U1
  have ow1 := U1.own
  clear U1 bb1 w_1 HT1 HB1
  go_wp2_with (refine wpList_insert_own _ rfl _ _ _ 60 rfl 9 82 kLaw Tryd.underlying60 w.heap.size 1 _ rfl ow1 (by decide) (.string (nmW 1)) _ (kL (nmW 1)) rfl rfl (kL_of (by decide)) (wP b1_1 b2_1) [] (wR_mk _ _) ?_; intro W2 on1 hg1; refine Hid.out ?_)
  refine hidw ?_
  have HT2 := hideIt (HU1.out.put (by omega) HW1.out on1 hg1)
  have HB2 := hideIt (BV1.out.grown hg1 HV1.out (fun j hj => by have := Option.some.inj hj; omega))
  have HS2 := hideIt (Nat.le_trans HV1.out hg1.size)
  clear on1 hg1 ow1 HU1 HW1 BV1 HV1
  go_wp2_with (go_at_call 25; refine (askWord_any 2 (by omega) 3 (by rfl) _).mono ?_; rintro e V2 ⟨b1_2, b2_2, rfl, w_2, bb2⟩; refine Hid.out ?_)
  refine hidw ?_
  have U2 := HT2.out.up bb2
  have BV2 := hideIt (HB2.out.trans (bb2.mono (Nat.le_trans HS2.out (Nat.le_refl _))))
  have HV2 := hideIt (Nat.le_trans HS2.out bb2.size)
  have HW2 := hideIt w_2
  have HU2 := hideIt U2
  have ow2 := U2.own
  clear U2 bb2 w_2 HT2 HB2
  go_wp2_with (refine wpList_insert_own _ rfl _ _ _ 60 rfl 9 82 kLaw Tryd.underlying60 w.heap.size 2 _ rfl ow2 (by decide) (.string (nmW 2)) _ (kL (nmW 2)) rfl rfl (kL_of (by decide)) (wP b1_2 b2_2) [] (wR_mk _ _) ?_; intro W3 on2 hg2; refine Hid.out ?_)
  refine hidw ?_
  have HT3 := hideIt (HU2.out.put (by omega) HW2.out on2 hg2)
  have HB3 := hideIt (BV2.out.grown hg2 HV2.out (fun j hj => by have := Option.some.inj hj; omega))
  have HS3 := hideIt (Nat.le_trans HV2.out hg2.size)
  clear on2 hg2 ow2 HU2 HW2 BV2 HV2
  go_wp2_with (go_at_call 25; refine (askWord_any 3 (by omega) 4 (by rfl) _).mono ?_; rintro e V3 ⟨b1_3, b2_3, rfl, w_3, bb3⟩; refine Hid.out ?_)
  refine hidw ?_
  have U3 := HT3.out.up bb3
  have BV3 := hideIt (HB3.out.trans (bb3.mono (Nat.le_trans HS3.out (Nat.le_refl _))))
  have HV3 := hideIt (Nat.le_trans HS3.out bb3.size)
  have HW3 := hideIt w_3
  have HU3 := hideIt U3
  have ow3 := U3.own
  clear U3 bb3 w_3 HT3 HB3
  go_wp2_with (refine wpList_insert_own _ rfl _ _ _ 60 rfl 9 82 kLaw Tryd.underlying60 w.heap.size 3 _ rfl ow3 (by decide) (.string (nmW 3)) _ (kL (nmW 3)) rfl rfl (kL_of (by decide)) (wP b1_3 b2_3) [] (wR_mk _ _) ?_; intro W4 on3 hg3; refine Hid.out ?_)
  refine hidw ?_
  have HT4 := hideIt (HU3.out.put (by omega) HW3.out on3 hg3)
  have HB4 := hideIt (BV3.out.grown hg3 HV3.out (fun j hj => by have := Option.some.inj hj; omega))
  have HS4 := hideIt (Nat.le_trans HV3.out hg3.size)
  clear on3 hg3 ow3 HU3 HW3 BV3 HV3
  go_wp2_with (go_at_call 26; refine (packetWord_any 4 ⟨by omega, by omega⟩ 2 (by rfl) _).mono ?_; rintro e V4 ⟨b1_4, b2_4, rfl, w_4, bb4⟩; refine Hid.out ?_)
  refine hidw ?_
  have U4 := HT4.out.up bb4
  have BV4 := hideIt (HB4.out.trans (bb4.mono (Nat.le_trans HS4.out (Nat.le_refl _))))
  have HV4 := hideIt (Nat.le_trans HS4.out bb4.size)
  have HW4 := hideIt w_4
  have HU4 := hideIt U4
  have ow4 := U4.own
  clear U4 bb4 w_4 HT4 HB4
  go_wp2_with (refine wpList_insert_own _ rfl _ _ _ 60 rfl 9 82 kLaw Tryd.underlying60 w.heap.size 4 _ rfl ow4 (by decide) (.string (nmW 4)) _ (kL (nmW 4)) rfl rfl (kL_of (by decide)) (wP b1_4 b2_4) [] (wR_mk _ _) ?_; intro W5 on4 hg4; refine Hid.out ?_)
  refine hidw ?_
  have HT5 := hideIt (HU4.out.put (by omega) HW4.out on4 hg4)
  have HB5 := hideIt (BV4.out.grown hg4 HV4.out (fun j hj => by have := Option.some.inj hj; omega))
  have HS5 := hideIt (Nat.le_trans HV4.out hg4.size)
  clear on4 hg4 ow4 HU4 HW4 BV4 HV4
  go_wp2_with (go_at_call 26; refine (packetWord_any 5 ⟨by omega, by omega⟩ 3 (by rfl) _).mono ?_; rintro e V5 ⟨b1_5, b2_5, rfl, w_5, bb5⟩; refine Hid.out ?_)
  refine hidw ?_
  have U5 := HT5.out.up bb5
  have BV5 := hideIt (HB5.out.trans (bb5.mono (Nat.le_trans HS5.out (Nat.le_refl _))))
  have HV5 := hideIt (Nat.le_trans HS5.out bb5.size)
  have HW5 := hideIt w_5
  have HU5 := hideIt U5
  have ow5 := U5.own
  clear U5 bb5 w_5 HT5 HB5
  go_wp2_with (refine wpList_insert_own _ rfl _ _ _ 60 rfl 9 82 kLaw Tryd.underlying60 w.heap.size 5 _ rfl ow5 (by decide) (.string (nmW 5)) _ (kL (nmW 5)) rfl rfl (kL_of (by decide)) (wP b1_5 b2_5) [] (wR_mk _ _) ?_; intro W6 on5 hg5; refine Hid.out ?_)
  refine hidw ?_
  have HT6 := hideIt (HU5.out.put (by omega) HW5.out on5 hg5)
  have HB6 := hideIt (BV5.out.grown hg5 HV5.out (fun j hj => by have := Option.some.inj hj; omega))
  have HS6 := hideIt (Nat.le_trans HV5.out hg5.size)
  clear on5 hg5 ow5 HU5 HW5 BV5 HV5
  go_wp2_with (go_at_call 26; refine (packetWord_any 6 ⟨by omega, by omega⟩ 4 (by rfl) _).mono ?_; rintro e V6 ⟨b1_6, b2_6, rfl, w_6, bb6⟩; refine Hid.out ?_)
  refine hidw ?_
  have U6 := HT6.out.up bb6
  have BV6 := hideIt (HB6.out.trans (bb6.mono (Nat.le_trans HS6.out (Nat.le_refl _))))
  have HV6 := hideIt (Nat.le_trans HS6.out bb6.size)
  have HW6 := hideIt w_6
  have HU6 := hideIt U6
  have ow6 := U6.own
  clear U6 bb6 w_6 HT6 HB6
  go_wp2_with (refine wpList_insert_own _ rfl _ _ _ 60 rfl 9 82 kLaw Tryd.underlying60 w.heap.size 6 _ rfl ow6 (by decide) (.string (nmW 6)) _ (kL (nmW 6)) rfl rfl (kL_of (by decide)) (wP b1_6 b2_6) [] (wR_mk _ _) ?_; intro W7 on6 hg6; refine Hid.out ?_)
  refine hidw ?_
  have HT7 := hideIt (HU6.out.put (by omega) HW6.out on6 hg6)
  have HB7 := hideIt (BV6.out.grown hg6 HV6.out (fun j hj => by have := Option.some.inj hj; omega))
  have HS7 := hideIt (Nat.le_trans HV6.out hg6.size)
  clear on6 hg6 ow6 HU6 HW6 BV6 HV6
  go_wp2_with (go_at_call 27; refine (nodeWord_any 7 (by omega) 5 (by rfl) _).mono ?_; rintro e V7 ⟨b1_7, b2_7, rfl, w_7, bb7⟩; refine Hid.out ?_)
  refine hidw ?_
  have U7 := HT7.out.up bb7
  have BV7 := hideIt (HB7.out.trans (bb7.mono (Nat.le_trans HS7.out (Nat.le_refl _))))
  have HV7 := hideIt (Nat.le_trans HS7.out bb7.size)
  have HW7 := hideIt w_7
  have HU7 := hideIt U7
  have ow7 := U7.own
  clear U7 bb7 w_7 HT7 HB7
  go_wp2_with (refine wpList_insert_own _ rfl _ _ _ 60 rfl 9 82 kLaw Tryd.underlying60 w.heap.size 7 _ rfl ow7 (by decide) (.string (nmW 7)) _ (kL (nmW 7)) rfl rfl (kL_of (by decide)) (wP b1_7 b2_7) [] (wR_mk _ _) ?_; intro W8 on7 hg7; refine Hid.out ?_)
  refine hidw ?_
  have HT8 := hideIt (HU7.out.put (by omega) HW7.out on7 hg7)
  have HB8 := hideIt (BV7.out.grown hg7 HV7.out (fun j hj => by have := Option.some.inj hj; omega))
  have HS8 := hideIt (Nat.le_trans HV7.out hg7.size)
  clear on7 hg7 ow7 HU7 HW7 BV7 HV7
  go_wp2_with (go_at_call 27; refine (nodeWord_any 8 (by omega) 6 (by rfl) _).mono ?_; rintro e V8 ⟨b1_8, b2_8, rfl, w_8, bb8⟩; refine Hid.out ?_)
  refine hidw ?_
  have U8 := HT8.out.up bb8
  have BV8 := hideIt (HB8.out.trans (bb8.mono (Nat.le_trans HS8.out (Nat.le_refl _))))
  have HV8 := hideIt (Nat.le_trans HS8.out bb8.size)
  have HW8 := hideIt w_8
  have HU8 := hideIt U8
  have ow8 := U8.own
  clear U8 bb8 w_8 HT8 HB8
  go_wp2_with (refine wpList_insert_own _ rfl _ _ _ 60 rfl 9 82 kLaw Tryd.underlying60 w.heap.size 8 _ rfl ow8 (by decide) (.string (nmW 8)) _ (kL (nmW 8)) rfl rfl (kL_of (by decide)) (wP b1_8 b2_8) [] (wR_mk _ _) ?_; intro W9 on8 hg8; refine Hid.out ?_)
  refine hidw ?_
  have HT9 := hideIt (HU8.out.put (by omega) HW8.out on8 hg8)
  have HB9 := hideIt (BV8.out.grown hg8 HV8.out (fun j hj => by have := Option.some.inj hj; omega))
  have HS9 := hideIt (Nat.le_trans HV8.out hg8.size)
  clear on8 hg8 ow8 HU8 HW8 BV8 HV8
  go_wp2_with (go_at_call 27; refine (nodeWord_any 9 (by omega) 7 (by rfl) _).mono ?_; rintro e V9 ⟨b1_9, b2_9, rfl, w_9, bb9⟩; refine Hid.out ?_)
  refine hidw ?_
  have U9 := HT9.out.up bb9
  have BV9 := hideIt (HB9.out.trans (bb9.mono (Nat.le_trans HS9.out (Nat.le_refl _))))
  have HV9 := hideIt (Nat.le_trans HS9.out bb9.size)
  have HW9 := hideIt w_9
  have HU9 := hideIt U9
  have ow9 := U9.own
  clear U9 bb9 w_9 HT9 HB9
  go_wp2_with (refine wpList_insert_own _ rfl _ _ _ 60 rfl 9 82 kLaw Tryd.underlying60 w.heap.size 9 _ rfl ow9 (by decide) (.string (nmW 9)) _ (kL (nmW 9)) rfl rfl (kL_of (by decide)) (wP b1_9 b2_9) [] (wR_mk _ _) ?_; intro W10 on9 hg9; refine Hid.out ?_)
  refine hidw ?_
  have HT10 := hideIt (HU9.out.put (by omega) HW9.out on9 hg9)
  have HB10 := hideIt (BV9.out.grown hg9 HV9.out (fun j hj => by have := Option.some.inj hj; omega))
  have HS10 := hideIt (Nat.le_trans HV9.out hg9.size)
  clear on9 hg9 ow9 HU9 HW9 BV9 HV9
  go_wp2
  go_ret
  exact ⟨_, rfl, HT10.out, HB10.out⟩
end Go.Proofs.YtgdlpmmbeacejaaDoor
