/- What the specification's ReadRecs answers. -/
import Derived.Test.YtcieanhbipbhgaaGreatDoorKIRr17
import Derived.Test.YtcieanhbipbhgaaGreatDoorKRow10
import Derived.Test.YtcieanhbipbhgaaGreatDoorKSy14
namespace Go.Proofs.YtcieanhbipbhgaaGreatDoor
open Go.RowKit Vt

theorem sUnframe_at (s : ByteArray) (hs : s.size ≤ maxLen) (w : World) : Calls Tryz.prog 9 #[.string s] w (F.UnOut s w) := by
  by_cases h : s.size ≤ 20000
  · exact F.sUnframe_short s h w
  · exact F.sUnframe_long s (by omega) hs w
/-- the specification's reading of one record, at any text -/
theorem sReadRec_at (n : Int) (t : ByteArray) (ht : t.size ≤ 1048576) (w : World) : Calls Tryz.prog 10 #[.int .i64 n, .string t] w fun e w' => ReA w w' e (rcO n t) ∧ Below w.heap.size w w' :=
  (sReadRec_any n t ht w).mono fun e w' ⟨r, hr, h1, h2⟩ => by rw [IsR.uniq (rcO_is n t) hr]; exact ⟨h1, h2⟩
/-- the texts' row is only read -/
theorem tx_form {w : World} {B : Nat} {v : Value} {ts : List ByteArray} (h : w.ownsRow B 9 1 v ts.length (ts.map Value.string)) : ∃ a c, v = .slice a ts.length c := by
  rcases h.2 with ⟨hv, h0⟩ | ⟨g, cap, cur, hv, hg, hcur, _⟩
  · exact ⟨none, 0, by rw [hv, h0]⟩
  · exact ⟨_, cap, hv⟩
theorem tx_at {w : World} {B m c : Nat} {a : Option Addr} {ts : List ByteArray} (h : w.ownsRow B 9 1 (.slice a m c) m (ts.map Value.string)) {j : Nat} {t : ByteArray} (hj : ts[j]? = some t) : ∃ b, a = some ⟨b, 0, none⟩ ∧ b < w.heap.size ∧ w.cell? ⟨b, j, none⟩ = some (.string t) := by
  rcases h.2 with ⟨_, h0⟩ | ⟨g, cap, cur, hv, hg, hcur, _⟩
  · have h1 := h.1
    have := (List.getElem?_eq_some_iff.1 hj).1
    simp at h1
    omega
  · simp only [Value.slice.injEq] at hv
    obtain ⟨rfl, _⟩ := hv
    have := h.cells (g := g) rfl j (.string t) (by rw [List.getElem?_map, hj]; rfl)
    have hk : (⟨g, 0, none⟩ : Addr).add j = ⟨g, j, none⟩ := by
      by_cases h0 : j = 0
      · subst h0; rfl
      · simp [Addr.add, h0]
    rw [hk] at this
    exact ⟨g, rfl, (h.lt g rfl).2, this⟩
theorem wpList_append_run {P : Program} {w : World} {ops : Array Oper} {rest : List Oper} {o : Oper} {a : Go.Act} {Q : Exit → Go.Act → World → Prop}
    (hg : o.guard = none) (s x : Operand) (t : TypeId) (hop : o.op = Op.call { callee := Callee.builtin Builtin.append, args := #[s, x], argTypes := #[t, t] }) {v v2 v' : Value} {w' : World} (hs : a.eval s = v) (hx : a.eval x = v2) (hr : (Builtin.append_ #[t, t] o.type #[v, v2]).run P w = .ok v' w')
    (hK : wpList P ops Q rest (a.put o.dst v') w') : wpList P ops Q (o :: rest) a w := by
  refine wpList_plain hg fun K hK' => ?_
  unfold Oper.wp
  simp [execOp, hop, resolve, invoke, builtin, hs, hx, hr, Result.andThen]
  exact hK' _ _ hK
theorem rds_take (n : Int) (ts : List ByteArray) (j : Nat) (t : ByteArray) (rs : List RecV) (ht : ts[j]? = some t) (h : (ts.take j).map (rcO n) = rs.map some) (hx : rcO n t = none) : rds n ts = (rs, F.sumF (ts.take j)) := by
  obtain ⟨hj, rfl⟩ := List.getElem?_eq_some_iff.1 ht
  have h1 : ts = ts.take j ++ ts[j] :: ts.drop (j + 1) := by rw [← List.drop_eq_getElem_cons hj, List.take_append_drop]
  rw [h1, List.take_append_of_le_length (by rw [List.length_take]; omega), List.take_take, Nat.min_self]
  exact rds_stop n _ _ _ _ h hx
theorem unF_sizes (s : ByteArray) : ∀ (f : Nat) (pre : List ByteArray) (a : Nat), (∀ t ∈ pre, 1 ≤ t.size ∧ t.size ≤ 9000) → ∀ t ∈ (F.unF f s pre a).1, 1 ≤ t.size ∧ t.size ≤ 9000 := by
  intro f
  induction f with
  | zero => intro pre a h; exact h
  | succ f ih =>
    intro pre a h
    unfold F.unF
    cases hr : F.rf s a with
    | none => exact h
    | some x =>
      obtain ⟨r, b⟩ := x
      refine ih (pre ++ [r]) b (fun t ht => ?_)
      rcases List.mem_append.1 ht with ht | ht
      · exact h t ht
      · simp at ht
        subst ht
        unfold F.rf at hr
        split at hr
        · cases hr
        · rename_i n j _
          split at hr
          · rename_i hc
            simp only [Option.some.injEq, Prod.mk.injEq] at hr
            obtain ⟨rfl, _⟩ := hr
            rw [ByteArray.size_extract]
            omega
          · cases hr
theorem un_sizes (s : ByteArray) : ∀ t ∈ (F.un s).1, 1 ≤ t.size ∧ t.size ≤ 9000 := by
  unfold F.un
  split
  · exact unF_sizes s _ [] 0 (by simp)
  · simp
theorem sumF_take (s : ByteArray) (j : Nat) : F.sumF ((F.un s).1.take j) ≤ 20000 := by
  by_cases hs : s.size ≤ 20000
  · obtain ⟨p0, a0, h1, h2, _⟩ := F.un_at s hs
    have h3 := (h2.sum hs).1
    have h4 := h2.le
    have h5 : F.sumF p0 = F.sumF (p0.take j) + F.sumF (p0.drop j) := by rw [← F.sumF_app, List.take_append_drop]
    rw [h1]
    show F.sumF (p0.take j) ≤ _
    omega
  · rw [F.un_long s (by omega)]
    simp [F.sumF]
/-- where the specification's loop stands -/
structure SL (n : Int) (w : World) (ts : List ByteArray) (j : Nat) (a : Option Addr) (m c : Nat) (qs : List RQ) (E : Nat) (u : World) : Prop where
  rs : RS u w.heap.size a m c qs
  ok : (ts.take j).map (rcO n) = (qs.map RQ.r).map some
  e : E = F.sumF (ts.take j)
  low : Below w.heap.size w u
theorem SL.up {n : Int} {w : World} {ts : List ByteArray} {j : Nat} {a : Option Addr} {m c : Nat} {qs : List RQ} {E : Nat} {u v : World} (h : SL n w ts j a m c qs E u) (hb : Below u.heap.size u v) : SL n w ts j a m c qs E v :=
  ⟨h.rs.up hb, h.ok, h.e, h.low.trans (hb.mono h.low.size)⟩
theorem SL.len {n : Int} {w : World} {ts : List ByteArray} {j : Nat} {a : Option Addr} {m c : Nat} {qs : List RQ} {E : Nat} {u : World} (h : SL n w ts j a m c qs E u) (hj : j ≤ ts.length) : m = j := by
  have h1 := congrArg List.length h.ok
  have h2 := h.rs.len
  simp [Nat.min_eq_left hj] at h1
  omega
set_option maxRecDepth 100000 in
set_option maxHeartbeats 8000000 in
theorem sReadRecs_any (n : Int) (s : ByteArray) (hs : s.size ≤ maxLen) (w : World) : Calls Tryz.prog 4 #[.int .i64 n, .string s] w (RrsA n s w) := by
  obtain ⟨i0, hi, hz0, hz1, hz2⟩ := info_parts infoRec17
  have hW0 : Below w.heap.size w (w.alloc (.cells #[] 40)) := (Below.refl _ _).alloc (Nat.le_refl _) _
  have R0 := RS.made w w.heap.size (Nat.le_refl _)
  have HU := hideIt (sUnframe_at s hs (w.alloc (.cells #[] 40)))
  unfold RrsA
  have hfew := F.un_few s
  have hsm := un_sizes s
  generalize hts : (F.un s).1 = ts at *
  generalize hR : rds n ts = Rd at *
  have HR := hideIt hR
  have HSm := hideIt hsm
  have HTs := hideIt hts
  clear hR hsm hts
  go_enter Tryz.func4, Tryz.ntmps4
  go_wp2_with (go_at_call 9; refine HU.out.mono ?_; rintro e w1 ⟨v, rfl, ho1, hb1⟩; refine Hid.out ?_)
  refine (show ∀ {p : Prop}, p → Hid p from fun h => h) ?_
  rw [HTs.out] at ho1
  obtain ⟨at1, ct1, rfl⟩ := tx_form ho1
  have L1 : SL n w ts 0 (some ⟨w.heap.size, 0, none⟩) 0 0 [] 0 w1 := ⟨R0.up hb1, rfl, rfl, hW0.trans (hb1.mono (by simp))⟩
  obtain ⟨tn, htn⟩ : ∃ tn, tn = ts.length := ⟨_, rfl⟩
  rw [← htn] at ho1
  rw [← htn]
  have htn4 : tn ≤ 4000 := by rw [htn]; exact hfew.1
  have HTN := hideIt htn
  have hws : (w.alloc (.cells #[] 40)).heap.size = w.heap.size + 1 := by simp
  rw [hws] at ho1
  have HT1 := hideIt ho1
  have HL1 := hideIt L1
  clear HU ho1 hb1 hW0 R0 htn L1
  go_wp2
  go_loopw [6, 9, 10] (fun out en i wr => ∃ (j : Nat) (a : Option Addr) (c : Nat) (qs : List RQ) (E : Nat), j ≤ tn ∧ out = .slice a j c ∧ en = .int .i64 (E : Int) ∧ i = .int .i64 (j : Int) ∧ E ≤ 20000 ∧ Hid (SL n w ts j a j c qs E wr) ∧ Hid (wr.ownsRow (w.heap.size + 1) 9 1 (.slice at1 tn ct1) tn (ts.map Value.string))) (fun _ _ i _ => tn - (intOf i).toNat)
  case atStart => exact ⟨0, _, _, [], 0, by omega, rfl, rfl, rfl, by omega, HL1.out, HT1⟩
  case round =>
    obtain ⟨j, a, c, qs, E, hj, rfl, rfl, rfl, hE, hL, hb⟩ := hrel
    clear HL1
    by_cases hlt : j < tn
    · have hln := HTN.out
      obtain ⟨t, ht⟩ : ∃ t, ts[j]? = some t := ⟨ts[j]'(by omega), List.getElem?_eq_getElem (by omega)⟩
      have htk : ts.take (j + 1) = ts.take j ++ [t] := by
        obtain ⟨hj', rfl⟩ := List.getElem?_eq_some_iff.1 ht
        rw [List.take_succ_eq_append_getElem hj']
      have htz := HSm.out t (List.mem_of_getElem? ht)
      have b1 : (0 : Int) ≤ (j : Int) := by omega
      have b2 : (j : Int) < (tn : Int) := by omega
      obtain ⟨b, rfl, hbl, ct⟩ := tx_at hb.out ht
      have HRr := hideIt (sReadRec_at n t (by omega) wr)
      clear hln
      cases hr : rcO n t with
      | none =>
        rw [hr] at HRr
        have HE : Hid (Rd = (qs.map RQ.r, E)) := by
          show _ = _
          rw [← HR.out, rds_take n ts j t _ ht hL.out.ok hr, hL.out.e]
        clear hr ht htk
        go_wp2_with (go_at_call 10; refine HRr.out.mono ?_; rintro e w2 ⟨⟨a1, k1, c1, a2, k2, c2, a3, k3, c3, rfl, _⟩, hb2⟩)
        go_ret2
        have K : Below wr.heap.size wr (w2.alloc (.cells (recC (orR Option.none) a1 k1 c1 a2 k2 c2 a3 k3 c3) 40)) := hb2.alloc hb2.size _
        rw [HE.out]
        exact ⟨a, j, c, qs, rfl, (hL.out.up K).rs, rfl, (hL.out.up K).low⟩
      | some r =>
        rw [hr] at HRr
        have hE2 : F.sumF (ts.take (j + 1)) ≤ 20000 := by rw [← HTs.out]; exact sumF_take s (j + 1)
        have hEe : F.sumF (ts.take (j + 1)) = E + (F.frm t).size := by rw [htk, F.sumF_app, F.sumF_one, hL.out.e]
        rw [hEe] at hE2
        have HOK : Hid (∀ q : RQ, q.r = r → (ts.take (j + 1)).map (rcO n) = ((qs ++ [q]).map RQ.r).map some) := fun q hq => by
          rw [htk, List.map_append, hL.out.ok, List.map_append, List.map_append, List.map_cons, List.map_cons, List.map_cons, hr, hq]
          rfl
        have HEE := hideIt hEe
        have HHt := hideIt ht
        have HF : Hid (∀ u : World, Calls Tryz.prog 11 #[.string t] u fun e v => e = .returned (.tuple #[.string (F.frm t), .bool true]) ∧ Below u.heap.size u v) := fun u => F.sFrame_yes t htz.1 htz.2 u
        have hbw : b < wr.heap.size := hbl
        have htn4 : j < 4000 := by omega
        clear hr ht htk hEe
        go_wp2_with (go_at_call 10; refine HRr.out.mono ?_; rintro e w2 ⟨⟨a1, k1, c1, a2, k2, c2, a3, k3, c3, rfl, hrc⟩, hb2⟩; refine Hid.out ?_)
        refine (show ∀ {p : Prop}, p → Hid p from fun h => h) ?_
        have z2 := hb2.size
        have hl := hL.out.rs.lows
        have hq1 : RQ.ok ⟨r, a1, k1, c1, a2, k2, c2, a3, k3, c3, wr.heap.size, w2.heap.size⟩ w2 := ok_of hrc
        obtain ⟨q, hq⟩ : ∃ q : RQ, q = ⟨r, a1, k1, c1, a2, k2, c2, a3, k3, c3, wr.heap.size, w2.heap.size⟩ := ⟨_, rfl⟩
        rw [← hq] at hq1
        have e1 : q.lo = wr.heap.size := by rw [hq]
        have e3 : q.r = r := by rw [hq]
        have hcs : (recC (orR (some r)) a1 k1 c1 a2 k2 c2 a3 k3 c3).toList = rqC q := by rw [hq]; rfl
        obtain ⟨w3, hw3⟩ : ∃ w3, w3 = (w2.alloc (.cells (recC (orR (some r)) a1 k1 c1 a2 k2 c2 a3 k3 c3) 40)).alloc (.cells (recC (orR (some r)) a1 k1 c1 a2 k2 c2 a3 k3 c3) 40) := ⟨_, rfl⟩
        have K3 : Below w2.heap.size w2 w3 := by rw [hw3]; exact ((Below.refl _ _).alloc (Nat.le_refl _) _).alloc (by simp) _
        have z3 : w3.heap.size = w2.heap.size + 2 := by rw [hw3]; simp
        have R3 := (hL.out.rs.up hb2).up K3
        have Q3 : q.ok w3 := hq1.trn (trn_below K3) (fun _ e => e.elim)
        have hrow3 : w3.heap[w2.heap.size + 1]? = some (.cells (recC (orR (some r)) a1 k1 c1 a2 k2 c2 a3 k3 c3) 40 (0, 0)) := by
          have h := heap_alloc_new (w2.alloc (.cells (recC (orR (some r)) a1 k1 c1 a2 k2 c2 a3 k3 c3) 40)) (.cells (recC (orR (some r)) a1 k1 c1 a2 k2 c2 a3 k3 c3) 40)
          rw [show (w2.alloc (.cells (recC (orR (some r)) a1 k1 c1 a2 k2 c2 a3 k3 c3) 40)).heap.size = w2.heap.size + 1 by simp] at h
          rw [hw3]
          exact h
        have hnews : ∀ k u, (rqC q)[k]? = some u → w3.cell? ((⟨w2.heap.size + 1, 0, none⟩ : Addr).add k) = some u := fun k u hu => by
          have hj : (⟨w2.heap.size + 1, 0, none⟩ : Addr).add k = ⟨w2.heap.size + 1, k, none⟩ := by
            by_cases h0 : k = 0
            · subst h0; rfl
            · simp [Addr.add, h0]
          rw [hj, cell_of_row w3 (w2.heap.size + 1) k _ _ _ hrow3, ← Array.getElem?_toList, hcs]
          exact hu
        obtain ⟨g', cap', w4, happ, hown4, hgr4, hlies, hlt4⟩ := run_append_lies (P := Tryz.prog) w3 22 22 w.heap.size 40 i0 _ 14 160 Tryz.underlying22 hi hz0 hz1 hz2 rfl (by decide) (.slice a j c) j (qcells qs) R3.row ⟨w2.heap.size + 1, 0, none⟩ 1 1 (rqC q) rfl hnews (rq_one q) (by omega) (by unfold maxLen; omega) (by omega) (by have := hL.out.low.size; omega) _ rfl
        have R4 : RS w4 w.heap.size (some ⟨g', 0, none⟩) (j + 1) cap' (qs ++ [q]) := R3.snoc Q3 (by rw [e1]; exact hL.out.low.size) (fun p hp => by rw [e1]; exact hl.2 p hp) (fun g hg => by rw [e1]; exact hl.1 g hg) hgr4 hown4 (hlies.imp id (fun h => by omega))
        have K4 : Below w.heap.size w w4 := (hL.out.low.trans ((hb2.mono hL.out.low.size).trans (K3.mono (by have := hL.out.low.size; omega)))).grown hgr4 (by have := hL.out.low.size; omega) (fun k hk => (R3.row.lt k hk).1)
        have L4 : SL n w ts (j + 1) (some ⟨g', 0, none⟩) (j + 1) cap' (qs ++ [q]) (E + (F.frm t).size) w4 := ⟨R4, HOK.out q e3, HEE.out.symm, K4⟩
        have T4 : w4.ownsRow (w.heap.size + 1) 9 1 (.slice (some ⟨b, 0, none⟩) tn ct1) tn (ts.map Value.string) := by
          have T3 := own_up10 (own_up10 hb.out hb2) K3
          exact T3.kept hgr4 (.inr (fun e => rows_ne T3 R3.row (by decide) b rfl e.symm))
        have ct4 : w4.cell? ⟨b, j, none⟩ = some (.string t) := by
          obtain ⟨b', hb', _, hc⟩ := tx_at T4 HHt.out
          simp only [Option.some.injEq, Addr.mk.injEq] at hb'
          obtain ⟨rfl, _⟩ := hb'
          exact hc
        rw [hw3] at happ
        have HF4 := hideIt (HF.out w4)
        have HL4 := hideIt L4
        have HT4 := hideIt T4
        clear hw3 K3 z3 R3 Q3 hrow3 hnews hown4 hgr4 hlies R4 K4 L4 T4 hq1 hq e1 e3 hcs hrc hl HF HOK HEE HHt hL hb HRr hb2
        have w63 : IntKind.i64.wrap ((E : Int) + ((F.frm t).size : Int)) = (E : Int) + ((F.frm t).size : Int) := by rw [IntKind.wrap_i64]; omega
        go_wp2_with (first
          | (at_builtin; refine wpList_append_run rfl _ _ 22 rfl rfl rfl happ ?_)
          | (go_at_call 11; refine HF4.out.mono ?_; rintro e w5 ⟨rfl, hb5⟩))
        go_roundw
        case rel => exact ⟨j + 1, _, cap', qs ++ [q], E + (F.frm t).size, by omega, rfl, by go_num, by go_num, hE2, HL4.out.up hb5, own_up10 HT4.out hb5⟩
        case measure => simp [intOf]; omega
    · obtain rfl : j = tn := by omega
      have HE : Hid (Rd = (qs.map RQ.r, E)) := by
        show _ = _
        have h1 : ts.take j = ts := List.take_of_length_le (by have := HTN.out; omega)
        have h2 := hL.out.ok
        have h3 := hL.out.e
        rw [h1] at h2 h3
        rw [← HR.out, rds_done n ts _ h2, h3]
      go_wp2
      go_ret2
      rw [HE.out]
      exact ⟨a, j, c, qs, rfl, hL.out.rs, rfl, hL.out.low⟩
end Go.Proofs.YtcieanhbipbhgaaGreatDoor
