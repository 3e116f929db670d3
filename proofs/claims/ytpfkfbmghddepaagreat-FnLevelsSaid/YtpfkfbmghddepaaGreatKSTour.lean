/- The program's EdgeOk. The program's treesOk: whether edges close no ring. A tour from another of its vertices on is a tour; two that are joined are one; one that is split is two: pure. What a walk along all edges tells, where each edge is the only way between its ends: pure. Bridges, and edges that close no ring: pure. The specification's TourOk. -/
import Derived.Test.YtpfkfbmghddepaaGreatKLd9
import Derived.Test.YtpfkfbmghddepaaGreatKMem6
import Derived.LaidEqlPtr
namespace Go.Proofs.YtpfkfbmghddepaaGreat
open Go.RowKit

theorem vertsOk_any (x : Int) (w : World) : Calls Tryz.prog 95 #[.int .i64 x] w fun e w' => e = .returned (.bool (decide (1 ≤ x ∧ x ≤ 12))) ∧ w' = w := by
  by_cases h1 : 1 ≤ x
  · by_cases h2 : x ≤ 12
    · have d1 : decide (1 ≤ x) = true := by simpa using h1
      have d2 : decide (x ≤ 12) = true := by simpa using h2
      go_enter Tryz.func95, Tryz.ntmps95
      go_wp2
      go_ret
      exact ⟨by simp [h1, h2], rfl⟩
    · have d1 : decide (1 ≤ x) = true := by simpa using h1
      have d2 : decide (x ≤ 12) = false := by simpa using h2
      go_enter Tryz.func95, Tryz.ntmps95
      go_wp2
      go_ret
      exact ⟨by simp, rfl⟩
  · have d1 : decide (1 ≤ x) = false := by simpa using h1
    go_enter Tryz.func95, Tryz.ntmps95
    go_wp2
    go_ret
    exact ⟨by simp, rfl⟩

theorem iEdgeOk_any (n : Int) (e : EdgeV) (w : World) :
    Calls Tryz.prog 140 #[.int .i64 n, .agg #[.int .i64 e.1, .int .i64 e.2]] w fun x w' => x = .returned (.bool (eB n e)) ∧ Below w.heap.size w w' := by
  obtain ⟨a, b⟩ := e
  dsimp only
  have HI := hideIt vertsOk_any
  by_cases h1 : 1 ≤ n ∧ n ≤ 12
  · have r1 : decide (1 ≤ n ∧ n ≤ 12) = true := by simpa using h1
    by_cases h2 : 0 ≤ a
    · have r2 : decide (0 ≤ a) = true := by simpa using h2
      by_cases h3 : a < b
      · have r3 : decide (a < b) = true := by simpa using h3
        go_enter Tryz.func140, Tryz.ntmps140
        go_wp2_with (go_at_call 95; refine (HI.out _ _).mono ?_; rintro e w1 ⟨rfl, rfl⟩)
        go_ret
        exact ⟨bret (by dsimp only; omega), (Below.refl _ _).alloc (Nat.le_refl _) _⟩
      · have r3 : decide (a < b) = false := by simpa using h3
        go_enter Tryz.func140, Tryz.ntmps140
        go_wp2_with (go_at_call 95; refine (HI.out _ _).mono ?_; rintro e w1 ⟨rfl, rfl⟩)
        go_ret
        exact ⟨by simp [eB]; omega, (Below.refl _ _).alloc (Nat.le_refl _) _⟩
    · have r2 : decide (0 ≤ a) = false := by simpa using h2
      go_enter Tryz.func140, Tryz.ntmps140
      go_wp2_with (go_at_call 95; refine (HI.out _ _).mono ?_; rintro e w1 ⟨rfl, rfl⟩)
      go_ret
      exact ⟨by simp [eB]; omega, (Below.refl _ _).alloc (Nat.le_refl _) _⟩
  · have r1 : decide (1 ≤ n ∧ n ≤ 12) = false := by simpa using h1
    go_enter Tryz.func140, Tryz.ntmps140
    go_wp2_with (go_at_call 95; refine (HI.out _ _).mono ?_; rintro e w1 ⟨rfl, rfl⟩)
    go_ret
    exact ⟨by simp [eB]; omega, (Below.refl _ _).alloc (Nat.le_refl _) _⟩

end Go.Proofs.YtpfkfbmghddepaaGreat
namespace Go.Proofs.YtpfkfbmghddepaaGreat
open Go.RowKit

/-- no edge joins what hangs together by those ahead of it -/
def TreeP (es : List EdgeV) : Prop := ∀ (q : Nat) (f : EdgeV), es[q]? = some f → ¬ Conn (es.take q) f.1 f.2
theorem uf_conn {es : List EdgeV} {n : Nat} {P : Nat → Option Nat} {R : Nat → Nat} (h : Uf es n P R) {f : EdgeV} (hf : 0 ≤ f.1 ∧ f.1 < f.2 ∧ f.2 < (n : Int)) : R f.1.toNat = R f.2.toNat ↔ Conn es f.1 f.2 := by
  have e1 : ((f.1.toNat : Nat) : Int) = f.1 := by omega
  have e2 : ((f.2.toNat : Nat) : Int) = f.2 := by omega
  constructor
  · intro hr
    have c1 := h.conn f.1.toNat (by omega)
    have c2 := h.conn f.2.toNat (by omega)
    rw [hr] at c1
    rw [e1] at c1
    rw [e2] at c2
    exact c1.trans c2.symm
  · intro hc
    have := hc (fun x => R f.1.toNat = R x.toNat) (fun e he => by rw [h.same e he]) rfl
    exact this
set_option maxRecDepth 100000 in
set_option maxHeartbeats 8000000 in
theorem treesOk_any (nn : Nat) (es : List EdgeV) (n : Nat) (a : Option Addr) (c : Nat) (hn0 : 1 ≤ nn) (hn12 : nn ≤ 12) (hn : n ≤ 1000) (hok : ∀ e ∈ es, eB (nn : Int) e = true) (w : World) (h : Es w w.heap.size a n es) :
    Calls Tryz.prog 149 #[.int .i64 (nn : Int), .slice a n c] w fun x w' => ∃ b : Bool, x = .returned (.bool b) ∧ (b = true ↔ TreeP es) ∧ Below w.heap.size w w' := by
  obtain ⟨im, him, hm0, hm1, hm2⟩ := info_parts infoMem
  have HR := hideIt h
  have hlen := h.1
  have HOk := hideIt hok
  have HV := vertsOk_any (nn : Int) w
  rw [decide_eq_true (by omega)] at HV
  have HV1 := hideIt HV
  clear h hok HV
  have hmk : ∀ u : World, (Instr.makeSlice 220 (.int .i64 (nn : Int)) (.int .i64 (nn : Int))).run Tryz.prog u =
      .ok (.slice (some ⟨u.heap.size, 0, none⟩) nn nn) (u.alloc (.cells (madeCells #[.int .i64 0, .pointer none] (nn * 2)) 223)) := fun u => by
    have h := run_make (P := Tryz.prog) u 220 223 im _ Tryz.underlying220 him hm0 .i64 .i64 (nn : Int) (nn : Int) (by omega) (by omega) (by rw [hm2]; omega) (by omega)
    rw [Int.toNat_natCast] at h
    simpa [hm1, Value.cells] using h
  go_enter Tryz.func149, Tryz.ntmps149
  go_wp2_with (go_at_call 95; refine HV1.out.mono ?_; rintro e w1 ⟨rfl, hw⟩; have hw' := hw.symm; subst hw'; clear hw)
  go_loopw [16] (fun i wr => ∃ (k : Nat) (xs : List Value), k ≤ nn ∧ i = .int .i64 (k : Int) ∧ wr.ownsRow w.heap.size 223 2 (.slice (some ⟨w.heap.size, 0, none⟩) nn nn) nn xs ∧ Hid (∀ j, j < nn → xs[j * 2 + 1]? = some (.pointer none)) ∧ Hid (∀ j, j < k → xs[j * 2]? = some (.int .i64 (j : Int))) ∧ Below w.heap.size w wr) (fun i _ => nn - (intOf i).toNat)
  case atStart => exact ⟨0, _, by omega, rfl, World.ownsRow_lit (base := w.heap.size) (e := 223) (size := 2) w (madeCells #[.int .i64 0, .pointer none] (nn * 2)) nn (Nat.le_refl _) (by unfold maxLen; omega) (by simp [madeCells]), fun j hj => made2 nn j hj, fun j hj => by omega, (Below.refl _ _).alloc (Nat.le_refl _) _⟩
  case round =>
    obtain ⟨k, xs, hk, rfl, hown, hp, hv, hb⟩ := hrel
    have hl3 : xs.length = nn * 2 := hown.1
    by_cases hlt : k < nn
    · have b1 : (0 : Int) ≤ (k : Int) := by omega
      have b2 : (k : Int) < (nn : Int) := by omega
      have f0 := hown.frozenAt (k * 2)
      obtain ⟨y0, x0⟩ : ∃ y, wr.cell? ⟨w.heap.size, k * 2, none⟩ = some y := ⟨_, by rw [hown.cellAt (k * 2) (by omega)]; exact List.getElem?_eq_getElem (by omega)⟩
      have HO2 := hideIt (hown.stored (k * 2) (.int .i64 (k : Int))).1
      have HB2 := hideIt (hb.setCell (p := ⟨w.heap.size, k * 2, none⟩) (Nat.le_refl _) (.int .i64 (k : Int)))
      have HP2 : Hid (∀ j, j < nn → (xs.set (k * 2) (.int .i64 (k : Int)))[j * 2 + 1]? = some (.pointer none)) := fun j hj => by rw [List.getElem?_set_ne (by omega)]; exact hp.out j hj
      have HV2 : Hid (∀ j, j < k + 1 → (xs.set (k * 2) (.int .i64 (k : Int)))[j * 2]? = some (.int .i64 (j : Int))) := fun j hj => by
        by_cases hjk : j = k
        · subst hjk; rw [List.getElem?_set_self (by omega)]
        · rw [List.getElem?_set_ne (by omega)]; exact hv.out j (by omega)
      clear hown hp hv hb
      go_wp2
      exact ⟨⟨k + 1, _, by omega, by go_num, HO2.out, HP2, HV2, HB2.out⟩, by simp [intOf]; omega⟩
    · obtain rfl : k = nn := by omega
      have HM : Hid (MSt w.heap.size w.heap.size k (fun _ => none) wr) := ⟨⟨xs, hown⟩, fun i hi => ⟨by rw [hown.cellAt (i * 2) (by omega)]; exact hv.out i hi, by rw [hown.cellAt (i * 2 + 1) (by omega)]; exact hp.out i hi⟩⟩
      have HB0 := hideIt hb
      clear hown hp hv hl3 hb
      go_wp2
      go_loopw [27] (fun i wr => ∃ (q : Nat) (P : Nat → Option Nat) (R : Nat → Nat), q ≤ n ∧ i = .int .i64 (q : Int) ∧ Hid (Uf (es.take q) k P R) ∧ Hid (∀ j f, j < q → es[j]? = some f → ¬ Conn (es.take j) f.1 f.2) ∧ MSt w.heap.size w.heap.size k P wr ∧ Below w.heap.size w wr) (fun i _ => n - (intOf i).toNat)
      case atStart => exact ⟨0, _, _, by omega, rfl, by show Uf _ _ _ _; rw [List.take_zero]; exact Uf.start k, fun j f hj => by omega, HM.out, HB0.out⟩
      case round =>
        obtain ⟨q, P, R, hq, rfl, hU, hT, hM, hb⟩ := hrel
        have hg := hM.lt
        clear HM HB0
        by_cases hlt2 : q < n
        · rcases HR.out.2 with hz | ⟨b, off, rfl, hbl, hc⟩
          · omega
          · obtain ⟨f, hf⟩ : ∃ f, es[q]? = some f := ⟨es[q]'(by omega), List.getElem?_eq_getElem (by omega)⟩
            obtain ⟨c0, c1⟩ := hc q f hf
            have hfe := HOk.out f (List.mem_of_getElem? hf)
            have hfi : 0 ≤ f.1 ∧ f.1 < f.2 ∧ f.2 < (k : Int) := by unfold eB at hfe; have := of_decide_eq_true hfe; omega
            have b1 : (0 : Int) ≤ (q : Int) := by omega
            have b2 : (q : Int) < (n : Int) := by omega
            have b3 : (0 : Int) ≤ f.1 := hfi.1
            have b4 : f.1 < (k : Int) := by omega
            have b5 : (0 : Int) ≤ f.2 := by omega
            have b6 : f.2 < (k : Int) := hfi.2.2
            have e0 : wr.cell? ⟨b, off + q * 2, none⟩ = some (.int .i64 f.1) := by rw [hb.cell hbl]; exact c0
            have e1 : wr.cell? ⟨b, off + q * 2 + 1, none⟩ = some (.int .i64 f.2) := by rw [hb.cell hbl]; exact c1
            have hba : Below wr.heap.size wr (wr.alloc (.cells #[.int .i64 f.1, .int .i64 f.2] 28)) := (Below.refl _ _).alloc (Nat.le_refl _) _
            have hM1 := (hM.up hba).drew
            have hb1 : Below w.heap.size w (wr.alloc (.cells #[.int .i64 f.1, .int .i64 f.2] 28)).drew := (hb.trans (hba.mono hb.size)).drew
            have HS : Hid (∀ u, Below (wr.heap.size + 1) (wr.alloc (.cells #[.int .i64 f.1, .int .i64 f.2] 28)).drew u → u.cell? ⟨wr.heap.size, 0, none⟩ = some (.int .i64 f.1) ∧ u.cell? ⟨wr.heap.size, 1, none⟩ = some (.int .i64 f.2)) := fun u hu =>
              ⟨by rw [hu.cell (p := ⟨wr.heap.size, 0, none⟩) (by show wr.heap.size < _; omega)]; simp, by rw [hu.cell (p := ⟨wr.heap.size, 1, none⟩) (by show wr.heap.size < _; omega)]; simp⟩
            have HEo : Hid (Calls Tryz.prog 140 #[.int .i64 (k : Int), .agg #[.int .i64 f.1, .int .i64 f.2]] (wr.alloc (.cells #[.int .i64 f.1, .int .i64 f.2] 28)).drew fun e v => e = .returned (.bool true) ∧ Below (wr.heap.size + 1) (wr.alloc (.cells #[.int .i64 f.1, .int .i64 f.2] 28)).drew v ∧ MSt w.heap.size w.heap.size k P v ∧ Below w.heap.size w v) := by
              have hE := iEdgeOk_any (k : Int) f (wr.alloc (.cells #[.int .i64 f.1, .int .i64 f.2] 28)).drew
              rw [hfe] at hE
              refine hE.mono fun _ _ ⟨he, hv⟩ => ⟨he, by simpa using hv, hM1.up hv, hb1.trans (hv.mono hb1.size)⟩
            have HL1 : Hid (∀ u, MSt w.heap.size w.heap.size k P u → Calls Tryz.prog 194 #[.pointer (some ⟨w.heap.size, f.1.toNat * 2, none⟩)] u fun e w' => e = .returned (.pointer (some ⟨w.heap.size, R f.1.toNat * 2, none⟩)) ∧ w' = u) := fun u hu => mLeast_any hU.out u hu f.1.toNat (by omega)
            have HL2 : Hid (∀ u, MSt w.heap.size w.heap.size k P u → Calls Tryz.prog 194 #[.pointer (some ⟨w.heap.size, f.2.toNat * 2, none⟩)] u fun e w' => e = .returned (.pointer (some ⟨w.heap.size, R f.2.toNat * 2, none⟩)) ∧ w' = u) := fun u hu => mLeast_any hU.out u hu f.2.toNat (by omega)
            have HUC := hideIt (uf_conn hU.out hfi)
            have HF := hideIt hf
            have HFI := hideIt hfi
            have S0 : Below (wr.heap.size + 1) (wr.alloc (.cells #[.int .i64 f.1, .int .i64 f.2] 28)).drew (wr.alloc (.cells #[.int .i64 f.1, .int .i64 f.2] 28)).drew := Below.refl _ _
            obtain ⟨ra, hra⟩ : ∃ ra, R f.1.toNat = ra := ⟨_, rfl⟩
            obtain ⟨rb, hrb⟩ : ∃ rb, R f.2.toNat = rb := ⟨_, rfl⟩
            rw [hra] at HL1 HUC
            rw [hrb] at HL2 HUC
            clear hc hf c0 c1 hM hM1 hfi hfe hba hb1 hb
            by_cases hrr : ra = rb
            · subst hrr
              have HN : Hid (¬ TreeP es) := fun ht => ht q f HF.out (HUC.out.1 rfl)
              have q5 : ∀ u : World, (binOp .eql 221 (.pointer (some ⟨w.heap.size, ra * 2, none⟩)) (.pointer (some ⟨w.heap.size, ra * 2, none⟩))).run Tryz.prog u = .ok (.bool true) u := fun u => run_eql_ptr_same u _ Tryz.underlying221 him
              clear hra hrb HUC hU hT
              go_wp2
              go_region_held3 (fun u => Below (wr.heap.size + 1) (wr.alloc (.cells #[.int .i64 f.1, .int .i64 f.2] 28)).drew u ∧ (u.cell? ⟨wr.heap.size, 0, none⟩ = some (.int .i64 f.1) ∧ u.cell? ⟨wr.heap.size, 1, none⟩ = some (.int .i64 f.2)))
                (exact ⟨S0, HS.out _ S0⟩)
                (first
                  | (go_at_call 140; refine HEo.out.mono ?_; clear HEo S0; rintro e w5 ⟨rfl, S0, M5, B5⟩)
                  | (go_at_call 194; refine (HL1.out _ M5).mono ?_; clear HL1; rintro e w6 ⟨rfl, hw⟩; have hw' := hw.symm; subst hw'; clear hw)
                  | (go_at_call 194; refine (HL2.out _ M5).mono ?_; clear HL2; rintro e w6 ⟨rfl, hw⟩; have hw' := hw.symm; subst hw'; clear hw))
              have HB5 := hideIt B5
              clear S0 M5 q5 B5
              go_wp2
              go_ret
              exact ⟨false, rfl, ⟨fun h => by simp at h, fun h => absurd h HN.out⟩, HB5.out⟩
            · have HT2 : Hid (∀ j f, j < q + 1 → es[j]? = some f → ¬ Conn (es.take j) f.1 f.2) := fun j f2 hj hf2 => by
                by_cases hjq : j = q
                · subst hjq
                  rw [HF.out] at hf2
                  simp at hf2
                  subst hf2
                  exact fun hc => hrr (HUC.out.2 hc)
                · exact hT.out j f2 (by omega) hf2
              have HQ : Hid (∀ u, MSt w.heap.size w.heap.size k P u → (binOp .eql 221 (.pointer (some ⟨w.heap.size, ra * 2, none⟩)) (.pointer (some ⟨w.heap.size, rb * 2, none⟩))).run Tryz.prog u = .ok (.bool false) u) := fun u hu => by
                obtain ⟨ys, ho⟩ := hu.own
                rcases ho.2 with ⟨hv, _⟩ | ⟨g, cap, cur, hv, _, hgb, _⟩
                · simp at hv
                · simp at hv
                  obtain ⟨rfl, rfl⟩ := hv
                  exact run_eql_ptr_other u Tryz.underlying221 him (by rw [hm1]; decide) (fun e => hrr (by have := congrArg Addr.off e; dsimp only at this; omega)) hgb hgb
              have HJo : Hid (∀ u, MSt w.heap.size w.heap.size k P u → Calls Tryz.prog 195 #[.pointer (some ⟨w.heap.size, f.1.toNat * 2, none⟩), .pointer (some ⟨w.heap.size, f.2.toNat * 2, none⟩)] u fun x w' => x = .returned (.tuple #[]) ∧ ∃ P' R', Uf (es.take (q + 1)) k P' R' ∧ MSt w.heap.size w.heap.size k P' w' ∧ u.grownBy w' (some w.heap.size)) := fun u hu => by
                have := mJoin_any hU.out f HFI.out u hu
                rw [← take_snocF es q f HF.out] at this
                exact this
              clear hra hrb HUC hU hT
              go_wp2
              go_region_with (first
                  | (go_at_call 140; refine HEo.out.mono ?_; clear HEo S0; rintro e w5 ⟨rfl, S0, M5, B5⟩; have q5 := HQ.out w5 M5; obtain ⟨k5, k6⟩ := HS.out _ S0)
                  | (go_at_call 194; refine (HL1.out _ M5).mono ?_; clear HL1; rintro e w6 ⟨rfl, hw⟩; have hw' := hw.symm; subst hw'; clear hw)
                  | (go_at_call 194; refine (HL2.out _ M5).mono ?_; clear HL2; rintro e w6 ⟨rfl, hw⟩; have hw' := hw.symm; subst hw'; clear hw))
              all_goals
                have HM5 := hideIt M5.drew
                have HB5 := hideIt B5.drew
                have hk5 : w5.drew.cell? ⟨wr.heap.size, 0, none⟩ = some (.int .i64 f.1) ∧ w5.drew.cell? ⟨wr.heap.size, 1, none⟩ = some (.int .i64 f.2) := ⟨k5, k6⟩
                have hwr5 : wr.heap.size < w5.heap.size := by have := S0.size; simp at this; omega
                have HK6 : Hid (∀ v, w5.drew.grownBy v (some w.heap.size) → v.cell? ⟨wr.heap.size, 0, none⟩ = some (.int .i64 f.1) ∧ v.cell? ⟨wr.heap.size, 1, none⟩ = some (.int .i64 f.2)) := fun v hv =>
                  ⟨by rw [World.cell?_of_block (w := w5.drew) (hv.block wr.heap.size hwr5 (by simp; omega))]; exact hk5.1, by rw [World.cell?_of_block (w := w5.drew) (hv.block wr.heap.size hwr5 (by simp; omega))]; exact hk5.2⟩
                have HX := hideIt (HJo.out _ HM5.out)
                clear S0 M5 q5 B5 HS HQ HJo
                go_wp2
                go_region_held3 (fun v => v.cell? ⟨wr.heap.size, 0, none⟩ = some (.int .i64 f.1) ∧ v.cell? ⟨wr.heap.size, 1, none⟩ = some (.int .i64 f.2))
                  (first | exact HK6.out _ hg7 | exact hk5)
                  ((go_at_call 195; refine HX.out.mono ?_; rintro e w7 ⟨rfl, P', R', hU7, hM7, hg7⟩))
                all_goals
                  have HU7 := hideIt hU7
                  have hb7 : Below w.heap.size w w7 := HB5.out.grown hg7 (by have := HB5.out.size; exact this) (fun j e => by cases e; exact Nat.le_refl _)
                  clear hU7 hg7 HX HK6
                  go_wp2
                  exact ⟨⟨q + 1, P', R', by omega, by go_num, HU7, HT2, hM7, hb7⟩, by simp [intOf]; omega⟩
        · obtain rfl : q = n := by omega
          have HY : Hid (TreeP es) := fun j f hf => hT.out j f (by have := (List.getElem?_eq_some_iff.1 hf).1; omega) hf
          have HB := hideIt hb
          clear hU hT hM hb
          go_wp2
          go_ret
          exact ⟨true, rfl, ⟨fun _ => HY.out, fun _ => rfl⟩, HB.out⟩
end Go.Proofs.YtpfkfbmghddepaaGreat
namespace Go.Proofs.YtpfkfbmghddepaaGreat

/-- what is seen matters as a set alone: fewer, more or others beside -/
theorem trun_less {r w s w1 s1 s' : List Int} (h : trun w s r = some (w1, s1)) (hs : ∀ x ∈ s', x ∈ s) : ∃ s1', trun w s' r = some (w1, s1') := by
  induction r generalizing w s s' with
  | nil => simp [trun] at h; exact ⟨s', by simp [trun, h.1]⟩
  | cons v r ih =>
    rcases trun_cons h with ⟨hu, h1⟩ | ⟨hu, hv, h1⟩
    · obtain ⟨s1', h2⟩ := ih h1 hs
      exact ⟨s1', by rw [trun_up hu]; exact h2⟩
    · obtain ⟨s1', h2⟩ := ih h1 (s' := v :: s') (fun x hx => by
        rcases List.mem_cons.1 hx with rfl | hx
        · simp
        · exact List.mem_cons_of_mem _ (hs x hx))
      exact ⟨s1', by rw [trun_down hu (fun h3 => hv (hs v h3))]; exact h2⟩
/-- the same run further up, over another way, with more that was seen: nothing of that stands in the list -/
theorem trun_over {r w s w1 s1 E s' : List Int} (h : trun w s r = some (w1, s1)) (hw : w ≠ []) (hs : ∀ x ∈ s', x ∈ s ∨ x ∉ r) (hE : ∀ x ∈ E, x ∈ s ∨ x ∉ r) : ∃ s1', trun (w ++ E) s' r = some (w1 ++ E, s1') := by
  induction r generalizing w s s' with
  | nil => simp [trun] at h; exact ⟨s', by simp [trun, h.1]⟩
  | cons v r ih =>
    rcases trun_cons h with ⟨hu, h1⟩ | ⟨hu, hv, h1⟩
    · obtain ⟨c, q, rfl⟩ := isUp_some hu
      obtain ⟨s1', h2⟩ := ih h1 (by simp) (fun x hx => (hs x hx).imp id (fun h3 h4 => h3 (List.mem_cons_of_mem _ h4))) (fun x hx => (hE x hx).imp id (fun h3 h4 => h3 (List.mem_cons_of_mem _ h4)))
      exact ⟨s1', by rw [trun_up (by simp [isUp])]; exact h2⟩
    · obtain ⟨s1', h2⟩ := ih h1 (by simp) (s' := v :: s') (fun x hx => by
          rcases List.mem_cons.1 hx with rfl | hx
          · exact .inl (by simp)
          · exact (hs x hx).imp (fun h3 => List.mem_cons_of_mem _ h3) (fun h3 h4 => h3 (List.mem_cons_of_mem _ h4))) (fun x hx => (hE x hx).imp (fun h3 => List.mem_cons_of_mem _ h3) (fun h3 h4 => h3 (List.mem_cons_of_mem _ h4)))
      have hvs : v ∉ s' := fun h3 => (hs v h3).elim hv (fun h4 => h4 (by simp))
      have hvE : v ∉ E := fun h3 => (hE v h3).elim hv (fun h4 => h4 (by simp))
      refine ⟨s1', ?_⟩
      rw [trun_down ?_ hvs]
      · exact h2
      · match w, hw with
        | [c], _ =>
          cases E with
          | nil => rfl
          | cons e E => simp [isUp]; rintro rfl; exact hvE (by simp)
        | c :: p :: q, _ => simpa [isUp] using hu
/-- what was seen and is not on the way does not stand in the list -/
theorem trun_avoid {r w s w1 s1 : List Int} (h : trun w s r = some (w1, s1)) {X : Int → Prop} (hX : ∀ x, X x → x ∈ s) (hw : ∀ x ∈ w, ¬ X x) : ∀ x ∈ r, ¬ X x := by
  induction r generalizing w s with
  | nil => simp
  | cons v r ih =>
    intro x hx
    rcases trun_cons h with ⟨hu, h1⟩ | ⟨hu, hv, h1⟩
    · rcases List.mem_cons.1 hx with rfl | hx
      · exact hw _ (isUp_mem hu)
      · exact ih h1 hX (fun y hy => hw y (List.mem_of_mem_tail hy)) x hx
    · rcases List.mem_cons.1 hx with rfl | hx
      · exact fun h2 => hv (hX _ h2)
      · exact ih h1 (fun y hy => List.mem_cons_of_mem _ (hX y hy)) (fun y hy => by
          rcases List.mem_cons.1 hy with rfl | hy
          · exact fun h2 => hv (hX _ h2)
          · exact hw y hy) x hx
theorem trun_way {r w s w1 s1 : List Int} (h : trun w s r = some (w1, s1)) (hn : w.Nodup) (hs : ∀ x ∈ w, x ∈ s) : w1.Nodup := by
  induction r generalizing w s with
  | nil => simp [trun] at h; rw [← h.1]; exact hn
  | cons v r ih =>
    rcases trun_cons h with ⟨hu, h1⟩ | ⟨hu, hv, h1⟩
    · exact ih h1 (hn.sublist (List.tail_sublist _)) (fun x hx => hs x (List.mem_of_mem_tail hx))
    · exact ih h1 (List.nodup_cons.2 ⟨fun h2 => hv (hs v h2), hn⟩) (fun x hx => by
        rcases List.mem_cons.1 hx with rfl | hx
        · simp
        · exact List.mem_cons_of_mem _ (hs x hx))

/-- the root c, left behind: a run over [d, c] that ends at c goes, from d on, to c below d -/
theorem trun_turn {r w s s1 : List Int} {c d : Int} {s' : List Int} (h : trun (w ++ [c]) s r = some ([c], s1)) (hw : w.getLast? = some d) (hs : ∀ x, x ∈ s ↔ x = c ∨ x ∈ s') (hc : c ∉ s') (hd : d ∈ s') : ∃ s1', trun w s' r = some ([c, d], s1') := by
  induction r generalizing w s s' with
  | nil =>
    simp [trun] at h
    rw [h.1] at hw
    simp at hw
  | cons v r ih =>
    match w, hw with
    | [e], hw =>
      simp at hw
      subst hw
      rcases trun_cons h with ⟨hu, h1⟩ | ⟨hu, hv, h1⟩
      · simp [isUp] at hu
        subst hu
        have h1' : trun [c] s r = some ([c], s1) := h1
        have hm : ∀ x ∈ c :: s', x ∈ s ∨ x ∉ r := fun x hx => .inl ((hs x).2 (by simpa using hx))
        obtain ⟨s1', h2⟩ := trun_over (E := [e]) h1' (by simp) hm (fun x hx => by simp at hx; subst hx; exact .inl ((hs x).2 (.inr hd)))
        exact ⟨s1', by rw [trun_down (by rfl) hc]; exact h2⟩
      · have hvc : v ≠ c := fun e => hv ((hs v).2 (.inl e))
        have hvs : v ∉ s' := fun e => hv ((hs v).2 (.inr e))
        obtain ⟨s1', h2⟩ := ih (w := [v, e]) (s' := v :: s') h1 (by simp) (fun x => by
          simp only [List.mem_cons, hs]
          constructor
          · rintro (h | h | h) <;> simp [h]
          · rintro (h | h | h) <;> simp [h]) (by simp [hc]; exact fun e => hvc e.symm) (by simp [hd])
        exact ⟨s1', by rw [trun_down (by rfl) hvs]; exact h2⟩
    | x :: y :: w, hw =>
      rcases trun_cons h with ⟨hu, h1⟩ | ⟨hu, hv, h1⟩
      · have hu' : isUp (x :: y :: w) v = true := by simpa [isUp] using hu
        obtain ⟨s1', h2⟩ := ih (w := y :: w) h1 (by simpa [List.getLast?_cons_cons] using hw) hs hc hd
        exact ⟨s1', by rw [trun_up hu']; exact h2⟩
      · have hu' : isUp (x :: y :: w) v = false := by simpa [isUp] using hu
        have hvc : v ≠ c := fun e => hv ((hs v).2 (.inl e))
        have hvs : v ∉ s' := fun e => hv ((hs v).2 (.inr e))
        obtain ⟨s1', h2⟩ := ih (w := v :: x :: y :: w) (s' := v :: s') h1 (by simpa [List.getLast?_cons_cons] using hw) (fun z => by
          simp only [List.mem_cons, hs]
          constructor
          · rintro (h | h | h) <;> simp [h]
          · rintro (h | h | h) <;> simp [h]) (by simp [hc]; exact fun e => hvc e.symm) (by simp [hd])
        exact ⟨s1', by rw [trun_down hu' hvs]; exact h2⟩
/-- a tour from its second vertex on -/
theorem tour_turn {c d : Int} {m : List Int} (h : tB (c :: d :: (m ++ [c])) = true) : tB (d :: (m ++ [c] ++ [d])) = true := by
  obtain ⟨x, r, s, e, hr, hv, _⟩ := tB_open h
  simp at e
  obtain ⟨rfl, rfl⟩ := e
  rcases trun_cons hr with ⟨hu, _⟩ | ⟨hu, hd, h1⟩
  · simp [isUp] at hu
  · have hdc : d ≠ c := by simpa using hd
    obtain ⟨s1', h2⟩ := trun_turn (w := [d]) (d := d) (s' := [d]) h1 (by simp) (fun x => by simp; exact or_comm) (by simp; exact fun e => hdc e.symm) (by simp)
    refine tB_of (s := s1') (fun v hv' => hv v ?_) ?_
    · simp at hv' ⊢
      rcases hv' with h | h | h | h <;> simp [h]
    · rw [trun_append, h2]
      simp [trun, tstep, isUp]
/-- a tour is a ring of vertices, cut at one of them -/
theorem tour_ring {t : List Int} (h : tB t = true) : (∃ x, t = [x]) ∨ ∃ c d m, t = c :: d :: (m ++ [c]) := by
  obtain ⟨x, r, s, rfl, hr, _, hq⟩ := tB_open h
  rcases hq with rfl | ⟨q, rfl⟩
  · exact .inl ⟨x, rfl⟩
  · cases q with
    | nil =>
      simp [trun, tstep, isUp] at hr
    | cons d m => exact .inr ⟨x, d, m, by simp⟩
/-- the ring, cut at its place k -/
def cutAt (q : List Int) (k : Nat) : List Int := q.drop k ++ (q.take k ++ (q[k]?).toList)
theorem tour_cut {q : List Int} (h : tB (cutAt q 0) = true) (k : Nat) (hk : k < q.length) : tB (cutAt q k) = true := by
  induction k with
  | zero => exact h
  | succ k ih =>
    have h1 := ih (by omega)
    have e1 : q.drop k = q[k]'(by omega) :: q[k + 1] :: q.drop (k + 2) := by
      rw [List.drop_eq_getElem_cons (by omega), List.drop_eq_getElem_cons hk]
    have e2 : cutAt q k = q[k]'(by omega) :: q[k + 1] :: ((q.drop (k + 2) ++ q.take k) ++ [q[k]'(by omega)]) := by
      unfold cutAt
      rw [e1, List.getElem?_eq_getElem (by omega)]
      simp only [Option.toList_some, List.cons_append, List.append_assoc]
    rw [e2] at h1
    have h2 := tour_turn h1
    have e3 : cutAt q (k + 1) = q[k + 1] :: (q.drop (k + 2) ++ q.take k ++ [q[k]'(by omega)] ++ [q[k + 1]]) := by
      unfold cutAt
      rw [List.drop_eq_getElem_cons hk, List.getElem?_eq_getElem hk, List.take_succ_eq_append_getElem (by omega)]
      simp only [Option.toList_some, List.cons_append, List.append_assoc]
    rw [e3]
    exact h2
end Go.Proofs.YtpfkfbmghddepaaGreat
namespace Go.Proofs.YtpfkfbmghddepaaGreat

/-- the edge of two vertices -/
def mkE (v u : Int) : EdgeV := if v < u then (v, u) else (u, v)
theorem mkE_comm {v u : Int} (h : v ≠ u) : mkE v u = mkE u v := by
  unfold mkE
  by_cases h1 : v < u
  · rw [if_pos h1, if_neg (by omega)]
  · rw [if_neg h1, if_pos (by omega)]
theorem mkE_inj {v u w : Int} (h : mkE v u = mkE v w) : u = w := by
  unfold mkE at h
  split at h <;> split at h <;> simp at h <;> omega
theorem mkE_ends (v u : Int) : (mkE v u = (v, u)) ∨ (mkE v u = (u, v)) := by
  unfold mkE
  split <;> simp

/-- the vertices from n - rem on -/
def wkGo (rec : Int → Int → List Int → Option (List Int × List Int)) (es : List EdgeV) (n : Nat) (v fr : Int) : Nat → List Int → List Int → Option (List Int × List Int)
  | 0, out, seen => some (out, seen)
  | rem + 1, out, seen =>
    if ((n - (rem + 1) : Nat) : Int) = fr ∨ mkE v ((n - (rem + 1) : Nat) : Int) ∉ es then wkGo rec es n v fr rem out seen
    else if ((n - (rem + 1) : Nat) : Int) ∈ seen then none
    else match rec ((n - (rem + 1) : Nat) : Int) v seen with
      | none => none
      | some x => wkGo rec es n v fr rem (out ++ x.1 ++ [v]) x.2
/-- the walk from v, to which it came from fr -/
def wk (es : List EdgeV) (n : Nat) : Nat → Int → Int → List Int → Option (List Int × List Int)
  | 0, _, _, _ => none
  | f + 1, v, fr, seen => wkGo (wk es n f) es n v fr n [v] (v :: seen)
theorem wkGo_skip {rec : Int → Int → List Int → Option (List Int × List Int)} {es : List EdgeV} {n : Nat} {v fr : Int} {rem k : Nat} {out seen : List Int} (hk : n - (rem + 1) = k) (h : (k : Int) = fr ∨ mkE v (k : Int) ∉ es) :
    wkGo rec es n v fr (rem + 1) out seen = wkGo rec es n v fr rem out seen := by
  rw [wkGo, hk, if_pos h]
theorem wkGo_go {rec : Int → Int → List Int → Option (List Int × List Int)} {es : List EdgeV} {n : Nat} {v fr : Int} {rem k : Nat} {out seen : List Int} {x : List Int × List Int} (hk : n - (rem + 1) = k) (h1 : (k : Int) ≠ fr) (h2 : mkE v (k : Int) ∈ es)
    (h : wkGo rec es n v fr (rem + 1) out seen = some x) : (k : Int) ∉ seen ∧ ∃ p, rec (k : Int) v seen = some p ∧ wkGo rec es n v fr rem (out ++ p.1 ++ [v]) p.2 = some x := by
  rw [wkGo, hk, if_neg (by rintro (h3 | h3); exact h1 h3; exact h3 h2)] at h
  by_cases hs : (k : Int) ∈ seen
  · rw [if_pos hs] at h; simp at h
  · rw [if_neg hs] at h
    refine ⟨hs, ?_⟩
    cases hr : rec (k : Int) v seen with
    | none => rw [hr] at h; simp at h
    | some p => rw [hr] at h; exact ⟨p, rfl, h⟩

/-- each edge is the only way between its ends -/
def Bridge (es : List EdgeV) : Prop := ∀ e ∈ es, ∃ S : Int → Prop, S e.2 ∧ ¬ S e.1 ∧ ∀ d ∈ es, d ≠ e → (S d.1 ↔ S d.2)
theorem Bridge.side {es : List EdgeV} (h : Bridge es) {v u : Int} (he : mkE v u ∈ es) : ∃ S : Int → Prop, S u ∧ ¬ S v ∧ ∀ d ∈ es, d ≠ mkE v u → (S d.1 ↔ S d.2) := by
  obtain ⟨S, h1, h2, h3⟩ := h _ he
  rcases mkE_ends v u with e | e
  · rw [e] at h1 h2
    exact ⟨S, h1, h2, h3⟩
  · rw [e] at h1 h2
    exact ⟨fun x => ¬ S x, h2, fun h4 => h4 h1, fun d hd hne => not_congr (h3 d hd hne)⟩

structure WkIs (es : List EdgeV) (n : Nat) (v fr : Int) (seen t seen' : List Int) : Prop where
  head : t.head? = some v
  nodup : seen'.Nodup
  rng : ∀ x ∈ seen', 0 ≤ x ∧ x < (n : Int)
  mem : ∀ x, x ∈ seen' ↔ x ∈ seen ∨ x ∈ t
  new : ∀ x ∈ t, x ∉ seen
  run : ∀ W S : List Int, (∀ x ∈ W, x ∈ S) → (∀ x ∈ t, x ∉ S) → ∃ S', trun W S t = some (v :: W, S')
  least : ∀ C : Int → Prop, C v → (∀ e ∈ es, e ≠ mkE v fr → (C e.1 ↔ C e.2)) → ∀ x ∈ t, C x
  len : seen.length < seen'.length
/-- the vertices below k have been gone to -/
structure GoIs (es : List EdgeV) (n : Nat) (v fr : Int) (k : Nat) (seen0 out seen : List Int) : Prop where
  head : out.head? = some v
  nodup : seen.Nodup
  rng : ∀ x ∈ seen, 0 ≤ x ∧ x < (n : Int)
  mem : ∀ x, x ∈ seen ↔ x ∈ seen0 ∨ x ∈ out
  new : ∀ x ∈ out, x ∉ seen0
  run : ∀ W S : List Int, (∀ x ∈ W, x ∈ S) → (∀ x ∈ out, x ∉ S) → ∃ S', trun W S out = some (v :: W, S')
  least : ∀ C : Int → Prop, C v → (∀ e ∈ es, e ≠ mkE v fr → (∀ u : Nat, k ≤ u → u < n → e ≠ mkE v (u : Int)) → (C e.1 ↔ C e.2)) → ∀ x ∈ out, C x
  len : seen0.length < seen.length
theorem GoIs.skip {es : List EdgeV} {n : Nat} {v fr : Int} {k : Nat} {seen0 out seen : List Int} (h : GoIs es n v fr k seen0 out seen) : GoIs es n v fr (k + 1) seen0 out seen :=
  ⟨h.head, h.nodup, h.rng, h.mem, h.new, h.run, fun C hv hC => h.least C hv fun e he h1 h2 => hC e he h1 fun u hu hn => h2 u (by omega) hn, h.len⟩
theorem GoIs.go {es : List EdgeV} {n : Nat} {v fr : Int} {k : Nat} {seen0 out seen p seen' : List Int} (h : GoIs es n v fr k seen0 out seen) (hkf : (k : Int) ≠ fr) (hkv : v ≠ (k : Int)) (he : mkE v (k : Int) ∈ es) {S : Int → Prop} (hS1 : S (k : Int)) (hS2 : ¬ S v) (hS3 : ∀ d ∈ es, d ≠ mkE v (k : Int) → (S d.1 ↔ S d.2))
    (hp : WkIs es n (k : Int) v seen p seen') : GoIs es n v fr (k + 1) seen0 (out ++ p ++ [v]) seen' := by
  have hvo : v ∈ out := by
    have := h.head
    cases out with
    | nil => simp at this
    | cons a o => simp at this; simp [this]
  have hS4 : ∀ w : Int, mkE v w ∈ es → mkE v w ≠ mkE v (k : Int) → ¬ S (mkE v w).1 ∧ ¬ S (mkE v w).2 := fun w hw hne => by
    have := hS3 _ hw hne
    rcases mkE_ends v w with e | e
    · rw [e] at this ⊢; exact ⟨hS2, fun h5 => hS2 (this.2 h5)⟩
    · rw [e] at this ⊢; exact ⟨fun h5 => hS2 (this.1 h5), hS2⟩
  refine ⟨?_, hp.nodup, hp.rng, fun x => ?_, fun x hx => ?_, fun W T hW hT => ?_, fun C hv hC x hx => ?_, Nat.lt_trans h.len hp.len⟩
  · have := h.head
    cases out with
    | nil => simp at this
    | cons a o => simpa using this
  · rw [hp.mem, h.mem]
    simp only [List.mem_append, List.mem_singleton]
    constructor
    · rintro ((h1 | h1) | h1)
      · exact .inl h1
      · exact .inr (.inl (.inl h1))
      · exact .inr (.inl (.inr h1))
    · rintro (h1 | (h1 | h1) | h1)
      · exact .inl (.inl h1)
      · exact .inl (.inr h1)
      · exact .inr h1
      · exact .inl (.inr (by rw [h1]; exact hvo))
  · simp only [List.mem_append, List.mem_singleton] at hx
    rcases hx with (h1 | h1) | h1
    · exact h.new x h1
    · exact fun h2 => hp.new x h1 ((h.mem x).2 (.inl h2))
    · rw [h1]; exact h.new v hvo
  · obtain ⟨S1, h1⟩ := h.run W T hW (fun x hx => hT x (by simp [hx]))
    obtain ⟨hs, hw⟩ := trun_seen h1 hW
    obtain ⟨S2, h2⟩ := hp.run (v :: W) S1 hw (fun x hx h3 => by
      rcases (hs x).1 h3 with h4 | h4
      · exact hT x (by simp [hx]) h4
      · exact hp.new x hx ((h.mem x).2 (.inr h4)))
    refine ⟨S2, ?_⟩
    rw [trun_append, trun_append, h1, Option.bind_some, h2, Option.bind_some, trun_up (by simp [isUp])]
    rfl
  · simp only [List.mem_append, List.mem_singleton] at hx
    rcases hx with (h1 | h1) | h1
    · exact h.skip.least C hv hC x h1
    · refine (hp.least (fun y => C y ∧ S y) ⟨?_, hS1⟩ (fun e he2 hne => ?_) x h1).1
      · have h2 := hC _ he (fun e => hkf (mkE_inj e)) (fun u hu _ e => by have := mkE_inj e; omega)
        rcases mkE_ends v (k : Int) with e | e
        · rw [e] at h2; exact h2.1 hv
        · rw [e] at h2; exact h2.2 hv
      · rw [mkE_comm (fun e => hkv e.symm)] at hne
        by_cases h3 : e = mkE v fr
        · subst h3
          obtain ⟨a, b⟩ := hS4 fr he2 hne
          exact ⟨fun h4 => absurd h4.2 a, fun h4 => absurd h4.2 b⟩
        · by_cases h4 : ∃ u : Nat, k + 1 ≤ u ∧ u < n ∧ e = mkE v (u : Int)
          · obtain ⟨u, _, _, rfl⟩ := h4
            obtain ⟨a, b⟩ := hS4 _ he2 hne
            exact ⟨fun h4 => absurd h4.2 a, fun h4 => absurd h4.2 b⟩
          · exact and_congr (hC e he2 h3 (fun u h5 h6 h7 => h4 ⟨u, h5, h6, h7⟩)) (hS3 e he2 hne)
    · rw [h1]; exact hv
theorem wk_ok {es : List EdgeV} {n : Nat} (hE : ∀ e ∈ es, 0 ≤ e.1 ∧ e.1 < e.2 ∧ e.2 < (n : Int)) (hBr : Bridge es) (f : Nat) : ∀ (v fr : Int) (seen : List Int), 0 ≤ v → v < (n : Int) → seen.Nodup → (∀ x ∈ seen, 0 ≤ x ∧ x < (n : Int)) → n ≤ f + seen.length →
    (∃ C : Int → Prop, C v ∧ (∀ x ∈ seen, ¬ C x) ∧ ∀ e ∈ es, e ≠ mkE v fr → (C e.1 ↔ C e.2)) → ∃ t seen', wk es n f v fr seen = some (t, seen') ∧ WkIs es n v fr seen t seen' := by
  induction f with
  | zero =>
    intro v fr seen h0 h1 hn hr hf ⟨C, hC, hCs, _⟩
    have hv : v ∉ seen := fun h => hCs v h hC
    have := nodup_le n (v :: seen) (List.nodup_cons.2 ⟨hv, hn⟩) (fun x hx => by
      rcases List.mem_cons.1 hx with rfl | hx
      · exact ⟨h0, h1⟩
      · exact hr x hx)
    simp at this
    omega
  | succ f ih =>
    intro v fr seen0 h0 h1 hn hr hf ⟨C, hC, hCs, hCe⟩
    have hv : v ∉ seen0 := fun h => hCs v h hC
    have key : ∀ (rem k : Nat) (out seen : List Int), rem + k = n → GoIs es n v fr k seen0 out seen → ∃ t seen', wkGo (wk es n f) es n v fr rem out seen = some (t, seen') ∧ GoIs es n v fr n seen0 t seen' := by
      intro rem
      induction rem with
      | zero =>
        intro k out seen hk hg
        obtain rfl : k = n := by omega
        exact ⟨out, seen, rfl, hg⟩
      | succ rem ihr =>
        intro k out seen hk hg
        have ek : n - (rem + 1) = k := by omega
        by_cases hs : (k : Int) = fr ∨ mkE v (k : Int) ∉ es
        · rw [wkGo_skip ek hs]
          exact ihr (k + 1) out seen (by omega) hg.skip
        · have hkf : (k : Int) ≠ fr := fun e => hs (.inl e)
          have he : mkE v (k : Int) ∈ es := Classical.not_not.1 (fun e => hs (.inr e))
          have hkv : v ≠ (k : Int) := fun e => by
            have := hE _ he
            rw [← e] at this
            unfold mkE at this
            rw [if_neg (by omega)] at this
            simp at this
          obtain ⟨S, hS1, hS2, hS3⟩ := hBr.side he
          have hout : ∀ x ∈ out, ¬ S x := hg.least (fun x => ¬ S x) hS2 (fun e he2 _ h3 => not_congr (hS3 e he2 (h3 k (Nat.le_refl _) (by omega))))
          have hCk : C (k : Int) := by
            have h2 := hCe _ he (fun e => hkf (mkE_inj e))
            rcases mkE_ends v (k : Int) with e | e
            · rw [e] at h2; exact h2.1 hC
            · rw [e] at h2; exact h2.2 hC
          have hpre : ∀ x ∈ seen, ¬ (C x ∧ S x) := fun x hx h3 => by
            rcases (hg.mem x).1 hx with h4 | h4
            · exact hCs x h4 h3.1
            · exact hout x h4 h3.2
          have hks : (k : Int) ∉ seen := fun h3 => hpre _ h3 ⟨hCk, hS1⟩
          obtain ⟨p, seen', hp, hpi⟩ := ih (k : Int) v seen (by omega) (by omega) hg.nodup hg.rng (by have := hg.len; omega) ⟨fun x => C x ∧ S x, ⟨hCk, hS1⟩, hpre, fun e he2 hne => by
            rw [mkE_comm (fun e => hkv e.symm)] at hne
            by_cases h3 : e = mkE v fr
            · subst h3
              have := hS3 _ he2 hne
              rcases mkE_ends v fr with e | e
              · rw [e] at this ⊢; exact ⟨fun h5 => absurd h5.2 hS2, fun h5 => absurd (this.2 h5.2) hS2⟩
              · rw [e] at this ⊢; exact ⟨fun h5 => absurd (this.1 h5.2) hS2, fun h5 => absurd h5.2 hS2⟩
            · exact and_congr (hCe e he2 h3) (hS3 e he2 hne)⟩
          obtain ⟨t, sn, h5, h6⟩ := ihr (k + 1) (out ++ p ++ [v]) seen' (by omega) (hg.go hkf hkv he hS1 hS2 hS3 hpi)
          refine ⟨t, sn, ?_, h6⟩
          rw [wkGo, ek, if_neg hs, if_neg hks, hp]
          exact h5
    have hst : GoIs es n v fr 0 seen0 [v] (v :: seen0) := by
      refine ⟨rfl, List.nodup_cons.2 ⟨hv, hn⟩, fun x hx => ?_, fun x => by simp; exact or_comm, fun x hx => by simp at hx; rw [hx]; exact hv, fun W S hW hS => ?_, fun C hv _ x hx => by simp at hx; rw [hx]; exact hv, by simp⟩
      · rcases List.mem_cons.1 hx with rfl | hx
        · exact ⟨h0, h1⟩
        · exact hr x hx
      · have hvS : v ∉ S := hS v (by simp)
        have hup : isUp W v = false := by
          cases h : isUp W v with
          | false => rfl
          | true => exact absurd (hW _ (isUp_mem h)) hvS
        exact ⟨v :: S, by rw [trun_down hup hvS]; rfl⟩
    obtain ⟨t, sn, h2, h3⟩ := key n 0 [v] (v :: seen0) (by omega) hst
    exact ⟨t, sn, h2, h3.head, h3.nodup, h3.rng, h3.mem, h3.new, h3.run, fun C hv hCe2 => h3.least C hv fun e he hne _ => hCe2 e he hne, h3.len⟩

theorem mem_putE {es : List EdgeV} {e d : EdgeV} : d ∈ putE es e ↔ d ∈ es ∨ d = e := by
  unfold putE
  simp only [List.mem_append, List.mem_filter, List.mem_singleton]
  constructor
  · rintro ((h | h) | h)
    · exact .inl h.1
    · exact .inr h
    · exact .inl h.1
  · rintro (h | h)
    · by_cases he : d = e
      · exact .inl (.inr he)
      · cases hl : lt d e with
        | true => exact .inl (.inl ⟨h, rfl⟩)
        | false => exact .inr ⟨h, lt_total' hl he⟩
    · exact .inl (.inr h)
/-- edges of trees of the vertices below k -/
structure Forest (es : List EdgeV) (k : Nat) : Prop where
  ends : ∀ e ∈ es, 0 ≤ e.1 ∧ e.1 < e.2 ∧ e.2 < (k : Int)
  bridge : Bridge es
theorem Forest.nil (k : Nat) : Forest [] k := ⟨fun e h => by simp at h, fun e h => by simp at h⟩
theorem Forest.more {es : List EdgeV} {k : Nat} (h : Forest es k) : Forest es (k + 1) := ⟨fun e he => by have := h.ends e he; omega, h.bridge⟩
theorem Forest.put {es : List EdgeV} {k : Nat} (h : Forest es k) {x : Nat} (hx : x < k) : Forest (putE es ((x : Int), (k : Int))) (k + 1) := by
  have hnew : ((x : Int), (k : Int)) ∉ es := fun he => by have := h.ends _ he; simp at this
  refine ⟨fun e he => ?_, fun e he => ?_⟩
  · rcases mem_putE.1 he with h1 | h1
    · have := h.ends e h1; omega
    · subst h1; simp; omega
  · rcases mem_putE.1 he with h1 | h1
    · obtain ⟨S, a, b, c⟩ := h.bridge e h1
      have he1 := h.ends e h1
      refine ⟨fun y => if y = (k : Int) then S (x : Int) else S y, by simp only [if_neg (show ¬ e.2 = (k : Int) by omega)]; exact a, by simp only [if_neg (show ¬ e.1 = (k : Int) by omega)]; exact b, fun d hd hne => ?_⟩
      rcases mem_putE.1 hd with h2 | h2
      · have hd1 := h.ends d h2
        simp only [if_neg (show ¬ d.1 = (k : Int) by omega), if_neg (show ¬ d.2 = (k : Int) by omega)]
        exact c d h2 hne
      · subst h2
        simp only [if_neg (show ¬ (x : Int) = (k : Int) by omega), if_true]
    · subst h1
      refine ⟨fun y => y = (k : Int), rfl, by simp; omega, fun d hd hne => ?_⟩
      rcases mem_putE.1 hd with h2 | h2
      · have hd1 := h.ends d h2
        constructor
        · intro h3; omega
        · intro h3; omega
      · exact absurd h2 hne
/-- the tour of a tree of a forest -/
theorem forest_tour {es : List EdgeV} {n : Nat} (h : Forest es n) (hn : n ≤ 12) {r : Nat} (hr : r < n) : ∃ t sn, wk es n n (r : Int) (-1) [] = some (t, sn) ∧ tB t = true ∧ t[0]? = some (r : Int) := by
  obtain ⟨t, sn, h1, h2⟩ := wk_ok h.ends h.bridge n (r : Int) (-1) [] (by omega) (by omega) (by simp) (by simp) (by simp) ⟨fun _ => True, trivial, by simp, by simp⟩
  refine ⟨t, sn, h1, ?_, ?_⟩
  · obtain ⟨S', h3⟩ := h2.run [] [] (by simp) (by simp)
    refine (tB_iff t).2 ⟨fun x hx => ?_, (r : Int), S', h3⟩
    have := h2.rng x ((h2.mem x).2 (.inr hx))
    simp [vB]
    omega
  · rw [← List.head?_eq_getElem?]; exact h2.head
end Go.Proofs.YtpfkfbmghddepaaGreat
namespace Go.Proofs.YtpfkfbmghddepaaGreat
open Go.RowKit

theorem Bridge.sub {es fs : List EdgeV} (h : Bridge es) (hs : ∀ e ∈ fs, e ∈ es) : Bridge fs := fun e he => by
  obtain ⟨S, a, b, c⟩ := h e (hs e he)
  exact ⟨S, a, b, fun d hd => c d (hs d hd)⟩
theorem flip_iff {a b c d : Prop} (h1 : ¬ (a ↔ b)) (h2 : ¬ (c ↔ d)) : (a ↔ ¬ c) ↔ (b ↔ ¬ d) := by
  by_cases ha : a <;> by_cases hb : b <;> by_cases hc : c <;> by_cases hd : d <;> simp_all
theorem flip_same {a b c d : Prop} (h1 : a ↔ b) (h2 : c ↔ d) : (a ↔ ¬ c) ↔ (b ↔ ¬ d) := by rw [h1, h2]
/-- one more edge, between what does not hang together -/
theorem Bridge.add {es : List EdgeV} (h : Bridge es) {f : EdgeV} (hf : ¬ Conn es f.1 f.2) {fs : List EdgeV} (hs : ∀ e ∈ fs, e ∈ es ∨ e = f) : Bridge fs := by
  intro e he
  by_cases hef : e = f
  · subst hef
    refine ⟨fun x => ¬ Conn es e.1 x, hf, fun h => h (Conn.refl _ _), fun d hd hne => ?_⟩
    rcases hs d hd with h1 | h1
    · exact not_congr ⟨fun h2 => h2.trans (Conn.edge h1), fun h2 => h2.trans (Conn.edge h1).symm⟩
    · exact absurd h1 hne
  · have he1 : e ∈ es := (hs e he).resolve_right hef
    obtain ⟨S, a, b, c⟩ := h e he1
    by_cases hS : S f.1 ↔ S f.2
    · refine ⟨S, a, b, fun d hd hne => ?_⟩
      rcases hs d hd with h1 | h1
      · exact c d h1 hne
      · subst h1; exact hS
    · have key : ∀ g : Int, ¬ Conn es g e.1 → ¬ (Conn es g f.1 ↔ Conn es g f.2) → ∃ S : Int → Prop, S e.2 ∧ ¬ S e.1 ∧ ∀ d ∈ fs, d ≠ e → (S d.1 ↔ S d.2) := fun g hg hC => by
        have hg2 : ¬ Conn es g e.2 := fun h2 => hg (h2.trans (Conn.edge he1).symm)
        refine ⟨fun x => S x ↔ ¬ Conn es g x, ⟨fun _ => hg2, fun _ => a⟩, fun h2 => b (h2.2 hg), fun d hd hne => ?_⟩
        rcases hs d hd with h1 | h1
        · exact flip_same (c d h1 hne) ⟨fun h2 => h2.trans (Conn.edge h1), fun h2 => h2.trans (Conn.edge h1).symm⟩
        · subst h1; exact flip_iff hS hC
      by_cases hC : Conn es f.1 e.1
      · exact key f.2 (fun h2 => hf (hC.trans h2.symm)) (fun h2 => hf (h2.2 (Conn.refl _ _)).symm)
      · exact key f.1 hC (fun h2 => hf (h2.1 (Conn.refl _ _)))
theorem TreeP.bridge {es : List EdgeV} (h : TreeP es) : Bridge es := by
  have key : ∀ k, Bridge (es.take k) := by
    intro k
    induction k with
    | zero => intro e he; simp at he
    | succ k ih =>
      cases hk : es[k]? with
      | none =>
        rw [List.take_add_one, hk]
        simpa using ih
      | some f =>
        refine ih.add (h k f hk) fun e he => ?_
        rw [List.take_add_one, hk] at he
        simpa using he
  have := key es.length
  rwa [List.take_length] at this
theorem Bridge.tree {es : List EdgeV} (h : Bridge es) (hn : es.Nodup) : TreeP es := fun q f hf hc => by
  obtain ⟨S, a, b, c⟩ := h f (List.mem_of_getElem? hf)
  have hq := (List.getElem?_eq_some_iff.1 hf).1
  refine hc (fun x => ¬ S x) (fun e he => not_congr (c e (List.mem_of_mem_take he) fun e2 => ?_)) b a
  subst e2
  obtain ⟨i, hi⟩ := List.mem_iff_getElem?.1 he
  have hi1 := (List.getElem?_eq_some_iff.1 hi).1
  rw [List.length_take] at hi1
  rw [List.getElem?_take_of_lt (by omega)] at hi
  obtain ⟨_, e3⟩ := List.getElem?_eq_some_iff.1 hi
  obtain ⟨_, e4⟩ := List.getElem?_eq_some_iff.1 hf
  have := (List.pairwise_iff_getElem.1 hn) i q (by omega) hq (by omega)
  rw [e3, e4] at this
  exact this rfl
theorem treeP_iff {es : List EdgeV} (hn : es.Nodup) : TreeP es ↔ Bridge es := ⟨fun h => h.bridge, fun h => h.tree hn⟩
end Go.Proofs.YtpfkfbmghddepaaGreat
namespace Go.Proofs.YtpfkfbmghddepaaGreat
open Go.RowKit

theorem own_cut {u : World} {B e g n m c : Nat} {xs : List Value} (h : u.ownsRow B e 1 (.slice (some ⟨g, 0, none⟩) n c) n xs) (hm : m ≤ n) : u.ownsRow B e 1 (.slice (some ⟨g, 0, none⟩) m c) m (xs.take m) := by
  obtain ⟨hl, h2⟩ := h
  refine ⟨by rw [List.length_take, hl]; omega, ?_⟩
  rcases h2 with ⟨hv, _⟩ | ⟨g', cap, cur, hv, hb, hg, hnc, hcm, hcs, htake⟩
  · simp at hv
  · simp only [Value.slice.injEq, Option.some.injEq, Addr.mk.injEq, and_true, true_and] at hv
    obtain ⟨rfl, rfl⟩ := hv
    refine .inr ⟨g, c, cur, rfl, hb, hg, by omega, hcm, hcs, ?_⟩
    rw [← htake, List.take_take]
    congr 1
    omega

/-- two rows of ints in the making, each in a block of its own; nothing of wb has turned -/
structure Two (wb : World) (g n c : Nat) (ls : List Int) (g' n' c' : Nat) (ls' : List Int) (u : World) : Prop where
  one : u.ownsRow wb.heap.size 3 1 (.slice (some ⟨g, 0, none⟩) n c) n (ic ls)
  two : u.ownsRow wb.heap.size 3 1 (.slice (some ⟨g', 0, none⟩) n' c') n' (ic ls')
  ne : g ≠ g'
  bel : Below wb.heap.size wb u
theorem Two.size {wb : World} {g n c g' n' c' : Nat} {ls ls' : List Int} {u : World} (h : Two wb g n c ls g' n' c' ls' u) : wb.heap.size ≤ u.heap.size := h.bel.size
theorem Two.len {wb : World} {g n c g' n' c' : Nat} {ls ls' : List Int} {u : World} (h : Two wb g n c ls g' n' c' ls' u) : ls.length = n ∧ ls'.length = n' := by
  have h1 := h.one.1
  have h2 := h.two.1
  rw [ic_len] at h1 h2
  omega
theorem Two.swap {wb : World} {g n c g' n' c' : Nat} {ls ls' : List Int} {u : World} (h : Two wb g n c ls g' n' c' ls' u) : Two wb g' n' c' ls' g n c ls u := ⟨h.two, h.one, h.ne.symm, h.bel⟩
theorem Two.up {wb : World} {g n c g' n' c' : Nat} {ls ls' : List Int} {u v : World} (h : Two wb g n c ls g' n' c' ls' u) (hb : Below u.heap.size u v) : Two wb g n c ls g' n' c' ls' v :=
  ⟨own_up h.one hb, own_up h.two hb, h.ne, h.bel.trans (hb.mono h.size)⟩
theorem Two.cut {wb : World} {g n c g' n' c' m : Nat} {ls ls' : List Int} {u : World} (h : Two wb g n c ls g' n' c' ls' u) (hm : m ≤ n) : Two wb g m c (ls.take m) g' n' c' ls' u :=
  ⟨by have := own_cut h.one hm; rw [ic, ← List.map_take] at this; exact this, h.two, h.ne, h.bel⟩
theorem Two.app {wb : World} {g n c g' n' c' : Nat} {ls ls' : List Int} {u : World} (h : Two wb g n c ls g' n' c' ls' u) {x : Int} {o : Obj} {G cap : Nat} {u' : World}
    (ho : u'.ownsRow wb.heap.size 3 1 (.slice (some ⟨G, 0, none⟩) (n + 1) cap) (n + 1) (ic ls ++ [.int .i64 x])) (hg : (u.alloc o).grownBy u' (some g)) (hG : (some g : Option Nat) = some G ∨ G = u.heap.size + 1) :
    Two wb G (n + 1) cap (ls ++ [x]) g' n' c' ls' u' := by
  have hl := (h.two.lt g' rfl).2
  refine ⟨by rw [ic_snoc]; exact ho, World.ownsRow.kept (h.two.alloc o) hg (.inr (by simp [Value.ownBlock]; exact fun e => h.ne e.symm)), ?_, ?_⟩
  · rcases hG with hG | hG
    · simp at hG; rw [← hG]; exact h.ne
    · omega
  · exact (h.bel.alloc h.size _).grown hg (by have := h.size; simp; omega) (fun j hj => by simp at hj; subst hj; exact (h.one.lt g rfl).1)
theorem Two.cell {wb : World} {g n c g' n' c' : Nat} {ls ls' : List Int} {u : World} (h : Two wb g n c ls g' n' c' ls' u) {j : Nat} {x : Int} (hx : ls[j]? = some x) : u.cell? ⟨g, j, none⟩ = some (.int .i64 x) := by
  have hj := (List.getElem?_eq_some_iff.1 hx).1
  have := h.len.1
  rw [h.one.cellAt j (by omega)]
  exact ic_at hx
theorem Two.cap {wb : World} {g n c g' n' c' : Nat} {ls ls' : List Int} {u : World} (h : Two wb g n c ls g' n' c' ls' u) : n ≤ c := by
  rcases h.one.2 with ⟨hv, _⟩ | ⟨g2, cap, cur, hv, hb, hg, hnc, _⟩
  · simp at hv
  · simp only [Value.slice.injEq, Option.some.injEq, Addr.mk.injEq, and_true, true_and] at hv
    obtain ⟨rfl, rfl⟩ := hv
    exact hnc
theorem Two.is {wb : World} {g n c g' n' c' : Nat} {ls ls' : List Int} {u : World} (h : Two wb g n c ls g' n' c' ls' u) : Is u u.heap.size (some ⟨g, 0, none⟩) n ls := Is_of_own h.one

theorem Two.snoc {wb : World} {g n c g' n' c' : Nat} {ls ls' wy sn : List Int} {f : Int} {u : World} (h : Two wb g n c (ls ++ [f]) g' n' c' (ls' ++ [f]) u) (h1 : ls = wy.reverse) (h2 : ls' = sn.reverse) : Two wb g n c (f :: wy).reverse g' n' c' (f :: sn).reverse u := by
  subst h1 h2
  rw [List.reverse_cons, List.reverse_cons]
  exact h

/-- the walk comes to its end at the root -/
def openB (t : List Int) : Bool := match trun [] [] t with | some x => x.1.length == 1 | none => false
theorem tB_eq (t : List Int) : tB t = (t.all vB && openB t) := rfl
theorem trun_none {t : List Int} {k : Nat} (h : trun [] [] (t.take k) = none) : openB t = false := by
  have : trun [] [] t = none := by
    rw [← List.take_append_drop k t, trun_append, h]; rfl
  unfold openB
  rw [this]
theorem trun_snoc (w s a : List Int) (v : Int) : trun w s (a ++ [v]) = (trun w s a).bind fun x => tstep x.1 x.2 v := by
  rw [trun_append]
  cases trun w s a with
  | none => rfl
  | some x =>
    show (match tstep x.1 x.2 v with | none => none | some y => trun y.1 y.2 []) = _
    cases h : tstep x.1 x.2 v with
    | none => simp [h]
    | some y => simp [h, trun]
theorem tstep_up {q s : List Int} {c p v : Int} (h : v = p) : tstep (c :: p :: q) s v = some (p :: q, s) := by simp [tstep, isUp, h]
theorem tstep_bad2 {q s : List Int} {c p v : Int} (h : v ≠ p) (hs : v ∈ s) : tstep (c :: p :: q) s v = none := by simp [tstep, isUp, Ne.symm h, hs]
theorem tstep_down2 {q s : List Int} {c p v : Int} (h : v ≠ p) (hs : v ∉ s) : tstep (c :: p :: q) s v = some (v :: c :: p :: q, v :: s) := by simp [tstep, isUp, Ne.symm h, hs]
theorem tstep_bad1 {w s : List Int} {v : Int} (h : w.length ≤ 1) (hs : v ∈ s) : tstep w s v = none := by
  match w, h with
  | [], _ => simp [tstep, isUp, hs]
  | [c], _ => simp [tstep, isUp, hs]
theorem tstep_down1 {w s : List Int} {v : Int} (h : w.length ≤ 1) (hs : v ∉ s) : tstep w s v = some (v :: w, v :: s) := by
  match w, h with
  | [], _ => simp [tstep, isUp, hs]
  | [c], _ => simp [tstep, isUp, hs]
theorem rev_at2 (q : List Int) (c p : Int) : (c :: p :: q).reverse[q.length]? = some p := by
  simp
theorem rev_take1 (q : List Int) (c p : Int) : (c :: p :: q).reverse.take (q.length + 1) = (p :: q).reverse := by
  rw [List.reverse_cons, List.take_append_of_le_length (by simp)]
  exact List.take_of_length_le (by simp)

set_option maxRecDepth 100000 in
set_option maxHeartbeats 4000000 in
theorem l06Open_any (t : List Int) (n : Nat) (a : Option Addr) (c : Nat) (hn : n ≤ 3000000) (h0 : 0 < n) (w : World) (h : Is w w.heap.size a n t) :
    Calls Tryz.prog 152 #[.slice a n c] w fun e w' => e = .returned (.bool (openB t)) ∧ Below w.heap.size w w' := by
  obtain ⟨i0, hi, hz0, hz1, hz2⟩ := info_parts info3i
  obtain ⟨hlen, hrow⟩ := h
  rcases hrow with hz | ⟨b, off, rfl, hbl, hc⟩
  · omega
  · obtain ⟨x0, hx0⟩ : ∃ f, t[0]? = some f := ⟨t[0]'(by omega), List.getElem?_eq_getElem (by omega)⟩
    have e0 := hc 0 x0 hx0
    rw [Nat.add_zero] at e0
    have g0 : (0 : Int) < (n : Int) := by omega
    have HC := hideIt hc
    have hst0 : Two w w.heap.size 1 1 [x0] (w.heap.size + 1) 1 1 [x0] ((w.alloc (.cells #[.int .i64 x0] 3)).alloc (.cells #[.int .i64 x0] 3)) := by
      have p1 := World.ownsRow_lit (base := w.heap.size) (e := 3) (size := 1) w #[.int .i64 x0] 1 (Nat.le_refl _) (by unfold maxLen; omega) (by simp)
      have p2 := World.ownsRow_lit (base := w.heap.size) (e := 3) (size := 1) (w.alloc (.cells #[.int .i64 x0] 3)) #[.int .i64 x0] 1 (by simp) (by unfold maxLen; omega) (by simp)
      refine ⟨by simpa [ic] using p1.alloc _, by simpa [ic] using p2, by omega, ((Below.refl _ _).alloc (Nat.le_refl _) _).alloc (by simp) _⟩
    have H1 : Hid (trun [] [] (t.take 1) = some ([x0], [x0])) := by
      show _ = _
      rw [show t.take 1 = [x0] by rw [take_snocF t 0 x0 hx0]; rfl]
      rfl
    have e0' : (w.alloc (.cells #[.int .i64 x0] 3)).cell? ⟨b, off, none⟩ = some (.int .i64 x0) := by rw [World.cell?_of_block (w := w) (Below.heap_alloc w _ b hbl)]; exact e0
    clear hc hx0
    go_enter Tryz.func152, Tryz.ntmps152
    go_wp2
    go_loopw [3, 4, 5] (fun r s i wr => ∃ (k n1 g1 c1 n2 g2 c2 : Nat) (wy sn : List Int), 1 ≤ k ∧ k ≤ n ∧ i = .int .i64 (k : Int) ∧ r = .slice (some ⟨g1, 0, none⟩) n1 c1 ∧ s = .slice (some ⟨g2, 0, none⟩) n2 c2 ∧ n1 ≤ k ∧ n2 ≤ k ∧ 1 ≤ n1 ∧ Hid (trun [] [] (t.take k) = some (wy, sn)) ∧ Two w g1 n1 c1 wy.reverse g2 n2 c2 sn.reverse wr) (fun _ _ i _ => n - (intOf i).toNat)
    case atStart => exact ⟨1, 1, _, 1, 1, _, 1, [x0], [x0], by omega, by omega, rfl, rfl, by rfl, by omega, by omega, by omega, H1, hst0⟩
    case round =>
      obtain ⟨k, n1, g1, c1, n2, g2, c2, wy, sn, hk1, hk, rfl, rfl, rfl, hn1, hn2, hn0, HT, hst⟩ := hrel
      clear hst0 e0' e0
      by_cases hlt : k < n
      · obtain ⟨f, hf⟩ : ∃ f, t[k]? = some f := ⟨t[k]'(by omega), List.getElem?_eq_getElem (by omega)⟩
        have e0 : wr.cell? ⟨b, off + k, none⟩ = some (.int .i64 f) := by rw [hst.bel.cell hbl]; exact HC.out k f hf
        have b1 : (0 : Int) ≤ (k : Int) := by omega
        have b2 : (k : Int) < (n : Int) := by omega
        have HS := hideIt (show trun [] [] (t.take (k + 1)) = tstep wy sn f by rw [take_snocF t k f hf, trun_snoc, HT.out]; rfl)
        match wy, hst, HS with
        | [], hst, _ => exact absurd hst.len.1 (by simp; omega)
        | [c0], hst, HS =>
          have hl1 := hst.len.1
          simp only [List.length_reverse, List.length_cons, List.length_nil] at hl1
          have d0 : decide ((1 : Int) < (n1 : Int)) = false := decide_eq_false (by omega)
          obtain ⟨lw, hlw⟩ : ∃ l, l = [c0].reverse := ⟨_, rfl⟩
          obtain ⟨lsn, hlsn⟩ : ∃ l, l = sn.reverse := ⟨_, rfl⟩
          rw [← hlw, ← hlsn] at hst
          have HLW := hideIt hlw
          have HLS := hideIt hlsn
          have hmem : ∀ x, x ∈ lsn ↔ x ∈ sn := fun x => by rw [hlsn]; exact List.mem_reverse
          clear hlw hlsn
          have HSd := hideIt (fun x => hst.up (below_drewN (Below.refl wr.heap.size wr) x))
          by_cases hs : f ∈ sn
          · have HS2 := hideIt (trun_none (HS.out.trans (tstep_bad1 (by simp) hs)))
            have HIn := hideIt (fun x => l05In_any lsn f n2 (some ⟨g2, 0, none⟩) c2 (by omega) (wr.drewN x) (HSd.out x).swap.is)
            have d2 : decide (f ∈ lsn) = true := decide_eq_true ((hmem f).2 hs)
            rw [d2] at HIn
            clear HS HT hf hst d2 hs hmem
            go_wp2
            go_quiet (fail)
            go_wp2_with (go_at_call 93; refine (HIn.out _).mono ?_; rintro e w1 ⟨rfl, rfl⟩)
            go_ret
            exact ⟨by rw [HS2.out]; rfl, (HSd.out _).bel⟩
          · have HS2 := hideIt (HS.out.trans (tstep_down1 (by simp) hs))
            have HIn := hideIt (fun x => l05In_any lsn f n2 (some ⟨g2, 0, none⟩) c2 (by omega) (wr.drewN x) (HSd.out x).swap.is)
            have d2 : decide (f ∈ lsn) = false := decide_eq_false (fun h => hs ((hmem f).1 h))
            rw [d2] at HIn
            have HE := hideIt (fun (u : World) (hu : Below w.heap.size w u) => show u.cell? ⟨b, off + k, none⟩ = some (.int .i64 f) by rw [hu.cell hbl]; exact HC.out k f hf)
            clear HS HT hf hst d2 hs hmem
            go_wp2
            go_quiet (fail)
            go_wp2_with (go_at_call 93; refine (HIn.out _).mono ?_; rintro e w1 ⟨rfl, rfl⟩; refine Hid.out ?_)
            refine (show ∀ {p : Prop}, p → Hid p from fun h => h) ?_
            have S1 := HSd.out nq
            clear HIn HSd e0
            generalize wr.drewN nq = wd at *
            have e0 := HE.out wd S1.bel
            have z1 := S1.size
            go_wp2_with (at_builtin; refine wpList_append_lies _ rfl _ _ 44 rfl w.heap.size 3 i0 _ 1 8 Tryz.underlying44 hi hz0 hz1 hz2 rfl (by decide) _ _ _ rfl (S1.swap.one.alloc _) ⟨wd.heap.size, 0, none⟩ 1 1 [.int .i64 f] rfl rfl (newsI wd f) (by intro u hu; simp at hu; subst hu; rfl) (by omega) (by unfold maxLen; omega) (by omega) (by simp; omega) (wd.heap.size + 1) (by simp) ?_)
            intro g3 c3 w3 hown3 hg3 hG3 _
            have S3 := (S1.swap.app hown3 hg3 hG3).swap
            clear hown3 hg3 hG3 S1 e0 z1
            refine Hid.out ?_
            refine (show ∀ {p : Prop}, p → Hid p from fun h => h) ?_
            have e0 := HE.out w3 S3.bel
            have z1 := S3.size
            go_wp2_with (at_builtin; refine wpList_append_lies _ rfl _ _ 44 rfl w.heap.size 3 i0 _ 1 8 Tryz.underlying44 hi hz0 hz1 hz2 rfl (by decide) _ _ _ rfl (S3.one.alloc _) ⟨w3.heap.size, 0, none⟩ 1 1 [.int .i64 f] rfl rfl (newsI w3 f) (by intro u hu; simp at hu; subst hu; rfl) (by omega) (by unfold maxLen; omega) (by omega) (by simp; omega) (w3.heap.size + 1) (by simp) ?_)
            intro g4 c4 w4 hown4 hg4 hG4 _
            have S4 := S3.app hown4 hg4 hG4
            clear hown4 hg4 hG4 S3 e0 z1
            go_wp2
            exact ⟨⟨k + 1, n1 + 1, g4, c4, n2 + 1, g3, c3, f :: [c0], f :: sn, by omega, by omega, by go_num, rfl, rfl, by omega, by omega, by omega, HS2, S4.snoc HLW.out HLS.out⟩, by simp [intOf]; omega⟩
        | c0 :: p :: q, hst, HS =>
          have hl1 := hst.len.1
          simp only [List.length_reverse, List.length_cons] at hl1
          have m1 : wr.cell? ⟨g1, n1 - 2, none⟩ = some (.int .i64 p) := hst.cell (by rw [show n1 - 2 = q.length by omega]; exact rev_at2 q c0 p)
          have e1 : (((n1 : Int) - 2).toNat) = n1 - 2 := by omega
          have d0 : decide ((1 : Int) < (n1 : Int)) = true := decide_eq_true (by omega)
          have b3 : (0 : Int) ≤ (n1 : Int) - 2 := by omega
          have b4 : (n1 : Int) - 2 < (n1 : Int) := by omega
          by_cases hp : f = p
          · have d1 : (f == p) = true := by simpa using hp
            have hcap := hst.cap
            have b5 : (0 : Int) ≤ (n1 : Int) - 1 := by omega
            have b6 : (n1 : Int) - 1 ≤ (c1 : Int) := by omega
            have e2 : (((n1 : Int) - 1).toNat) = n1 - 1 := by omega
            have HS2 := hideIt (HS.out.trans (tstep_up hp))
            have HST := hideIt (fun x => (hst.cut (m := n1 - 1) (by omega)).up (below_drewN (Below.refl wr.heap.size wr) x))
            rw [show (c0 :: p :: q).reverse.take (n1 - 1) = (p :: q).reverse by rw [show n1 - 1 = q.length + 1 by omega]; exact rev_take1 q c0 p] at HST
            clear HS HT hf hst hp
            go_wp2
            go_quiet (fail)
            go_wp2
            exact ⟨⟨k + 1, n1 - 1, g1, c1, n2, g2, c2, p :: q, sn, by omega, by omega, by go_num, rfl, rfl, by omega, by omega, by omega, HS2, HST.out _⟩, by simp [intOf]; omega⟩
          · have d1 : (f == p) = false := by simpa using hp
            obtain ⟨lw, hlw⟩ : ∃ l, l = (c0 :: p :: q).reverse := ⟨_, rfl⟩
            obtain ⟨lsn, hlsn⟩ : ∃ l, l = sn.reverse := ⟨_, rfl⟩
            rw [← hlw, ← hlsn] at hst
            have HLW := hideIt hlw
            have HLS := hideIt hlsn
            have hmem : ∀ x, x ∈ lsn ↔ x ∈ sn := fun x => by rw [hlsn]; exact List.mem_reverse
            clear hlw hlsn
            have HSd := hideIt (fun x => hst.up (below_drewN (Below.refl wr.heap.size wr) x))
            by_cases hs : f ∈ sn
            · have HS2 := hideIt (trun_none (HS.out.trans (tstep_bad2 hp hs)))
              have HIn := hideIt (fun x => l05In_any lsn f n2 (some ⟨g2, 0, none⟩) c2 (by omega) (wr.drewN x) (HSd.out x).swap.is)
              have d2 : decide (f ∈ lsn) = true := decide_eq_true ((hmem f).2 hs)
              rw [d2] at HIn
              clear HS HT hf hst d2 hs hmem
              go_wp2
              go_quiet (fail)
              go_wp2_with (go_at_call 93; refine (HIn.out _).mono ?_; rintro e w1 ⟨rfl, rfl⟩)
              go_ret
              exact ⟨by rw [HS2.out]; rfl, (HSd.out _).bel⟩
            · have HS2 := hideIt (HS.out.trans (tstep_down2 hp hs))
              have HIn := hideIt (fun x => l05In_any lsn f n2 (some ⟨g2, 0, none⟩) c2 (by omega) (wr.drewN x) (HSd.out x).swap.is)
              have d2 : decide (f ∈ lsn) = false := decide_eq_false (fun h => hs ((hmem f).1 h))
              rw [d2] at HIn
              have HE := hideIt (fun (u : World) (hu : Below w.heap.size w u) => show u.cell? ⟨b, off + k, none⟩ = some (.int .i64 f) by rw [hu.cell hbl]; exact HC.out k f hf)
              clear HS HT hf hst d2 hs hmem
              go_wp2
              go_quiet (fail)
              go_wp2_with (go_at_call 93; refine (HIn.out _).mono ?_; rintro e w1 ⟨rfl, rfl⟩; refine Hid.out ?_)
              refine (show ∀ {p : Prop}, p → Hid p from fun h => h) ?_
              have S1 := HSd.out nq
              clear HIn HSd e0
              generalize wr.drewN nq = wd at *
              have e0 := HE.out wd S1.bel
              have z1 := S1.size
              go_wp2_with (at_builtin; refine wpList_append_lies _ rfl _ _ 44 rfl w.heap.size 3 i0 _ 1 8 Tryz.underlying44 hi hz0 hz1 hz2 rfl (by decide) _ _ _ rfl (S1.swap.one.alloc _) ⟨wd.heap.size, 0, none⟩ 1 1 [.int .i64 f] rfl rfl (newsI wd f) (by intro u hu; simp at hu; subst hu; rfl) (by omega) (by unfold maxLen; omega) (by omega) (by simp; omega) (wd.heap.size + 1) (by simp) ?_)
              intro g3 c3 w3 hown3 hg3 hG3 _
              have S3 := (S1.swap.app hown3 hg3 hG3).swap
              clear hown3 hg3 hG3 S1 e0 z1
              refine Hid.out ?_
              refine (show ∀ {p : Prop}, p → Hid p from fun h => h) ?_
              have e0 := HE.out w3 S3.bel
              have z1 := S3.size
              go_wp2_with (at_builtin; refine wpList_append_lies _ rfl _ _ 44 rfl w.heap.size 3 i0 _ 1 8 Tryz.underlying44 hi hz0 hz1 hz2 rfl (by decide) _ _ _ rfl (S3.one.alloc _) ⟨w3.heap.size, 0, none⟩ 1 1 [.int .i64 f] rfl rfl (newsI w3 f) (by intro u hu; simp at hu; subst hu; rfl) (by omega) (by unfold maxLen; omega) (by omega) (by simp; omega) (w3.heap.size + 1) (by simp) ?_)
              intro g4 c4 w4 hown4 hg4 hG4 _
              have S4 := S3.app hown4 hg4 hG4
              clear hown4 hg4 hG4 S3 e0 z1
              go_wp2
              exact ⟨⟨k + 1, n1 + 1, g4, c4, n2 + 1, g3, c3, f :: c0 :: p :: q, f :: sn, by omega, by omega, by go_num, rfl, rfl, by omega, by omega, by omega, HS2, S4.snoc HLW.out HLS.out⟩, by simp [intOf]; omega⟩
      · obtain rfl : k = n := by omega
        have HO : Hid (openB t = ((n1 : Int) == 1)) := by
          show _ = _
          have h1 := HT.out
          rw [List.take_of_length_le (by omega)] at h1
          have h2 := hst.len.1
          simp only [List.length_reverse] at h2
          unfold openB
          rw [h1]
          show (wy.length == 1) = _
          rw [h2, Bool.eq_iff_iff]
          simp
          omega
        have HB := hideIt hst.bel
        clear HT hst
        go_wp2
        go_ret
        exact ⟨by rw [HO.out]; rfl, HB.out⟩
end Go.Proofs.YtpfkfbmghddepaaGreat
