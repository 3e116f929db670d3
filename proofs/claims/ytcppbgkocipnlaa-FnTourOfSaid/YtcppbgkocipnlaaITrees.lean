/- The program's treesOk: whether edges close no ring. -/
import Derived.Test.YtcppbgkocipnlaaMem6
import Derived.Test.YtcppbgkocipnlaaEdgeI6
import Derived.LaidEqlPtr
namespace Go.Proofs.Ytcppbgkocipnlaa
open Go.RowKit

/-- no edge joins what hangs together by those ahead of it -/
def TreeP (es : List EdgeV) : Prop := ∀ (q : Nat) (f : EdgeV), es[q]? = some f → ¬ Conn (es.take q) f.1 f.2
theorem uf_conn {es : List EdgeV} {n : Nat} {P : Nat → Option Nat} {R : Nat → Nat} (h : Uf es n P R) {f : EdgeV} (hf : 0 ≤ f.1 ∧ f.1 < f.2 ∧ f.2 < (n : Int)) : R f.1.toNat = R f.2.toNat ↔ Conn es f.1 f.2 := by
  have e1 : ((f.1.toNat : Nat) : Int) = f.1 := by omega
  have e2 : ((f.2.toNat : Nat) : Int) = f.2 := by omega
  constructor
  · intro hr
    have c1 := h.conn f.1.toNat (by omega)
    have c2 := h.conn f.2.toNat (by omega)
    rw [hr] at c1
    rw [e1] at c1
    rw [e2] at c2
    exact c1.trans c2.symm
  · intro hc
    have := hc (fun x => R f.1.toNat = R x.toNat) (fun e he => by rw [h.same e he]) rfl
    exact this
set_option maxRecDepth 100000 in
set_option maxHeartbeats 8000000 in
theorem treesOk_any (nn : Nat) (es : List EdgeV) (n : Nat) (a : Option Addr) (c : Nat) (hn0 : 1 ≤ nn) (hn12 : nn ≤ 12) (hn : n ≤ 1000) (hok : ∀ e ∈ es, eB (nn : Int) e = true) (w : World) (h : Es w w.heap.size a n es) :
    Calls Try.prog 43 #[.int .i64 (nn : Int), .slice a n c] w fun x w' => ∃ b : Bool, x = .returned (.bool b) ∧ (b = true ↔ TreeP es) ∧ Below w.heap.size w w' := by
  obtain ⟨im, him, hm0, hm1, hm2⟩ := info_parts infoMem
  have HR := hideIt h
  have hlen := h.1
  have HOk := hideIt hok
  have HV := vertsOk_any (nn : Int) w
  rw [decide_eq_true (by omega)] at HV
  have HV1 := hideIt HV
  clear h hok HV
  have hmk : ∀ u : World, (Instr.makeSlice 82 (.int .i64 (nn : Int)) (.int .i64 (nn : Int))).run Try.prog u =
      .ok (.slice (some ⟨u.heap.size, 0, none⟩) nn nn) (u.alloc (.cells (madeCells #[.int .i64 0, .pointer none] (nn * 2)) 85)) := fun u => by
    have h := run_make (P := Try.prog) u 82 85 im _ Try.underlying82 him hm0 .i64 .i64 (nn : Int) (nn : Int) (by omega) (by omega) (by rw [hm2]; omega) (by omega)
    rw [Int.toNat_natCast] at h
    simpa [hm1, Value.cells] using h
  go_enter Try.func43, Try.ntmps43
  go_wp2_with (go_at_call 64; refine HV1.out.mono ?_; rintro e w1 ⟨rfl, hw⟩; have hw' := hw.symm; subst hw'; clear hw)
  go_loopw [16] (fun i wr => ∃ (k : Nat) (xs : List Value), k ≤ nn ∧ i = .int .i64 (k : Int) ∧ wr.ownsRow w.heap.size 85 2 (.slice (some ⟨w.heap.size, 0, none⟩) nn nn) nn xs ∧ Hid (∀ j, j < nn → xs[j * 2 + 1]? = some (.pointer none)) ∧ Hid (∀ j, j < k → xs[j * 2]? = some (.int .i64 (j : Int))) ∧ Below w.heap.size w wr) (fun i _ => nn - (intOf i).toNat)
  case atStart => exact ⟨0, _, by omega, rfl, World.ownsRow_lit (base := w.heap.size) (e := 85) (size := 2) w (madeCells #[.int .i64 0, .pointer none] (nn * 2)) nn (Nat.le_refl _) (by unfold maxLen; omega) (by simp [madeCells]), fun j hj => made2 nn j hj, fun j hj => by omega, (Below.refl _ _).alloc (Nat.le_refl _) _⟩
  case round =>
    obtain ⟨k, xs, hk, rfl, hown, hp, hv, hb⟩ := hrel
    have hl3 : xs.length = nn * 2 := hown.1
    by_cases hlt : k < nn
    · have b1 : (0 : Int) ≤ (k : Int) := by omega
      have b2 : (k : Int) < (nn : Int) := by omega
      have f0 := hown.frozenAt (k * 2)
      obtain ⟨y0, x0⟩ : ∃ y, wr.cell? ⟨w.heap.size, k * 2, none⟩ = some y := ⟨_, by rw [hown.cellAt (k * 2) (by omega)]; exact List.getElem?_eq_getElem (by omega)⟩
      have HO2 := hideIt (hown.stored (k * 2) (.int .i64 (k : Int))).1
      have HB2 := hideIt (hb.setCell (p := ⟨w.heap.size, k * 2, none⟩) (Nat.le_refl _) (.int .i64 (k : Int)))
      have HP2 : Hid (∀ j, j < nn → (xs.set (k * 2) (.int .i64 (k : Int)))[j * 2 + 1]? = some (.pointer none)) := fun j hj => by rw [List.getElem?_set_ne (by omega)]; exact hp.out j hj
      have HV2 : Hid (∀ j, j < k + 1 → (xs.set (k * 2) (.int .i64 (k : Int)))[j * 2]? = some (.int .i64 (j : Int))) := fun j hj => by
        by_cases hjk : j = k
        · subst hjk; rw [List.getElem?_set_self (by omega)]
        · rw [List.getElem?_set_ne (by omega)]; exact hv.out j (by omega)
      clear hown hp hv hb
      go_wp2
      exact ⟨⟨k + 1, _, by omega, by go_num, HO2.out, HP2, HV2, HB2.out⟩, by simp [intOf]; omega⟩
    · obtain rfl : k = nn := by omega
      have HM : Hid (MSt w.heap.size w.heap.size k (fun _ => none) wr) := ⟨⟨xs, hown⟩, fun i hi => ⟨by rw [hown.cellAt (i * 2) (by omega)]; exact hv.out i hi, by rw [hown.cellAt (i * 2 + 1) (by omega)]; exact hp.out i hi⟩⟩
      have HB0 := hideIt hb
      clear hown hp hv hl3 hb
      go_wp2
      go_loopw [27] (fun i wr => ∃ (q : Nat) (P : Nat → Option Nat) (R : Nat → Nat), q ≤ n ∧ i = .int .i64 (q : Int) ∧ Hid (Uf (es.take q) k P R) ∧ Hid (∀ j f, j < q → es[j]? = some f → ¬ Conn (es.take j) f.1 f.2) ∧ MSt w.heap.size w.heap.size k P wr ∧ Below w.heap.size w wr) (fun i _ => n - (intOf i).toNat)
      case atStart => exact ⟨0, _, _, by omega, rfl, by show Uf _ _ _ _; rw [List.take_zero]; exact Uf.start k, fun j f hj => by omega, HM.out, HB0.out⟩
      case round =>
        obtain ⟨q, P, R, hq, rfl, hU, hT, hM, hb⟩ := hrel
        have hg := hM.lt
        clear HM HB0
        by_cases hlt2 : q < n
        · rcases HR.out.2 with hz | ⟨b, off, rfl, hbl, hc⟩
          · omega
          · obtain ⟨f, hf⟩ : ∃ f, es[q]? = some f := ⟨es[q]'(by omega), List.getElem?_eq_getElem (by omega)⟩
            obtain ⟨c0, c1⟩ := hc q f hf
            have hfe := HOk.out f (List.mem_of_getElem? hf)
            have hfi : 0 ≤ f.1 ∧ f.1 < f.2 ∧ f.2 < (k : Int) := by unfold eB at hfe; have := of_decide_eq_true hfe; omega
            have b1 : (0 : Int) ≤ (q : Int) := by omega
            have b2 : (q : Int) < (n : Int) := by omega
            have b3 : (0 : Int) ≤ f.1 := hfi.1
            have b4 : f.1 < (k : Int) := by omega
            have b5 : (0 : Int) ≤ f.2 := by omega
            have b6 : f.2 < (k : Int) := hfi.2.2
            have e0 : wr.cell? ⟨b, off + q * 2, none⟩ = some (.int .i64 f.1) := by rw [hb.cell hbl]; exact c0
            have e1 : wr.cell? ⟨b, off + q * 2 + 1, none⟩ = some (.int .i64 f.2) := by rw [hb.cell hbl]; exact c1
            have hba : Below wr.heap.size wr (wr.alloc (.cells #[.int .i64 f.1, .int .i64 f.2] 40)) := (Below.refl _ _).alloc (Nat.le_refl _) _
            have hM1 := (hM.up hba).drew
            have hb1 : Below w.heap.size w (wr.alloc (.cells #[.int .i64 f.1, .int .i64 f.2] 40)).drew := (hb.trans (hba.mono hb.size)).drew
            have HS : Hid (∀ u, Below (wr.heap.size + 1) (wr.alloc (.cells #[.int .i64 f.1, .int .i64 f.2] 40)).drew u → u.cell? ⟨wr.heap.size, 0, none⟩ = some (.int .i64 f.1) ∧ u.cell? ⟨wr.heap.size, 1, none⟩ = some (.int .i64 f.2)) := fun u hu =>
              ⟨by rw [hu.cell (p := ⟨wr.heap.size, 0, none⟩) (by show wr.heap.size < _; omega)]; simp, by rw [hu.cell (p := ⟨wr.heap.size, 1, none⟩) (by show wr.heap.size < _; omega)]; simp⟩
            have HEo : Hid (Calls Try.prog 65 #[.int .i64 (k : Int), .agg #[.int .i64 f.1, .int .i64 f.2]] (wr.alloc (.cells #[.int .i64 f.1, .int .i64 f.2] 40)).drew fun e v => e = .returned (.bool true) ∧ Below (wr.heap.size + 1) (wr.alloc (.cells #[.int .i64 f.1, .int .i64 f.2] 40)).drew v ∧ MSt w.heap.size w.heap.size k P v ∧ Below w.heap.size w v) := by
              have hE := iEdgeOk_any (k : Int) f (wr.alloc (.cells #[.int .i64 f.1, .int .i64 f.2] 40)).drew
              rw [hfe] at hE
              refine hE.mono fun _ _ ⟨he, hv⟩ => ⟨he, by simpa using hv, hM1.up hv, hb1.trans (hv.mono hb1.size)⟩
            have HL1 : Hid (∀ u, MSt w.heap.size w.heap.size k P u → Calls Try.prog 66 #[.pointer (some ⟨w.heap.size, f.1.toNat * 2, none⟩)] u fun e w' => e = .returned (.pointer (some ⟨w.heap.size, R f.1.toNat * 2, none⟩)) ∧ w' = u) := fun u hu => mLeast_any hU.out u hu f.1.toNat (by omega)
            have HL2 : Hid (∀ u, MSt w.heap.size w.heap.size k P u → Calls Try.prog 66 #[.pointer (some ⟨w.heap.size, f.2.toNat * 2, none⟩)] u fun e w' => e = .returned (.pointer (some ⟨w.heap.size, R f.2.toNat * 2, none⟩)) ∧ w' = u) := fun u hu => mLeast_any hU.out u hu f.2.toNat (by omega)
            have HUC := hideIt (uf_conn hU.out hfi)
            have HF := hideIt hf
            have HFI := hideIt hfi
            have S0 : Below (wr.heap.size + 1) (wr.alloc (.cells #[.int .i64 f.1, .int .i64 f.2] 40)).drew (wr.alloc (.cells #[.int .i64 f.1, .int .i64 f.2] 40)).drew := Below.refl _ _
            obtain ⟨ra, hra⟩ : ∃ ra, R f.1.toNat = ra := ⟨_, rfl⟩
            obtain ⟨rb, hrb⟩ : ∃ rb, R f.2.toNat = rb := ⟨_, rfl⟩
            rw [hra] at HL1 HUC
            rw [hrb] at HL2 HUC
            clear hc hf c0 c1 hM hM1 hfi hfe hba hb1 hb
            by_cases hrr : ra = rb
            · subst hrr
              have HN : Hid (¬ TreeP es) := fun ht => ht q f HF.out (HUC.out.1 rfl)
              have q5 : ∀ u : World, (binOp .eql 83 (.pointer (some ⟨w.heap.size, ra * 2, none⟩)) (.pointer (some ⟨w.heap.size, ra * 2, none⟩))).run Try.prog u = .ok (.bool true) u := fun u => run_eql_ptr_same u _ Try.underlying83 him
              clear hra hrb HUC hU hT
              go_wp2
              go_region_held3 (fun u => Below (wr.heap.size + 1) (wr.alloc (.cells #[.int .i64 f.1, .int .i64 f.2] 40)).drew u ∧ (u.cell? ⟨wr.heap.size, 0, none⟩ = some (.int .i64 f.1) ∧ u.cell? ⟨wr.heap.size, 1, none⟩ = some (.int .i64 f.2)))
                (exact ⟨S0, HS.out _ S0⟩)
                (first
                  | (go_at_call 65; refine HEo.out.mono ?_; clear HEo S0; rintro e w5 ⟨rfl, S0, M5, B5⟩)
                  | (go_at_call 66; refine (HL1.out _ M5).mono ?_; clear HL1; rintro e w6 ⟨rfl, hw⟩; have hw' := hw.symm; subst hw'; clear hw)
                  | (go_at_call 66; refine (HL2.out _ M5).mono ?_; clear HL2; rintro e w6 ⟨rfl, hw⟩; have hw' := hw.symm; subst hw'; clear hw))
              have HB5 := hideIt B5
              clear S0 M5 q5 B5
              go_wp2
              go_ret
              exact ⟨false, rfl, ⟨fun h => by simp at h, fun h => absurd h HN.out⟩, HB5.out⟩
            · have HT2 : Hid (∀ j f, j < q + 1 → es[j]? = some f → ¬ Conn (es.take j) f.1 f.2) := fun j f2 hj hf2 => by
                by_cases hjq : j = q
                · subst hjq
                  rw [HF.out] at hf2
                  simp at hf2
                  subst hf2
                  exact fun hc => hrr (HUC.out.2 hc)
                · exact hT.out j f2 (by omega) hf2
              have HQ : Hid (∀ u, MSt w.heap.size w.heap.size k P u → (binOp .eql 83 (.pointer (some ⟨w.heap.size, ra * 2, none⟩)) (.pointer (some ⟨w.heap.size, rb * 2, none⟩))).run Try.prog u = .ok (.bool false) u) := fun u hu => by
                obtain ⟨ys, ho⟩ := hu.own
                rcases ho.2 with ⟨hv, _⟩ | ⟨g, cap, cur, hv, _, hgb, _⟩
                · simp at hv
                · simp at hv
                  obtain ⟨rfl, rfl⟩ := hv
                  exact run_eql_ptr_other u Try.underlying83 him (by rw [hm1]; decide) (fun e => hrr (by have := congrArg Addr.off e; dsimp only at this; omega)) hgb hgb
              have HJo : Hid (∀ u, MSt w.heap.size w.heap.size k P u → Calls Try.prog 67 #[.pointer (some ⟨w.heap.size, f.1.toNat * 2, none⟩), .pointer (some ⟨w.heap.size, f.2.toNat * 2, none⟩)] u fun x w' => x = .returned (.tuple #[]) ∧ ∃ P' R', Uf (es.take (q + 1)) k P' R' ∧ MSt w.heap.size w.heap.size k P' w' ∧ u.grownBy w' (some w.heap.size)) := fun u hu => by
                have := mJoin_any hU.out f HFI.out u hu
                rw [← take_snocF es q f HF.out] at this
                exact this
              clear hra hrb HUC hU hT
              go_wp2
              go_region_with (first
                  | (go_at_call 65; refine HEo.out.mono ?_; clear HEo S0; rintro e w5 ⟨rfl, S0, M5, B5⟩; have q5 := HQ.out w5 M5; obtain ⟨k5, k6⟩ := HS.out _ S0)
                  | (go_at_call 66; refine (HL1.out _ M5).mono ?_; clear HL1; rintro e w6 ⟨rfl, hw⟩; have hw' := hw.symm; subst hw'; clear hw)
                  | (go_at_call 66; refine (HL2.out _ M5).mono ?_; clear HL2; rintro e w6 ⟨rfl, hw⟩; have hw' := hw.symm; subst hw'; clear hw))
              all_goals
                have HM5 := hideIt M5.drew
                have HB5 := hideIt B5.drew
                have hk5 : w5.drew.cell? ⟨wr.heap.size, 0, none⟩ = some (.int .i64 f.1) ∧ w5.drew.cell? ⟨wr.heap.size, 1, none⟩ = some (.int .i64 f.2) := ⟨k5, k6⟩
                have hwr5 : wr.heap.size < w5.heap.size := by have := S0.size; simp at this; omega
                have HK6 : Hid (∀ v, w5.drew.grownBy v (some w.heap.size) → v.cell? ⟨wr.heap.size, 0, none⟩ = some (.int .i64 f.1) ∧ v.cell? ⟨wr.heap.size, 1, none⟩ = some (.int .i64 f.2)) := fun v hv =>
                  ⟨by rw [World.cell?_of_block (w := w5.drew) (hv.block wr.heap.size hwr5 (by simp; omega))]; exact hk5.1, by rw [World.cell?_of_block (w := w5.drew) (hv.block wr.heap.size hwr5 (by simp; omega))]; exact hk5.2⟩
                have HX := hideIt (HJo.out _ HM5.out)
                clear S0 M5 q5 B5 HS HQ HJo
                go_wp2
                go_region_held3 (fun v => v.cell? ⟨wr.heap.size, 0, none⟩ = some (.int .i64 f.1) ∧ v.cell? ⟨wr.heap.size, 1, none⟩ = some (.int .i64 f.2))
                  (first | exact HK6.out _ hg7 | exact hk5)
                  ((go_at_call 67; refine HX.out.mono ?_; rintro e w7 ⟨rfl, P', R', hU7, hM7, hg7⟩))
                all_goals
                  have HU7 := hideIt hU7
                  have hb7 : Below w.heap.size w w7 := HB5.out.grown hg7 (by have := HB5.out.size; exact this) (fun j e => by cases e; exact Nat.le_refl _)
                  clear hU7 hg7 HX HK6
                  go_wp2
                  exact ⟨⟨q + 1, P', R', by omega, by go_num, HU7, HT2, hM7, hb7⟩, by simp [intOf]; omega⟩
        · obtain rfl : q = n := by omega
          have HY : Hid (TreeP es) := fun j f hf => hT.out j f (by have := (List.getElem?_eq_some_iff.1 hf).1; omega) hf
          have HB := hideIt hb
          clear hU hT hM hb
          go_wp2
          go_ret
          exact ⟨true, rfl, ⟨fun _ => HY.out, fun _ => rfl⟩, HB.out⟩
end Go.Proofs.Ytcppbgkocipnlaa
