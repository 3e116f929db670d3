/- The program's treesOk: whether edges close no ring. Bridges, and edges that close no ring: pure. Places in a list of ints: the last one of a number, the first step from one number to another. A tour that is split at an edge, as lists. The program's Reroot. slices.Backward over ints: it yields each place with its number, the last one first; the program's lastPlace, which ranges over it. -/
import Derived.Test.YtgjngaaibcmgmabGreatKEdgeI6
import Derived.LaidEqlPtr
import Derived.Test.YtgjngaaibcmgmabGreatKFind6
import Derived.Test.YtgjngaaibcmgmabGreatKSRer
import Derived.RangeFuncNested
import Derived.RangeFuncBound
import Derived.RangeFuncCalls
import Derived.RangeFuncLeaves
import Derived.RangeFuncBox
import Derived.Shelf.Abstract
import Derived.Shelf.RegionOpen
import Derived.WalkKit
import Derived.OwnWalkIn
import Derived.TacticsInMore
import Derived.LoopNIn
import Derived.LoopIn
import Derived.Maps.AppendAt
namespace Go.Proofs.YtgjngaaibcmgmabGreat
open Go.RowKit

/-- no edge joins what hangs together by those ahead of it -/
def TreeP (es : List EdgeV) : Prop := ∀ (q : Nat) (f : EdgeV), es[q]? = some f → ¬ Conn (es.take q) f.1 f.2
theorem uf_conn {es : List EdgeV} {n : Nat} {P : Nat → Option Nat} {R : Nat → Nat} (h : Uf es n P R) {f : EdgeV} (hf : 0 ≤ f.1 ∧ f.1 < f.2 ∧ f.2 < (n : Int)) : R f.1.toNat = R f.2.toNat ↔ Conn es f.1 f.2 := by
  have e1 : ((f.1.toNat : Nat) : Int) = f.1 := by omega
  have e2 : ((f.2.toNat : Nat) : Int) = f.2 := by omega
  constructor
  · intro hr
    have c1 := h.conn f.1.toNat (by omega)
    have c2 := h.conn f.2.toNat (by omega)
    rw [hr] at c1
    rw [e1] at c1
    rw [e2] at c2
    exact c1.trans c2.symm
  · intro hc
    have := hc (fun x => R f.1.toNat = R x.toNat) (fun e he => by rw [h.same e he]) rfl
    exact this
set_option maxRecDepth 100000 in
set_option maxHeartbeats 8000000 in
theorem treesOk_any (nn : Nat) (es : List EdgeV) (n : Nat) (a : Option Addr) (c : Nat) (hn0 : 1 ≤ nn) (hn12 : nn ≤ 12) (hn : n ≤ 1000) (hok : ∀ e ∈ es, eB (nn : Int) e = true) (w : World) (h : Es w w.heap.size a n es) :
    Calls Tryz.prog 102 #[.int .i64 (nn : Int), .slice a n c] w fun x w' => ∃ b : Bool, x = .returned (.bool b) ∧ (b = true ↔ TreeP es) ∧ Below w.heap.size w w' := by
  obtain ⟨im, him, hm0, hm1, hm2⟩ := info_parts infoMem
  have HR := hideIt h
  have hlen := h.1
  have HOk := hideIt hok
  have HV := vertsOk_any (nn : Int) w
  rw [decide_eq_true (by omega)] at HV
  have HV1 := hideIt HV
  clear h hok HV
  have hmk : ∀ u : World, (Instr.makeSlice 132 (.int .i64 (nn : Int)) (.int .i64 (nn : Int))).run Tryz.prog u =
      .ok (.slice (some ⟨u.heap.size, 0, none⟩) nn nn) (u.alloc (.cells (madeCells #[.int .i64 0, .pointer none] (nn * 2)) 135)) := fun u => by
    have h := run_make (P := Tryz.prog) u 132 135 im _ Tryz.underlying132 him hm0 .i64 .i64 (nn : Int) (nn : Int) (by omega) (by omega) (by rw [hm2]; omega) (by omega)
    rw [Int.toNat_natCast] at h
    simpa [hm1, Value.cells] using h
  go_enter Tryz.func102, Tryz.ntmps102
  go_wp2_with (go_at_call 59; refine HV1.out.mono ?_; rintro e w1 ⟨rfl, hw⟩; have hw' := hw.symm; subst hw'; clear hw)
  go_loopw [16] (fun i wr => ∃ (k : Nat) (xs : List Value), k ≤ nn ∧ i = .int .i64 (k : Int) ∧ wr.ownsRow w.heap.size 135 2 (.slice (some ⟨w.heap.size, 0, none⟩) nn nn) nn xs ∧ Hid (∀ j, j < nn → xs[j * 2 + 1]? = some (.pointer none)) ∧ Hid (∀ j, j < k → xs[j * 2]? = some (.int .i64 (j : Int))) ∧ Below w.heap.size w wr) (fun i _ => nn - (intOf i).toNat)
  case atStart => exact ⟨0, _, by omega, rfl, World.ownsRow_lit (base := w.heap.size) (e := 135) (size := 2) w (madeCells #[.int .i64 0, .pointer none] (nn * 2)) nn (Nat.le_refl _) (by unfold maxLen; omega) (by simp [madeCells]), fun j hj => made2 nn j hj, fun j hj => by omega, (Below.refl _ _).alloc (Nat.le_refl _) _⟩
  case round =>
    obtain ⟨k, xs, hk, rfl, hown, hp, hv, hb⟩ := hrel
    have hl3 : xs.length = nn * 2 := hown.1
    by_cases hlt : k < nn
    · have b1 : (0 : Int) ≤ (k : Int) := by omega
      have b2 : (k : Int) < (nn : Int) := by omega
      have f0 := hown.frozenAt (k * 2)
      obtain ⟨y0, x0⟩ : ∃ y, wr.cell? ⟨w.heap.size, k * 2, none⟩ = some y := ⟨_, by rw [hown.cellAt (k * 2) (by omega)]; exact List.getElem?_eq_getElem (by omega)⟩
      have HO2 := hideIt (hown.stored (k * 2) (.int .i64 (k : Int))).1
      have HB2 := hideIt (hb.setCell (p := ⟨w.heap.size, k * 2, none⟩) (Nat.le_refl _) (.int .i64 (k : Int)))
      have HP2 : Hid (∀ j, j < nn → (xs.set (k * 2) (.int .i64 (k : Int)))[j * 2 + 1]? = some (.pointer none)) := fun j hj => by rw [List.getElem?_set_ne (by omega)]; exact hp.out j hj
      have HV2 : Hid (∀ j, j < k + 1 → (xs.set (k * 2) (.int .i64 (k : Int)))[j * 2]? = some (.int .i64 (j : Int))) := fun j hj => by
        by_cases hjk : j = k
        · subst hjk; rw [List.getElem?_set_self (by omega)]
        · rw [List.getElem?_set_ne (by omega)]; exact hv.out j (by omega)
      clear hown hp hv hb
      go_wp2
      exact ⟨⟨k + 1, _, by omega, by go_num, HO2.out, HP2, HV2, HB2.out⟩, by simp [intOf]; omega⟩
    · obtain rfl : k = nn := by omega
      have HM : Hid (MSt w.heap.size w.heap.size k (fun _ => none) wr) := ⟨⟨xs, hown⟩, fun i hi => ⟨by rw [hown.cellAt (i * 2) (by omega)]; exact hv.out i hi, by rw [hown.cellAt (i * 2 + 1) (by omega)]; exact hp.out i hi⟩⟩
      have HB0 := hideIt hb
      clear hown hp hv hl3 hb
      go_wp2
      go_loopw [27] (fun i wr => ∃ (q : Nat) (P : Nat → Option Nat) (R : Nat → Nat), q ≤ n ∧ i = .int .i64 (q : Int) ∧ Hid (Uf (es.take q) k P R) ∧ Hid (∀ j f, j < q → es[j]? = some f → ¬ Conn (es.take j) f.1 f.2) ∧ MSt w.heap.size w.heap.size k P wr ∧ Below w.heap.size w wr) (fun i _ => n - (intOf i).toNat)
      case atStart => exact ⟨0, _, _, by omega, rfl, by show Uf _ _ _ _; rw [List.take_zero]; exact Uf.start k, fun j f hj => by omega, HM.out, HB0.out⟩
      case round =>
        obtain ⟨q, P, R, hq, rfl, hU, hT, hM, hb⟩ := hrel
        have hg := hM.lt
        clear HM HB0
        by_cases hlt2 : q < n
        · rcases HR.out.2 with hz | ⟨b, off, rfl, hbl, hc⟩
          · omega
          · obtain ⟨f, hf⟩ : ∃ f, es[q]? = some f := ⟨es[q]'(by omega), List.getElem?_eq_getElem (by omega)⟩
            obtain ⟨c0, c1⟩ := hc q f hf
            have hfe := HOk.out f (List.mem_of_getElem? hf)
            have hfi : 0 ≤ f.1 ∧ f.1 < f.2 ∧ f.2 < (k : Int) := by unfold eB at hfe; have := of_decide_eq_true hfe; omega
            have b1 : (0 : Int) ≤ (q : Int) := by omega
            have b2 : (q : Int) < (n : Int) := by omega
            have b3 : (0 : Int) ≤ f.1 := hfi.1
            have b4 : f.1 < (k : Int) := by omega
            have b5 : (0 : Int) ≤ f.2 := by omega
            have b6 : f.2 < (k : Int) := hfi.2.2
            have e0 : wr.cell? ⟨b, off + q * 2, none⟩ = some (.int .i64 f.1) := by rw [hb.cell hbl]; exact c0
            have e1 : wr.cell? ⟨b, off + q * 2 + 1, none⟩ = some (.int .i64 f.2) := by rw [hb.cell hbl]; exact c1
            have hba : Below wr.heap.size wr (wr.alloc (.cells #[.int .i64 f.1, .int .i64 f.2] 37)) := (Below.refl _ _).alloc (Nat.le_refl _) _
            have hM1 := (hM.up hba).drew
            have hb1 : Below w.heap.size w (wr.alloc (.cells #[.int .i64 f.1, .int .i64 f.2] 37)).drew := (hb.trans (hba.mono hb.size)).drew
            have HS : Hid (∀ u, Below (wr.heap.size + 1) (wr.alloc (.cells #[.int .i64 f.1, .int .i64 f.2] 37)).drew u → u.cell? ⟨wr.heap.size, 0, none⟩ = some (.int .i64 f.1) ∧ u.cell? ⟨wr.heap.size, 1, none⟩ = some (.int .i64 f.2)) := fun u hu =>
              ⟨by rw [hu.cell (p := ⟨wr.heap.size, 0, none⟩) (by show wr.heap.size < _; omega)]; simp, by rw [hu.cell (p := ⟨wr.heap.size, 1, none⟩) (by show wr.heap.size < _; omega)]; simp⟩
            have HEo : Hid (Calls Tryz.prog 67 #[.int .i64 (k : Int), .agg #[.int .i64 f.1, .int .i64 f.2]] (wr.alloc (.cells #[.int .i64 f.1, .int .i64 f.2] 37)).drew fun e v => e = .returned (.bool true) ∧ Below (wr.heap.size + 1) (wr.alloc (.cells #[.int .i64 f.1, .int .i64 f.2] 37)).drew v ∧ MSt w.heap.size w.heap.size k P v ∧ Below w.heap.size w v) := by
              have hE := iEdgeOk_any (k : Int) f (wr.alloc (.cells #[.int .i64 f.1, .int .i64 f.2] 37)).drew
              rw [hfe] at hE
              refine hE.mono fun _ _ ⟨he, hv⟩ => ⟨he, by simpa using hv, hM1.up hv, hb1.trans (hv.mono hb1.size)⟩
            have HL1 : Hid (∀ u, MSt w.heap.size w.heap.size k P u → Calls Tryz.prog 116 #[.pointer (some ⟨w.heap.size, f.1.toNat * 2, none⟩)] u fun e w' => e = .returned (.pointer (some ⟨w.heap.size, R f.1.toNat * 2, none⟩)) ∧ w' = u) := fun u hu => mLeast_any hU.out u hu f.1.toNat (by omega)
            have HL2 : Hid (∀ u, MSt w.heap.size w.heap.size k P u → Calls Tryz.prog 116 #[.pointer (some ⟨w.heap.size, f.2.toNat * 2, none⟩)] u fun e w' => e = .returned (.pointer (some ⟨w.heap.size, R f.2.toNat * 2, none⟩)) ∧ w' = u) := fun u hu => mLeast_any hU.out u hu f.2.toNat (by omega)
            have HUC := hideIt (uf_conn hU.out hfi)
            have HF := hideIt hf
            have HFI := hideIt hfi
            have S0 : Below (wr.heap.size + 1) (wr.alloc (.cells #[.int .i64 f.1, .int .i64 f.2] 37)).drew (wr.alloc (.cells #[.int .i64 f.1, .int .i64 f.2] 37)).drew := Below.refl _ _
            obtain ⟨ra, hra⟩ : ∃ ra, R f.1.toNat = ra := ⟨_, rfl⟩
            obtain ⟨rb, hrb⟩ : ∃ rb, R f.2.toNat = rb := ⟨_, rfl⟩
            rw [hra] at HL1 HUC
            rw [hrb] at HL2 HUC
            clear hc hf c0 c1 hM hM1 hfi hfe hba hb1 hb
            by_cases hrr : ra = rb
            · subst hrr
              have HN : Hid (¬ TreeP es) := fun ht => ht q f HF.out (HUC.out.1 rfl)
              have q5 : ∀ u : World, (binOp .eql 133 (.pointer (some ⟨w.heap.size, ra * 2, none⟩)) (.pointer (some ⟨w.heap.size, ra * 2, none⟩))).run Tryz.prog u = .ok (.bool true) u := fun u => run_eql_ptr_same u _ Tryz.underlying133 him
              clear hra hrb HUC hU hT
              go_wp2
              go_region_held3 (fun u => Below (wr.heap.size + 1) (wr.alloc (.cells #[.int .i64 f.1, .int .i64 f.2] 37)).drew u ∧ (u.cell? ⟨wr.heap.size, 0, none⟩ = some (.int .i64 f.1) ∧ u.cell? ⟨wr.heap.size, 1, none⟩ = some (.int .i64 f.2)))
                (exact ⟨S0, HS.out _ S0⟩)
                (first
                  | (go_at_call 67; refine HEo.out.mono ?_; clear HEo S0; rintro e w5 ⟨rfl, S0, M5, B5⟩)
                  | (go_at_call 116; refine (HL1.out _ M5).mono ?_; clear HL1; rintro e w6 ⟨rfl, hw⟩; have hw' := hw.symm; subst hw'; clear hw)
                  | (go_at_call 116; refine (HL2.out _ M5).mono ?_; clear HL2; rintro e w6 ⟨rfl, hw⟩; have hw' := hw.symm; subst hw'; clear hw))
              have HB5 := hideIt B5
              clear S0 M5 q5 B5
              go_wp2
              go_ret
              exact ⟨false, rfl, ⟨fun h => by simp at h, fun h => absurd h HN.out⟩, HB5.out⟩
            · have HT2 : Hid (∀ j f, j < q + 1 → es[j]? = some f → ¬ Conn (es.take j) f.1 f.2) := fun j f2 hj hf2 => by
                by_cases hjq : j = q
                · subst hjq
                  rw [HF.out] at hf2
                  simp at hf2
                  subst hf2
                  exact fun hc => hrr (HUC.out.2 hc)
                · exact hT.out j f2 (by omega) hf2
              have HQ : Hid (∀ u, MSt w.heap.size w.heap.size k P u → (binOp .eql 133 (.pointer (some ⟨w.heap.size, ra * 2, none⟩)) (.pointer (some ⟨w.heap.size, rb * 2, none⟩))).run Tryz.prog u = .ok (.bool false) u) := fun u hu => by
                obtain ⟨ys, ho⟩ := hu.own
                rcases ho.2 with ⟨hv, _⟩ | ⟨g, cap, cur, hv, _, hgb, _⟩
                · simp at hv
                · simp at hv
                  obtain ⟨rfl, rfl⟩ := hv
                  exact run_eql_ptr_other u Tryz.underlying133 him (by rw [hm1]; decide) (fun e => hrr (by have := congrArg Addr.off e; dsimp only at this; omega)) hgb hgb
              have HJo : Hid (∀ u, MSt w.heap.size w.heap.size k P u → Calls Tryz.prog 117 #[.pointer (some ⟨w.heap.size, f.1.toNat * 2, none⟩), .pointer (some ⟨w.heap.size, f.2.toNat * 2, none⟩)] u fun x w' => x = .returned (.tuple #[]) ∧ ∃ P' R', Uf (es.take (q + 1)) k P' R' ∧ MSt w.heap.size w.heap.size k P' w' ∧ u.grownBy w' (some w.heap.size)) := fun u hu => by
                have := mJoin_any hU.out f HFI.out u hu
                rw [← take_snocF es q f HF.out] at this
                exact this
              clear hra hrb HUC hU hT
              go_wp2
              go_region_with (first
                  | (go_at_call 67; refine HEo.out.mono ?_; clear HEo S0; rintro e w5 ⟨rfl, S0, M5, B5⟩; have q5 := HQ.out w5 M5; obtain ⟨k5, k6⟩ := HS.out _ S0)
                  | (go_at_call 116; refine (HL1.out _ M5).mono ?_; clear HL1; rintro e w6 ⟨rfl, hw⟩; have hw' := hw.symm; subst hw'; clear hw)
                  | (go_at_call 116; refine (HL2.out _ M5).mono ?_; clear HL2; rintro e w6 ⟨rfl, hw⟩; have hw' := hw.symm; subst hw'; clear hw))
              all_goals
                have HM5 := hideIt M5.drew
                have HB5 := hideIt B5.drew
                have hk5 : w5.drew.cell? ⟨wr.heap.size, 0, none⟩ = some (.int .i64 f.1) ∧ w5.drew.cell? ⟨wr.heap.size, 1, none⟩ = some (.int .i64 f.2) := ⟨k5, k6⟩
                have hwr5 : wr.heap.size < w5.heap.size := by have := S0.size; simp at this; omega
                have HK6 : Hid (∀ v, w5.drew.grownBy v (some w.heap.size) → v.cell? ⟨wr.heap.size, 0, none⟩ = some (.int .i64 f.1) ∧ v.cell? ⟨wr.heap.size, 1, none⟩ = some (.int .i64 f.2)) := fun v hv =>
                  ⟨by rw [World.cell?_of_block (w := w5.drew) (hv.block wr.heap.size hwr5 (by simp; omega))]; exact hk5.1, by rw [World.cell?_of_block (w := w5.drew) (hv.block wr.heap.size hwr5 (by simp; omega))]; exact hk5.2⟩
                have HX := hideIt (HJo.out _ HM5.out)
                clear S0 M5 q5 B5 HS HQ HJo
                go_wp2
                go_region_held3 (fun v => v.cell? ⟨wr.heap.size, 0, none⟩ = some (.int .i64 f.1) ∧ v.cell? ⟨wr.heap.size, 1, none⟩ = some (.int .i64 f.2))
                  (first | exact HK6.out _ hg7 | exact hk5)
                  ((go_at_call 117; refine HX.out.mono ?_; rintro e w7 ⟨rfl, P', R', hU7, hM7, hg7⟩))
                all_goals
                  have HU7 := hideIt hU7
                  have hb7 : Below w.heap.size w w7 := HB5.out.grown hg7 (by have := HB5.out.size; exact this) (fun j e => by cases e; exact Nat.le_refl _)
                  clear hU7 hg7 HX HK6
                  go_wp2
                  exact ⟨⟨q + 1, P', R', by omega, by go_num, HU7, HT2, hM7, hb7⟩, by simp [intOf]; omega⟩
        · obtain rfl : q = n := by omega
          have HY : Hid (TreeP es) := fun j f hf => hT.out j f (by have := (List.getElem?_eq_some_iff.1 hf).1; omega) hf
          have HB := hideIt hb
          clear hU hT hM hb
          go_wp2
          go_ret
          exact ⟨true, rfl, ⟨fun _ => HY.out, fun _ => rfl⟩, HB.out⟩
end Go.Proofs.YtgjngaaibcmgmabGreat
namespace Go.Proofs.YtgjngaaibcmgmabGreat
open Go.RowKit

theorem Bridge.sub {es fs : List EdgeV} (h : Bridge es) (hs : ∀ e ∈ fs, e ∈ es) : Bridge fs := fun e he => by
  obtain ⟨S, a, b, c⟩ := h e (hs e he)
  exact ⟨S, a, b, fun d hd => c d (hs d hd)⟩
theorem flip_iff {a b c d : Prop} (h1 : ¬ (a ↔ b)) (h2 : ¬ (c ↔ d)) : (a ↔ ¬ c) ↔ (b ↔ ¬ d) := by
  by_cases ha : a <;> by_cases hb : b <;> by_cases hc : c <;> by_cases hd : d <;> simp_all
theorem flip_same {a b c d : Prop} (h1 : a ↔ b) (h2 : c ↔ d) : (a ↔ ¬ c) ↔ (b ↔ ¬ d) := by rw [h1, h2]
/-- one more edge, between what does not hang together -/
theorem Bridge.add {es : List EdgeV} (h : Bridge es) {f : EdgeV} (hf : ¬ Conn es f.1 f.2) {fs : List EdgeV} (hs : ∀ e ∈ fs, e ∈ es ∨ e = f) : Bridge fs := by
  intro e he
  by_cases hef : e = f
  · subst hef
    refine ⟨fun x => ¬ Conn es e.1 x, hf, fun h => h (Conn.refl _ _), fun d hd hne => ?_⟩
    rcases hs d hd with h1 | h1
    · exact not_congr ⟨fun h2 => h2.trans (Conn.edge h1), fun h2 => h2.trans (Conn.edge h1).symm⟩
    · exact absurd h1 hne
  · have he1 : e ∈ es := (hs e he).resolve_right hef
    obtain ⟨S, a, b, c⟩ := h e he1
    by_cases hS : S f.1 ↔ S f.2
    · refine ⟨S, a, b, fun d hd hne => ?_⟩
      rcases hs d hd with h1 | h1
      · exact c d h1 hne
      · subst h1; exact hS
    · have key : ∀ g : Int, ¬ Conn es g e.1 → ¬ (Conn es g f.1 ↔ Conn es g f.2) → ∃ S : Int → Prop, S e.2 ∧ ¬ S e.1 ∧ ∀ d ∈ fs, d ≠ e → (S d.1 ↔ S d.2) := fun g hg hC => by
        have hg2 : ¬ Conn es g e.2 := fun h2 => hg (h2.trans (Conn.edge he1).symm)
        refine ⟨fun x => S x ↔ ¬ Conn es g x, ⟨fun _ => hg2, fun _ => a⟩, fun h2 => b (h2.2 hg), fun d hd hne => ?_⟩
        rcases hs d hd with h1 | h1
        · exact flip_same (c d h1 hne) ⟨fun h2 => h2.trans (Conn.edge h1), fun h2 => h2.trans (Conn.edge h1).symm⟩
        · subst h1; exact flip_iff hS hC
      by_cases hC : Conn es f.1 e.1
      · exact key f.2 (fun h2 => hf (hC.trans h2.symm)) (fun h2 => hf (h2.2 (Conn.refl _ _)).symm)
      · exact key f.1 hC (fun h2 => hf (h2.1 (Conn.refl _ _)))
theorem TreeP.bridge {es : List EdgeV} (h : TreeP es) : Bridge es := by
  have key : ∀ k, Bridge (es.take k) := by
    intro k
    induction k with
    | zero => intro e he; simp at he
    | succ k ih =>
      cases hk : es[k]? with
      | none =>
        rw [List.take_add_one, hk]
        simpa using ih
      | some f =>
        refine ih.add (h k f hk) fun e he => ?_
        rw [List.take_add_one, hk] at he
        simpa using he
  have := key es.length
  rwa [List.take_length] at this
theorem Bridge.tree {es : List EdgeV} (h : Bridge es) (hn : es.Nodup) : TreeP es := fun q f hf hc => by
  obtain ⟨S, a, b, c⟩ := h f (List.mem_of_getElem? hf)
  have hq := (List.getElem?_eq_some_iff.1 hf).1
  refine hc (fun x => ¬ S x) (fun e he => not_congr (c e (List.mem_of_mem_take he) fun e2 => ?_)) b a
  subst e2
  obtain ⟨i, hi⟩ := List.mem_iff_getElem?.1 he
  have hi1 := (List.getElem?_eq_some_iff.1 hi).1
  rw [List.length_take] at hi1
  rw [List.getElem?_take_of_lt (by omega)] at hi
  obtain ⟨_, e3⟩ := List.getElem?_eq_some_iff.1 hi
  obtain ⟨_, e4⟩ := List.getElem?_eq_some_iff.1 hf
  have := (List.pairwise_iff_getElem.1 hn) i q (by omega) hq (by omega)
  rw [e3, e4] at this
  exact this rfl
theorem treeP_iff {es : List EdgeV} (hn : es.Nodup) : TreeP es ↔ Bridge es := ⟨fun h => h.bridge, fun h => h.tree hn⟩
end Go.Proofs.YtgjngaaibcmgmabGreat
namespace Go.Proofs.YtgjngaaibcmgmabGreat
open Go.RowKit

theorem goP_at {ls : List Int} {u v f g : Int} {k : Nat} (hf : ls[k]? = some f) (hg : ls[k + 1]? = some g) : goP ls u v k = (f == u && g == v) := by simp [goP, hf, hg]

end Go.Proofs.YtgjngaaibcmgmabGreat
namespace Go.Proofs.YtgjngaaibcmgmabGreat
open Go.RowKit

/-- a place of a step that is there -/
theorem go_at {t : List Int} {u v : Int} : (∃ k : Nat, goI t u v = (k : Int) ∧ k + 1 < t.length ∧ t[k]? = some u ∧ t[k + 1]? = some v ∧ ∀ j, j < k → goP t u v j = false) ∨ (goI t u v = -1 ∧ ∀ j, j + 1 < t.length → goP t u v j = false) := by
  rcases firstN_cases (goP t u v) (t.length - 1) with ⟨k, h1, h2, h3, h4⟩ | ⟨h1, h2⟩
  · refine .inl ⟨k, h4, by omega, ?_, ?_, h3⟩
    · simp [goP] at h2; exact h2.1
    · simp [goP] at h2; exact h2.2
  · exact .inr ⟨h2, fun j hj => h1 j (by omega)⟩

/-- the step from u to v is in the list -/
theorem goP_append_right {a b : List Int} {u v : Int} {j : Nat} (h : goP b u v j = true) : goP (a ++ b) u v (a.length + j) = true := by
  simp [goP] at h ⊢
  exact ⟨by rw [List.getElem?_append_right (by omega)]; simpa using h.1, by rw [List.getElem?_append_right (by omega)]; simpa [show a.length + j + 1 - a.length = j + 1 by omega] using h.2⟩

/-- a way that has the step from p up to q, or on whose way down q stands right above p, sees the step p to q: a walk that has gone down from q to p and comes to its end at the root goes back from p to q -/
theorem up_there {r : List Int} {w s w' s' : List Int} {p q : Int} {A B : List Int} (h : trun w s r = some (w', s')) (hw : w = A ++ p :: q :: B) (hl : w'.length ≤ B.length + 1) (x : List Int) (hx : w.head? = (x.getLast?)) :
    ∃ j, goP (x ++ r) p q j = true := by
  induction r generalizing w s A x with
  | nil =>
    simp [trun] at h
    rw [← h.1, hw] at hl
    simp at hl
    omega
  | cons v r ih =>
    have hxv : (x ++ [v]).getLast? = some v := by simp
    rcases trun_cons h with ⟨hu, h1⟩ | ⟨hu, hs, h1⟩
    · obtain ⟨c, z, e⟩ := isUp_some hu
      cases A with
      | nil =>
        rw [hw] at e
        simp at e
        obtain ⟨rfl, rfl, _⟩ := e
        -- the step is here
        rw [hw] at hx
        simp at hx
        rcases List.eq_nil_or_concat x with rfl | ⟨y, z2, e2⟩
        · simp at hx
        · rw [List.concat_eq_append] at e2
          subst e2
          simp at hx
          subst hx
          refine ⟨y.length, ?_⟩
          simp [goP]
      | cons d A =>
        have hw2 : w.tail = A ++ p :: q :: B := by rw [hw]; rfl
        have hh : w.tail.head? = some v := by rw [e]; rfl
        obtain ⟨j, hj⟩ := ih h1 hw2 (x ++ [v]) (by rw [hh, hxv])
        rw [List.append_assoc] at hj
        exact ⟨j, hj⟩
    · obtain ⟨j, hj⟩ := ih h1 (A := v :: A) (by rw [hw]; rfl) (x ++ [v]) (by rw [hxv]; rfl)
      rw [List.append_assoc] at hj
      exact ⟨j, hj⟩

theorem goP_append_left {a b : List Int} {u v : Int} {j : Nat} (h : goP a u v j = true) : goP (a ++ b) u v j = true := by
  simp [goP] at h ⊢
  have h1 := (List.getElem?_eq_some_iff.1 h.1).1
  have h2 := (List.getElem?_eq_some_iff.1 h.2).1
  exact ⟨by rw [List.getElem?_append_left h1]; exact h.1, by rw [List.getElem?_append_left h2]; exact h.2⟩
/-- where c stands right above p on the way, the list x has gone from p to c -/
def Adj (w x : List Int) : Prop := ∀ A c p B, w = A ++ c :: p :: B → ∃ j, goP x p c j = true
theorem adj_run {r : List Int} {w s w' s' x : List Int} (h : trun w s r = some (w', s')) (hA : Adj w x) (hx : w.head? = x.getLast?) : Adj w' (x ++ r) := by
  induction r generalizing w s x with
  | nil =>
    simp [trun] at h
    rw [← h.1, List.append_nil]
    exact hA
  | cons v r ih =>
    have hxv : (x ++ [v]).getLast? = some v := by simp
    rcases trun_cons h with ⟨hu, h1⟩ | ⟨hu, hs, h1⟩
    · obtain ⟨c, z, e⟩ := isUp_some hu
      have h2 : Adj w.tail (x ++ [v]) := fun A c2 p B e2 => by
        obtain ⟨j, hj⟩ := hA (c :: A) c2 p B (by rw [e] at e2 ⊢; simp at e2; rw [e2]; rfl)
        exact ⟨j, goP_append_left hj⟩
      have := ih h1 h2 (by rw [hxv, e]; rfl)
      rw [List.append_assoc] at this
      exact this
    · have h2 : Adj (v :: w) (x ++ [v]) := fun A c2 p B e2 => by
        cases A with
        | nil =>
          simp at e2
          obtain ⟨rfl, e2⟩ := e2
          rw [e2] at hx
          simp at hx
          rcases List.eq_nil_or_concat x with rfl | ⟨y, z2, e3⟩
          · simp at hx
          · rw [List.concat_eq_append] at e3
            subst e3
            simp at hx
            subst hx
            exact ⟨y.length, by simp [goP]⟩
        | cons d A =>
          simp at e2
          obtain ⟨j, hj⟩ := hA A c2 p B e2.2
          exact ⟨j, goP_append_left hj⟩
      have := ih h1 h2 (by rw [hxv]; rfl)
      rw [List.append_assoc] at this
      exact this
/-- a right tour that goes along an edge goes back, too -/
theorem go_back {t : List Int} {u v : Int} (hB : tB t = true) {k : Nat} (h1 : t[k]? = some u) (h2 : t[k + 1]? = some v) : ∃ j, goP t v u j = true := by
  obtain ⟨_, x0, s0, hrun⟩ := (tB_iff t).1 hB
  have hk1 := (List.getElem?_eq_some_iff.1 h2).1
  obtain ⟨Y, hY⟩ : ∃ Y, Y = t.drop (k + 2) := ⟨_, rfl⟩
  have e1 : t = t.take (k + 1) ++ (v :: Y) := by
    rw [hY]
    have := List.take_append_drop (k + 1) t
    rw [List.drop_eq_getElem_cons hk1] at this
    have e : t[k + 1] = v := by rw [List.getElem?_eq_getElem hk1] at h2; simpa using h2
    rw [e] at this
    exact this.symm
  have e2 : t.take (k + 1) = t.take k ++ [u] := take_snocF t k u h1
  have hr := hrun
  rw [e1, trun_append] at hr
  cases hq : trun [] [] (t.take (k + 1)) with
  | none => rw [hq] at hr; simp at hr
  | some z =>
    obtain ⟨w, s⟩ := z
    rw [hq] at hr
    simp only [Option.bind_some] at hr
    have htop : w.head? = some u := by rw [e2] at hq; exact trun_top hq
    have hlast : (t.take (k + 1)).getLast? = some u := by rw [e2]; simp
    rcases trun_cons hr with ⟨hu, h3⟩ | ⟨hu, hs, h3⟩
    · obtain ⟨c, z, e⟩ := isUp_some hu
      rw [e] at htop
      simp at htop
      subst htop
      have hadj := adj_run (x := []) hq (fun A c p B e => by simp at e) rfl
      rw [List.nil_append] at hadj
      obtain ⟨j, hj⟩ := hadj [] c v z (by rw [e]; rfl)
      rw [e1]
      exact ⟨j, goP_append_left hj⟩
    · cases w with
      | nil => simp at htop
      | cons c B =>
        simp at htop
        subst htop
        obtain ⟨j, hj⟩ := up_there (A := []) (p := v) (q := c) (B := B) h3 rfl (by simp) [v] rfl
        refine ⟨(t.take (k + 1)).length + j, ?_⟩
        have := goP_append_right (a := t.take (k + 1)) hj
        rw [show t.take (k + 1) ++ ([v] ++ Y) = t from e1.symm] at this
        exact this
theorem go_both {t : List Int} {u v : Int} (hB : tB t = true) {k : Nat} (hk : goI t u v = (k : Int)) : ∃ p : Nat, goI t v u = (p : Int) ∧ p + 1 < t.length ∧ k + 1 < t.length := by
  rcases go_at (t := t) (u := u) (v := v) with ⟨k2, e, hkl, h1, h2, _⟩ | ⟨e, _⟩
  · have hkk : k = k2 := by omega
    subst hkk
    obtain ⟨j, hj⟩ := go_back hB h1 h2
    rcases go_at (t := t) (u := v) (v := u) with ⟨p, e2, hp, _⟩ | ⟨_, hn⟩
    · exact ⟨p, e2, hp, hkl⟩
    · have hj1 : j + 1 < t.length := by
        simp [goP] at hj
        exact (List.getElem?_eq_some_iff.1 hj.2).1
      rw [hn j hj1] at hj
      simp at hj
  · omega

/-- the part with the root, and the other one -/
def spT (t : List Int) (d p : Nat) : List Int × List Int × Bool := (t.take (d + 1) ++ t.drop (p + 2), (t.take (p + 1)).drop (d + 1), true)
/-- a tour, split at the edge of u and v -/
def spO (t : List Int) (u v : Int) : List Int × List Int × Bool :=
  if tB t = true ∧ 0 ≤ goI t u v then spT t (min (goI t u v) (goI t v u)).toNat (max (goI t u v) (goI t v u)).toNat else ([], [], false)
theorem spO_len (t : List Int) (u v : Int) : (spO t u v).1.length ≤ 200 ∧ (spO t u v).2.1.length ≤ 200 := by
  unfold spO
  by_cases h : tB t = true ∧ 0 ≤ goI t u v
  · rw [if_pos h]
    have := tB_len h.1
    simp [spT]
    omega
  · rw [if_neg h]; simp

/-- the answer: two lists, each of its own, and whether there are any -/
def T2Ans (w : World) (o : List Int × List Int × Bool) (e : Ending) (w' : World) : Prop :=
  ∃ a m c a' m' c' mid, e = .returned (.tuple #[.slice a m c, .slice a' m' c', .bool o.2.2]) ∧ w.heap.size ≤ mid ∧ RBox w' w.heap.size mid a m c o.1 ∧ RBox w' mid w'.heap.size a' m' c' o.2.1 ∧ Below w.heap.size w w'
/-- the same, where both may lie at one place -/
def S2Ans (w : World) (o : List Int × List Int × Bool) (e : Ending) (w' : World) : Prop :=
  ∃ a m c a' m' c', e = .returned (.tuple #[.slice a m c, .slice a' m' c', .bool o.2.2]) ∧ RBox w' w.heap.size w'.heap.size a m c o.1 ∧ RBox w' w.heap.size w'.heap.size a' m' c' o.2.1 ∧ Below w.heap.size w w'
theorem t2_no {w u : World} {o : List Int × List Int × Bool} (ho : o = ([], [], false)) (h : Below w.heap.size w u) : T2Ans w o (.returned (.tuple #[.slice none 0 0, .slice none 0 0, .bool false])) u := by
  subst ho
  exact ⟨none, 0, 0, none, 0, 0, w.heap.size, rfl, Nat.le_refl _, ⟨World.ownsRow_nil _ _ _ _, fun g hg => by simp [Value.ownBlock] at hg, h.size⟩, ⟨World.ownsRow_nil _ _ _ _, fun g hg => by simp [Value.ownBlock] at hg, Nat.le_refl _⟩, h⟩
end Go.Proofs.YtgjngaaibcmgmabGreat
namespace Go.Proofs.YtgjngaaibcmgmabGreat
open Go.RowKit

end Go.Proofs.YtgjngaaibcmgmabGreat
namespace Go.Proofs.YtgjngaaibcmgmabGreat
open Go.RowKit Go.Shelf
attribute [local go_sem] Oper.semAt_some

/-- a place and what stands there, as yield takes it -/
abbrev plV (x : Int × Int) : Array Value := #[.int .i64 x.1, .int .i64 x.2]
/-- what has come: the places from the last one down -/
def Bw (ls : List Int) (pre : List (Int × Int)) : Prop := pre.length ≤ ls.length ∧ ∀ (j : Nat) (x : Int × Int), pre[j]? = some x → x.1 = (ls.length : Int) - 1 - (j : Int) ∧ ls[ls.length - 1 - j]? = some x.2
theorem Bw.nil (ls : List Int) : Bw ls [] := ⟨by simp, fun j x h => by simp at h⟩
theorem Bw.snoc {ls : List Int} {pre : List (Int × Int)} (h : Bw ls pre) {k : Nat} {f : Int} (hk : pre.length + (k + 1) = ls.length) (hf : ls[k]? = some f) : Bw ls (pre ++ [((k : Int), f)]) := by
  refine ⟨by simp; omega, fun j x hx => ?_⟩
  by_cases hj : j < pre.length
  · rw [List.getElem?_append_left hj] at hx
    exact h.2 j x hx
  · rw [List.getElem?_append_right (by omega)] at hx
    have h0 : j - pre.length = 0 := by
      have := (List.getElem?_eq_some_iff.1 hx).1
      simp at this
      omega
    rw [h0] at hx
    simp at hx
    subst hx
    refine ⟨by show (k : Int) = _; omega, ?_⟩
    rw [show ls.length - 1 - j = k by omega]
    exact hf

theorem lst_at {ls : List Int} {v : Int} {p : Nat} (hp : ls[p]? = some v) (hn : ∀ j, p < j → j < ls.length → ls[j]? ≠ some v) : lstI ls v = (p : Int) := by
  rcases lastN_cases (atP ls v) ls.length with ⟨k, h1, h2, h3, h4⟩ | ⟨h1, _⟩
  · have hk : ls[k]? = some v := by simpa [atP] using h2
    have hpl := (List.getElem?_eq_some_iff.1 hp).1
    rcases Nat.lt_trichotomy k p with h | h | h
    · have := h3 p h hpl
      rw [atP_yes hp] at this
      simp at this
    · rw [← h]; exact h4
    · exact absurd hk (hn k h h1)
  · have := h1 p (List.getElem?_eq_some_iff.1 hp).1
    rw [atP_yes hp] at this
    simp at this
theorem lst_none {ls : List Int} {v : Int} (hn : ∀ j, j < ls.length → ls[j]? ≠ some v) : lstI ls v = -1 := by
  rcases lastN_cases (atP ls v) ls.length with ⟨k, h1, h2, h3, h4⟩ | ⟨_, h2⟩
  · exact absurd (by simpa [atP] using h2) (hn k h1)
  · exact h2
theorem bw_stop {ls : List Int} {v : Int} {pre : List (Int × Int)} {x : Int × Int} (h : Bw ls (pre ++ [x])) (hx : x.2 = v) (hn : ∀ y ∈ pre, y.2 ≠ v) : lstI ls v = x.1 := by
  have hl := h.1
  simp at hl
  obtain ⟨h1, h2⟩ := h.2 pre.length x (by simp)
  rw [h1, show (ls.length : Int) - 1 - (pre.length : Int) = ((ls.length - 1 - pre.length : Nat) : Int) by omega]
  refine lst_at (by rw [h2, hx]) fun j hj hjl e => ?_
  obtain ⟨y, hy⟩ : ∃ y, pre[ls.length - 1 - j]? = some y := ⟨pre[ls.length - 1 - j]'(by omega), List.getElem?_eq_getElem (by omega)⟩
  obtain ⟨_, h4⟩ := h.2 (ls.length - 1 - j) y (by rw [List.getElem?_append_left (by omega)]; exact hy)
  rw [show ls.length - 1 - (ls.length - 1 - j) = j by omega, e] at h4
  exact hn y (List.mem_of_getElem? hy) (by simpa using h4.symm)
theorem bw_done {ls : List Int} {v : Int} {pre : List (Int × Int)} (h : Bw ls pre) (hl : pre.length = ls.length) (hn : ∀ y ∈ pre, y.2 ≠ v) : lstI ls v = -1 := by
  refine lst_none fun j hj e => ?_
  obtain ⟨y, hy⟩ : ∃ y, pre[ls.length - 1 - j]? = some y := ⟨pre[ls.length - 1 - j]'(by omega), List.getElem?_eq_getElem (by omega)⟩
  obtain ⟨_, h4⟩ := h.2 (ls.length - 1 - j) y hy
  rw [show ls.length - 1 - (ls.length - 1 - j) = j by omega, e] at h4
  exact hn y (List.mem_of_getElem? hy) (by simpa using h4.symm)

end Go.Proofs.YtgjngaaibcmgmabGreat
