/- Rows of numbers, marked one behind the other: pure. toIntS: a list of ints laid anew. The laws' own functions over forests. The program's shareOut and ForestOk. The program's placeTold, TreeOf and SizeOf. The program's plantable and ForestAt, where the graph is right. -/
import Derived.Test.YtpfkfbmghddepaaGreatKFB7
import Derived.Test.YtpfkfbmghddepaaGreatKLd9
import Derived.Test.YtpfkfbmghddepaaGreatKSTour
import Derived.Test.YtpfkfbmghddepaaGreatKTourT
import Derived.Test.YtpfkfbmghddepaaGreatKWb9
import Derived.Test.YtpfkfbmghddepaaGreatKMem6
import Derived.Test.YtpfkfbmghddepaaGreatKInG6
import Derived.Test.YtpfkfbmghddepaaGreatKITn9
namespace Go.Proofs.YtpfkfbmghddepaaGreat
open Go.RowKit

/-- how many numbers the rows have -/
def rn : List Rw → Nat
  | [] => 0
  | r :: R => r.t.length + rn R
theorem rn_app (P S : List Rw) : rn (P ++ S) = rn P + rn S := by
  induction P with
  | nil => simp [rn]
  | cons r P ih => simp only [List.cons_append, rn, ih]; omega
/-- the rows marked from k on -/
def mkR : Nat → List Rw → List Rw
  | _, [] => []
  | k, r :: R => ⟨r.g, r.cp, imarks k r.t.length⟩ :: mkR (k + r.t.length) R
theorem imarks_len (k n : Nat) : (imarks k n).length = n := by simp [imarks]
theorem mkR_len (k : Nat) (R : List Rw) : (mkR k R).length = R.length := by
  induction R generalizing k with
  | nil => rfl
  | cons r R ih => simp [mkR, ih]
theorem mkR_rn (k : Nat) (R : List Rw) : rn (mkR k R) = rn R := by
  induction R generalizing k with
  | nil => rfl
  | cons r R ih => simp [mkR, rn, ih, imarks_len]
theorem mkR_snoc (k : Nat) (P : List Rw) (r : Rw) : mkR k (P ++ [r]) = mkR k P ++ [⟨r.g, r.cp, imarks (k + rn P) r.t.length⟩] := by
  induction P generalizing k with
  | nil => simp [mkR, rn]
  | cons x P ih => simp only [List.cons_append, mkR, ih, rn, Nat.add_assoc]
theorem mkR_at {k j : Nat} {R : List Rw} {r : Rw} (h : R[j]? = some r) : (mkR k R)[j]? = some ⟨r.g, r.cp, imarks (k + rn (R.take j)) r.t.length⟩ := by
  induction R generalizing k j with
  | nil => simp at h
  | cons x R ih =>
    cases j with
    | zero => simp at h; subst h; simp [mkR, rn]
    | succ j =>
      simp at h
      simp only [mkR, List.getElem?_cons_succ, List.take_succ_cons, rn]
      rw [ih h, Nat.add_assoc]
theorem split_at {α : Type} {R : List α} {i : Nat} {r : α} (h : R[i]? = some r) : R.drop i = r :: R.drop (i + 1) := by
  obtain ⟨hi, rfl⟩ := List.getElem?_eq_some_iff.1 h
  exact List.drop_eq_getElem_cons hi
theorem rn_take {R : List Rw} {i : Nat} {r : Rw} (h : R[i]? = some r) : rn (R.take (i + 1)) = rn (R.take i) + r.t.length := by
  rw [take_snocF R i r h, rn_app]
  simp [rn]
theorem rn_take_le (R : List Rw) (i : Nat) : rn (R.take i) ≤ rn R := by
  have := rn_app (R.take i) (R.drop i)
  rw [List.take_append_drop] at this
  omega
theorem rn_at {R : List Rw} {i : Nat} {r : Rw} (h : R[i]? = some r) : rn (R.take i) + r.t.length ≤ rn R := by
  rw [← rn_take h]
  exact rn_take_le R (i + 1)
end Go.Proofs.YtpfkfbmghddepaaGreat
namespace Go.Proofs.YtpfkfbmghddepaaGreat
open Go.RowKit

set_option maxHeartbeats 1000000 in
theorem toIntS_any (ls : List Int) (n : Nat) (a : Option Addr) (cap : Nat) (hn : n ≤ 1048576) (w : World) (h : Is w w.heap.size a n ls) :
    Calls Tryz.prog 182 #[.slice a n cap] w fun e w' => ∃ g, e = .returned (.slice (some ⟨g, 0, none⟩) n n) ∧ w'.ownsRow w.heap.size 3 1 (.slice (some ⟨g, 0, none⟩) n n) n (ic ls) ∧ Below w.heap.size w w' := by
  obtain ⟨i0, hi, hz0, hz1, hz2⟩ := info_parts info3i
  obtain ⟨hlen, hrow⟩ := h
  have hmk : ∀ u : World, (Instr.makeSlice 44 (.int .i64 (n : Int)) (.int .i64 (n : Int))).run Tryz.prog u =
      .ok (.slice (some ⟨u.heap.size, 0, none⟩) n n) (u.alloc (.cells (madeCells #[.int .i64 0] n) 3)) := fun u => by
    have h := run_make (P := Tryz.prog) u 44 3 i0 _ Tryz.underlying44 hi hz0 .i64 .i64 (n : Int) (n : Int) (by omega) (by omega) (by rw [hz2]; omega) (by omega)
    rw [Int.toNat_natCast] at h
    simpa [hz1, Value.cells] using h
  have HR := hideIt hrow
  clear hrow
  go_enter Tryz.func182, Tryz.ntmps182
  go_wp2
  go_loopw [4] (fun i wr => ∃ (k : Nat) (xs : List Value), k ≤ n ∧ i = .int .i64 (k : Int) ∧ Hid (xs.take k = ic (ls.take k)) ∧ wr.ownsRow w.heap.size 3 1 (.slice (some ⟨w.heap.size, 0, none⟩) n n) n xs ∧ Below w.heap.size w wr)
    (fun i _ => n - (intOf i).toNat)
  case atStart => exact ⟨0, _, by omega, rfl, by show _ = _; simp [ic], World.ownsRow_lit (base := w.heap.size) (e := 3) (size := 1) w (madeCells #[.int .i64 0] n) n (Nat.le_refl _) (by unfold maxLen; omega) (by simp [madeCells]), (Below.refl _ _).alloc (Nat.le_refl _) _⟩
  case round =>
    obtain ⟨k, xs, hk, rfl, hx, hown, hb⟩ := hrel
    have hl3 : xs.length = n * 1 := hown.1
    by_cases hlt : k < n
    · rcases HR.out with hz | ⟨b, off, rfl, hbl, hc⟩
      · omega
      · obtain ⟨f, hf⟩ : ∃ f, ls[k]? = some f := ⟨ls[k]'(by omega), List.getElem?_eq_getElem (by omega)⟩
        have e0 : wr.cell? ⟨b, off + k, none⟩ = some (.int .i64 f) := by rw [hb.cell hbl]; exact hc k f hf
        have b1 : (0 : Int) ≤ (k : Int) := by omega
        have b2 : (k : Int) < (n : Int) := by omega
        have HTk := hideIt (take_snocF ls k f hf)
        have f0 := hown.frozenAt k
        have x0 : wr.cell? ⟨w.heap.size, k, none⟩ = some (xs[k]'(by omega)) := by rw [hown.cellAt k (by omega)]; exact List.getElem?_eq_getElem (by omega)
        clear hc hf
        go_wp2
        refine ⟨⟨k + 1, xs.set k (.int .i64 f), by omega, by go_num, ?_, (hown.stored k _).1, hb.setCell (Nat.le_refl _) _⟩, by simp [intOf]; omega⟩
        show _ = _
        rw [HTk.out, List.take_add_one, List.take_set_of_le (Nat.le_refl _), hx.out]
        simp [ic, show k < xs.length by omega]
    · have e : ls.take k = ls := List.take_of_length_le (by omega)
      have HX : Hid (xs = ic ls) := by
        show _ = _
        have := hx.out
        rw [e, List.take_of_length_le (by omega)] at this
        exact this
      have HO := hideIt hown
      clear hx e hown hl3
      go_wp2
      go_ret
      exact ⟨w.heap.size, rfl, by rw [← HX.out]; exact HO.out, hb⟩

end Go.Proofs.YtpfkfbmghddepaaGreat
namespace Go.Proofs.YtpfkfbmghddepaaGreat
open Go.RowKit

/-- how many numbers the lists have -/
def lnS (ts : List (List Int)) : Nat := (ts.map List.length).sum
theorem lnS_snoc (ts : List (List Int)) (t : List Int) : lnS (ts ++ [t]) = lnS ts + t.length := by simp [lnS]
theorem lnS_take {ts : List (List Int)} {k : Nat} {t : List Int} (h : ts[k]? = some t) : lnS (ts.take (k + 1)) = lnS (ts.take k) + t.length := by
  rw [take_snocF ts k t h, lnS_snoc]
theorem lnS_take_le (ts : List (List Int)) (k : Nat) : lnS (ts.take k) ≤ lnS ts := by
  have : lnS ts = lnS (ts.take k) + lnS (ts.drop k) := by
    conv => lhs; rw [← List.take_append_drop k ts]
    rw [lnS, List.map_append, List.sum_append]
    rfl
  omega
theorem lnS_at {ts : List (List Int)} {k : Nat} {t : List Int} (h : ts[k]? = some t) : lnS (ts.take k) + t.length ≤ lnS ts := by
  rw [← lnS_take h]
  exact lnS_take_le ts (k + 1)
theorem lnS_mem {ts : List (List Int)} {t : List Int} (h : t ∈ ts) : t.length ≤ lnS ts := by
  obtain ⟨k, hk⟩ := List.mem_iff_getElem?.1 h
  have := lnS_at hk
  omega
theorem rn_lnS (R : List Rw) : rn R = lnS (rts R) := by
  induction R with
  | nil => rfl
  | cons r R ih => simp only [rn, ih]; simp [lnS, rts]
theorem lnS_zero (ts : List (List Int)) : lnS (ts.take 0) = 0 := by simp [lnS]

/-- what is left of the room -/
def szv (n : Nat) (ts : List (List Int)) : Int := if n + lnS ts ≤ 1048576 then 1048576 - (n : Int) - (lnS ts : Int) else -1

theorem szIntS_yes (n : Nat) (a : Option Addr) (c : Nat) (l : Int) (h : (n : Int) ≤ l) (hl : l ≤ 1048576) (w : World) : Calls Tryz.prog 178 #[.slice a n c, .int .i64 l] w fun e w' => e = .returned (.int .i64 (l - (n : Int))) ∧ w' = w := by
  have d1 : decide (l - (n : Int) < 0) = false := decide_eq_false (by omega)
  go_enter Tryz.func178, Tryz.ntmps178
  go_wp2
  go_ret
  exact ⟨rfl, rfl⟩
theorem szIntS_no (n : Nat) (a : Option Addr) (c : Nat) (l : Int) (h0 : 0 ≤ l) (h : l < (n : Int)) (hn : n ≤ maxLen) (w : World) : Calls Tryz.prog 178 #[.slice a n c, .int .i64 l] w fun e w' => e = .returned (.int .i64 (-1)) ∧ w' = w := by
  unfold maxLen at hn
  have d1 : decide (l - (n : Int) < 0) = true := decide_eq_true (by omega)
  go_enter Tryz.func178, Tryz.ntmps178
  go_wp2
  go_ret
  exact ⟨rfl, rfl⟩

theorem infoIT : (Tryz.prog.info? 44).map (fun i => (i.zero, i.size, i.bytes)) = some (some (.slice none 0 0), 1, 24) := by kernel_rfl

/-- rows in the making: k of n are laid -/
structure FMk (w : World) (n : Nat) (R : List Rw) (u : World) : Prop where
  xs : ∃ xs : List Value, u.ownsRow w.heap.size 44 1 (.slice (some ⟨w.heap.size, 0, none⟩) n n) n xs ∧ xs.take R.length = rhs R
  ins : ∀ r ∈ R, RwB u r ∧ w.heap.size < r.g
  nod : R.Pairwise fun r s => r.g ≠ s.g
  bel : Below w.heap.size w u
theorem FMk.fb {w u : World} {n : Nat} {R : List Rw} (h : FMk w n R u) (hn : R.length = n) : FB u w.heap.size u.heap.size (some ⟨w.heap.size, 0, none⟩) n n R := by
  obtain ⟨xs, h1, h2⟩ := h.xs
  have hl := h1.1
  rw [List.take_of_length_le (by omega)] at h2
  subst h2
  exact ⟨hn, h1, fun g hg => (h1.lt g hg).2, Nat.le_refl _, fun r hr => ⟨(h.ins r hr).1, by have := (h.ins r hr).2; omega, (h.ins r hr).1.lt⟩, h.nod⟩
theorem FMk.add {w u v : World} {n : Nat} {R : List Rw} (h : FMk w n R u) {r : Rw} (hk : R.length < n) (hb : Below u.heap.size u v) (hr : RwB v r) (hg : u.heap.size ≤ r.g) : FMk w n (R ++ [r]) (v.setCell ⟨w.heap.size, R.length, none⟩ r.hdr) := by
  obtain ⟨xs, h1, h2⟩ := h.xs
  have h3 := own_up h1 hb
  have hst := h3.stored R.length r.hdr
  have hl := h1.1
  have hsz := (h1.lt w.heap.size rfl).2
  have hkeep : ∀ x, RwB v x → RwB (v.setCell ⟨w.heap.size, R.length, none⟩ r.hdr) x := fun x hx => hx.grown (grownSet v w.heap.size R.length r.hdr) (fun e => own_ne h3 hx (by simpa using e))
  refine ⟨⟨_, hst.1, ?_⟩, fun x hx => ?_, ?_, ?_⟩
  · rw [List.length_append, List.length_cons, List.length_nil, Nat.zero_add, List.take_add_one, List.take_set_of_le (Nat.le_refl _), h2, rhs_snoc]
    simp [show R.length < xs.length by omega]
  · rcases List.mem_append.1 hx with hx | hx
    · have := h.ins x hx
      exact ⟨hkeep x (this.1.rng (l2 := x.g + 1) (h2 := x.g + 1) (Rng.of_below hb) (.inl (Nat.le_refl _))), this.2⟩
    · simp at hx
      subst hx
      exact ⟨hkeep x hr, by omega⟩
  · rw [List.pairwise_append]
    refine ⟨h.nod, by simp, fun x hx y hy => ?_⟩
    simp at hy
    subst hy
    have := (h.ins x hx).1.lt
    omega
  · exact (h.bel.trans (hb.mono (by omega))).setCell (p := ⟨w.heap.size, R.length, none⟩) (Nat.le_refl _) _

/-- only the rows have turned -/
structure Tur (R : List Rw) (u v : World) : Prop where
  os : v.os = u.os
  tape : v.tape = u.tape
  output : v.output = u.output
  size : u.heap.size ≤ v.heap.size
  block : ∀ k, k < u.heap.size → (∀ r ∈ R, k ≠ r.g) → v.heap[k]? = u.heap[k]?
theorem Tur.rng {R : List Rw} {u v : World} {lo hi : Nat} (h : Tur R u v) (hr : ∀ r ∈ R, lo ≤ r.g ∧ r.g < hi) : Rng lo hi u v := ⟨h.os, h.tape, h.output, h.size, fun k hk ho => h.block k hk fun r hr2 e => by have := hr r hr2; omega⟩
theorem Tur.of_below {R : List Rw} {u v : World} (h : Below u.heap.size u v) : Tur R u v := ⟨h.os, h.tape, h.output, h.size, fun k hk _ => h.block k hk⟩
end Go.Proofs.YtpfkfbmghddepaaGreat
namespace Go.Proofs.YtpfkfbmghddepaaGreat
open Go.RowKit Go.Sort Go.Lib

/-- a whole list laid behind -/
theorem ISt.appL7 {wb : World} {a : Option Addr} {m c k : Nat} {ls xs : List Int} {u : World} (h : ISt wb a m c ls u) {v : Value} {u' : World}
    (ho : u'.ownsRow wb.heap.size 3 1 v (m + k) (ic ls ++ ic xs)) (hg : u.grownBy u' (Value.slice a m c).ownBlock) :
    ∃ a' c', v = .slice a' (m + k) c' ∧ ISt wb a' (m + k) c' (ls ++ xs) u' := by
  obtain ⟨a', c', rfl⟩ := own_form ho
  rw [show ic ls ++ ic xs = ic (ls ++ xs) by simp [ic]] at ho
  refine ⟨a', c', rfl, ho, ?_⟩
  exact h.bel.grown hg h.size (fun j hj => (h.own.lt j hj).1)

set_option maxRecDepth 100000 in
set_option maxHeartbeats 2000000 in
theorem shareOut_any (N : Int) (ts : List (List Int)) (hA : asP ts) (n : Nat) (a : Option Addr) (c : Nat) (w : World) (h : Ts w w.heap.size a n ts) :
    Calls Tryz.prog 192 #[.int .i64 N, .slice a n c] w fun e w' => ∃ b, e = .returned (.bool b) ∧ (b = true ↔ (srtI (allV ts) = rangeI (srtI (allV ts)).length ∧ ((srtI (allV ts)).length : Int) = N)) ∧ Below w.heap.size w w' := by
  obtain ⟨i0, hi, hz0, hz1, hz2⟩ := info_parts info3i
  have hlen := h.1
  have hn12 := asP_len hA
  have HA := hideIt h
  have HAS := hideIt hA
  have S0 := ISt.start w
  clear h hA
  go_enter Tryz.func192, Tryz.ntmps192
  go_wp2
  go_loopw [5, 11] (fun r i wr => ∃ (k m c1 : Nat) (a1 : Option Addr), k ≤ n ∧ m ≤ 12 * k ∧ i = .int .i64 (k : Int) ∧ r = .slice a1 m c1 ∧ Hid (a1 ≠ none) ∧ ISt w a1 m c1 (allV (ts.take k)) wr) (fun _ i _ => n - (intOf i).toNat)
  case atStart => exact ⟨0, 0, 0, _, by omega, by omega, rfl, rfl, by simp [Hid], by rw [List.take_zero]; exact S0⟩
  case round =>
    obtain ⟨k, m, c1, a1, hk, hmk, rfl, rfl, HN1, hst⟩ := hrel
    clear S0
    by_cases hlt : k < n
    · obtain ⟨t, ht⟩ : ∃ t, ts[k]? = some t := ⟨ts[k]'(by omega), List.getElem?_eq_getElem (by omega)⟩
      rcases (HA.out.up hst.bel).2 with hz | ⟨b, off, rfl, hbl, hc⟩
      · omega
      · obtain ⟨x, cx, e0, iI, _⟩ := hc k t ht
        have hB := asP_B HAS.out t (List.mem_of_getElem? ht)
        have hl := tB_len hB
        have b1 : (0 : Int) ≤ (k : Int) := by omega
        have b2 : (k : Int) < (n : Int) := by omega
        have HV := hideIt (iVertsOf_any t t.length x cx (by omega) wr iI)
        have HST := hideIt hst
        have HT2 : Hid (allV (ts.take k) ++ vsL t = allV (ts.take (k + 1))) := by show _ = _; rw [take_snocF ts k t ht, allV_snoc]
        have HPos := hideIt (vs_pos hB)
        have HLen := hideIt (vsL_len t)
        clear hc ht iI hst hB
        go_wp2_with (go_at_call 94; refine HV.out.mono ?_; rintro e w1 ⟨a2, m2, c2, rfl, ho, hb⟩; refine Hid.out ?_)
        refine (show ∀ {p : Prop}, p → Hid p from fun h => h) ?_
        have hm2 : (vsL t).length = m2 := by have := ho.1; rw [ic_len] at this; omega
        have hp2 : 0 < m2 := by have := HPos.out; omega
        have hl2 : m2 ≤ 12 := by have := HLen.out; omega
        rcases ho.2 with ⟨_, h0⟩ | ⟨g, cap, cur, hv, hrest⟩
        · omega
        · simp at hv
          obtain ⟨rfl, rfl⟩ := hv
          have HST2 := hideIt (HST.out.up hb)
          have hsz := HST2.out.size
          have HNews : Hid (∀ j u, (ic (vsL t))[j]? = some u → w1.cell? ((⟨g, 0, none⟩ : Addr).add j) = some u) := fun j u hj => by
            have hj2 := (List.getElem?_eq_some_iff.1 hj).1
            rw [ic_len] at hj2
            have := ho.cellAt j (by omega)
            rw [show (⟨g, 0, none⟩ : Addr).add j = ⟨g, j, none⟩ by by_cases h0 : j = 0 <;> simp [Addr.add, h0], this]
            exact hj
          have HL := hideIt (show (ic (vsL t)).length = m2 * 1 by rw [ic_len]; omega)
          clear HST hb hrest ho HV hm2
          go_wp2_with (at_builtin; refine wpList_append_own _ rfl _ _ 44 rfl w.heap.size 3 i0 _ 1 8 Tryz.underlying44 hi hz0 hz1 hz2 rfl (by decide) _ _ _ rfl HST2.out.own ⟨g, 0, none⟩ m2 c2 (ic (vsL t)) rfl HL.out HNews.out (by intro u hu; simp [ic] at hu; obtain ⟨q, _, rfl⟩ := hu; rfl) (by unfold maxLen; omega) (by omega) (by omega) ?_)
          intro v5 w5 hown5 hg5 hnil
          obtain ⟨a5, c5, rfl, S5⟩ := HST2.out.appL7 hown5 hg5
          have HN5 : Hid (a5 ≠ none) := fun e => by
            subst e
            rcases hown5.2 with ⟨_, h0⟩ | ⟨g6, _, _, hv6, _⟩
            · omega
            · simp at hv6
          clear hown5 hg5 HST2 HNews hnil
          go_wp2
          exact ⟨⟨k + 1, m + m2, c5, a5, by omega, by omega, by go_num, rfl, HN5, by rw [← HT2.out]; exact S5⟩, by simp [intOf]; omega⟩
    · obtain rfl : k = n := by omega
      have hm : (allV ts).length = m := by
        have := hst.len
        rw [List.take_of_length_le (by omega)] at this
        exact this
      rw [List.take_of_length_le (by omega)] at hst
      rcases hst.own.2 with ⟨hv, _⟩ | ⟨g, cap, cur, hv, hg, hgb, r1, r2, r3, r4⟩
      · simp at hv
        exact absurd hv.1 HN1.out
      · have hv' := hv
        simp at hv'
        obtain ⟨rfl, rfl⟩ := hv'
        have hgl : g < wr.heap.size := (Array.getElem?_eq_some_iff.1 hgb).1
        have HS := Tryz.slices_Sort_int g 0 c1 (allV ts) wr (holds_of_blockI hgb (by rw [hm]; rw [Nat.mul_one] at r4; exact r4)) hgl (by omega)
        rw [hm] at HS
        have HO : Hid (∀ q os, ISt w (some ⟨g, 0, none⟩) m c1 (srtI (allV ts)) (grow (putRow (Value.int .i64) (Sort.ahead wr q) g 0 (srtI (allV ts)).toArray) os)) := fun q os => by
          have h1 := ownsRow_sortedI (n := q) (os := os) (ss := allV ts) (ts := srtI (allV ts)) (by unfold srtI; rw [List.length_mergeSort]) hg hgb (by rw [hm]; exact r1) r2 r3
          rw [hm] at h1
          exact ⟨h1, hst.bel.grown (grownBy_sortedI _) hst.size (fun j e => by cases e; exact hg)⟩
        have HL : Hid ((srtI (allV ts)).length = m) := by show _ = _; rw [(srtI_perm (allV ts)).length_eq]; exact hm
        have HSo : Hid (Calls Tryz.prog 202 #[.slice (some ⟨g, 0, none⟩) m c1] wr fun e w' => e = .returned (.tuple #[]) ∧ ISt w (some ⟨g, 0, none⟩) m c1 (srtI (allV ts)) w') :=
          HS.mono (by
            rintro e w2 ⟨rfl, q, os, rfl⟩
            exact ⟨rfl, HO.out q os⟩)
        clear HS HO hgb r1 r2 r3 r4 hst hv hm
        obtain ⟨S, hSe⟩ : ∃ S, srtI (allV ts) = S := ⟨_, rfl⟩
        rw [hSe] at HL HSo
        have HSe := hideIt hSe
        clear hSe
        have hm12 : m ≤ 144 := by omega
        go_wp2_with (go_at_call 202; refine HSo.out.mono ?_; rintro e w2 ⟨rfl, hS⟩; refine Hid.out ?_)
        refine (show ∀ {p : Prop}, p → Hid p from fun h => h) ?_
        have HSt := hideIt hS
        clear hS HSo
        go_wp2
        go_loopw [26] (fun i wq => ∃ j : Nat, j ≤ m ∧ i = .int .i64 (j : Int) ∧ Hid (∀ p, p < j → S[p]? = some (p : Int)) ∧ wq = w2) (fun i _ => m - (intOf i).toNat)
        case atStart => exact ⟨0, by omega, rfl, fun p hp => by omega, rfl⟩
        case round =>
          obtain ⟨j, hj, rfl, HJ, hw⟩ := hrel
          have hw' := hw.symm
          subst hw'
          clear hw
          by_cases hjl : j < m
          · obtain ⟨f, hf⟩ : ∃ f, S[j]? = some f := ⟨S[j]'(by have := HL.out; omega), List.getElem?_eq_getElem _⟩
            have e0 : w2.cell? ⟨g, j, none⟩ = some (.int .i64 f) := by rw [HSt.out.own.cellAt j (by omega)]; exact ic_at hf
            have q1 : (0 : Int) ≤ (j : Int) := by omega
            have q2 : (j : Int) < (m : Int) := by omega
            by_cases hfj : f = (j : Int)
            · have d1 : (f != (j : Int)) = false := by simpa using hfj
              have HJ2 : Hid (∀ p, p < j + 1 → S[p]? = some (p : Int)) := fun p hp => by
                by_cases hpj : p = j
                · rw [hpj, hf, hfj]
                · exact HJ.out p (by omega)
              clear hf HJ hfj
              go_wp2
              exact ⟨⟨j + 1, by omega, by go_num, HJ2, by first | trivial | rfl⟩, by simp [intOf]; omega⟩
            · have d1 : (f != (j : Int)) = true := by simpa using hfj
              have HNo : Hid (¬ (S = rangeI S.length)) := fun he => by
                have h1 := rangeI_at (n := S.length) (k := j) (by have := HL.out; omega)
                rw [← he, hf] at h1
                exact hfj (Option.some.inj h1)
              clear hf HJ hfj
              go_wp2
              go_ret
              exact ⟨false, rfl, by rw [HSe.out]; exact ⟨fun h => (by cases h), fun h => absurd h.1 HNo.out⟩, HSt.out.bel⟩
          · obtain rfl : j = m := by omega
            have HY : Hid (S = rangeI S.length) := by
              show _ = _
              apply List.ext_getElem?
              intro p
              have := HL.out
              by_cases hp : p < j
              · rw [HJ.out p hp, rangeI_at (by omega)]
              · rw [List.getElem?_eq_none (by omega), List.getElem?_eq_none (by rw [rangeI_len]; omega)]
            have HE : Hid (((j : Int) == N) = true ↔ ((S.length : Int) = N)) := by
              show _ ↔ _
              rw [HL.out]
              simp
            clear HJ
            go_wp2
            go_ret
            exact ⟨_, rfl, by rw [HSe.out]; exact ⟨fun h => ⟨HY.out, HE.out.1 h⟩, fun h => HE.out.2 h.2⟩, HSt.out.bel⟩

set_option maxHeartbeats 1000000 in
theorem iForestOk_any (N : Int) (ts : List (List Int)) (n : Nat) (a : Option Addr) (c : Nat) (hn : n + lnS ts ≤ 1048576) (w : World) (h : Ts w w.heap.size a n ts) :
    Calls Tryz.prog 144 #[.agg #[.int .i64 N, .slice a n c]] w fun e w' => ∃ b, e = .returned (.bool b) ∧ (b = true ↔ FP N ts) ∧ Below w.heap.size w w' := by
  have b0 : Below w.heap.size w (w.alloc (.cells #[.int .i64 N, .slice a n c] 57)) := (Below.refl _ _).alloc (Nat.le_refl _) _
  have HI := hideIt vertsOk_any
  have HP := hideIt (FP_prog N ts)
  have HT := hideIt (treesAscend_any ts n a c (by omega) (fun t ht => by have := lnS_mem ht; omega) _ (h.up b0))
  have HB0 := hideIt b0
  by_cases h1 : 1 ≤ N ∧ N ≤ 12
  · have r1 : decide (1 ≤ N ∧ N ≤ 12) = true := decide_eq_true h1
    by_cases hA : asP ts
    · have HT2 : Hid (Calls Tryz.prog 191 #[.slice a n c] (w.alloc (.cells #[.int .i64 N, .slice a n c] 57)) fun e w' => e = .returned (.bool true) ∧ Below (w.alloc (.cells #[.int .i64 N, .slice a n c] 57)).heap.size (w.alloc (.cells #[.int .i64 N, .slice a n c] 57)) w') :=
        HT.out.mono fun e v ⟨b, he, hb, hbl⟩ => ⟨by rw [he, hb.2 hA], hbl⟩
      have HSh := hideIt (fun u (hu : Below (w.alloc (.cells #[.int .i64 N, .slice a n c] 57)).heap.size (w.alloc (.cells #[.int .i64 N, .slice a n c] 57)) u) => shareOut_any N ts hA n a c u ((h.up b0).up hu))
      have HPA := hideIt (show FP N ts ↔ (srtI (allV ts) = rangeI (srtI (allV ts)).length ∧ ((srtI (allV ts)).length : Int) = N) from HP.out.trans ⟨fun h => h.2.2, fun h => ⟨h1, hA, h⟩⟩)
      clear h b0 HT HP hA
      go_enter Tryz.func144, Tryz.ntmps144
      go_wp2_with (first | (go_at_call 95; refine (HI.out _ _).mono ?_; rintro e w1 ⟨rfl, rfl⟩) | (go_at_call 191; refine HT2.out.mono ?_; rintro e w2 ⟨rfl, hb2⟩; refine Hid.out ?_))
      refine (show ∀ {p : Prop}, p → Hid p from fun h => h) ?_
      obtain ⟨hc, hf⟩ := bcell hb2
      have HS2 := hideIt (HSh.out w2 hb2)
      go_wp2_with (go_at_call 192; refine HS2.out.mono ?_; rintro e w3 ⟨b, rfl, hbi, hb3⟩)
      go_ret
      exact ⟨b, rfl, hbi.trans HPA.out.symm, HB0.out.trans ((hb2.trans (hb3.mono hb2.size)).mono (by simp))⟩
    · have HT2 : Hid (Calls Tryz.prog 191 #[.slice a n c] (w.alloc (.cells #[.int .i64 N, .slice a n c] 57)) fun e w' => e = .returned (.bool false) ∧ Below (w.alloc (.cells #[.int .i64 N, .slice a n c] 57)).heap.size (w.alloc (.cells #[.int .i64 N, .slice a n c] 57)) w') :=
        HT.out.mono fun e v ⟨b, he, hb, hbl⟩ => ⟨by
          have : b = false := by
            cases b with
            | false => rfl
            | true => exact absurd (hb.1 rfl) hA
          rw [he, this], hbl⟩
      have HN : Hid (¬ FP N ts) := fun hf => hA (HP.out.1 hf).2.1
      clear h b0 HT HP hA
      go_enter Tryz.func144, Tryz.ntmps144
      go_wp2_with (first | (go_at_call 95; refine (HI.out _ _).mono ?_; rintro e w1 ⟨rfl, rfl⟩) | (go_at_call 191; refine HT2.out.mono ?_; rintro e w2 ⟨rfl, hb2⟩))
      go_ret
      exact ⟨false, rfl, ⟨fun h => (by cases h), fun h => absurd h HN.out⟩, HB0.out.trans (hb2.mono (by simp))⟩
  · have r1 : decide (1 ≤ N ∧ N ≤ 12) = false := decide_eq_false h1
    have HN : Hid (¬ FP N ts) := fun hf => h1 (HP.out.1 hf).1
    clear HT h HP b0
    go_enter Tryz.func144, Tryz.ntmps144
    go_wp2_with (go_at_call 95; refine (HI.out _ _).mono ?_; rintro e w1 ⟨rfl, rfl⟩)
    go_ret
    exact ⟨false, rfl, ⟨fun h => (by cases h), fun h => absurd h HN.out⟩, HB0.out⟩
end Go.Proofs.YtpfkfbmghddepaaGreat
namespace Go.Proofs.YtpfkfbmghddepaaGreat
open Go.RowKit

theorem someIn_any (us vs : List Int) (n : Nat) (a : Option Addr) (c : Nat) (hn : n ≤ 3000000) (nb : Nat) (b : Option Addr) (cb : Nat) (hnb : nb ≤ 3000000) (w : World) (h : Is w w.heap.size a n us) (hb : Is w w.heap.size b nb vs) :
    Calls Tryz.prog 90 #[.slice b nb cb, .slice a n c] w fun e w' => e = .returned (.bool (comB us vs)) ∧ Below w.heap.size w w' := by
  have HC := hideIt (haveCommon_any us vs n a c hn nb b cb hnb w h hb)
  clear h hb
  go_enter Tryz.func90, Tryz.ntmps90
  go_wp2_with (go_at_call 150; refine HC.out.mono ?_; rintro e w1 ⟨rfl, hb1⟩)
  go_ret
  exact ⟨rfl, hb1⟩
theorem comB_one (t : List Int) (v : Int) : comB t [v] = decide (v ∈ t) := by
  unfold comB
  rw [Bool.eq_iff_iff]
  simp

set_option maxHeartbeats 1000000 in
theorem placeTold_any (ts : List (List Int)) (v : Int) (hm : ∀ t ∈ ts, t.length ≤ 3000000) (n : Nat) (a : Option Addr) (c : Nat) (hn : n ≤ 3000000) (b : Option Addr) (cb : Nat) (w : World) (h : Ts w w.heap.size a n ts) (hb : Is w w.heap.size b 1 [v]) :
    Calls Tryz.prog 89 #[.slice a n c, .func (.func 90) #[.slice b 1 cb] #[]] w fun e w' => e = .returned (.int .i64 (trI ts v)) ∧ Below w.heap.size w w' := by
  have hlen := h.1
  have HA := hideIt h
  have HB := hideIt hb
  clear h hb
  go_enter Tryz.func89, Tryz.ntmps89
  go_wp2
  go_loopw [8] (fun i wr => ∃ k : Nat, k ≤ n ∧ i = .int .i64 (k : Int) ∧ Hid (∀ j, j < k → trP ts v j = false) ∧ Good w wr) (fun i _ => n - (intOf i).toNat)
  case atStart => exact ⟨0, by omega, rfl, fun j hj => by omega, Good.refl _⟩
  case round =>
    obtain ⟨k, hk, rfl, HK, hg⟩ := hrel
    by_cases hlt : k < n
    · rcases (HA.out.up hg).2 with hz | ⟨bb, off, rfl, hbl, hc⟩
      · omega
      · obtain ⟨t, ht⟩ : ∃ t, ts[k]? = some t := ⟨ts[k]'(by omega), List.getElem?_eq_getElem (by omega)⟩
        obtain ⟨x, cx, e0, iI, _⟩ := hc k t ht
        have b1 : (0 : Int) ≤ (k : Int) := by omega
        have b2 : (k : Int) < (n : Int) := by omega
        have HC := hideIt (someIn_any t [v] t.length x cx (hm t (List.mem_of_getElem? ht)) 1 b cb (by omega) wr iI (HB.out.up hg))
        rw [comB_one, ← trP_at (v := v) ht] at HC
        have HG := hideIt hg
        cases hp : trP ts v k with
        | true =>
          rw [hp] at HC
          have HV : Hid (trI ts v = (k : Int)) := firstN_yes (by omega) hp HK.out
          clear hc ht iI hp HK
          go_wp2_with (go_at_call 90; refine HC.out.mono ?_; rintro e w1 ⟨rfl, hb1⟩)
          go_ret
          exact ⟨by rw [HV.out]; rfl, HG.out.up hb1⟩
        | false =>
          rw [hp] at HC
          have HK2 : Hid (∀ j, j < k + 1 → trP ts v j = false) := fun j hj => by
            by_cases h7 : j = k
            · rw [h7]; exact hp
            · exact HK.out j (by omega)
          clear hc ht iI hp HK
          go_wp2_with (go_at_call 90; refine HC.out.mono ?_; rintro e w1 ⟨rfl, hb1⟩)
          exact ⟨⟨k + 1, by omega, by go_num, HK2, HG.out.up hb1⟩, by simp [intOf]; omega⟩
    · obtain rfl : k = n := by omega
      have HV : Hid (trI ts v = -1) := firstN_no (fun j hj => HK.out j (by omega))
      clear HK
      go_wp2
      go_ret
      exact ⟨by rw [HV.out]; rfl, hg⟩

set_option maxHeartbeats 1000000 in
theorem iTreeOf_any (N : Int) (ts : List (List Int)) (v : Int) (n : Nat) (a : Option Addr) (c : Nat) (hn : n + lnS ts ≤ 1048576) (w : World) (h : Ts w w.heap.size a n ts) :
    Calls Tryz.prog 75 #[.agg #[.int .i64 N, .slice a n c], .int .i64 v] w fun e w' => e = .returned (.int .i64 (treeO N ts v)) ∧ Below w.heap.size w w' := by
  have b0 : Good w (w.alloc (.cells #[.int .i64 N, .slice a n c] 57)) := (Good.refl w).alloc _
  have HF := iForestOk_any N ts n a c hn _ (h.up b0)
  have HB0 := hideIt b0
  by_cases hP : FP N ts
  · have HF2 := hideIt (HF.mono fun e u ⟨b, he, hb, hbl⟩ => (show e = Ending.returned (.bool true) ∧ Good (w.alloc (.cells #[.int .i64 N, .slice a n c] 57)) u from ⟨by rw [he, hb.2 hP], hbl⟩))
    have HT := hideIt (fun u (hu : Good (w.alloc (.cells #[.int .i64 N, .slice a n c] 57)) u) => placeTold_any ts v (fun t ht => by have := lnS_mem ht; omega) n a c (by omega) (some ⟨u.heap.size, 0, none⟩) 1 (u.alloc (.cells #[.int .i64 v] 3)) ((h.up b0).up (hu.alloc (.cells #[.int .i64 v] 3))) ⟨rfl, .inr ⟨u.heap.size, 0, rfl, by simp, fun j x hx => by
      rcases j with _ | j
      · simp at hx; subst hx; simp
      · simp at hx⟩⟩)
    have HV := hideIt (treeO_yes hP v)
    clear h b0 HF hP
    go_enter Tryz.func75, Tryz.ntmps75
    go_wp2_with (go_at_call 144; refine HF2.out.mono ?_; rintro e w1 ⟨rfl, hg1⟩; refine Hid.out ?_)
    refine (show ∀ {p : Prop}, p → Hid p from fun h => h) ?_
    have cB : w1.cell? ⟨w.heap.size, 1, none⟩ = some (.slice a n c) := by rw [hg1.cell (by simp)]; simp
    have HT2 := hideIt (HT.out w1 hg1)
    have HG1 := hideIt hg1
    clear hg1 HT HF2
    go_wp2_with (go_at_call 89; refine HT2.out.mono ?_; rintro e w2 ⟨rfl, hb2⟩)
    go_ret
    exact ⟨by rw [HV.out]; rfl, HB0.out.up ((HG1.out.alloc _).up hb2)⟩
  · have HF2 := hideIt (HF.mono fun e u ⟨b, he, hb, hbl⟩ => (show e = Ending.returned (.bool false) ∧ Good (w.alloc (.cells #[.int .i64 N, .slice a n c] 57)) u from ⟨by
      have : b = false := by
        cases b with
        | false => rfl
        | true => exact absurd (hb.1 rfl) hP
      rw [he, this], hbl⟩))
    have HV := hideIt (treeO_no hP v)
    clear h b0 HF hP
    go_enter Tryz.func75, Tryz.ntmps75
    go_wp2_with (go_at_call 144; refine HF2.out.mono ?_; rintro e w1 ⟨rfl, hg1⟩)
    go_ret
    exact ⟨by rw [HV.out]; rfl, HB0.out.up hg1⟩

set_option maxHeartbeats 1000000 in
theorem iSizeOf_any (N : Int) (ts : List (List Int)) (v : Int) (n : Nat) (a : Option Addr) (c : Nat) (hn : n + lnS ts ≤ 1048576) (w : World) (h : Ts w w.heap.size a n ts) :
    Calls Tryz.prog 35 #[.agg #[.int .i64 N, .slice a n c], .int .i64 v] w fun e w' => e = .returned (.int .i64 (sizeO N ts v)) ∧ Below w.heap.size w w' := by
  have b0 : Good w (w.alloc (.cells #[.int .i64 N, .slice a n c] 57)) := (Good.refl w).alloc _
  have HF := hideIt (iTreeOf_any N ts v n a c hn _ (h.up b0))
  have HB0 := hideIt b0
  rcases treeO_cases N ts v with ⟨k, t, hP, hk, hv, e⟩ | ⟨_, e⟩
  · rw [e] at HF
    have HV := hideIt (sizeO_yes e hk)
    have hkl := (List.getElem?_eq_some_iff.1 hk).1
    have hlen := h.1
    rcases (h.up b0).2 with hz | ⟨b, off, rfl, hbl, hc⟩
    · omega
    · obtain ⟨x, cx, e0, iI, _⟩ := hc k t hk
      have hfit := lnS_mem (List.mem_of_getElem? hk)
      have HVe := hideIt (fun u (hu : Good (w.alloc (.cells #[.int .i64 N, .slice (some ⟨b, off, none⟩) n c] 57)) u) => iVertsOf_any t t.length x cx (by omega) u (iI.up hu))
      have d1 : decide ((k : Int) < 0) = false := decide_eq_false (by omega)
      have b1 : (0 : Int) ≤ (k : Int) := by omega
      have b2 : (k : Int) < (n : Int) := by omega
      clear h b0 hc iI hP hv
      go_enter Tryz.func35, Tryz.ntmps35
      go_wp2_with (go_at_call 75; refine HF.out.mono ?_; rintro e w1 ⟨rfl, hg1⟩; refine Hid.out ?_)
      refine (show ∀ {p : Prop}, p → Hid p from fun h => h) ?_
      have hg1 : Good (w.alloc (.cells #[.int .i64 N, .slice (some ⟨b, off, none⟩) n c] 57)) w1 := hg1
      have cB : w1.cell? ⟨w.heap.size, 1, none⟩ = some (.slice (some ⟨b, off, none⟩) n c) := by rw [hg1.cell (by simp)]; simp
      have cE : w1.cell? ⟨b, off + k, none⟩ = some (.slice x t.length cx) := by rw [hg1.cell hbl]; exact e0
      have HT2 := hideIt (HVe.out w1 hg1)
      have HG1 := hideIt hg1
      clear hg1 HVe HF e0
      go_wp2_with (go_at_call 94; refine HT2.out.mono ?_; rintro e w2 ⟨a2, m2, c2, rfl, ho, hb2⟩)
      have hm2 : (vsL t).length = m2 := by have := ho.1; rw [ic_len] at this; omega
      go_ret
      exact ⟨by rw [HV.out, hm2]; rfl, HB0.out.up (HG1.out.up hb2)⟩
  · rw [e] at HF
    have HV := hideIt (sizeO_no e)
    clear h b0
    go_enter Tryz.func35, Tryz.ntmps35
    go_wp2_with (go_at_call 75; refine HF.out.mono ?_; rintro e w1 ⟨rfl, hg1⟩)
    go_ret
    exact ⟨by rw [HV.out]; rfl, HB0.out.up hg1⟩
end Go.Proofs.YtpfkfbmghddepaaGreat
namespace Go.Proofs.YtpfkfbmghddepaaGreat
open Go.RowKit

theorem eB_of {nn : Nat} {e : EdgeV} (h1 : 1 ≤ nn) (h12 : nn ≤ 12) (h : 0 ≤ e.1 ∧ e.1 < e.2 ∧ e.2 < (nn : Int)) : eB (nn : Int) e = true := by unfold eB; exact decide_eq_true ⟨by omega, by omega, h⟩
theorem gB_eB {N : Int} {es : List EdgeV} (h : gB N es = true) {e : EdgeV} (he : e ∈ es) : eB N e = true := chk_eB (gB_chk h).2.1 he

set_option maxRecDepth 100000 in
set_option maxHeartbeats 4000000 in
theorem plantable_any (nn : Nat) (ls : List Ld) (n : Nat) (a : Option Addr) (c : Nat) (hG : gB (nn : Int) (gE ls) = true) (hl : ∀ x ∈ ls, 0 ≤ x.l) (w : World) (h : Ls w w.heap.size a n ls) :
    Calls Tryz.prog 87 #[.agg #[.int .i64 (nn : Int), .slice a n c]] w fun e w' => ∃ b : Bool, e = .returned (.bool b) ∧ (b = true ↔ Bridge (fE ls 0)) ∧ Below w.heap.size w w' := by
  have HR := hideIt h
  have hlen := h.1
  have hg := gB_chk hG
  have h66 : n ≤ 66 := by have := hg.2.2; rw [gE_len] at this; omega
  have HOk : Hid (∀ x ∈ ls, eB (nn : Int) x.e = true) := fun x hx => gB_eB hG (gE_mem hx)
  have HT : Hid (∀ (g m c' : Nat) (u : World), Es u u.heap.size (some ⟨g, 0, none⟩) m (fE ls (-9223372036854775808)) → Calls Tryz.prog 149 #[.int .i64 (nn : Int), .slice (some ⟨g, 0, none⟩) m c'] u fun x w' => ∃ b : Bool, x = .returned (.bool b) ∧ (b = true ↔ Bridge (fE ls 0)) ∧ Below u.heap.size u w') := fun g m c' u hu => by
    have e0 := fE_all hl (i := -9223372036854775808) (by omega)
    rw [e0] at hu
    have hm66 : m ≤ 66 := by have := hu.1; have := fE_len ls 0; omega
    refine (treesOk_any nn (fE ls 0) m (some ⟨g, 0, none⟩) c' (by omega) (by omega) (by omega) (fun e he => gB_eB hG (fE_g he)) u hu).mono fun e v ⟨b, h1, h2, h3⟩ => ⟨b, h1, ?_, h3⟩
    rw [h2]
    exact treeP_iff (fE_nodup (gB_nodup hG) 0)
  have HF : Hid (∀ u, Good (wW w (nn : Int) a n c) u → Calls Tryz.prog 88 #[.agg #[.int .i64 (nn : Int), .slice a n c], .int .i64 (-9223372036854775808)] u fun e w' => ∃ g m c', e = .returned (.slice (some ⟨g, 0, none⟩) m c') ∧ Es w' w'.heap.size (some ⟨g, 0, none⟩) m (fE ls (-9223372036854775808)) ∧ Good (wW w (nn : Int) a n c) w') := fun u hu =>
    (forestEdges_any (nn : Int) ls (-9223372036854775808) n a c (by omega) u ((HR.out.up (wW_good w _ a n c)).up hu)).mono fun e v ⟨g, m, c', h1, h2, h3⟩ => ⟨g, m, c', h1, Es_of_own h2, hu.up h3⟩
  clear h hg hG hl
  go_enter Tryz.func87, Tryz.ntmps87
  go_wp2
  go_loopw [8] (fun i wr => ∃ k : Nat, k ≤ n ∧ i = .int .i64 (k : Int) ∧ Good (wW w (nn : Int) a n c) wr) (fun i _ => n - (intOf i).toNat)
  case atStart => exact ⟨0, by omega, rfl, Good.refl _⟩
  case round =>
    obtain ⟨k, hk, rfl, hg⟩ := hrel
    have hgb : Below (w.heap.size + 1) (wW w (nn : Int) a n c) wr := by have := hg; unfold Good at this; rwa [wW_size] at this
    obtain ⟨cw0, cw1⟩ := wW_cells hgb
    by_cases hlt : k < n
    · obtain ⟨b, off, x, rfl, hbl, hxk, hat⟩ := ((HR.out.up (wW_good w _ a n c)).up hg).at hlt
      have e0 := hat.ca
      have e1 := hat.cb
      have e2 := hat.cl
      have e3 := hat.ct
      have b1 : (0 : Int) ≤ (k : Int) := by omega
      have b2 : (k : Int) < (n : Int) := by omega
      have hEx := HOk.out x (List.mem_of_getElem? hxk)
      have HE : Hid (∀ u, Good (wr.alloc (.cells #[.int .i64 x.a, .int .i64 x.b, .int .i64 x.l, .bool x.t] 52)) u → Calls Tryz.prog 140 #[.int .i64 (nn : Int), .agg #[.int .i64 x.a, .int .i64 x.b]] u fun e w' => e = .returned (.bool true) ∧ Good (wr.alloc (.cells #[.int .i64 x.a, .int .i64 x.b, .int .i64 x.l, .bool x.t] 52)) w') := fun u hu => by
        have := iEdgeOk_any (nn : Int) x.e u
        rw [hEx] at this
        exact this.mono fun _ _ ⟨h1, h2⟩ => ⟨h1, hu.up h2⟩
      have HL : Hid (∀ u, Good (wr.alloc (.cells #[.int .i64 x.a, .int .i64 x.b, .int .i64 x.l, .bool x.t] 52)) u → Calls Tryz.prog 66 #[.agg #[.int .i64 x.a, .int .i64 x.b, .int .i64 x.l, .bool x.t]] u fun e w' => e = .returned (.agg #[.int .i64 x.a, .int .i64 x.b]) ∧ Good (wr.alloc (.cells #[.int .i64 x.a, .int .i64 x.b, .int .i64 x.l, .bool x.t] 52)) w') := fun u hu =>
        (ledgeEdge_any x u).mono fun _ _ ⟨h1, h2⟩ => ⟨h1, hu.up h2⟩
      have HC : Hid (∀ u, Good (wr.alloc (.cells #[.int .i64 x.a, .int .i64 x.b, .int .i64 x.l, .bool x.t] 52)) u → (u.cell? ⟨w.heap.size, 0, none⟩ = some (.int .i64 (nn : Int)) ∧ (u.cell? ⟨wr.heap.size, 0, none⟩ = some (.int .i64 x.a) ∧ u.cell? ⟨wr.heap.size, 1, none⟩ = some (.int .i64 x.b)) ∧ u.cell? ⟨wr.heap.size, 2, none⟩ = some (.int .i64 x.l) ∧ u.cell? ⟨wr.heap.size, 3, none⟩ = some (.bool x.t))) := fun u hu => by
        have hz := hgb.size
        rw [wW_size] at hz
        refine ⟨?_, ⟨?_, ?_⟩, ?_, ?_⟩
        · rw [hu.cell (by simp; omega), World.cell?_of_block (w := wr) (Below.heap_alloc wr _ w.heap.size (by omega))]; exact cw0
        all_goals rw [hu.cell (by simp)]; simp
      have g0 : Good (wr.alloc (.cells #[.int .i64 x.a, .int .i64 x.b, .int .i64 x.l, .bool x.t] 52)) (wr.alloc (.cells #[.int .i64 x.a, .int .i64 x.b, .int .i64 x.l, .bool x.t] 52)).drew := (Good.refl _).drew
      have HZ : Hid (∀ u, Good (wr.alloc (.cells #[.int .i64 x.a, .int .i64 x.b, .int .i64 x.l, .bool x.t] 52)) u → Good (wW w (nn : Int) (some ⟨b, off, none⟩) n c) u) := fun u hu => (hg.alloc _).up hu
      clear hxk hat hEx hg hgb
      go_wp2
      go_region_held3 (fun u => u.cell? ⟨w.heap.size, 0, none⟩ = some (.int .i64 (nn : Int)) ∧ (u.cell? ⟨wr.heap.size, 0, none⟩ = some (.int .i64 x.a) ∧ u.cell? ⟨wr.heap.size, 1, none⟩ = some (.int .i64 x.b)) ∧ u.cell? ⟨wr.heap.size, 2, none⟩ = some (.int .i64 x.l) ∧ u.cell? ⟨wr.heap.size, 3, none⟩ = some (.bool x.t))
        (first | exact HC.out _ g2 | exact HC.out _ g1 | exact HC.out _ g0)
        (first | (go_at_call 66; refine (HL.out _ g0).mono ?_; rintro e w1 ⟨rfl, g1⟩) | (go_at_call 140; refine (HE.out _ g1).mono ?_; rintro e w2 ⟨rfl, g2⟩))
      go_wp2
      exact ⟨⟨k + 1, by omega, by go_num, HZ.out _ g2⟩, by simp [intOf]; omega⟩
    · have HC : Hid (∀ u, Good (wW w (nn : Int) a n c) u → (u.cell? ⟨w.heap.size, 0, none⟩ = some (.int .i64 (nn : Int)) ∧ u.cell? ⟨w.heap.size, 1, none⟩ = some (.slice a n c))) := fun u hu => by
        unfold Good at hu
        rw [wW_size] at hu
        exact wW_cells hu
      have g0 : Good (wW w (nn : Int) a n c) wr.drew := hg.drew
      clear hgb
      go_wp2
      go_region_held3 (fun u => u.cell? ⟨w.heap.size, 0, none⟩ = some (.int .i64 (nn : Int)) ∧ u.cell? ⟨w.heap.size, 1, none⟩ = some (.slice a n c))
        (first | exact HC.out _ g2 | exact HC.out _ g1 | exact HC.out _ g0)
        (first | (go_at_call 88; refine (HF.out _ g0).mono ?_; rintro e w1 ⟨g, m, c', rfl, hEs, g1⟩) | (go_at_call 149; refine (HT.out _ _ _ _ hEs).mono ?_; rintro e w2 ⟨bb, rfl, hbb, hb2⟩; have g2 := g1.up hb2))
      go_wp2
      go_ret
      exact ⟨bb, rfl, hbb, (wW_good w _ a n c).up g2⟩
end Go.Proofs.YtpfkfbmghddepaaGreat
