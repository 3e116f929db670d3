/- What the laws of chapter 6 that answer lists share. The specification's VertsOf. Rows of numbers, marked one behind the other: pure. The laws' own functions over forests. The specification's ForestOk. The specification's l07With: tours left out, others put in, all by their least vertices. -/
import Derived.Test.YtcpffonenhhfoabKSplit
import Derived.Test.YtcpffonenhhfoabKToInt6
import Derived.Test.YtcpffonenhhfoabKITour
import Derived.Test.YtcpffonenhhfoabKIBack
import Derived.Test.YtcpffonenhhfoabKLc7
import Derived.Deep.DeepCutAuto
namespace Go.Proofs.Ytcpffonenhhfoab
open Go.RowKit

theorem tans_G {F : Nat} {args : Array Value} {o : Option (List Int)} {u : World} (H : Calls Try.prog F args u (TAns u o)) :
    Calls Try.prog F args u fun e v => ∃ aw mw cw, e = .returned (.tuple #[.slice aw mw cw, .bool o.isSome]) ∧ RBox v u.heap.size v.heap.size aw mw cw (o.getD []) ∧ Below u.heap.size u v :=
  H.mono fun _ _ ⟨aw, mw, cw, he, ho, hb⟩ => ⟨aw, mw, cw, he, RBox.laid ho, hb⟩
theorem Good.rng {w u v : World} {lo hi : Nat} (h : Good w u) (hr : Rng lo hi u v) (hl : w.heap.size ≤ lo) : Good w v := Below.trans h (hr.below hl h.size)
end Go.Proofs.Ytcpffonenhhfoab
namespace Go.Proofs.Ytcpffonenhhfoab
open Go.RowKit

set_option maxRecDepth 100000 in
set_option maxHeartbeats 2000000 in
theorem sVertsOf_any (t : List Int) (n : Nat) (a : Option Addr) (c : Nat) (hn : n ≤ 3000000) (w : World) (h : Is w w.heap.size a n t) :
    Calls Try.prog 34 #[.slice a n c] w fun e w' => ∃ a' m c', e = .returned (.slice a' m c') ∧ w'.ownsRow w.heap.size 3 1 (.slice a' m c') m (ic (vsL t)) ∧ Below w.heap.size w w' := by
  obtain ⟨i0, hi, hz0, hz1, hz2⟩ := info_parts info3i
  have HIn := hideIt (fun y x (hx : Below w.heap.size w x) => l05In_any t y n a c hn x (h.up hx))
  have S0 := ISt.start w
  clear h
  go_enter Try.func34, Try.ntmps34
  go_wp2
  go_loopw [3, 4] (fun r i wr => ∃ (k m c1 : Nat) (a1 : Option Addr), k ≤ 12 ∧ m ≤ k ∧ i = .int .i64 (k : Int) ∧ r = .slice a1 m c1 ∧ ISt w a1 m c1 (vsK t k) wr) (fun _ i _ => 12 - (intOf i).toNat)
  case atStart => exact ⟨0, 0, 0, _, by omega, by omega, rfl, rfl, by rw [vsK_zero]; exact S0⟩
  case round =>
    obtain ⟨k, m, c1, a1, hk, hmk, rfl, rfl, hst⟩ := hrel
    clear S0
    by_cases hlt : k < 12
    · have b1 : (0 : Int) ≤ (k : Int) := by omega
      have b2 : (k : Int) < 12 := by omega
      have HN := hideIt (HIn.out (k : Int) wr hst.bel)
      have z1 := hst.size
      have HST := hideIt hst
      by_cases hx : (k : Int) ∈ t
      · rw [decide_eq_true hx] at HN
        have HV := hideIt (vsK_yes hx)
        clear hx hst
        go_wp2_with (first | (go_at_call 44; refine HN.out.mono ?_; rintro e w3 ⟨rfl, hw⟩; have hw' := hw.symm; subst hw'; clear hw) | (at_builtin; refine wpList_append_own _ rfl _ _ 45 rfl w.heap.size 3 i0 _ 1 8 Try.underlying45 hi hz0 hz1 hz2 rfl (by decide) _ _ _ rfl (HST.out.own.alloc _) ⟨wr.heap.size, 0, none⟩ 1 1 [.int .i64 (k : Int)] rfl rfl (newsI wr (k : Int)) (by intro u hu; simp at hu; subst hu; rfl) (by unfold maxLen; omega) (by omega) (by simp; omega) ?_))
        intro v5 w5 hown5 hg5 _
        obtain ⟨a5, c5, rfl, S5⟩ := HST.out.app hown5 hg5
        clear hown5 hg5 HST
        go_wp2
        exact ⟨⟨k + 1, m + 1, c5, a5, by omega, by omega, by go_num, rfl, by rw [HV.out]; exact S5⟩, by simp [intOf]; omega⟩
      · rw [decide_eq_false hx] at HN
        have HV := hideIt (vsK_no hx)
        clear hx hst
        go_wp2_with (go_at_call 44; refine HN.out.mono ?_; rintro e w3 ⟨rfl, hw⟩; have hw' := hw.symm; subst hw'; clear hw)
        exact ⟨⟨k + 1, m, c1, a1, by omega, by omega, by go_num, rfl, by rw [HV.out]; exact HST.out⟩, by simp [intOf]; omega⟩
    · obtain rfl : k = 12 := by omega
      have HST := hideIt hst
      clear hst
      go_wp2
      go_ret
      exact ⟨a1, m, c1, rfl, HST.out.own, HST.out.bel⟩
theorem vans_G {F : Nat} {args : Array Value} {ls : List Int} {u : World} (H : Calls Try.prog F args u fun e w' => ∃ a' m c', e = .returned (.slice a' m c') ∧ w'.ownsRow u.heap.size 3 1 (.slice a' m c') m (ic ls) ∧ Below u.heap.size u w') :
    Calls Try.prog F args u fun e v => ∃ aw mw cw, e = .returned (.slice aw mw cw) ∧ RBox v u.heap.size v.heap.size aw mw cw ls ∧ Below u.heap.size u v :=
  H.mono fun _ _ ⟨aw, mw, cw, he, ho, hb⟩ => ⟨aw, mw, cw, he, RBox.laid ho, hb⟩
end Go.Proofs.Ytcpffonenhhfoab
namespace Go.Proofs.Ytcpffonenhhfoab
open Go.RowKit

/-- how many numbers the rows have -/
def rn : List Rw → Nat
  | [] => 0
  | r :: R => r.t.length + rn R
theorem rn_app (P S : List Rw) : rn (P ++ S) = rn P + rn S := by
  induction P with
  | nil => simp [rn]
  | cons r P ih => simp only [List.cons_append, rn, ih]; omega
/-- the rows marked from k on -/
def mkR : Nat → List Rw → List Rw
  | _, [] => []
  | k, r :: R => ⟨r.g, r.cp, imarks k r.t.length⟩ :: mkR (k + r.t.length) R
theorem imarks_len (k n : Nat) : (imarks k n).length = n := by simp [imarks]
theorem mkR_len (k : Nat) (R : List Rw) : (mkR k R).length = R.length := by
  induction R generalizing k with
  | nil => rfl
  | cons r R ih => simp [mkR, ih]
theorem mkR_rn (k : Nat) (R : List Rw) : rn (mkR k R) = rn R := by
  induction R generalizing k with
  | nil => rfl
  | cons r R ih => simp [mkR, rn, ih, imarks_len]
theorem mkR_snoc (k : Nat) (P : List Rw) (r : Rw) : mkR k (P ++ [r]) = mkR k P ++ [⟨r.g, r.cp, imarks (k + rn P) r.t.length⟩] := by
  induction P generalizing k with
  | nil => simp [mkR, rn]
  | cons x P ih => simp only [List.cons_append, mkR, ih, rn, Nat.add_assoc]
theorem mkR_at {k j : Nat} {R : List Rw} {r : Rw} (h : R[j]? = some r) : (mkR k R)[j]? = some ⟨r.g, r.cp, imarks (k + rn (R.take j)) r.t.length⟩ := by
  induction R generalizing k j with
  | nil => simp at h
  | cons x R ih =>
    cases j with
    | zero => simp at h; subst h; simp [mkR, rn]
    | succ j =>
      simp at h
      simp only [mkR, List.getElem?_cons_succ, List.take_succ_cons, rn]
      rw [ih h, Nat.add_assoc]
theorem split_at {α : Type} {R : List α} {i : Nat} {r : α} (h : R[i]? = some r) : R.drop i = r :: R.drop (i + 1) := by
  obtain ⟨hi, rfl⟩ := List.getElem?_eq_some_iff.1 h
  exact List.drop_eq_getElem_cons hi
theorem rn_take {R : List Rw} {i : Nat} {r : Rw} (h : R[i]? = some r) : rn (R.take (i + 1)) = rn (R.take i) + r.t.length := by
  rw [take_snocF R i r h, rn_app]
  simp [rn]
theorem rn_take_le (R : List Rw) (i : Nat) : rn (R.take i) ≤ rn R := by
  have := rn_app (R.take i) (R.drop i)
  rw [List.take_append_drop] at this
  omega
theorem rn_at {R : List Rw} {i : Nat} {r : Rw} (h : R[i]? = some r) : rn (R.take i) + r.t.length ≤ rn R := by
  rw [← rn_take h]
  exact rn_take_le R (i + 1)
end Go.Proofs.Ytcpffonenhhfoab
namespace Go.Proofs.Ytcpffonenhhfoab
open Go.RowKit

/-- how many numbers the lists have -/
def lnS (ts : List (List Int)) : Nat := (ts.map List.length).sum
theorem lnS_snoc (ts : List (List Int)) (t : List Int) : lnS (ts ++ [t]) = lnS ts + t.length := by simp [lnS]
theorem lnS_take {ts : List (List Int)} {k : Nat} {t : List Int} (h : ts[k]? = some t) : lnS (ts.take (k + 1)) = lnS (ts.take k) + t.length := by
  rw [take_snocF ts k t h, lnS_snoc]
theorem lnS_take_le (ts : List (List Int)) (k : Nat) : lnS (ts.take k) ≤ lnS ts := by
  have : lnS ts = lnS (ts.take k) + lnS (ts.drop k) := by
    conv => lhs; rw [← List.take_append_drop k ts]
    rw [lnS, List.map_append, List.sum_append]
    rfl
  omega
theorem lnS_at {ts : List (List Int)} {k : Nat} {t : List Int} (h : ts[k]? = some t) : lnS (ts.take k) + t.length ≤ lnS ts := by
  rw [← lnS_take h]
  exact lnS_take_le ts (k + 1)
theorem lnS_mem {ts : List (List Int)} {t : List Int} (h : t ∈ ts) : t.length ≤ lnS ts := by
  obtain ⟨k, hk⟩ := List.mem_iff_getElem?.1 h
  have := lnS_at hk
  omega
theorem rn_lnS (R : List Rw) : rn R = lnS (rts R) := by
  induction R with
  | nil => rfl
  | cons r R ih => simp only [rn, ih]; simp [lnS, rts]
theorem lnS_zero (ts : List (List Int)) : lnS (ts.take 0) = 0 := by simp [lnS]

/-- what is left of the room -/
def szv (n : Nat) (ts : List (List Int)) : Int := if n + lnS ts ≤ 1048576 then 1048576 - (n : Int) - (lnS ts : Int) else -1

theorem szIntS_yes (n : Nat) (a : Option Addr) (c : Nat) (l : Int) (h : (n : Int) ≤ l) (hl : l ≤ 1048576) (w : World) : Calls Try.prog 43 #[.slice a n c, .int .i64 l] w fun e w' => e = .returned (.int .i64 (l - (n : Int))) ∧ w' = w := by
  have d1 : decide (l - (n : Int) < 0) = false := decide_eq_false (by omega)
  go_enter Try.func43, Try.ntmps43
  go_wp2
  go_ret
  exact ⟨rfl, rfl⟩
theorem szIntS_no (n : Nat) (a : Option Addr) (c : Nat) (l : Int) (h0 : 0 ≤ l) (h : l < (n : Int)) (hn : n ≤ maxLen) (w : World) : Calls Try.prog 43 #[.slice a n c, .int .i64 l] w fun e w' => e = .returned (.int .i64 (-1)) ∧ w' = w := by
  unfold maxLen at hn
  have d1 : decide (l - (n : Int) < 0) = true := decide_eq_true (by omega)
  go_enter Try.func43, Try.ntmps43
  go_wp2
  go_ret
  exact ⟨rfl, rfl⟩

set_option maxHeartbeats 1000000 in
theorem szIntSS_any (ts : List (List Int)) (n : Nat) (a : Option Addr) (c : Nat) (hn : n ≤ maxLen) (hm : ∀ t ∈ ts, t.length ≤ maxLen) (w : World) (h : Ts w w.heap.size a n ts) :
    Calls Try.prog 21 #[.slice a n c, .int .i64 1048576] w fun e w' => e = .returned (.int .i64 (szv n ts)) ∧ w' = w := by
  unfold maxLen at hn
  obtain ⟨hlen, hrow⟩ := h
  have HR := hideIt hrow
  clear hrow
  by_cases g : n ≤ 1048576
  · have d1 : decide (1048576 - (n : Int) < 0) = false := decide_eq_false (by omega)
    go_enter Try.func21, Try.ntmps21
    go_wp2
    go_loopw [1, 5] (fun q i wr => ∃ (k : Nat) (x : Int), k ≤ n ∧ i = .int .i64 (k : Int) ∧ q = .int .i64 x ∧ 0 ≤ x ∧ x ≤ 1048576 ∧ Hid (x = 1048576 - (n : Int) - (lnS (ts.take k) : Int)) ∧ wr = w) (fun _ i _ => n - (intOf i).toNat)
    case atStart => exact ⟨0, _, by omega, rfl, rfl, by omega, by omega, by show _ = _; rw [lnS_zero]; simp, rfl⟩
    case round =>
      obtain ⟨k, x, hk, rfl, rfl, hx0, hx1, HX, hw⟩ := hrel
      have hw' := hw.symm
      subst hw'
      clear hw
      by_cases hlt : k < n
      · rcases HR.out with hz | ⟨b, off, rfl, hbl, hc⟩
        · omega
        · obtain ⟨t, ht⟩ : ∃ t, ts[k]? = some t := ⟨ts[k]'(by omega), List.getElem?_eq_getElem (by omega)⟩
          obtain ⟨a', c', e0, _⟩ := hc k t ht
          have hml := hm t (List.mem_of_getElem? ht)
          have b1 : (0 : Int) ≤ (k : Int) := by omega
          have b2 : (k : Int) < (n : Int) := by omega
          by_cases hfit : (t.length : Int) ≤ x
          · have HY := hideIt (szIntS_yes t.length a' c' x hfit hx1 w)
            have HX2 : Hid (x - (t.length : Int) = 1048576 - (n : Int) - (lnS (ts.take (k + 1)) : Int)) := by
              show _ = _
              have := HX.out
              rw [lnS_take ht]
              omega
            have d2 : decide (x - (t.length : Int) < 0) = false := decide_eq_false (by omega)
            clear hc ht HX
            go_wp2_with (go_at_call 43; refine HY.out.mono ?_; rintro e w1 ⟨rfl, hw⟩; have hw' := hw.symm; subst hw'; clear hw)
            exact ⟨⟨k + 1, _, by omega, by go_num, rfl, by omega, by omega, HX2, by first | trivial | rfl⟩, by simp [intOf]; omega⟩
          · have HY := hideIt (szIntS_no t.length a' c' x hx0 (by omega) hml w)
            have HV : Hid (szv n ts = -1) := by
              show _ = _
              have h1 := HX.out
              have h2 := lnS_at ht
              unfold szv
              rw [if_neg (by omega)]
            clear hc ht HX hml
            go_wp2_with (go_at_call 43; refine HY.out.mono ?_; rintro e w1 ⟨rfl, hw⟩; have hw' := hw.symm; subst hw'; clear hw)
            go_ret
            exact ⟨by rw [HV.out]; rfl, rfl⟩
      · obtain rfl : k = n := by omega
        have HV : Hid (szv k ts = x) := by
          show _ = _
          have h1 := HX.out
          rw [List.take_of_length_le (by omega)] at h1
          unfold szv
          rw [if_pos (by omega)]
          exact h1.symm
        clear HX
        go_wp2
        go_ret
        exact ⟨by rw [HV.out]; rfl, rfl⟩
  · have d1 : decide (1048576 - (n : Int) < 0) = true := decide_eq_true (by omega)
    have HV : Hid (szv n ts = -1) := by
      show _ = _
      unfold szv
      rw [if_neg (by omega)]
    go_enter Try.func21, Try.ntmps21
    go_wp2
    go_ret
    exact ⟨by rw [HV.out]; rfl, rfl⟩

theorem szForest_any (N : Int) (ts : List (List Int)) (n : Nat) (a : Option Addr) (c : Nat) (hn : n ≤ maxLen) (hm : ∀ t ∈ ts, t.length ≤ maxLen) (w : World) (h : Ts w w.heap.size a n ts) :
    Calls Try.prog 6 #[.agg #[.int .i64 N, .slice a n c], .int .i64 1048576] w fun e w' => e = .returned (.int .i64 (szv n ts)) ∧ Below w.heap.size w w' := by
  have b0 : Below w.heap.size w (w.alloc (.cells #[.int .i64 N, .slice a n c] 24)) := (Below.refl _ _).alloc (Nat.le_refl _) _
  have HT := hideIt (szIntSS_any ts n a c hn hm _ (h.up b0))
  by_cases g : n + lnS ts ≤ 1048576
  · have HV : Hid (szv n ts = 1048576 - (n : Int) - (lnS ts : Int)) := by show _ = _; unfold szv; rw [if_pos g]
    have d1 : decide (szv n ts < 0) = false := decide_eq_false (by have := HV.out; omega)
    generalize szv n ts = z at *
    clear h HV
    go_enter Try.func6, Try.ntmps6
    go_wp2_with (go_at_call 21; refine HT.out.mono ?_; rintro e w1 ⟨rfl, rfl⟩)
    go_ret
    exact ⟨rfl, b0⟩
  · have HV : Hid (szv n ts = -1) := by show _ = _; unfold szv; rw [if_neg g]
    have d1 : decide (szv n ts < 0) = true := decide_eq_true (by have := HV.out; omega)
    generalize szv n ts = z at *
    clear h
    go_enter Try.func6, Try.ntmps6
    go_wp2_with (go_at_call 21; refine HT.out.mono ?_; rintro e w1 ⟨rfl, rfl⟩)
    go_ret
    exact ⟨by rw [HV.out]; rfl, b0⟩

theorem infoIT : (Try.prog.info? 45).map (fun i => (i.zero, i.size, i.bytes)) = some (some (.slice none 0 0), 1, 24) := by kernel_rfl

/-- rows in the making: k of n are laid -/
structure FMk (w : World) (n : Nat) (R : List Rw) (u : World) : Prop where
  xs : ∃ xs : List Value, u.ownsRow w.heap.size 45 1 (.slice (some ⟨w.heap.size, 0, none⟩) n n) n xs ∧ xs.take R.length = rhs R
  ins : ∀ r ∈ R, RwB u r ∧ w.heap.size < r.g
  nod : R.Pairwise fun r s => r.g ≠ s.g
  bel : Below w.heap.size w u
theorem FMk.fb {w u : World} {n : Nat} {R : List Rw} (h : FMk w n R u) (hn : R.length = n) : FB u w.heap.size u.heap.size (some ⟨w.heap.size, 0, none⟩) n n R := by
  obtain ⟨xs, h1, h2⟩ := h.xs
  have hl := h1.1
  rw [List.take_of_length_le (by omega)] at h2
  subst h2
  exact ⟨hn, h1, fun g hg => (h1.lt g hg).2, Nat.le_refl _, fun r hr => ⟨(h.ins r hr).1, by have := (h.ins r hr).2; omega, (h.ins r hr).1.lt⟩, h.nod⟩
theorem FMk.add {w u v : World} {n : Nat} {R : List Rw} (h : FMk w n R u) {r : Rw} (hk : R.length < n) (hb : Below u.heap.size u v) (hr : RwB v r) (hg : u.heap.size ≤ r.g) : FMk w n (R ++ [r]) (v.setCell ⟨w.heap.size, R.length, none⟩ r.hdr) := by
  obtain ⟨xs, h1, h2⟩ := h.xs
  have h3 := own_up h1 hb
  have hst := h3.stored R.length r.hdr
  have hl := h1.1
  have hsz := (h1.lt w.heap.size rfl).2
  have hkeep : ∀ x, RwB v x → RwB (v.setCell ⟨w.heap.size, R.length, none⟩ r.hdr) x := fun x hx => hx.grown (grownSet v w.heap.size R.length r.hdr) (fun e => own_ne h3 hx (by simpa using e))
  refine ⟨⟨_, hst.1, ?_⟩, fun x hx => ?_, ?_, ?_⟩
  · rw [List.length_append, List.length_cons, List.length_nil, Nat.zero_add, List.take_add_one, List.take_set_of_le (Nat.le_refl _), h2, rhs_snoc]
    simp [show R.length < xs.length by omega]
  · rcases List.mem_append.1 hx with hx | hx
    · have := h.ins x hx
      exact ⟨hkeep x (this.1.rng (l2 := x.g + 1) (h2 := x.g + 1) (Rng.of_below hb) (.inl (Nat.le_refl _))), this.2⟩
    · simp at hx
      subst hx
      exact ⟨hkeep x hr, by omega⟩
  · rw [List.pairwise_append]
    refine ⟨h.nod, by simp, fun x hx y hy => ?_⟩
    simp at hy
    subst hy
    have := (h.ins x hx).1.lt
    omega
  · exact (h.bel.trans (hb.mono (by omega))).setCell (p := ⟨w.heap.size, R.length, none⟩) (Nat.le_refl _) _

set_option maxHeartbeats 1000000 in
theorem toIntSS_any (ts : List (List Int)) (n : Nat) (a : Option Addr) (cap : Nat) (hn : n + lnS ts ≤ 1048576) (w : World) (h : Ts w w.heap.size a n ts) :
    Calls Try.prog 26 #[.slice a n cap] w fun e w' => ∃ g R, e = .returned (.slice (some ⟨g, 0, none⟩) n n) ∧ FB w' w.heap.size w'.heap.size (some ⟨g, 0, none⟩) n n R ∧ rts R = ts ∧ Below w.heap.size w w' := by
  obtain ⟨i0, hi, hz0, hz1, hz2⟩ := info_parts infoIT
  have hlen := h.1
  have HTs := hideIt h
  have hmk : ∀ u : World, (Instr.makeSlice 22 (.int .i64 (n : Int)) (.int .i64 (n : Int))).run Try.prog u =
      .ok (.slice (some ⟨u.heap.size, 0, none⟩) n n) (u.alloc (.cells (madeCells #[.slice none 0 0] n) 45)) := fun u => by
    have h := run_make (P := Try.prog) u 22 45 i0 _ Try.underlying22 hi hz0 .i64 .i64 (n : Int) (n : Int) (by omega) (by omega) (by rw [hz2]; omega) (by omega)
    rw [Int.toNat_natCast] at h
    simpa [hz1, Value.cells] using h
  have F0 : FMk w n [] (w.alloc (.cells (madeCells #[.slice none 0 0] n) 45)) :=
    ⟨⟨_, World.ownsRow_lit (base := w.heap.size) (e := 45) (size := 1) w (madeCells #[.slice none 0 0] n) n (Nat.le_refl _) (by unfold maxLen; omega) (by simp [madeCells]), by simp [rhs]⟩, by simp, List.Pairwise.nil, (Below.refl _ _).alloc (Nat.le_refl _) _⟩
  clear h
  go_enter Try.func26, Try.ntmps26
  go_wp2
  go_loopw [4] (fun i wr => ∃ (k : Nat) (R : List Rw), k ≤ n ∧ i = .int .i64 (k : Int) ∧ Hid (R.length = k) ∧ Hid (rts R = ts.take k) ∧ FMk w n R wr) (fun i _ => n - (intOf i).toNat)
  case atStart => exact ⟨0, [], by omega, rfl, by show _ = _; rfl, by show _ = _; simp [rts], F0⟩
  case round =>
    obtain ⟨k, R, hk, rfl, HK, HTk, hF⟩ := hrel
    clear F0 hmk
    have HF := hideIt hF
    have hbw := hF.bel
    by_cases hlt : k < n
    · obtain ⟨t, ht⟩ : ∃ t, ts[k]? = some t := ⟨ts[k]'(by omega), List.getElem?_eq_getElem (by omega)⟩
      rcases (HTs.out.up hbw).2 with hz | ⟨b, off, rfl, hbl, hc⟩
      · omega
      · obtain ⟨a', c', e0, hI, _⟩ := hc k t ht
        have b1 : (0 : Int) ≤ (k : Int) := by omega
        have b2 : (k : Int) < (n : Int) := by omega
        have hfit : t.length ≤ 1048576 := by have := lnS_at ht; omega
        have HY := hideIt (toIntS_any t t.length a' c' hfit wr hI)
        have HT2 : Hid (∀ r : Rw, r.t = t → rts (R ++ [r]) = ts.take (k + 1)) := fun r hr => by rw [rts_snoc, HTk.out, take_snocF ts k t ht, hr]
        obtain ⟨xs, hown, hxs⟩ := hF.xs
        have HO := hideIt hown
        have hl3 : xs.length = n * 1 := hown.1
        have hwz := (hown.lt w.heap.size rfl).2
        clear hc ht hF HTk hI hown hxs hbw
        go_wp2_with (go_at_call 48; refine HY.out.mono ?_; rintro e w1 ⟨g, rfl, ho, hb⟩; refine Hid.out ?_)
        refine (show ∀ {p : Prop}, p → Hid p from fun h => h) ?_
        have ho2 := own_up HO.out hb
        have f0 := ho2.frozenAt k
        have x0 : w1.cell? ⟨w.heap.size, k, none⟩ = some (xs[k]'(by omega)) := by rw [ho2.cellAt k (by omega)]; exact List.getElem?_eq_getElem (by omega)
        have hA := HF.out.add (r := ⟨g, t.length, t⟩) (by have := HK.out; omega) hb (RwB.of_own ho) (ho.lt g rfl).1
        rw [HK.out] at hA
        have HA := hideIt hA
        clear ho2 hA ho HY HF
        go_wp2
        exact ⟨⟨k + 1, _, by omega, by go_num, by show _ = _; rw [List.length_append, HK.out]; rfl, HT2.out _ rfl, HA.out⟩, by simp [intOf]; omega⟩
    · obtain rfl : k = n := by omega
      have HT2 : Hid (rts R = ts) := by show _ = _; rw [HTk.out, List.take_of_length_le (by omega)]
      clear hF hbw
      go_wp2
      go_ret
      exact ⟨w.heap.size, R, rfl, HF.out.fb HK.out, HT2.out, HF.out.bel⟩

set_option maxHeartbeats 1000000 in
theorem toForest_any (N : Int) (ts : List (List Int)) (n : Nat) (a : Option Addr) (cap : Nat) (hn : n + lnS ts ≤ 1048576) (w : World) (h : Ts w w.heap.size a n ts) :
    Calls Try.prog 8 #[.agg #[.int .i64 N, .slice a n cap]] w fun e w' => ∃ g R, e = .returned (.agg #[.int .i64 N, .slice (some ⟨g, 0, none⟩) n n]) ∧ FB w' w.heap.size w'.heap.size (some ⟨g, 0, none⟩) n n R ∧ rts R = ts ∧ Below w.heap.size w w' := by
  have b3 : Below w.heap.size w (((w.alloc (.cells #[.int .i64 N, .slice a n cap] 24)).alloc (.cells #[.int .i64 0, .slice none 0 0] 28)).alloc (.cells #[.int .i64 N, .slice none 0 0] 28)) := (((Below.refl _ _).alloc (Nat.le_refl _) _).alloc (by simp) _).alloc (by simp; omega) _
  have HT := hideIt (toIntSS_any ts n a cap hn _ (h.up b3))
  clear h
  go_enter Try.func8, Try.ntmps8
  go_wp2_with (go_at_call 26; refine HT.out.mono ?_; rintro e w1 ⟨g, R, rfl, hF, hR, hb1⟩; refine Hid.out ?_)
  refine (show ∀ {p : Prop}, p → Hid p from fun h => h) ?_
  obtain ⟨hc, hf⟩ := bcell hb1
  have HF := hideIt hF
  have HR := hideIt hR
  have hz := hb1.size
  clear hF HT hR
  simp at hz
  go_wp2
  refine bodyPost_ret (v := .agg #[.int .i64 N, .slice (some ⟨g, 0, none⟩) n n]) (by simp [results, Try.results8, go_sem, hc]) rfl ⟨g, R, rfl, ?_, HR.out, ?_⟩
  · exact ((HF.out.setLow (by simp) _ _).setLow (by simp) _ _ |>.setLow (by simp) _ _).lo (by simp; omega) |>.hi (by simp) (by simp)
  · exact ((b3.trans (hb1.mono (by simp; omega))).setCell (by simp; omega) _).setCell (by simp) _ |>.setCell (by simp) _


set_option maxHeartbeats 1000000 in
theorem eqIntSS_same (ts : List (List Int)) (n : Nat) (a a' : Option Addr) (c c' : Nat) (hn : n + lnS ts ≤ 1048576) (w : World) (h : Ts w w.heap.size a n ts) (h' : Ts w w.heap.size a' n ts) :
    Calls Try.prog 31 #[.slice a n c, .slice a' n c'] w fun e w' => e = .returned (.bool true) ∧ Below w.heap.size w w' := by
  have hlen := h.1
  have HA := hideIt h
  have HA' := hideIt h'
  have dn : ((n : Int) != (n : Int)) = false := by simp
  clear h h'
  go_enter Try.func31, Try.ntmps31
  go_wp2
  go_loopw [5] (fun i wr => ∃ (k : Nat), k ≤ n ∧ i = .int .i64 (k : Int) ∧ Good w wr) (fun i _ => n - (intOf i).toNat)
  case atStart => exact ⟨0, by omega, rfl, Good.refl _⟩
  case round =>
    obtain ⟨k, hk, rfl, hg⟩ := hrel
    by_cases hlt : k < n
    · rcases (HA.out.up hg).2 with hz | ⟨b, off, rfl, hbl, hc⟩
      · omega
      · rcases (HA'.out.up hg).2 with hz | ⟨b', off', rfl, hbl', hc'⟩
        · omega
        · obtain ⟨t, ht⟩ : ∃ t, ts[k]? = some t := ⟨ts[k]'(by omega), List.getElem?_eq_getElem (by omega)⟩
          obtain ⟨x, cx, e0, i0, _⟩ := hc k t ht
          obtain ⟨y, cy, e1, i1, _⟩ := hc' k t ht
          have hfit : t.length ≤ 1048576 := by have := lnS_at ht; omega
          have b1 : (0 : Int) ≤ (k : Int) := by omega
          have b2 : (k : Int) < (n : Int) := by omega
          have HE := hideIt (fun u (hu : Good wr u) => (eqIntS_same t t.length x y cx cy hfit u (i0.up hu) (i1.up hu)).mono fun e v ⟨he, hb⟩ => (⟨he, Good.up hu hb⟩ : e = Ending.returned (.bool true) ∧ Good wr v))
          have HG := hideIt (fun u (hu : Good wr u) => hg.up hu)
          have g0 := (Good.refl wr).drew
          have HC : Hid (∀ u, Good wr u → u.cell? ⟨b, off + k, none⟩ = some (.slice x t.length cx) ∧ u.cell? ⟨b', off' + k, none⟩ = some (.slice y t.length cy)) := fun u hu => ⟨by rw [hu.cell hbl]; exact e0, by rw [hu.cell hbl']; exact e1⟩
          have hS0 := HC.out _ g0
          clear hc hc' ht i0 i1
          go_wp2
          go_region_held3 (fun u => u.cell? ⟨b, off + k, none⟩ = some (.slice x t.length cx) ∧ u.cell? ⟨b', off' + k, none⟩ = some (.slice y t.length cy)) (first | assumption)
            (first | (go_at_call 57; refine (HE.out _ g0).mono ?_; rintro e w1 ⟨rfl, hg1⟩; have hS1 := HC.out _ hg1))
          have hg2 := HG.out _ hg1
          go_wp2
          exact ⟨⟨k + 1, by omega, by go_num, hg2⟩, by simp [intOf]; omega⟩
    · go_wp2
      go_ret
      exact ⟨rfl, hg⟩

theorem eqForest_same (N : Int) (ts : List (List Int)) (n : Nat) (a a' : Option Addr) (c c' : Nat) (hn : n + lnS ts ≤ 1048576) (w : World) (h : Ts w w.heap.size a n ts) (h' : Ts w w.heap.size a' n ts) :
    Calls Try.prog 11 #[.agg #[.int .i64 N, .slice a n c], .agg #[.int .i64 N, .slice a' n c']] w fun e w' => e = .returned (.bool true) ∧ Below w.heap.size w w' := by
  have b2 : Below w.heap.size w ((w.alloc (.cells #[.int .i64 N, .slice a n c] 28)).alloc (.cells #[.int .i64 N, .slice a' n c'] 28)) := ((Below.refl _ _).alloc (Nat.le_refl _) _).alloc (by simp) _
  have HT := hideIt (eqIntSS_same ts n a a' c c' hn _ (h.up b2) (h'.up b2))
  have HB := hideIt b2
  clear b2 h h'
  go_enter Try.func11, Try.ntmps11
  go_wp2_with (go_at_call 31; refine HT.out.mono ?_; rintro e w1 ⟨rfl, hb1⟩)
  go_ret
  exact ⟨rfl, HB.out.trans (hb1.mono (by simp; omega))⟩

/-- only the rows have turned -/
structure Tur (R : List Rw) (u v : World) : Prop where
  os : v.os = u.os
  tape : v.tape = u.tape
  output : v.output = u.output
  size : u.heap.size ≤ v.heap.size
  block : ∀ k, k < u.heap.size → (∀ r ∈ R, k ≠ r.g) → v.heap[k]? = u.heap[k]?
theorem Tur.rng {R : List Rw} {u v : World} {lo hi : Nat} (h : Tur R u v) (hr : ∀ r ∈ R, lo ≤ r.g ∧ r.g < hi) : Rng lo hi u v := ⟨h.os, h.tape, h.output, h.size, fun k hk ho => h.block k hk fun r hr2 e => by have := hr r hr2; omega⟩
theorem Tur.of_below {R : List Rw} {u v : World} (h : Below u.heap.size u v) : Tur R u v := ⟨h.os, h.tape, h.output, h.size, fun k hk _ => h.block k hk⟩
set_option maxHeartbeats 1000000 in
theorem markIntSS_any (R : List Rw) (lo hi n k0 : Nat) (a : Option Addr) (c : Nat) (hn : n + rn R ≤ 1048576) (hk1 : k0 ≤ 1000000) (w : World) (h : FB w lo hi a n c R) :
    Calls Try.prog 32 #[.slice a n c, .int .i64 (k0 : Int)] w fun e w' => e = .returned (.int .i64 ((k0 : Int) + (rn R : Int))) ∧ FB w' lo hi a n c (mkR k0 R) ∧ Tur R w w' := by
  have hlen := h.len
  have H0 := hideIt h
  clear h
  go_enter Try.func32, Try.ntmps32
  go_wp2
  go_loopw [1, 5] (fun q i wr => ∃ (k s : Nat), k ≤ n ∧ i = .int .i64 (k : Int) ∧ q = .int .i64 ((k0 : Int) + (s : Int)) ∧ Hid (s = rn (R.take k)) ∧ FB wr lo hi a n c (mkR k0 (R.take k) ++ R.drop k) ∧ Tur R w wr) (fun _ i _ => n - (intOf i).toNat)
  case atStart => exact ⟨0, 0, by omega, rfl, by simp, by show _ = _; rfl, H0.out, Tur.of_below (Below.refl _ _)⟩
  case round =>
    obtain ⟨k, s, hk, rfl, rfl, HS, hF, hr⟩ := hrel
    clear H0
    by_cases hlt : k < n
    · obtain ⟨r, hrk⟩ : ∃ r, R[k]? = some r := ⟨R[k]'(by omega), List.getElem?_eq_getElem (by omega)⟩
      rw [split_at hrk] at hF
      have hkl : (mkR k0 (R.take k)).length = k := by rw [mkR_len, List.length_take]; omega
      rcases hF.own.2 with ⟨_, h0⟩ | ⟨g, cap, cur, hv, hg, hcur, hrest⟩
      · omega
      · have hv' := hv
        simp at hv'
        obtain ⟨rfl, rfl⟩ := hv'
        have e0 : wr.cell? ⟨g, k, none⟩ = some (.slice (some ⟨r.g, 0, none⟩) r.t.length r.cp) := by
          rw [hF.own.cellAt k (by omega)]
          exact rhs_at (r := r) (by rw [List.getElem?_append_right (by omega), hkl, Nat.sub_self]; rfl)
        have hs := HS.out
        have hfit := rn_at hrk
        have hri := hF.ins r (by simp)
        have HM := hideIt (markRB hri.1 (k0 + s) (by omega) (by omega))
        rw [show ((k0 + s : Nat) : Int) = (k0 : Int) + (s : Int) by omega] at HM
        have HF := hideIt hF
        have HR := hideIt hr
        have HRI : Hid (r ∈ R) := List.mem_of_getElem? hrk
        have HN : Hid (mkR k0 (R.take k) ++ ⟨r.g, r.cp, imarks (k0 + s) r.t.length⟩ :: R.drop (k + 1) = mkR k0 (R.take (k + 1)) ++ R.drop (k + 1)) := by
          show _ = _
          rw [take_snocF R k r hrk, mkR_snoc, hs]
          simp
        have HS2 : Hid (s + r.t.length = rn (R.take (k + 1))) := by show _ = _; rw [rn_take hrk, hs]
        have b1 : (0 : Int) ≤ (k : Int) := by omega
        have b2 : (k : Int) < (n : Int) := by omega
        clear hF hr hrest hcur hv hrk hs hkl hri
        go_wp2_with (go_at_call 58; refine HM.out.mono ?_; rintro e w1 ⟨rfl, hB, hr1⟩; refine Hid.out ?_)
        refine (show ∀ {p : Prop}, p → Hid p from fun h => h) ?_
        have HA := hideIt (HF.out.turn (imarks_len _ _) hr1 hB)
        have HR2 : Hid (Tur R w w1) := ⟨hr1.os.trans HR.out.os, hr1.tape.trans HR.out.tape, hr1.output.trans HR.out.output, Nat.le_trans HR.out.size hr1.size, fun j hj ho => (hr1.block j (Nat.lt_of_lt_of_le hj HR.out.size) (by have := ho r HRI.out; omega)).trans (HR.out.block j hj ho)⟩
        clear HF HR HM hB hr1
        go_wp2
        exact ⟨⟨k + 1, s + r.t.length, by omega, by go_num, by go_num, HS2, by rw [← HN.out]; exact HA.out, HR2.out⟩, by simp [intOf]; omega⟩
    · obtain rfl : k = n := by omega
      have HS2 : Hid (s = rn R) := by show _ = _; rw [HS.out, List.take_of_length_le (by omega)]
      have HF := hideIt hF
      clear hF HS
      go_wp2
      go_ret
      refine ⟨by rw [← HS2.out]; rfl, ?_, hr⟩
      have := HF.out
      rw [List.take_of_length_le (by omega), List.drop_of_length_le (by omega), List.append_nil] at this
      exact this

theorem markForest_any (N : Int) (R : List Rw) (lo hi n k0 : Nat) (a : Option Addr) (c : Nat) (hn : n + rn R ≤ 1048576) (hk1 : k0 ≤ 1000000) (w : World) (h : FB w lo hi a n c R) :
    Calls Try.prog 12 #[.agg #[.int .i64 N, .slice a n c], .int .i64 (k0 : Int)] w fun e w' => e = .returned (.int .i64 ((k0 : Int) + (rn R : Int))) ∧ FB w' lo hi a n c (mkR k0 R) ∧ Tur R w w' := by
  have hb : Below w.heap.size w (w.alloc (.cells #[.int .i64 N, .slice a n c] 28)) := (Below.refl _ _).alloc (Nat.le_refl _) _
  have HT := hideIt (markIntSS_any R lo hi n k0 a c hn hk1 _ (h.up hb))
  have HB := hideIt hb
  clear h hb
  go_enter Try.func12, Try.ntmps12
  go_wp2_with (go_at_call 32; refine HT.out.mono ?_; rintro e w1 ⟨rfl, ho, hg⟩; refine Hid.out ?_)
  refine (show ∀ {p : Prop}, p → Hid p from fun h => h) ?_
  have HO := hideIt ho
  have HG : Hid (Tur R w w1) := ⟨hg.os.trans HB.out.os, hg.tape.trans HB.out.tape, hg.output.trans HB.out.output, Nat.le_trans HB.out.size hg.size, fun j hj ho => (hg.block j (Nat.lt_of_lt_of_le hj HB.out.size) ho).trans (HB.out.block j hj)⟩
  clear ho hg HT HB
  go_wp2
  go_ret
  exact ⟨rfl, HO.out, HG.out⟩

set_option maxHeartbeats 1000000 in
theorem heldIntSS_any (R : List Rw) (lo hi n k0 : Nat) (a : Option Addr) (c : Nat) (hn : n + rn R ≤ 1048576) (hk1 : k0 ≤ 1000000) (w : World) (h : FB w lo hi a n c (mkR k0 R)) :
    Calls Try.prog 33 #[.slice a n c, .int .i64 (k0 : Int)] w fun e w' => e = .returned (.int .i64 ((k0 : Int) + (rn R : Int))) ∧ w' = w := by
  have hlen := h.len
  rw [mkR_len] at hlen
  have H0 := hideIt h
  clear h
  go_enter Try.func33, Try.ntmps33
  go_wp2
  go_loopw [1, 5] (fun q i wr => ∃ (k s : Nat), k ≤ n ∧ i = .int .i64 (k : Int) ∧ q = .int .i64 ((k0 : Int) + (s : Int)) ∧ Hid (s = rn (R.take k)) ∧ wr = w) (fun _ i _ => n - (intOf i).toNat)
  case atStart => exact ⟨0, 0, by omega, rfl, by simp, by show _ = _; rfl, rfl⟩
  case round =>
    obtain ⟨k, s, hk, rfl, rfl, HS, hw⟩ := hrel
    have hw' := hw.symm
    subst hw'
    clear hw
    by_cases hlt : k < n
    · obtain ⟨r, hrk⟩ : ∃ r, R[k]? = some r := ⟨R[k]'(by omega), List.getElem?_eq_getElem (by omega)⟩
      rcases H0.out.own.2 with ⟨_, h0⟩ | ⟨g, cap, cur, hv, hg, hcur, hrest⟩
      · omega
      · have hv' := hv
        simp at hv'
        obtain ⟨rfl, rfl⟩ := hv'
        have hat := mkR_at (k := k0) hrk
        have e0 : w.cell? ⟨g, k, none⟩ = some (.slice (some ⟨r.g, 0, none⟩) r.t.length r.cp) := by
          rw [H0.out.own.cellAt k (by omega), rhs_at hat]
          simp [Rw.hdr, imarks_len]
        have hs := HS.out
        have hfit := rn_at hrk
        have hri : RBox w r.g (r.g + 1) (some ⟨r.g, 0, none⟩) (imarks (k0 + rn (R.take k)) r.t.length).length r.cp (imarks (k0 + rn (R.take k)) r.t.length) := (H0.out.ins _ (List.mem_of_getElem? hat)).1
        rw [imarks_len, ← hs] at hri
        have HM := hideIt (heldRB (k0 + s) hri (by omega) (by omega))
        rw [show ((k0 + s : Nat) : Int) = (k0 : Int) + (s : Int) by omega] at HM
        have HS2 : Hid (s + r.t.length = rn (R.take (k + 1))) := by show _ = _; rw [rn_take hrk, hs]
        have b1 : (0 : Int) ≤ (k : Int) := by omega
        have b2 : (k : Int) < (n : Int) := by omega
        have d1 : decide ((k0 : Int) + (s : Int) + (r.t.length : Int) < 0) = false := decide_eq_false (by omega)
        clear hrest hcur hv hrk hs hri hat
        go_wp2_with (go_at_call 59; refine HM.out.mono ?_; rintro e w1 ⟨rfl, hw⟩; have hw' := hw.symm; subst hw'; clear hw)
        exact ⟨⟨k + 1, s + r.t.length, by omega, by go_num, by go_num, HS2, by first | trivial | rfl⟩, by simp [intOf]; omega⟩
    · obtain rfl : k = n := by omega
      have HS2 : Hid (s = rn R) := by show _ = _; rw [HS.out, List.take_of_length_le (by omega)]
      clear HS
      go_wp2
      go_ret
      exact ⟨by rw [← HS2.out]; rfl, rfl⟩

theorem heldForest_any (N : Int) (R : List Rw) (lo hi n k0 : Nat) (a : Option Addr) (c : Nat) (hn : n + rn R ≤ 1048576) (hk1 : k0 ≤ 1000000) (w : World) (h : FB w lo hi a n c (mkR k0 R)) :
    Calls Try.prog 13 #[.agg #[.int .i64 N, .slice a n c], .int .i64 (k0 : Int)] w fun e w' => e = .returned (.int .i64 ((k0 : Int) + (rn R : Int))) ∧ Below w.heap.size w w' := by
  have hb : Below w.heap.size w (w.alloc (.cells #[.int .i64 N, .slice a n c] 28)) := (Below.refl _ _).alloc (Nat.le_refl _) _
  have HT := hideIt (heldIntSS_any R lo hi n k0 a c hn hk1 _ (h.up hb))
  have d1 : decide ((k0 : Int) + (rn R : Int) < 0) = false := decide_eq_false (by omega)
  have HB := hideIt hb
  clear h hb
  go_enter Try.func13, Try.ntmps13
  go_wp2_with (go_at_call 33; refine HT.out.mono ?_; rintro e w1 ⟨rfl, rfl⟩)
  go_ret
  exact ⟨rfl, HB.out⟩
end Go.Proofs.Ytcpffonenhhfoab
namespace Go.Proofs.Ytcpffonenhhfoab
open Go.RowKit

theorem vs_first {t : List Int} (hB : tB t = true) : (vsL t)[0]? = some (mnV t) := by
  have h := vs_pos hB
  have hx : (vsL t)[0]? = some ((vsL t)[0]'h) := List.getElem?_eq_getElem h
  rw [hx, mn_first hx]
theorem Is.at {w : World} {B b off n : Nat} {ls : List Int} (h : Is w B (some ⟨b, off, none⟩) n ls) {j : Nat} {x : Int} (hx : ls[j]? = some x) : w.cell? ⟨b, off + j, none⟩ = some (.int .i64 x) := by
  have hj := (List.getElem?_eq_some_iff.1 hx).1
  have hn := h.1
  rcases h.2 with h0 | ⟨b', off', hb, _, hc⟩
  · omega
  · simp at hb
    obtain ⟨rfl, rfl⟩ := hb
    exact hc j x hx
/-- a list that is not empty stands somewhere -/
theorem own_some {u : World} {B m c : Nat} {a : Option Addr} {xs : List Value} (h : u.ownsRow B 3 1 (.slice a m c) m xs) (hm : 0 < m) : ∃ g, a = some ⟨g, 0, none⟩ ∧ g < u.heap.size ∧ B ≤ g := by
  rcases h.2 with ⟨_, h0⟩ | ⟨g, cap, cur, hv, hrest⟩
  · omega
  · simp at hv
    obtain ⟨rfl, rfl⟩ := hv
    exact ⟨g, rfl, (h.lt g rfl).2, (h.lt g rfl).1⟩

/-- the first of a right tour's vertices -/
theorem vertsFirst {w2 : World} {q : List Int} (hB : tB q = true) (y : Option Addr) (cy : Nat) (hfq : q.length ≤ 3000000) (u : World) (hu : Good w2 u) (h : Is u u.heap.size y q.length q) :
    Calls Try.prog 34 #[.slice y q.length cy] u fun e v => ∃ g3 m3 c3, e = .returned (.slice (some ⟨g3, 0, none⟩) m3 c3) ∧ 0 < m3 ∧ v.cell? ⟨g3, 0, none⟩ = some (.int .i64 (mnV q)) ∧ Good w2 v :=
  (sVertsOf_any q q.length y cy hfq u h).mono fun e v ⟨a3, m3, c3, he, ho, hb⟩ => by
    have hm : (vsL q).length = m3 := by have := ho.1; rw [ic_len] at this; omega
    have hp : 0 < m3 := by have := vs_pos hB; omega
    obtain ⟨g, rfl, _, _⟩ := own_some ho hp
    exact ⟨g, m3, c3, he, hp, by rw [ho.cellAt 0 (by omega)]; exact ic_at (vs_first hB), hu.up hb⟩

set_option maxRecDepth 100000 in
set_option maxHeartbeats 8000000 in
theorem sForestOk_any (N : Int) (ts : List (List Int)) (n : Nat) (a : Option Addr) (c : Nat) (hn : n + lnS ts ≤ 1048576) (w : World) (h : Ts w w.heap.size a n ts) :
    Calls Try.prog 36 #[.agg #[.int .i64 N, .slice a n c]] w fun e w' => ∃ b, e = .returned (.bool b) ∧ (b = true ↔ FP N ts) ∧ Below w.heap.size w w' := by
  have b0 : Good w (w.alloc (.cells #[.int .i64 N, .slice a n c] 28)) := (Good.refl w).alloc _
  have HI := hideIt l01In_any
  have hlen := h.1
  have HA := hideIt (h.up b0)
  have HB0 := hideIt b0
  clear h b0
  by_cases h1 : 1 ≤ N ∧ N ≤ 12
  · have r1 : decide (1 ≤ N ∧ N ≤ 12) = true := decide_eq_true h1
    obtain ⟨h11, h12⟩ := h1
    by_cases hn12 : n ≤ 12
    · have r2 : decide (12 < (n : Int)) = false := decide_eq_false (by omega)
      have HC0 : Hid (∀ u, Good (w.alloc (.cells #[.int .i64 N, .slice a n c] 28)) u → u.cell? ⟨w.heap.size, 0, none⟩ = some (.int .i64 N) ∧ u.cell? ⟨w.heap.size, 1, none⟩ = some (.slice a n c)) := fun u hu => ⟨by rw [hu.cell (by simp)]; simp, by rw [hu.cell (by simp)]; simp⟩
      go_enter Try.func36, Try.ntmps36
      go_wp2_with (go_at_call 45; refine (HI.out _ _ _ _).mono ?_; rintro e w1 ⟨rfl, hw⟩; have hw' := hw.symm; subst hw'; clear hw)
      go_loopw [3, 4, 5] (fun al i _v wr => ∃ k s : Nat, k ≤ n ∧ s ≤ 12 * k ∧ i = .int .i64 (k : Int) ∧ al = .int .i64 (s : Int) ∧ Hid (s = cntV ts k) ∧ Hid (∀ j, j < k → FAt N ts j) ∧ Good (w.alloc (.cells #[.int .i64 N, .slice a n c] 28)) wr) (fun _ i _ _ => n - (intOf i).toNat)
      case atStart => exact ⟨0, 0, by omega, by omega, rfl, rfl, by show _ = _; rw [cntV_zero], fun j hj => by omega, Good.refl _⟩
      case round =>
        obtain ⟨k, s, hk, hsk, rfl, rfl, HS, HK, hg⟩ := hrel
        obtain ⟨k0, k1⟩ := HC0.out wr hg
        have HG := hideIt hg
        by_cases hlt : k < n
        · rcases (HA.out.up hg).2 with hz | ⟨b, off, rfl, hbl, hc⟩
          · omega
          · obtain ⟨t, ht⟩ : ∃ t, ts[k]? = some t := ⟨ts[k]'(by omega), List.getElem?_eq_getElem (by omega)⟩
            obtain ⟨x, cx, e0, iI, _⟩ := hc k t ht
            have hfit : t.length ≤ 3000000 := by have := lnS_mem (List.mem_of_getElem? ht); omega
            have b1 : (0 : Int) ≤ (k : Int) := by omega
            have b2 : (k : Int) < (n : Int) := by omega
            have HTO := hideIt (sTourOk_any t t.length x cx hfit wr iI)
            have HIx := hideIt iI
            have HCt := hideIt hc
            cases hB : tB t with
            | false =>
              rw [hB] at HTO
              have HN : Hid (¬ FP N ts) := fun hp => by have := (hp.2.2.2.1 k t ht).1; rw [hB] at this; cases this
              clear hc ht iI hB HK HS
              go_wp2_with (go_at_call 46; refine HTO.out.mono ?_; rintro e w1 ⟨rfl, hb1⟩)
              go_ret
              exact ⟨false, rfl, ⟨fun h => (by cases h), fun h => absurd h HN.out⟩, HB0.out.up (HG.out.up hb1)⟩
            | true =>
              rw [hB] at HTO
              have HBt := hideIt hB
              have HT := hideIt ht
              clear hc ht iI hB
              go_wp2_with (go_at_call 46; refine HTO.out.mono ?_; rintro e w1 ⟨rfl, hb1⟩; refine Hid.out ?_)
              refine (show ∀ {p : Prop}, p → Hid p from fun h => h) ?_
              have hb1 : Good wr w1 := hb1
              have HG1 := hideIt (HG.out.up hb1)
              have e1 : w1.cell? ⟨b, off + k, none⟩ = some (.slice x t.length cx) := by rw [hb1.cell hbl]; exact e0
              obtain ⟨k2, k3⟩ := HC0.out w1 HG1.out
              have HV := hideIt (sVertsOf_any t t.length x cx hfit w1 (HIx.out.up hb1))
              have HCt1 : Hid (∀ u, Good w1 u → ∀ (j : Nat) (q : List Int), ts[j]? = some q → ∃ (a' : Option Addr) (c' : Nat), u.cell? ⟨b, off + j, none⟩ = some (.slice a' q.length c') ∧ Is u u.heap.size a' q.length q ∧ q.length ≤ c') := fun u hu j q hq => by
                obtain ⟨a', c', p1, p2, p3⟩ := HCt.out j q hq
                have hu2 := hb1.up hu
                exact ⟨a', c', by rw [hu2.cell hbl]; exact p1, p2.up hu2, p3⟩
              have hbl1 : b < w1.heap.size := Nat.lt_of_lt_of_le hbl hb1.size
              clear HTO k0 k1 e0 HCt HIx hb1
              go_wp2_with (go_at_call 34; refine HV.out.mono ?_; rintro e w2 ⟨a2, m2, c2, rfl, ho, hb2⟩; refine Hid.out ?_)
              refine (show ∀ {p : Prop}, p → Hid p from fun h => h) ?_
              have hb2 : Good w1 w2 := hb2
              have hm2 : (vsL t).length = m2 := by have := ho.1; rw [ic_len] at this; omega
              have hp2 : 0 < m2 := by have := vs_pos HBt.out; omega
              have hl2 : m2 ≤ 12 := by have := vsL_len t; omega
              obtain ⟨g, rfl, hgl, hgw⟩ := own_some ho hp2
              have HO := hideIt ho
              have HG2 := hideIt (HG1.out.up hb2)
              have HM2 := hideIt hm2
              have HCr : Hid (∀ u, Good w2 u → ∀ (j : Nat) (y : Int), (vsL t)[j]? = some y → u.cell? ⟨g, j, none⟩ = some (.int .i64 y)) := fun u hu j y hy => by
                rw [hu.cell hgl, HO.out.cellAt j (by have := (List.getElem?_eq_some_iff.1 hy).1; omega)]
                exact ic_at hy
              have HCt2 : Hid (∀ u, Good w2 u → ∀ (j : Nat) (q : List Int), ts[j]? = some q → ∃ (a' : Option Addr) (c' : Nat), u.cell? ⟨b, off + j, none⟩ = some (.slice a' q.length c') ∧ Is u u.heap.size a' q.length q ∧ q.length ≤ c') := fun u hu j q hq => HCt1.out u (hb2.up hu) j q hq
              obtain ⟨lst, hlst⟩ : ∃ y, (vsL t)[(vsL t).length - 1]? = some y := ⟨(vsL t)[(vsL t).length - 1]'(by omega), List.getElem?_eq_getElem _⟩
              have HLst := hideIt (vs_last HBt.out (N := N) hlst)
              have l0 := HCr.out w2 (Good.refl w2) _ _ hlst
              rw [hm2] at l0
              have f0 := HCr.out w2 (Good.refl w2) _ _ (vs_first HBt.out)
              obtain ⟨k4, k5⟩ := HC0.out w2 HG2.out
              have x1 : (0 : Int) ≤ (m2 : Int) - 1 := by omega
              have x1b : (1 : Int) ≤ (m2 : Int) := by omega
              have x2 : (m2 : Int) - 1 < (m2 : Int) := by omega
              have x3 : ((m2 : Int) - 1).toNat = m2 - 1 := by omega
              have hbl2 : b < w2.heap.size := Nat.lt_of_lt_of_le hbl1 hb2.size
              clear HV k2 k3 e1 HCt1 ho hb2 hm2 hlst HG HG1
              by_cases hL : lst < N
              · have d1 : decide (N ≤ lst) = false := decide_eq_false (by omega)
                have HLt := hideIt (HLst.out.2 hL)
                clear HLst hL
                have x0 : (0 : Int) < (m2 : Int) := by omega
                rcases k with _ | i
                · have HLess : Hid (∀ j q, j + 1 = 0 → ts[j]? = some q → mnV q < mnV t) := fun j q hj => by omega
                  go_upto_region 11 with fail
                  go_quiet (fail)
                  go_wp2
                  refine wp_loop_rounds 1 ?_
                  rw [rounds_succ]
                  go_wp2
                  refine ⟨⟨1, m2, by omega, by omega, by go_num, by have := HS.out; rw [cntV_zero] at this; subst this; go_num, ?_, fun j hj => ?_, below_drewN HG2.out _⟩, by simp [intOf]; omega⟩
                  · show _ = _
                    rw [cntV_succ HT.out, cntV_zero, HM2.out]
                    omega
                  · obtain rfl : j = 0 := by omega
                    intro t' ht'
                    rw [HT.out] at ht'
                    cases ht'
                    exact ⟨HBt.out, HLt.out, HLess.out, fun q s' hq => by omega⟩
                · obtain ⟨q, hq⟩ : ∃ q, ts[i]? = some q := ⟨ts[i]'(by omega), List.getElem?_eq_getElem (by omega)⟩
                  obtain ⟨y, cy, e1, iQ, _⟩ := HCt2.out w2 (Good.refl w2) i q hq
                  have hBq := (HK.out i (by omega) q hq).1
                  have hfq : q.length ≤ 3000000 := by have := lnS_mem (List.mem_of_getElem? hq); omega
                  have HVq := hideIt (fun u (hu : Good w2 u) => vertsFirst (w2 := w2) hBq y cy hfq u hu (iQ.up hu))
                  have HCS : Hid (∀ u, Good w2 u → (u.cell? ⟨w.heap.size, 0, none⟩ = some (.int .i64 N) ∧ u.cell? ⟨w.heap.size, 1, none⟩ = some (.slice (some ⟨b, off, none⟩) n c)) ∧ (u.cell? ⟨g, m2 - 1, none⟩ = some (.int .i64 lst) ∧ u.cell? ⟨g, 0, none⟩ = some (.int .i64 (mnV t))) ∧ u.cell? ⟨b, off + i, none⟩ = some (.slice y q.length cy)) := fun u hu =>
                    ⟨HC0.out u (HG2.out.up hu), ⟨by rw [hu.cell hgl]; exact l0, by rw [hu.cell hgl]; exact f0⟩, by rw [hu.cell hbl2]; exact e1⟩
                  have hbd := (Good.refl w2).drew
                  have hS0 := HCS.out _ hbd
                  have ek : ((i + 1 : Nat) : Int) = (i : Int) + 1 := by omega
                  rw [ek] at b1 b2
                  have b3 : (0 : Int) ≤ (i : Int) := by omega
                  have b4 : (i : Int) < (n : Int) := by omega
                  have tn : ((i : Int) + 1).toNat = i + 1 := by omega
                  have d0 : decide ((0 : Int) < (i : Int) + 1) = true := decide_eq_true (by omega)
                  have hw1 : IntKind.i64.wrap (i : Int) = (i : Int) := by rw [IntKind.wrap_i64]; omega
                  have hw2 : IntKind.i64.wrap ((m2 : Int) - 1) = (m2 : Int) - 1 := by rw [IntKind.wrap_i64]; omega
                  rw [ek]
                  have HQ := hideIt hq
                  by_cases hLess : mnV q < mnV t
                  · have d2 : decide (mnV t ≤ mnV q) = false := decide_eq_false (by omega)
                    have HLess := hideIt hLess
                    clear ek hq hBq iQ k4 k5 l0 f0 e1 hLess
                    go_upto_region 11 with fail
                    refine wp_region_held_drew (S := (fun u => (u.cell? ⟨w.heap.size, 0, none⟩ = some (.int .i64 N) ∧ u.cell? ⟨w.heap.size, 1, none⟩ = some (.slice (some ⟨b, off, none⟩) n c)) ∧ (u.cell? ⟨g, m2 - 1, none⟩ = some (.int .i64 lst) ∧ u.cell? ⟨g, 0, none⟩ = some (.int .i64 (mnV t))) ∧ u.cell? ⟨b, off + i, none⟩ = some (.slice y q.length cy))) (by kernel_rfl) hS0 (fun hHeld => ?_)
                    refine wpAnyH_take (i := 0) (v := ?_) rfl (by kernel_rfl) (by kernel_rfl) (by kernel_rfl) (fun _ _ _ h => h) (Or.inl ⟨by rfl, ?_⟩) (by assumption) ?_
                    rotate_left
                    · intro w hSw; (try dsimp only at hSw); go_simp; try with_reducible rfl
                    try simp only [Act.put, List.getElem_toArray, List.getElem_cons_zero, List.setIfInBounds_toArray, List.set_cons_zero, List.set_cons_succ]
                    refine wpAnyH_take (i := 1) (v := ?_) rfl (by kernel_rfl) (by kernel_rfl) (by kernel_rfl) (fun _ _ _ h => h) (Or.inl ⟨by rfl, ?_⟩) (by assumption) ?_
                    rotate_left
                    · intro w hSw; (try dsimp only at hSw); go_simp; try with_reducible rfl
                    try simp only [Act.put, List.getElem_toArray, List.getElem_cons_succ, List.getElem_cons_zero, List.setIfInBounds_toArray, List.set_cons_zero, List.set_cons_succ]
                    refine wpAnyH_take (i := 2) (v := ?_) rfl (by kernel_rfl) (by kernel_rfl) (by kernel_rfl) (fun _ _ _ h => h) (Or.inl ⟨by rfl, ?_⟩) (by assumption) ?_
                    rotate_left
                    · intro w hSw; (try dsimp only at hSw); go_simp; try with_reducible rfl
                    try simp only [Act.put, List.getElem_toArray, List.getElem_cons_succ, List.getElem_cons_zero, List.setIfInBounds_toArray, List.set_cons_zero, List.set_cons_succ]
                    refine wpAnyH_take (i := 3) (v := ?_) rfl (by kernel_rfl) (by kernel_rfl) (by kernel_rfl) (fun _ _ _ h => h) (Or.inl ⟨by rfl, ?_⟩) (by assumption) ?_
                    rotate_left
                    · intro w hSw; (try dsimp only at hSw); go_simp; try with_reducible rfl
                    try simp only [Act.put, List.getElem_toArray, List.getElem_cons_succ, List.getElem_cons_zero, List.setIfInBounds_toArray, List.set_cons_zero, List.set_cons_succ]
                    refine wpAnyH_take (i := 4) (v := ?_) rfl (by kernel_rfl) (by kernel_rfl) (by kernel_rfl) (fun _ _ _ h => h) (Or.inl ⟨by rfl, ?_⟩) (by assumption) ?_
                    rotate_left
                    · intro w hSw; (try dsimp only at hSw); go_simp; try with_reducible rfl
                    try simp only [Act.put, List.getElem_toArray, List.getElem_cons_succ, List.getElem_cons_zero, List.setIfInBounds_toArray, List.set_cons_zero, List.set_cons_succ]
                    refine wpAnyH_take (i := 5) (v := ?_) rfl (by kernel_rfl) (by kernel_rfl) (by kernel_rfl) (fun _ _ _ h => h) (Or.inl ⟨by rfl, ?_⟩) (by assumption) ?_
                    rotate_left
                    · intro w hSw; (try dsimp only at hSw); go_simp; try with_reducible rfl
                    try simp only [Act.put, List.getElem_toArray, List.getElem_cons_succ, List.getElem_cons_zero, List.setIfInBounds_toArray, List.set_cons_zero, List.set_cons_succ]
                    refine wpAnyH_take (i := 6) (v := ?_) rfl (by kernel_rfl) (by kernel_rfl) (by kernel_rfl) (fun _ _ _ h => h) (Or.inl ⟨by rfl, ?_⟩) (by assumption) ?_
                    rotate_left
                    · intro w hSw; (try dsimp only at hSw); go_simp; try with_reducible rfl
                    try simp only [Act.put, List.getElem_toArray, List.getElem_cons_succ, List.getElem_cons_zero, List.setIfInBounds_toArray, List.set_cons_zero, List.set_cons_succ]
                    refine wpAnyH_take (i := 7) (v := ?_) rfl (by kernel_rfl) (by kernel_rfl) (by kernel_rfl) (fun _ _ _ h => h) (Or.inl ⟨by rfl, ?_⟩) (by assumption) ?_
                    rotate_left
                    · intro w hSw; (try dsimp only at hSw); go_simp; try with_reducible rfl
                    try simp only [Act.put, List.getElem_toArray, List.getElem_cons_succ, List.getElem_cons_zero, List.setIfInBounds_toArray, List.set_cons_zero, List.set_cons_succ]
                    refine wpAnyH_take (i := 8) (v := ?_) rfl (by kernel_rfl) (by kernel_rfl) (by kernel_rfl) (fun _ _ _ h => h) (Or.inl ⟨by rfl, ?_⟩) (by assumption) ?_
                    rotate_left
                    · intro w hSw; (try dsimp only at hSw); go_simp; try with_reducible rfl
                    try simp only [Act.put, List.getElem_toArray, List.getElem_cons_succ, List.getElem_cons_zero, List.setIfInBounds_toArray, List.set_cons_zero, List.set_cons_succ]
                    refine wpAnyH_take (i := 9) (v := ?_) rfl (by kernel_rfl) (by kernel_rfl) (by kernel_rfl) (fun _ _ _ h => h) (Or.inl ⟨by rfl, ?_⟩) (by assumption) ?_
                    rotate_left
                    · intro w hSw; (try dsimp only at hSw); go_simp; try with_reducible rfl
                    try simp only [Act.put, List.getElem_toArray, List.getElem_cons_succ, List.getElem_cons_zero, List.setIfInBounds_toArray, List.set_cons_zero, List.set_cons_succ]
                    refine wpAnyH_take (i := 10) (v := ?_) rfl (by kernel_rfl) (by kernel_rfl) (by kernel_rfl) (fun _ _ _ h => h) (Or.inl ⟨by rfl, ?_⟩) (by assumption) ?_
                    rotate_left
                    · intro w hSw; (try dsimp only at hSw); go_simp; try with_reducible rfl
                    try simp only [Act.put, List.getElem_toArray, List.getElem_cons_succ, List.getElem_cons_zero, List.setIfInBounds_toArray, List.set_cons_zero, List.set_cons_succ]
                    refine wpAnyH_take (i := 11) (v := ?_) rfl (by kernel_rfl) (by kernel_rfl) (by kernel_rfl) (fun _ _ _ h => h) (Or.inl ⟨by rfl, ?_⟩) (by assumption) ?_
                    rotate_left
                    · intro w hSw; (try dsimp only at hSw); go_simp; try with_reducible rfl
                    try simp only [Act.put, List.getElem_toArray, List.getElem_cons_succ, List.getElem_cons_zero, List.setIfInBounds_toArray, List.set_cons_zero, List.set_cons_succ]
                    refine wpAnyH_take (i := 12) (v := ?_) rfl (by kernel_rfl) (by kernel_rfl) (by kernel_rfl) (fun _ _ _ h => h) (Or.inl ⟨by rfl, ?_⟩) (by assumption) ?_
                    rotate_left
                    · intro w hSw; (try dsimp only at hSw); go_simp; try with_reducible rfl
                    try simp only [Act.put, List.getElem_toArray, List.getElem_cons_succ, List.getElem_cons_zero, List.setIfInBounds_toArray, List.set_cons_zero, List.set_cons_succ]
                    refine wpAnyH_take (i := 13) (v := ?_) rfl (by kernel_rfl) (by kernel_rfl) (by kernel_rfl) (fun _ _ _ h => h) (Or.inl ⟨by rfl, ?_⟩) (by assumption) ?_
                    rotate_left
                    · intro w hSw; (try dsimp only at hSw); go_simp; try with_reducible rfl
                    try simp only [Act.put, List.getElem_toArray, List.getElem_cons_succ, List.getElem_cons_zero, List.setIfInBounds_toArray, List.set_cons_zero, List.set_cons_succ]
                    refine wpAnyH_take (i := 14) (v := ?_) rfl (by kernel_rfl) (by kernel_rfl) (by kernel_rfl) (fun _ _ _ h => h) (Or.inl ⟨by rfl, ?_⟩) (by assumption) ?_
                    rotate_left
                    · intro w hSw; (try dsimp only at hSw); go_simp; try with_reducible rfl
                    try simp only [Act.put, List.getElem_toArray, List.getElem_cons_succ, List.getElem_cons_zero, List.setIfInBounds_toArray, List.set_cons_zero, List.set_cons_succ]
                    refine wpAnyH_take (i := 15) (v := ?_) rfl (by kernel_rfl) (by kernel_rfl) (by kernel_rfl) (fun _ _ _ h => h) (Or.inl ⟨by rfl, ?_⟩) (by assumption) ?_
                    rotate_left
                    · intro w hSw; (try dsimp only at hSw); go_simp; try with_reducible rfl
                    try simp only [Act.put, List.getElem_toArray, List.getElem_cons_succ, List.getElem_cons_zero, List.setIfInBounds_toArray, List.set_cons_zero, List.set_cons_succ]
                    refine wpAnyH_take (i := 16) (v := ?_) rfl (by kernel_rfl) (by kernel_rfl) (by kernel_rfl) (fun _ _ _ h => h) (Or.inl ⟨by rfl, ?_⟩) (by assumption) ?_
                    rotate_left
                    · intro w hSw; (try dsimp only at hSw); go_simp; try with_reducible rfl
                    try simp only [Act.put, List.getElem_toArray, List.getElem_cons_succ, List.getElem_cons_zero, List.setIfInBounds_toArray, List.set_cons_zero, List.set_cons_succ]
                    refine wpAnyH_take (i := 17) (v := ?_) rfl (by kernel_rfl) (by kernel_rfl) (by kernel_rfl) (fun _ _ _ h => h) (Or.inl ⟨by rfl, ?_⟩) (by assumption) ?_
                    rotate_left
                    · intro w hSw; (try dsimp only at hSw); go_simp; try with_reducible rfl
                    try simp only [Act.put, List.getElem_toArray, List.getElem_cons_succ, List.getElem_cons_zero, List.setIfInBounds_toArray, List.set_cons_zero, List.set_cons_succ]
                    refine wpAnyH_take (i := 18) (v := ?_) rfl (by kernel_rfl) (by kernel_rfl) (by kernel_rfl) (fun _ _ _ h => h) (Or.inl ⟨by rfl, ?_⟩) (by assumption) ?_
                    rotate_left
                    · intro w hSw; (try dsimp only at hSw); go_simp; try with_reducible rfl
                    try simp only [Act.put, List.getElem_toArray, List.getElem_cons_succ, List.getElem_cons_zero, List.setIfInBounds_toArray, List.set_cons_zero, List.set_cons_succ]
                    refine wpAnyH_take (i := 22) (v := ?_) rfl (by kernel_rfl) (by kernel_rfl) (by kernel_rfl) (fun _ _ _ h => h) (Or.inl ⟨by rfl, ?_⟩) (by assumption) ?_
                    rotate_left
                    · intro w hSw; (try dsimp only at hSw); go_simp; try with_reducible rfl
                    try simp only [Act.put, List.getElem_toArray, List.getElem_cons_succ, List.getElem_cons_zero, List.setIfInBounds_toArray, List.set_cons_zero, List.set_cons_succ]
                    refine wpAnyH_take (i := 23) (v := ?_) rfl (by kernel_rfl) (by kernel_rfl) (by kernel_rfl) (fun _ _ _ h => h) (Or.inl ⟨by rfl, ?_⟩) (by assumption) ?_
                    rotate_left
                    · intro w hSw; (try dsimp only at hSw); go_simp; try with_reducible rfl
                    try simp only [Act.put, List.getElem_toArray, List.getElem_cons_succ, List.getElem_cons_zero, List.setIfInBounds_toArray, List.set_cons_zero, List.set_cons_succ]
                    refine wpAnyH_take (i := 24) (v := ?_) rfl (by kernel_rfl) (by kernel_rfl) (by kernel_rfl) (fun _ _ _ h => h) (Or.inl ⟨by rfl, ?_⟩) (by assumption) ?_
                    rotate_left
                    · intro w hSw; (try dsimp only at hSw); go_simp; try with_reducible rfl
                    try simp only [Act.put, List.getElem_toArray, List.getElem_cons_succ, List.getElem_cons_zero, List.setIfInBounds_toArray, List.set_cons_zero, List.set_cons_succ]
                    refine wpAnyH_ready (rs := [19]) (by kernel_rfl) (by simp) ?_
                    refine AllReadyH.cons rfl (fun K hK => ?_) AllReadyH.nil
                    go_wp2_with (go_at_call 34; refine (HVq.out _ hbd).mono ?_; rintro e w3 ⟨g3, m3, c3, rfl, hp3, hc3, hg3⟩; have hS3 := HCS.out _ hg3; refine Hid.out ?_)
                    refine (show ∀ {p : Prop}, p → Hid p from fun h => h) ?_
                    refine hK.out _ _ hS3 (fun hHeld => ?_)
                    clear hK K
                    try simp only [Act.put, List.getElem_toArray, List.getElem_cons_succ, List.getElem_cons_zero, List.setIfInBounds_toArray, List.set_cons_zero, List.set_cons_succ]
                    refine wpAnyH_ready (rs := [20]) (by kernel_rfl) (by simp) ?_
                    refine AllReadyH.cons rfl (fun K hK => ?_) AllReadyH.nil
                    go_simp
                    refine hK.out _ _ (by assumption) (fun hHeld => ?_)
                    clear hK K
                    try simp only [Act.put, List.getElem_toArray, List.getElem_cons_succ, List.getElem_cons_zero, List.setIfInBounds_toArray, List.set_cons_zero, List.set_cons_succ]
                    refine wpAnyH_ready (rs := [21]) (by kernel_rfl) (by simp) ?_
                    refine AllReadyH.cons rfl (fun K hK => ?_) AllReadyH.nil
                    go_simp
                    refine hK.out _ _ (by assumption) (fun hHeld => ?_)
                    clear hK K
                    try simp only [Act.put, List.getElem_toArray, List.getElem_cons_succ, List.getElem_cons_zero, List.setIfInBounds_toArray, List.set_cons_zero, List.set_cons_succ]
                    refine wpAnyH_ready (rs := [25]) (by kernel_rfl) (by simp) ?_
                    refine AllReadyH.cons rfl (fun K hK => ?_) AllReadyH.nil
                    go_simp
                    refine hK.out _ _ (by assumption) (fun hHeld => ?_)
                    clear hK K
                    try simp only [Act.put, List.getElem_toArray, List.getElem_cons_succ, List.getElem_cons_zero, List.setIfInBounds_toArray, List.set_cons_zero, List.set_cons_succ]
                    refine wpAnyH_ready (rs := [26]) (by kernel_rfl) (by simp) ?_
                    refine AllReadyH.cons rfl (fun K hK => ?_) AllReadyH.nil
                    go_simp
                    refine hK.out _ _ (by assumption) (fun hHeld => ?_)
                    clear hK K
                    try simp only [Act.put, List.getElem_toArray, List.getElem_cons_succ, List.getElem_cons_zero, List.setIfInBounds_toArray, List.set_cons_zero, List.set_cons_succ]
                    refine wpAnyH_ready (rs := [27]) (by kernel_rfl) (by simp) ?_
                    refine AllReadyH.cons rfl (fun K hK => ?_) AllReadyH.nil
                    go_simp
                    refine hK.out _ _ (by assumption) (fun hHeld => ?_)
                    clear hK K
                    try simp only [Act.put, List.getElem_toArray, List.getElem_cons_succ, List.getElem_cons_zero, List.setIfInBounds_toArray, List.set_cons_zero, List.set_cons_succ]
                    refine wpAnyH_done (by kernel_rfl) ?_ _
                    have HG3 := hideIt hg3
                    clear HVq HCS hS0 hS3 hc3 hp3 hbd hg3
                    go_wp2
                    go_loopw [6] (fun p wq => ∃ p' : Nat, p' ≤ i + 1 ∧ p = .int .i64 (p' : Int) ∧ Hid (∀ j s', j < p' → ts[j]? = some s' → ∀ x ∈ t, x ∉ s') ∧ Good w2 wq) (fun p _ => i + 1 - (intOf p).toNat)
                    case atStart => exact ⟨0, by omega, rfl, fun j s' hj => by omega, HG3.out⟩
                    case round =>
                      obtain ⟨p, hp, rfl, HP, hgq⟩ := hrel
                      clear HG3
                      by_cases hpl : p < i + 1
                      · obtain ⟨s', hs'⟩ : ∃ s', ts[p]? = some s' := ⟨ts[p]'(by omega), List.getElem?_eq_getElem (by omega)⟩
                        have y1 : (p : Int) < (i : Int) + 1 := by omega
                        have y2 : (0 : Int) ≤ (p : Int) := by omega
                        have y3 : (p : Int) < (n : Int) := by omega
                        have HS' := hideIt hs'
                        obtain ⟨z, cz, e4, iZ, _⟩ := HCt2.out _ hgq p s' hs'
                        have HIn := hideIt (fun v u (hu : Good wr u) => l05In_any s' v s'.length z cz (by have := lnS_mem (List.mem_of_getElem? hs'); omega) u (iZ.up hu))
                        have HE4 : Hid (∀ u, Good wr u → u.cell? ⟨b, off + p, none⟩ = some (.slice z s'.length cz)) := fun u hu => by rw [hu.cell (Nat.lt_of_lt_of_le hbl2 hgq.size)]; exact e4
                        have HGq := hideIt hgq
                        clear hs' iZ hgq e4
                        go_wp2
                        go_loopw [7] (fun r wz => ∃ j : Nat, j ≤ m2 ∧ r = .int .i64 (j : Int) ∧ Hid (∀ d x, d < j → (vsL t)[d]? = some x → x ∉ s') ∧ Good wr wz) (fun r _ => m2 - (intOf r).toNat)
                        case atStart => exact ⟨0, by omega, rfl, fun d x hd => by omega, Good.refl _⟩
                        case round =>
                          obtain ⟨j, hj, rfl, HJ, hgz⟩ := hrel
                          by_cases hjl : j < m2
                          · obtain ⟨v, hv⟩ : ∃ v, (vsL t)[j]? = some v := ⟨(vsL t)[j]'(by have := HM2.out; omega), List.getElem?_eq_getElem _⟩
                            have hgz2 := HGq.out.up hgz
                            have c1 := HCr.out _ hgz2 j v hv
                            obtain ⟨k6, k7⟩ := HC0.out _ (HG2.out.up hgz2)
                            have e4 := HE4.out _ hgz
                            have y4 : (0 : Int) ≤ (j : Int) := by omega
                            have y5 : (j : Int) < (m2 : Int) := by omega
                            have HInv := hideIt (fun u (hu : Good wr u) => HIn.out v u (hgz.up hu))
                            have HGz := hideIt hgz
                            have HGz2 := hideIt hgz2
                            by_cases hin : v ∈ s'
                            · rw [decide_eq_true hin] at HInv
                              have HN : Hid (¬ FP N ts) := fun hp => (hp.2.2.2.1 (i + 1) t HT.out).2.2.2 p s' hpl HS'.out v ((vsL_mem t v).1 (List.mem_of_getElem? hv)).2 hin
                              clear hv HJ hin HK HS hgz hgz2 HIn
                              go_wp2
                              go_quiet ((go_at_call 44; exact Calls.quiet_of_same (HInv.out _ (below_drewN (Good.refl _) _))))
                              go_wp2
                              go_ret
                              exact ⟨false, rfl, ⟨fun h => (by cases h), fun h => absurd h HN.out⟩, HB0.out.up (HG2.out.up (below_drewN HGz2.out _))⟩
                            · rw [decide_eq_false hin] at HInv
                              have HJ2 : Hid (∀ d x, d < j + 1 → (vsL t)[d]? = some x → x ∉ s') := fun d x hd hx => by
                                by_cases hdj : d = j
                                · rw [hdj, hv] at hx
                                  cases hx
                                  exact hin
                                · exact HJ.out d x (by omega) hx
                              clear hv HJ hin hgz hgz2 HIn
                              go_wp2
                              go_quiet ((go_at_call 44; exact Calls.quiet_of_same (HInv.out _ (below_drewN (Good.refl _) _))))
                              go_wp2
                              exact ⟨⟨j + 1, by omega, by go_num, HJ2, below_drewN HGz.out _⟩, by simp [intOf]; omega⟩
                          · obtain rfl : j = m2 := by omega
                            have HP2 : Hid (∀ d s2, d < p + 1 → ts[d]? = some s2 → ∀ x ∈ t, x ∉ s2) := fun d s2 hd hs2 x hx => by
                              by_cases hdp : d = p
                              · rw [hdp, HS'.out] at hs2
                                cases hs2
                                obtain ⟨r, hr⟩ := List.mem_iff_getElem?.1 ((vs_mem_of HBt.out).2 hx)
                                exact HJ.out r x (by have := (List.getElem?_eq_some_iff.1 hr).1; have := HM2.out; omega) hr
                              · exact HP.out d s2 (by omega) hs2 x hx
                            clear HJ HP
                            go_wp2
                            exact ⟨⟨p + 1, by omega, by go_num, HP2, HGq.out.up hgz⟩, by simp [intOf]; omega⟩
                      · obtain rfl : p = i + 1 := by omega
                        have HS2 : Hid (s + m2 = cntV ts (i + 1 + 1)) := by show _ = _; rw [cntV_succ HT.out, HM2.out, HS.out]
                        have HK2 : Hid (∀ j, j < i + 1 + 1 → FAt N ts j) := fun j hj => by
                          by_cases hji : j = i + 1
                          · subst hji
                            intro t' ht'
                            rw [HT.out] at ht'
                            cases ht'
                            exact ⟨HBt.out, HLt.out, fun j s' hj hs' => by
                              obtain rfl : j = i := by omega
                              rw [HQ.out] at hs'
                              cases hs'
                              exact HLess.out, fun d s' hd hs' => HP.out d s' hd hs'⟩
                          · exact HK.out j (by omega)
                        clear HP HK HS
                        go_wp2
                        exact ⟨⟨i + 1 + 1, s + m2, by omega, by omega, by go_num, by go_num, HS2, HK2, HG2.out.up hgq⟩, by simp [intOf]; omega⟩
                  · have d2 : decide (mnV t ≤ mnV q) = true := decide_eq_true (by omega)
                    have HN : Hid (¬ FP N ts) := fun hp => hLess ((hp.2.2.2.1 (i + 1) t HT.out).2.2.1 i q rfl hq)
                    clear ek hq hBq iQ k4 k5 l0 f0 e1 hLess HK HS
                    go_upto_region 11 with fail
                    refine wp_region_held_drew (S := (fun u => (u.cell? ⟨w.heap.size, 0, none⟩ = some (.int .i64 N) ∧ u.cell? ⟨w.heap.size, 1, none⟩ = some (.slice (some ⟨b, off, none⟩) n c)) ∧ (u.cell? ⟨g, m2 - 1, none⟩ = some (.int .i64 lst) ∧ u.cell? ⟨g, 0, none⟩ = some (.int .i64 (mnV t))) ∧ u.cell? ⟨b, off + i, none⟩ = some (.slice y q.length cy))) (by kernel_rfl) hS0 (fun hHeld => ?_)
                    refine wpAnyH_take (i := 0) (v := ?_) rfl (by kernel_rfl) (by kernel_rfl) (by kernel_rfl) (fun _ _ _ h => h) (Or.inl ⟨by rfl, ?_⟩) (by assumption) ?_
                    rotate_left
                    · intro w hSw; (try dsimp only at hSw); go_simp; try with_reducible rfl
                    try simp only [Act.put, List.getElem_toArray, List.getElem_cons_zero, List.setIfInBounds_toArray, List.set_cons_zero, List.set_cons_succ]
                    refine wpAnyH_take (i := 1) (v := ?_) rfl (by kernel_rfl) (by kernel_rfl) (by kernel_rfl) (fun _ _ _ h => h) (Or.inl ⟨by rfl, ?_⟩) (by assumption) ?_
                    rotate_left
                    · intro w hSw; (try dsimp only at hSw); go_simp; try with_reducible rfl
                    try simp only [Act.put, List.getElem_toArray, List.getElem_cons_succ, List.getElem_cons_zero, List.setIfInBounds_toArray, List.set_cons_zero, List.set_cons_succ]
                    refine wpAnyH_take (i := 2) (v := ?_) rfl (by kernel_rfl) (by kernel_rfl) (by kernel_rfl) (fun _ _ _ h => h) (Or.inl ⟨by rfl, ?_⟩) (by assumption) ?_
                    rotate_left
                    · intro w hSw; (try dsimp only at hSw); go_simp; try with_reducible rfl
                    try simp only [Act.put, List.getElem_toArray, List.getElem_cons_succ, List.getElem_cons_zero, List.setIfInBounds_toArray, List.set_cons_zero, List.set_cons_succ]
                    refine wpAnyH_take (i := 3) (v := ?_) rfl (by kernel_rfl) (by kernel_rfl) (by kernel_rfl) (fun _ _ _ h => h) (Or.inl ⟨by rfl, ?_⟩) (by assumption) ?_
                    rotate_left
                    · intro w hSw; (try dsimp only at hSw); go_simp; try with_reducible rfl
                    try simp only [Act.put, List.getElem_toArray, List.getElem_cons_succ, List.getElem_cons_zero, List.setIfInBounds_toArray, List.set_cons_zero, List.set_cons_succ]
                    refine wpAnyH_take (i := 4) (v := ?_) rfl (by kernel_rfl) (by kernel_rfl) (by kernel_rfl) (fun _ _ _ h => h) (Or.inl ⟨by rfl, ?_⟩) (by assumption) ?_
                    rotate_left
                    · intro w hSw; (try dsimp only at hSw); go_simp; try with_reducible rfl
                    try simp only [Act.put, List.getElem_toArray, List.getElem_cons_succ, List.getElem_cons_zero, List.setIfInBounds_toArray, List.set_cons_zero, List.set_cons_succ]
                    refine wpAnyH_take (i := 5) (v := ?_) rfl (by kernel_rfl) (by kernel_rfl) (by kernel_rfl) (fun _ _ _ h => h) (Or.inl ⟨by rfl, ?_⟩) (by assumption) ?_
                    rotate_left
                    · intro w hSw; (try dsimp only at hSw); go_simp; try with_reducible rfl
                    try simp only [Act.put, List.getElem_toArray, List.getElem_cons_succ, List.getElem_cons_zero, List.setIfInBounds_toArray, List.set_cons_zero, List.set_cons_succ]
                    refine wpAnyH_take (i := 6) (v := ?_) rfl (by kernel_rfl) (by kernel_rfl) (by kernel_rfl) (fun _ _ _ h => h) (Or.inl ⟨by rfl, ?_⟩) (by assumption) ?_
                    rotate_left
                    · intro w hSw; (try dsimp only at hSw); go_simp; try with_reducible rfl
                    try simp only [Act.put, List.getElem_toArray, List.getElem_cons_succ, List.getElem_cons_zero, List.setIfInBounds_toArray, List.set_cons_zero, List.set_cons_succ]
                    refine wpAnyH_take (i := 7) (v := ?_) rfl (by kernel_rfl) (by kernel_rfl) (by kernel_rfl) (fun _ _ _ h => h) (Or.inl ⟨by rfl, ?_⟩) (by assumption) ?_
                    rotate_left
                    · intro w hSw; (try dsimp only at hSw); go_simp; try with_reducible rfl
                    try simp only [Act.put, List.getElem_toArray, List.getElem_cons_succ, List.getElem_cons_zero, List.setIfInBounds_toArray, List.set_cons_zero, List.set_cons_succ]
                    refine wpAnyH_take (i := 8) (v := ?_) rfl (by kernel_rfl) (by kernel_rfl) (by kernel_rfl) (fun _ _ _ h => h) (Or.inl ⟨by rfl, ?_⟩) (by assumption) ?_
                    rotate_left
                    · intro w hSw; (try dsimp only at hSw); go_simp; try with_reducible rfl
                    try simp only [Act.put, List.getElem_toArray, List.getElem_cons_succ, List.getElem_cons_zero, List.setIfInBounds_toArray, List.set_cons_zero, List.set_cons_succ]
                    refine wpAnyH_take (i := 9) (v := ?_) rfl (by kernel_rfl) (by kernel_rfl) (by kernel_rfl) (fun _ _ _ h => h) (Or.inl ⟨by rfl, ?_⟩) (by assumption) ?_
                    rotate_left
                    · intro w hSw; (try dsimp only at hSw); go_simp; try with_reducible rfl
                    try simp only [Act.put, List.getElem_toArray, List.getElem_cons_succ, List.getElem_cons_zero, List.setIfInBounds_toArray, List.set_cons_zero, List.set_cons_succ]
                    refine wpAnyH_take (i := 10) (v := ?_) rfl (by kernel_rfl) (by kernel_rfl) (by kernel_rfl) (fun _ _ _ h => h) (Or.inl ⟨by rfl, ?_⟩) (by assumption) ?_
                    rotate_left
                    · intro w hSw; (try dsimp only at hSw); go_simp; try with_reducible rfl
                    try simp only [Act.put, List.getElem_toArray, List.getElem_cons_succ, List.getElem_cons_zero, List.setIfInBounds_toArray, List.set_cons_zero, List.set_cons_succ]
                    refine wpAnyH_take (i := 11) (v := ?_) rfl (by kernel_rfl) (by kernel_rfl) (by kernel_rfl) (fun _ _ _ h => h) (Or.inl ⟨by rfl, ?_⟩) (by assumption) ?_
                    rotate_left
                    · intro w hSw; (try dsimp only at hSw); go_simp; try with_reducible rfl
                    try simp only [Act.put, List.getElem_toArray, List.getElem_cons_succ, List.getElem_cons_zero, List.setIfInBounds_toArray, List.set_cons_zero, List.set_cons_succ]
                    refine wpAnyH_take (i := 12) (v := ?_) rfl (by kernel_rfl) (by kernel_rfl) (by kernel_rfl) (fun _ _ _ h => h) (Or.inl ⟨by rfl, ?_⟩) (by assumption) ?_
                    rotate_left
                    · intro w hSw; (try dsimp only at hSw); go_simp; try with_reducible rfl
                    try simp only [Act.put, List.getElem_toArray, List.getElem_cons_succ, List.getElem_cons_zero, List.setIfInBounds_toArray, List.set_cons_zero, List.set_cons_succ]
                    refine wpAnyH_take (i := 13) (v := ?_) rfl (by kernel_rfl) (by kernel_rfl) (by kernel_rfl) (fun _ _ _ h => h) (Or.inl ⟨by rfl, ?_⟩) (by assumption) ?_
                    rotate_left
                    · intro w hSw; (try dsimp only at hSw); go_simp; try with_reducible rfl
                    try simp only [Act.put, List.getElem_toArray, List.getElem_cons_succ, List.getElem_cons_zero, List.setIfInBounds_toArray, List.set_cons_zero, List.set_cons_succ]
                    refine wpAnyH_take (i := 14) (v := ?_) rfl (by kernel_rfl) (by kernel_rfl) (by kernel_rfl) (fun _ _ _ h => h) (Or.inl ⟨by rfl, ?_⟩) (by assumption) ?_
                    rotate_left
                    · intro w hSw; (try dsimp only at hSw); go_simp; try with_reducible rfl
                    try simp only [Act.put, List.getElem_toArray, List.getElem_cons_succ, List.getElem_cons_zero, List.setIfInBounds_toArray, List.set_cons_zero, List.set_cons_succ]
                    refine wpAnyH_take (i := 15) (v := ?_) rfl (by kernel_rfl) (by kernel_rfl) (by kernel_rfl) (fun _ _ _ h => h) (Or.inl ⟨by rfl, ?_⟩) (by assumption) ?_
                    rotate_left
                    · intro w hSw; (try dsimp only at hSw); go_simp; try with_reducible rfl
                    try simp only [Act.put, List.getElem_toArray, List.getElem_cons_succ, List.getElem_cons_zero, List.setIfInBounds_toArray, List.set_cons_zero, List.set_cons_succ]
                    refine wpAnyH_take (i := 16) (v := ?_) rfl (by kernel_rfl) (by kernel_rfl) (by kernel_rfl) (fun _ _ _ h => h) (Or.inl ⟨by rfl, ?_⟩) (by assumption) ?_
                    rotate_left
                    · intro w hSw; (try dsimp only at hSw); go_simp; try with_reducible rfl
                    try simp only [Act.put, List.getElem_toArray, List.getElem_cons_succ, List.getElem_cons_zero, List.setIfInBounds_toArray, List.set_cons_zero, List.set_cons_succ]
                    refine wpAnyH_take (i := 17) (v := ?_) rfl (by kernel_rfl) (by kernel_rfl) (by kernel_rfl) (fun _ _ _ h => h) (Or.inl ⟨by rfl, ?_⟩) (by assumption) ?_
                    rotate_left
                    · intro w hSw; (try dsimp only at hSw); go_simp; try with_reducible rfl
                    try simp only [Act.put, List.getElem_toArray, List.getElem_cons_succ, List.getElem_cons_zero, List.setIfInBounds_toArray, List.set_cons_zero, List.set_cons_succ]
                    refine wpAnyH_take (i := 18) (v := ?_) rfl (by kernel_rfl) (by kernel_rfl) (by kernel_rfl) (fun _ _ _ h => h) (Or.inl ⟨by rfl, ?_⟩) (by assumption) ?_
                    rotate_left
                    · intro w hSw; (try dsimp only at hSw); go_simp; try with_reducible rfl
                    try simp only [Act.put, List.getElem_toArray, List.getElem_cons_succ, List.getElem_cons_zero, List.setIfInBounds_toArray, List.set_cons_zero, List.set_cons_succ]
                    refine wpAnyH_take (i := 22) (v := ?_) rfl (by kernel_rfl) (by kernel_rfl) (by kernel_rfl) (fun _ _ _ h => h) (Or.inl ⟨by rfl, ?_⟩) (by assumption) ?_
                    rotate_left
                    · intro w hSw; (try dsimp only at hSw); go_simp; try with_reducible rfl
                    try simp only [Act.put, List.getElem_toArray, List.getElem_cons_succ, List.getElem_cons_zero, List.setIfInBounds_toArray, List.set_cons_zero, List.set_cons_succ]
                    refine wpAnyH_take (i := 23) (v := ?_) rfl (by kernel_rfl) (by kernel_rfl) (by kernel_rfl) (fun _ _ _ h => h) (Or.inl ⟨by rfl, ?_⟩) (by assumption) ?_
                    rotate_left
                    · intro w hSw; (try dsimp only at hSw); go_simp; try with_reducible rfl
                    try simp only [Act.put, List.getElem_toArray, List.getElem_cons_succ, List.getElem_cons_zero, List.setIfInBounds_toArray, List.set_cons_zero, List.set_cons_succ]
                    refine wpAnyH_take (i := 24) (v := ?_) rfl (by kernel_rfl) (by kernel_rfl) (by kernel_rfl) (fun _ _ _ h => h) (Or.inl ⟨by rfl, ?_⟩) (by assumption) ?_
                    rotate_left
                    · intro w hSw; (try dsimp only at hSw); go_simp; try with_reducible rfl
                    try simp only [Act.put, List.getElem_toArray, List.getElem_cons_succ, List.getElem_cons_zero, List.setIfInBounds_toArray, List.set_cons_zero, List.set_cons_succ]
                    refine wpAnyH_ready (rs := [19]) (by kernel_rfl) (by simp) ?_
                    refine AllReadyH.cons rfl (fun K hK => ?_) AllReadyH.nil
                    go_wp2_with (go_at_call 34; refine (HVq.out _ hbd).mono ?_; rintro e w3 ⟨g3, m3, c3, rfl, hp3, hc3, hg3⟩; have hS3 := HCS.out _ hg3; refine Hid.out ?_)
                    refine (show ∀ {p : Prop}, p → Hid p from fun h => h) ?_
                    refine hK.out _ _ hS3 (fun hHeld => ?_)
                    clear hK K
                    try simp only [Act.put, List.getElem_toArray, List.getElem_cons_succ, List.getElem_cons_zero, List.setIfInBounds_toArray, List.set_cons_zero, List.set_cons_succ]
                    refine wpAnyH_ready (rs := [20]) (by kernel_rfl) (by simp) ?_
                    refine AllReadyH.cons rfl (fun K hK => ?_) AllReadyH.nil
                    go_simp
                    refine hK.out _ _ (by assumption) (fun hHeld => ?_)
                    clear hK K
                    try simp only [Act.put, List.getElem_toArray, List.getElem_cons_succ, List.getElem_cons_zero, List.setIfInBounds_toArray, List.set_cons_zero, List.set_cons_succ]
                    refine wpAnyH_ready (rs := [21]) (by kernel_rfl) (by simp) ?_
                    refine AllReadyH.cons rfl (fun K hK => ?_) AllReadyH.nil
                    go_simp
                    refine hK.out _ _ (by assumption) (fun hHeld => ?_)
                    clear hK K
                    try simp only [Act.put, List.getElem_toArray, List.getElem_cons_succ, List.getElem_cons_zero, List.setIfInBounds_toArray, List.set_cons_zero, List.set_cons_succ]
                    refine wpAnyH_ready (rs := [25]) (by kernel_rfl) (by simp) ?_
                    refine AllReadyH.cons rfl (fun K hK => ?_) AllReadyH.nil
                    go_simp
                    refine hK.out _ _ (by assumption) (fun hHeld => ?_)
                    clear hK K
                    try simp only [Act.put, List.getElem_toArray, List.getElem_cons_succ, List.getElem_cons_zero, List.setIfInBounds_toArray, List.set_cons_zero, List.set_cons_succ]
                    refine wpAnyH_ready (rs := [26]) (by kernel_rfl) (by simp) ?_
                    refine AllReadyH.cons rfl (fun K hK => ?_) AllReadyH.nil
                    go_simp
                    refine hK.out _ _ (by assumption) (fun hHeld => ?_)
                    clear hK K
                    try simp only [Act.put, List.getElem_toArray, List.getElem_cons_succ, List.getElem_cons_zero, List.setIfInBounds_toArray, List.set_cons_zero, List.set_cons_succ]
                    refine wpAnyH_ready (rs := [27]) (by kernel_rfl) (by simp) ?_
                    refine AllReadyH.cons rfl (fun K hK => ?_) AllReadyH.nil
                    go_simp
                    refine hK.out _ _ (by assumption) (fun hHeld => ?_)
                    clear hK K
                    try simp only [Act.put, List.getElem_toArray, List.getElem_cons_succ, List.getElem_cons_zero, List.setIfInBounds_toArray, List.set_cons_zero, List.set_cons_succ]
                    refine wpAnyH_done (by kernel_rfl) ?_ _
                    go_wp2
                    go_ret
                    exact ⟨false, rfl, ⟨fun h => (by cases h), fun h => absurd h HN.out⟩, HB0.out.up (HG2.out.up hg3)⟩
              · have d1 : decide (N ≤ lst) = true := decide_eq_true (by omega)
                have HN : Hid (¬ FP N ts) := fun hp => hL (HLst.out.1 (hp.2.2.2.1 k t HT.out).2.1)
                clear HLst hL HK HS
                go_wp2
                go_quiet (fail)
                go_wp2
                go_ret
                exact ⟨false, rfl, ⟨fun h => (by cases h), fun h => absurd h HN.out⟩, HB0.out.up (below_drewN HG2.out _)⟩
        · obtain rfl : k = n := by omega
          have HE : Hid (((s : Int) == N) = true ↔ FP N ts) := by
            show _ ↔ _
            rw [beq_iff_eq]
            constructor
            · intro hs
              exact ⟨h11, h12, by omega, fun i t ht => HK.out i (by have := (List.getElem?_eq_some_iff.1 ht).1; omega) t ht, by rw [hlen, ← HS.out]; exact hs⟩
            · intro hp
              have := hp.2.2.2.2
              rw [hlen, ← HS.out] at this
              exact this
          clear HK HS
          go_wp2
          go_ret
          exact ⟨_, rfl, HE.out, HB0.out.up hg⟩
    · have r2 : decide (12 < (n : Int)) = true := decide_eq_true (by omega)
      have HN : Hid (¬ FP N ts) := fun hp => by have := hp.2.2.1; omega
      go_enter Try.func36, Try.ntmps36
      go_wp2_with (go_at_call 45; refine (HI.out _ _ _ _).mono ?_; rintro e w1 ⟨rfl, hw⟩; have hw' := hw.symm; subst hw'; clear hw)
      go_ret
      exact ⟨false, rfl, ⟨fun h => (by cases h), fun h => absurd h HN.out⟩, HB0.out⟩
  · have r1 : decide (1 ≤ N ∧ N ≤ 12) = false := decide_eq_false h1
    have HN : Hid (¬ FP N ts) := fun hp => h1 ⟨hp.1, hp.2.1⟩
    go_enter Try.func36, Try.ntmps36
    go_wp2_with (go_at_call 45; refine (HI.out _ _ _ _).mono ?_; rintro e w1 ⟨rfl, hw⟩; have hw' := hw.symm; subst hw'; clear hw)
    go_ret
    exact ⟨false, rfl, ⟨fun h => (by cases h), fun h => absurd h HN.out⟩, HB0.out⟩
end Go.Proofs.Ytcpffonenhhfoab
namespace Go.Proofs.Ytcpffonenhhfoab
open Go.RowKit

/-- a forest in a block of its own -/
def Box7 (w : World) (b : Nat) (t : TypeId) (v0 v1 : Value) : Prop := w.heap[b]? = some (.cells #[v0, v1] t (0, 0))
theorem Box7.cell0 {w : World} {b : Nat} {t : TypeId} {v0 v1 : Value} (h : Box7 w b t v0 v1) : w.cell? ⟨b, 0, none⟩ = some v0 := by rw [cell_of_row w b 0 _ _ _ h]; rfl
theorem Box7.cell1 {w : World} {b : Nat} {t : TypeId} {v0 v1 : Value} (h : Box7 w b t v0 v1) : w.cell? ⟨b, 1, none⟩ = some v1 := by rw [cell_of_row w b 1 _ _ _ h]; rfl
theorem Box7.frozen {w : World} {b : Nat} {t : TypeId} {v0 v1 : Value} (h : Box7 w b t v0 v1) (j : Nat) : w.frozen? ⟨b, j, none⟩ = false := frozen_of_row w b j _ _ h
theorem Box7.lt {w : World} {b : Nat} {t : TypeId} {v0 v1 : Value} (h : Box7 w b t v0 v1) : b < w.heap.size := (Array.getElem?_eq_some_iff.1 h).1
theorem Box7.new (w : World) (t : TypeId) (v0 v1 : Value) (b : Nat) (hb : w.heap.size = b) : Box7 (w.alloc (.cells #[v0, v1] t)) b t v0 v1 := by subst hb; exact heap_alloc_new w _
theorem Box7.below {w w' : World} {b C : Nat} {t : TypeId} {v0 v1 : Value} (h : Box7 w b t v0 v1) (hb : Below C w w') (hC : b < C) : Box7 w' b t v0 v1 := by
  unfold Box7; rw [hb.block b hC]; exact h
theorem Box7.up {w w' : World} {b : Nat} {t : TypeId} {v0 v1 : Value} (h : Box7 w b t v0 v1) (hb : Below w.heap.size w w') : Box7 w' b t v0 v1 := h.below hb h.lt
theorem Box7.grown {w w' : World} {b : Nat} {t : TypeId} {v0 v1 : Value} {row : Option Nat} (h : Box7 w b t v0 v1) (hg : w.grownBy w' row) (hr : some b ≠ row) : Box7 w' b t v0 v1 := by
  unfold Box7; rw [hg.block b h.lt hr]; exact h
theorem Box7.alloc {w : World} {b : Nat} {t : TypeId} {v0 v1 : Value} (h : Box7 w b t v0 v1) (o : Obj) : Box7 (w.alloc o) b t v0 v1 := by
  unfold Box7; rw [Below.heap_alloc w o b h.lt]; exact h
theorem Box7.set1 {w : World} {b : Nat} {t : TypeId} {v0 v1 : Value} (h : Box7 w b t v0 v1) (u1 : Value) : Box7 (w.setCell ⟨b, 1, none⟩ u1) b t v0 u1 := by
  unfold Box7
  rw [heap_setCell_same _ b 1 _ t u1 h]; rfl
theorem Box7.setOther {w : World} {b x j : Nat} {t : TypeId} {v0 v1 : Value} (h : Box7 w b t v0 v1) (v : Value) (hx : b ≠ x) : Box7 (w.setCell ⟨x, j, none⟩ v) b t v0 v1 := by
  unfold Box7
  rw [heap_setCell_other w ⟨x, j, none⟩ b v hx]; exact h

/-- a header of a row that is new, or of one that was handed in -/
def NewOr (w : World) (bi offi : Nat) (v : Value) : Prop := (∀ b off s n c, v = .slice (some ⟨b, off, s⟩) n c → w.heap.size ≤ b) ∨ ∃ j, w.cell? ⟨bi, offi + j, none⟩ = some v
/-- .. and does not lie in the answer's place -/
def PV (w : World) (bi offi : Nat) (v : Value) : Prop := HdN (w.heap.size + 1) v ∧ NewOr w bi offi v
/-- tours by their least vertices, in the making -/
structure GSt (w9 : World) (X : Value → Prop) (N : Int) (a : Option Addr) (m c : Nat) (cur : List (List Int)) (u : World) : Prop where
  box : Box7 u w9.heap.size 28 (.int .i64 N) (.slice a m c)
  own : ∃ hs, u.ownsRow (w9.heap.size + 1) 45 1 (.slice a m c) m hs ∧ HdT u w9.heap.size hs cur ∧ ∀ v ∈ hs, X v
  bel : Below w9.heap.size w9 u
theorem GSt.up {w9 : World} {X : Value → Prop} {N : Int} {a : Option Addr} {m c : Nat} {cur : List (List Int)} {u v : World} (h : GSt w9 X N a m c cur u) (hb : Below u.heap.size u v) : GSt w9 X N a m c cur v := by
  obtain ⟨hs, h1, h2, h3⟩ := h.own
  exact ⟨h.box.up hb, ⟨hs, own_up h1 hb, h2.below hb h.bel.size, h3⟩, h.bel.trans (hb.mono h.bel.size)⟩
theorem newsW (w : World) (x : Value) : ∀ j u, ([x] : List Value)[j]? = some u → (w.alloc (.cells #[x] 45)).cell? ((⟨w.heap.size, 0, none⟩ : Addr).add j) = some u := by
  intro j u hj
  rcases j with _ | j
  · simp at hj; subst hj; simp [Addr.add]
  · simp at hj
/-- those of the first i with least vertex v -/
theorem flt_take {L : List (List Int)} {i v : Nat} {t : List Int} (h : L[i]? = some t) : (L.take (i + 1)).filter (fun t => decide (mnV t = (v : Int))) = (L.take i).filter (fun t => decide (mnV t = (v : Int))) ++ if mnV t = (v : Int) then [t] else [] := by
  rw [take_snocF L i t h, List.filter_append]
  by_cases hc : mnV t = (v : Int) <;> simp [hc]
theorem srtK_le {L : List (List Int)} {N v i : Nat} (h : ∀ t ∈ L, ∃ j, j < N ∧ mnV t = ((j : Nat) : Int)) (hv : v < N) : (srtK L v ++ (L.take i).filter (fun t => decide (mnV t = (v : Int)))).length ≤ L.length := by
  have h1 := (srtK_perm h).length_eq
  have h2 : ∀ k d, (srtK L k).length ≤ (srtK L (k + d)).length := fun k d => by
    induction d with
    | zero => exact Nat.le_refl _
    | succ d ih =>
      show _ ≤ (srtK L (k + d + 1)).length
      simp only [srtK, List.length_append]
      omega
  have h3 := h2 (v + 1) (N - (v + 1))
  rw [show v + 1 + (N - (v + 1)) = N by omega, h1] at h3
  have h4 : ((L.take i).filter (fun t => decide (mnV t = (v : Int)))).length ≤ (L.filter (fun t => decide (mnV t = (v : Int)))).length := by
    conv => rhs; rw [← List.take_append_drop i L, List.filter_append, List.length_append]
    omega
  simp only [srtK, List.length_append] at h3 ⊢
  omega

set_option maxRecDepth 100000 in
set_option maxHeartbeats 8000000 in
theorem l07With_any (N : Nat) (ts : List (List Int)) (outs : List Nat) (ins : List (List Int)) (n : Nat) (a : Option Addr) (c : Nat) (no : Nat) (ao : Option Addr) (co : Nat) (ni bi offi ci : Nat) (hP : FP (N : Int) ts) (hQ : FQ (N : Int) (woK ts outs n ++ ins)) (h0 : 0 < ni) (hni : ni ≤ 2) (hno : no ≤ 2)
    (w : World) (h : Ts w w.heap.size a n ts) (ho : Is w w.heap.size ao no (outs.map fun j : Nat => (j : Int))) (hI : Ts w w.heap.size (some ⟨bi, offi, none⟩) ni ins) :
    Calls Try.prog 25 #[.agg #[.int .i64 (N : Int), .slice a n c], .slice ao no co, .slice (some ⟨bi, offi, none⟩) ni ci] w fun e w' => ∃ a' m' c' hs, e = .returned (.agg #[.int .i64 (N : Int), .slice a' m' c']) ∧ (w'.ownsRow w.heap.size 45 1 (.slice a' m' c') m' hs ∧ HdT w' w'.heap.size hs (srtK (woK ts outs n ++ ins) N) ∧ ∀ v ∈ hs, NewOr w bi offi v) ∧ Below w.heap.size w w' := by
  obtain ⟨i0, hi, hz0, hz1, hz2⟩ := info_parts infoIT
  obtain ⟨j0, hj, hy0, hy1, hy2⟩ := info_parts info3i
  have hlen := h.1
  have hn12 : n ≤ 12 := by have := hP.2.2.1; omega
  have hN12 : N ≤ 12 := by have := hP.2.1; omega
  have HB : Hid (∀ t ∈ ts, tB t = true) := fun t ht => (hP.q.1 t ht).1
  have HQ := hideIt hQ
  have b2 : Good w ((w.alloc (.cells #[.int .i64 (N : Int), .slice a n c] 28)).alloc (.cells #[.int .i64 0, .slice none 0 0] 28)) := ((Good.refl w).alloc _).alloc _
  obtain ⟨W2, hW2⟩ : ∃ W2, W2 = (w.alloc (.cells #[.int .i64 (N : Int), .slice a n c] 28)).alloc (.cells #[.int .i64 0, .slice none 0 0] 28) := ⟨_, rfl⟩
  have hs2 : W2.heap.size = w.heap.size + 2 := by rw [hW2]; simp
  have B1 : Box7 W2 w.heap.size 28 (.int .i64 (N : Int)) (.slice a n c) := by rw [hW2]; exact (Box7.new w _ _ _ _ rfl).alloc _
  have B2 : Box7 W2 (w.heap.size + 1) 28 (.int .i64 0) (.slice none 0 0) := by rw [hW2]; exact Box7.new _ _ _ _ _ (by simp)
  have HB1 := hideIt B1
  have HB2 := hideIt B2
  have F0 := FB.start W2
  rw [← hW2] at b2
  have HA := hideIt (h.up b2)
  have HO := hideIt (ho.up b2)
  have HI := hideIt (hI.up b2)
  have HBel := hideIt b2
  have HBi : Hid (bi < w.heap.size) := by
    rcases hI.2 with h1 | ⟨b', off', hb, hl, _⟩
    · omega
    · simp at hb
      show bi < _
      omega
  have HLow : Hid (∀ (x : World) (ih : List Value), Good W2 x → ih.length = ni → (∀ j u, ih[j]? = some u → x.cell? ((⟨bi, offi, none⟩ : Addr).add j) = some u) → HdT x w.heap.size ih ins) := fun x ih hx hl hc => by
    have hb : Below w.heap.size w x := b2.trans (Below.mono hx (by rw [hs2]; omega))
    refine ⟨by have := hI.1; omega, fun j t ht => ?_⟩
    obtain ⟨a', c', p1, p2, p3⟩ := (hI.below hb (Nat.le_refl _)).at ht
    have hj : j < ih.length := by have := (List.getElem?_eq_some_iff.1 ht).1; have := hI.1; omega
    have p4 := hc j _ (List.getElem?_eq_getElem hj)
    rw [show ((⟨bi, offi, none⟩ : Addr).add j) = ⟨bi, offi + j, none⟩ by by_cases h0 : j = 0 <;> simp [Addr.add, h0], p1] at p4
    exact ⟨a', c', by rw [List.getElem?_eq_getElem hj]; exact p4.symm ▸ rfl, p2, p3⟩
  have g0 : Good W2 (W2.alloc (.cells #[] 45)) := (Good.refl W2).alloc _
  rw [hs2] at F0
  clear h ho hI hQ hP b2 B1 B2
  rw [hW2] at F0 g0
  go_enter Try.func25, Try.ntmps25
  go_wp2
  go_loopw [7, 8] (fun r i wr => ∃ (k m1 c1 : Nat) (a1 : Option Addr) (R : List Rw), k ≤ n ∧ m1 ≤ k ∧ i = .int .i64 (k : Int) ∧ r = .slice a1 m1 c1 ∧ Hid (a1 ≠ none) ∧ Hid (rts R = woK ts outs k) ∧ FB wr (w.heap.size + 2) wr.heap.size a1 m1 c1 R ∧ Good W2 wr) (fun _ i _ => n - (intOf i).toNat)
  case atStart => exact ⟨0, 0, 0, _, [], by omega, by omega, rfl, rfl, by simp [Hid], by show _ = _; rfl, F0, by rw [hW2]; exact g0⟩
  case round =>
    obtain ⟨k, m1, c1, a1, R, hk, hmk, rfl, rfl, HNN, HR, hF, hg⟩ := hrel
    clear F0 g0 hW2
    have q1 := (HB1.out.up hg).cell1
    have q0 := (HB1.out.up hg).cell0
    have hsz := hg.size
    by_cases hlt : k < n
    · obtain ⟨t, ht⟩ : ∃ t, ts[k]? = some t := ⟨ts[k]'(by omega), List.getElem?_eq_getElem (by omega)⟩
      rcases (HA.out.up hg).2 with hz | ⟨b, off, rfl, hbl, hc⟩
      · omega
      · obtain ⟨x, cx, e0, iI, _⟩ := hc k t ht
        have hBt := HB.out t (List.mem_of_getElem? ht)
        have hl := tB_len hBt
        have y1 : (0 : Int) ≤ (k : Int) := by omega
        have y2 : (k : Int) < (n : Int) := by omega
        have HIn := hideIt (l05In_any (outs.map fun j : Nat => (j : Int)) (k : Int) no ao co (by omega) wr (HO.out.up hg))
        have hmem : (k : Int) ∈ outs.map (fun j : Nat => (j : Int)) ↔ k ∈ outs := by
          rw [List.mem_map]
          constructor
          · rintro ⟨j, hj, e⟩
            have : j = k := by omega
            exact this ▸ hj
          · exact fun h => ⟨k, h, rfl⟩
        by_cases hin : k ∈ outs
        · rw [decide_eq_true (hmem.2 hin)] at HIn
          have HR2 : Hid (rts R = woK ts outs (k + 1)) := by show _ = _; simp only [woK]; rw [if_pos hin, List.append_nil]; exact HR.out
          have HF := hideIt hF
          clear hc ht iI hmem hin hF
          go_wp2_with (go_at_call 44; refine HIn.out.mono ?_; rintro e w1 ⟨rfl, hw⟩; have hw' := hw.symm; subst hw'; clear hw)
          exact ⟨⟨k + 1, m1, c1, a1, R, by omega, by omega, by go_num, rfl, HNN, HR2, HF.out, hg⟩, by simp [intOf]; omega⟩
        · rw [decide_eq_false (mt hmem.1 hin)] at HIn
          have HR2 : Hid (∀ r : Rw, r.t = t → rts (R ++ [r]) = woK ts outs (k + 1)) := fun r hr => by
            simp only [woK]
            rw [rts_snoc, HR.out, if_neg hin, ht, hr]
            rfl
          rcases iI.2 with h0 | ⟨bx, ox, rfl, hbx, hcx⟩
          · omega
          · have HF := hideIt hF
            have HIx := hideIt (show Is wr wr.heap.size (some ⟨bx, ox, none⟩) t.length t from iI)
            have HNews : Hid (∀ j y, (ic t)[j]? = some y → (wr.alloc (.cells #[] 3)).cell? ((⟨bx, ox, none⟩ : Addr).add j) = some y) := fun j y hj2 => by
              have hl2 : j < t.length := by have := (List.getElem?_eq_some_iff.1 hj2).1; rw [ic_len] at this; exact this
              rw [show ((⟨bx, ox, none⟩ : Addr).add j) = ⟨bx, ox + j, none⟩ by by_cases h0 : j = 0 <;> simp [Addr.add, h0]]
              rw [(((Good.refl wr).alloc (.cells #[] 3)).cell hbx)]
              rw [hcx j t[j] (List.getElem?_eq_getElem hl2), ← hj2, ic_at (List.getElem?_eq_getElem hl2)]
            have HE0 : Hid ((wr.alloc (.cells #[] 3)).ownsRow wr.heap.size 3 1 (.slice (some ⟨wr.heap.size, 0, none⟩) 0 0) 0 []) := by
              have h0 := World.ownsRow_lit (base := wr.heap.size) (e := 3) (size := 1) wr #[] 0 (Nat.le_refl _) (by unfold maxLen; omega) (by simp)
              show World.ownsRow _ _ _ _ _ _ _
              simpa using h0
            have q1' : (wr.alloc (.cells #[] 3)).cell? ⟨w.heap.size, 1, none⟩ = some (.slice (some ⟨b, off, none⟩) n c) := by rw [((Good.refl wr).alloc (.cells #[] 3)).cell (by omega)]; exact q1
            have e0' : (wr.alloc (.cells #[] 3)).cell? ⟨b, off + k, none⟩ = some (.slice (some ⟨bx, ox, none⟩) t.length cx) := by rw [((Good.refl wr).alloc (.cells #[] 3)).cell hbl]; exact e0
            have HG := hideIt hg
            clear hc ht iI hmem hin hF hcx hg
            go_wp2_with (first | (go_at_call 44; refine HIn.out.mono ?_; rintro e w1 ⟨rfl, hw⟩; have hw' := hw.symm; subst hw'; clear hw) | (at_builtin; refine wpList_append_lies _ rfl _ _ 45 rfl wr.heap.size 3 j0 _ 1 8 Try.underlying45 hj hy0 hy1 hy2 rfl (by decide) _ _ _ rfl HE0.out ⟨bx, ox, none⟩ t.length cx (ic t) rfl (by rw [ic_len]; omega) HNews.out (by intro y hy; simp [ic] at hy; obtain ⟨q, _, rfl⟩ := hy; rfl) (by omega) (by unfold maxLen; omega) (by omega) (by simp) (wr.heap.size + 1) (by simp) ?_))
            intro g5 c5 w5 hown5 hg5 hG5 _
            have hb5 : Below wr.heap.size wr w5 := ((Below.refl _ _).alloc (Nat.le_refl _) _).grown hg5 (by simp) (fun j e => by simp [Value.ownBlock] at e; omega)
            have HF5 := hideIt (HF.out.keep hb5)
            have hgl := (hown5.lt g5 rfl).1
            have HRw : Hid (RwB w5 ⟨g5, c5, t⟩) := RwB.of_own hown5
            have HG5 := hideIt (HG.out.up hb5)
            have hsz5 := HG5.out.size
            have HFr : Hid (∀ x ∈ R, x.g ≠ g5) := fun x hx e => by have := (HF.out.ins x hx).2.2; omega
            clear hown5 hg5 hG5 hb5 HF HNews HE0 HG HIx e0 q1' e0'
            go_wp2_with (at_builtin; refine wpList_append_lies _ rfl _ _ 22 rfl (w.heap.size + 2) 45 i0 _ 1 24 Try.underlying22 hi hz0 hz1 hz2 rfl (by decide) _ _ _ rfl (HF5.out.own.alloc _) ⟨w5.heap.size, 0, none⟩ 1 1 [.slice (some ⟨g5, 0, none⟩) t.length c5] rfl rfl (newsW w5 _) (by intro y hy; simp at hy; subst hy; rfl) (by omega) (by unfold maxLen; omega) (by omega) (by simp; omega) (w5.heap.size + 1) (by simp) ?_)
            intro g6 c6 w6 hown6 hg6 hG6 _
            obtain ⟨a7, c7, e7, F7⟩ := HF5.out.app (r := ⟨g5, c5, t⟩) HRw.out (by show w.heap.size + 2 ≤ g5; omega) HFr.out hown6 hg6
            simp at e7
            obtain ⟨rfl, rfl⟩ := e7
            have HG6 : Hid (Good W2 w6) := by
              have h1 := HG5.out.alloc (.cells #[.slice (some ⟨g5, 0, none⟩) t.length c5] 45)
              exact Below.grown h1 hg6 (by simp; omega) (fun j e => by have := (HF5.out.own.lt j e).1; omega)
            clear hown6 hg6 hG6 HF5 HRw HG5
            go_wp2
            exact ⟨⟨k + 1, m1 + 1, c6, some ⟨g6, 0, none⟩, R ++ [⟨g5, c5, t⟩], by omega, by omega, by go_num, rfl, by simp [Hid], HR2.out _ rfl, F7, HG6.out⟩, by simp [intOf]; omega⟩
    · obtain rfl : k = n := by omega
      obtain ⟨ih, hh1, hh2, hh3, hh4⟩ := (HI.out.up hg).hdt
      have hHI := (HI.out.hdt)
      have HF := hideIt hF
      have HG := hideIt hg
      have HN3 := hideIt hh3
      have HN4 := hideIt hh4
      have HN2 := hideIt (show ih.length = ni * 1 by omega)
      have HIh := hideIt hh1
      have HOld : Hid (∀ y ∈ ih, ∃ j, w.cell? ⟨bi, offi + j, none⟩ = some y) := fun y hy => by
        obtain ⟨j, hj⟩ := List.mem_iff_getElem?.1 hy
        have h1 := HN3.out j y hj
        rw [show ((⟨bi, offi, none⟩ : Addr).add j) = ⟨bi, offi + j, none⟩ by by_cases h0 : j = 0 <;> simp [Addr.add, h0], (HBel.out.up HG.out).cell HBi.out] at h1
        exact ⟨j, h1⟩
      have HIN : Hid (∀ y ∈ ih, HdN (w.heap.size + 1) y) := (show HdT wr w.heap.size ih ins from HLow.out wr ih HG.out hh2 HN3.out).lowN (fun t ht => tB_pos (HQ.out.1 t (by simp [ht])).1) (by omega)
      clear hF hg hh3 hh4 hh2 hh1 hHI
      go_wp2_with (at_builtin; refine wpList_append_lies _ rfl _ _ 22 rfl (w.heap.size + 2) 45 i0 _ 1 24 Try.underlying22 hi hz0 hz1 hz2 rfl (by decide) _ _ _ rfl HF.out.own ⟨bi, offi, none⟩ ni ci ih rfl HN2.out HN3.out HN4.out (by omega) (by unfold maxLen; omega) (by omega) (by omega) wr.heap.size rfl ?_)
      intro g6 c6 w6 hown6 hg6 hG6 _
      have HG6 : Hid (Good W2 w6) := Below.grown HG.out hg6 (by omega) (fun j e => by have := (HF.out.own.lt j e).1; omega)
      have hsz6 := HG6.out.size
      have HL : Hid (HdT w6 w6.heap.size (rhs R ++ ih) (woK ts outs k ++ ins)) := by
        rw [← HR.out]
        refine HdT.app (hdtR fun r hr => ?_) ?_
        · have h1 := (HF.out.ins r hr).1
          exact h1.grown hg6 (fun e => own_ne' HF.out.own h1 e)
        · obtain ⟨ih2, k1, k2, k3, k4⟩ := HI.out.hdt
          have e : ih = ih2 := by
            apply List.ext_getElem?
            intro j
            by_cases hj : j < ni
            · have l1 : j < ih.length := by have := HN2.out; omega
              have l2 : j < ih2.length := by omega
              have p1 : ih[j]? = some ih[j] := List.getElem?_eq_getElem l1
              have p2 : ih2[j]? = some ih2[j] := List.getElem?_eq_getElem l2
              have p3 := HN3.out j _ p1
              have p4 := k3 j _ p2
              rw [show ((⟨bi, offi, none⟩ : Addr).add j) = ⟨bi, offi + j, none⟩ by by_cases h0 : j = 0 <;> simp [Addr.add, h0]] at p3 p4
              have hbi : bi < W2.heap.size := World.block_lt_of_cell? W2 _ p4
              rw [HG.out.cell hbi, p4] at p3
              rw [p1, p2]
              exact p3.symm
            · rw [List.getElem?_eq_none (by have := HN2.out; omega), List.getElem?_eq_none (by omega)]
          rw [e]
          exact (k1.below HG6.out (Nat.le_refl _)).mono HG6.out.size
      have HLN : Hid (∀ y ∈ rhs R ++ ih, PV w bi offi y) := fun y hy => by
        rcases List.mem_append.1 hy with hy | hy
        · refine ⟨rhsN (fun r hr => by have := (HF.out.ins r hr).2.1; omega) y hy, .inl fun b off s n c e => ?_⟩
          obtain ⟨r, hr, rfl⟩ := List.mem_map.1 hy
          simp only [Rw.hdr, Value.slice.injEq, Option.some.injEq, Addr.mk.injEq] at e
          have := (HF.out.ins r hr).2.1
          omega
        · exact ⟨HIN.out y hy, .inr (HOld.out y hy)⟩
      obtain ⟨L, hLe⟩ : ∃ L, woK ts outs k ++ ins = L := ⟨_, rfl⟩
      have HLe := hideIt hLe
      rw [hLe] at HL HQ
      have HMr : Hid (∀ t ∈ L, ∃ j, j < N ∧ mnV t = ((j : Nat) : Int)) := fun t ht => mn_range (HQ.out.1 t ht).1 (HQ.out.1 t ht).2
      have HOw := hideIt hown6
      have hll : L.length = m1 + ni := by have := HL.out.1; have := hown6.1; omega
      have hgl6 := (hown6.lt g6 rfl).2
      have HCl : Hid (∀ u, Below w6.heap.size w6 u → ∀ (j : Nat) (t : List Int), L[j]? = some t → ∃ (x : Option Addr) (cx : Nat), u.cell? ⟨g6, j, none⟩ = some (.slice x t.length cx) ∧ Is u w6.heap.size x t.length t ∧ t.length ≤ cx ∧ PV w bi offi (.slice x t.length cx)) := fun u hu j t ht => by
        obtain ⟨x, cx, p1, p2, p3⟩ := HL.out.2 j t ht
        exact ⟨x, cx, by rw [hu.cell hgl6, HOw.out.cellAt j (by have := (List.getElem?_eq_some_iff.1 ht).1; omega)]; exact p1, p2.below hu (Nat.le_refl _), p3, HLN.out _ (List.mem_of_getElem? p1)⟩
      have HN : Hid (∀ u, Below w6.heap.size w6 u → u.cell? ⟨w.heap.size, 0, none⟩ = some (.int .i64 (N : Int))) := fun u hu => ((HB1.out.up HG6.out).below hu (HB1.out.up HG6.out).lt).cell0
      have n0 := HN.out w6 (Below.refl _ _)
      have G0 : GSt w6 (PV w bi offi) (N : Int) none 0 0 [] (w6.alloc (.cells #[.int .i64 (N : Int), .slice none 0 0] 28)) := ⟨Box7.new _ _ _ _ _ rfl, ⟨[], World.ownsRow_nil _ _ _ _, HdT.nil _ _, by simp⟩, (Below.refl _ _).alloc (Nat.le_refl _) _⟩
      clear hLe hown6 hg6 hG6 HF HG HN3 HN4 HN2 HIh HR q0 q1
      go_wp2
      go_loopw [10] (fun r wr => ∃ (v m3 c3 : Nat) (a3 : Option Addr), v ≤ N ∧ r = .int .i64 (v : Int) ∧ GSt w6 (PV w bi offi) (N : Int) a3 m3 c3 (srtK L v) wr) (fun r _ => N - (intOf r).toNat)
      case atStart => exact ⟨0, 0, 0, none, by omega, rfl, G0⟩
      case round =>
        obtain ⟨v, m3, c3, a3, hv, rfl, hgs⟩ := hrel
        clear G0 n0
        have n1 := HN.out _ hgs.bel
        by_cases hvl : v < N
        · have d1 : decide ((v : Int) < (N : Int)) = true := decide_eq_true (by omega)
          have HGS : Hid (GSt w6 (PV w bi offi) (N : Int) a3 m3 c3 (srtK L v ++ (L.take 0).filter (fun t => decide (mnV t = (v : Int)))) wr) := by
            show GSt _ _ _ _ _ _ _ _
            simpa using hgs
          clear hgs
          go_wp2
          go_loopw [11] (fun r wr => ∃ (i m3 c3 : Nat) (a3 : Option Addr), i ≤ L.length ∧ r = .int .i64 (i : Int) ∧ GSt w6 (PV w bi offi) (N : Int) a3 m3 c3 (srtK L v ++ (L.take i).filter (fun t => decide (mnV t = (v : Int)))) wr) (fun r _ => L.length - (intOf r).toNat)
          case atStart => exact ⟨0, m3, c3, a3, by omega, rfl, HGS.out⟩
          case round =>
            obtain ⟨i, m4, c4, a4, hi4, rfl, hgs⟩ := hrel
            clear HGS n1
            by_cases hil : i < L.length
            · obtain ⟨t, ht⟩ : ∃ t, L[i]? = some t := ⟨L[i]'hil, List.getElem?_eq_getElem hil⟩
              obtain ⟨x, cx, e0, iI, hcx, hxn⟩ := HCl.out _ hgs.bel i t ht
              have HXN := hideIt hxn
              have hBt := (HQ.out.1 t (List.mem_of_getElem? ht)).1
              have hl := tB_len hBt
              have y1 : (0 : Int) ≤ (i : Int) := by omega
              have y2 : (i : Int) < ((m1 + ni : Nat) : Int) := by omega
              have HV := hideIt (vertsFirst (w2 := wr) hBt x cx (by omega) wr (Good.refl wr) (iI.mono hgs.bel.size))
              have HGS := hideIt hgs
              have HTk := hideIt (flt_take (v := v) ht)
              have HI1 := hideIt iI
              have hle := srtK_le (i := i) HMr.out hvl
              obtain ⟨hs, ho4, hd4, _⟩ := hgs.own
              have hm4 : m4 ≤ 14 := by have h1 := ho4.1; have h2 := hd4.1; omega
              clear ht hgs iI ho4 hd4 hle hxn
              by_cases hmv : mnV t = (v : Int)
              · have d2 : (mnV t == (v : Int)) = true := by simpa using hmv
                rw [if_pos hmv] at HTk
                clear hmv
                go_wp2_with (go_at_call 34; refine HV.out.mono ?_; rintro e w2 ⟨g3, m9, c9, rfl, hp3, hc3, hg3⟩; refine Hid.out ?_)
                refine (show ∀ {p : Prop}, p → Hid p from fun h => h) ?_
                have HG2 := hideIt (HGS.out.up hg3)
                have bx := HG2.out.box
                have b1 := bx.cell1
                have z1 := bx.frozen 1
                have e1 : w2.cell? ⟨g6, i, none⟩ = some (.slice x t.length cx) := by rw [hg3.cell (Nat.lt_of_lt_of_le hgl6 HGS.out.bel.size)]; exact e0
                have hlt6 := bx.lt
                obtain ⟨hs, hown, hd, hnn⟩ := HG2.out.own
                have HNN2 : Hid (∀ y ∈ hs ++ [.slice x t.length cx], PV w bi offi y) := fun y hy => by
                  rcases List.mem_append.1 hy with hy | hy
                  · exact hnn y hy
                  · simp at hy
                    rw [hy]
                    exact HXN.out
                have hrow : ∀ b', b' ≤ w6.heap.size → some b' ≠ (Value.slice a4 m4 c4).ownBlock := fun b' hb' e => by have := (hown.lt b' e.symm).1; omega
                have HK : Hid (∀ w1 : World, ((w2.alloc (.cells #[.slice x t.length cx] 45)).drew).grownBy w1 (Value.slice a4 m4 c4).ownBlock →
                    Box7 w1 w6.heap.size 28 (.int .i64 (N : Int)) (.slice a4 m4 c4) ∧ Below w6.heap.size w6 w1 ∧ HdT w1 w6.heap.size hs (srtK L v ++ (L.take i).filter (fun t => decide (mnV t = (v : Int)))) ∧ Is w1 w6.heap.size x t.length t) := fun w1 hg => by
                  have hb2 : Below w6.heap.size w2 w1 := (((Below.refl _ _).alloc (by omega) _).drew).grown hg (by simp; omega) (fun j hj => by have := (hown.lt j hj).1; omega)
                  have hg' : (w2.alloc (.cells #[.slice x t.length cx] 45)).grownBy w1 (Value.slice a4 m4 c4).ownBlock := ⟨hg.os, hg.tape, hg.output, hg.size, hg.block⟩
                  exact ⟨(bx.alloc _).grown hg' (hrow _ (Nat.le_refl _)), HG2.out.bel.trans hb2, hd.below hb2 (Nat.le_refl _), (HI1.out.below hg3 HGS.out.bel.size).below hb2 (Nat.le_refl _)⟩
                have HX : Hid (t.length ≤ cx) := hcx
                clear e0 hd hrow hcx hnn
                go_wp2
                go_region_law (refine step_append_lies _ (by rfl) _ _ _ (by rfl) (w6.heap.size + 1) 45 i0 _ 1 24 Try.underlying22 hi hz0 hz1 hz2 rfl (by omega) _ m4 _ (by rfl) ((hown.alloc _).drew) ⟨w2.heap.size, 0, none⟩ 1 1 [.slice x t.length cx] (by rfl) (by rfl) (World.news_of_block (cs := #[.slice x t.length cx]) (t := 45) (fr := (0, 0)) (heap_alloc_new w2 _)) (by simp [Value.oneCell']) (by omega) (by unfold maxLen; omega) (by omega) (by simp; omega) (w2.heap.size + 1) (by simp) ?_; intro g7 cap7 w7 hown7 hg7 hat7 hlt7; obtain ⟨y0, hb7, hd7, ii7⟩ := HK.out _ hg7; have z7 := y0.cell1; have z8 := y0.frozen 1)
                all_goals
                  have lg := (hown7.lt g7 rfl).1
                  have HO7 := hideIt (own_setOther hown7 w6.heap.size 1 (.slice (some ⟨g7, 0, none⟩) (m4 + 1) cap7) (by omega))
                  have q2 := y0.set1 (.slice (some ⟨g7, 0, none⟩) (m4 + 1) cap7)
                  have hsb : Below w6.heap.size w7 (w7.setCell ⟨w6.heap.size, 1, none⟩ (.slice (some ⟨g7, 0, none⟩) (m4 + 1) cap7)) := (Below.refl _ _).setCell (p := ⟨w6.heap.size, 1, none⟩) (Nat.le_refl _) _
                  have HD7 := hideIt ((hd7.app (HdT.one ii7 HX.out)).below hsb (Nat.le_refl _))
                  have HB7 := hideIt (hb7.trans hsb)
                  clear hown7 hg7 HK hd7 ii7 hsb hown
                  go_wp2
                  exact ⟨⟨i + 1, m4 + 1, cap7, some ⟨g7, 0, none⟩, by omega, by go_num, q2, ⟨_, HO7.out, by rw [HTk.out, ← List.append_assoc]; exact HD7.out, HNN2.out⟩, HB7.out⟩, by simp [intOf]; omega⟩
              · have d2 : (mnV t == (v : Int)) = false := by simpa using hmv
                rw [if_neg hmv, List.append_nil] at HTk
                clear hmv
                go_wp2_with (go_at_call 34; refine HV.out.mono ?_; rintro e w2 ⟨g3, m9, c9, rfl, hp3, hc3, hg3⟩)
                exact ⟨⟨i + 1, m4, c4, a4, by omega, by go_num, by rw [HTk.out]; exact HGS.out.up hg3⟩, by simp [intOf]; omega⟩
            · obtain rfl : i = L.length := by omega
              have HGS := hideIt hgs
              clear hgs
              have y2 : ¬ ((L.length : Int) < ((m1 + ni : Nat) : Int)) := by omega
              go_wp2
              refine ⟨⟨v + 1, m4, c4, a4, by omega, by go_num, ?_⟩, by simp [intOf]; omega⟩
              have := HGS.out
              rw [List.take_of_length_le (Nat.le_refl _)] at this
              exact this
        · obtain rfl : v = N := by omega
          have d1 : decide ((v : Int) < (v : Int)) = false := decide_eq_false (by omega)
          have bx := hgs.box
          have c0 := bx.cell0
          have c1' := bx.cell1
          have hb2 := HG6.out.up (hgs.bel.mono (Nat.le_refl _))
          have B2 := HB2.out.up hb2
          have f7 := B2.frozen 0
          have f8 := B2.frozen 1
          have f9 := B2.cell0
          have f10 := B2.cell1
          obtain ⟨hs, ho5, hd5, hn5⟩ := hgs.own
          have hlt5 := bx.lt
          have hbel := hgs.bel
          have HO5 := hideIt (own_setLow (own_setLow ho5 (w.heap.size + 1) 0 (.int .i64 (v : Int)) (by omega)) (w.heap.size + 1) 1 (.slice a3 m3 c3) (by omega))
          have hsb : Below w.heap.size wr ((wr.setCell ⟨w.heap.size + 1, 0, none⟩ (.int .i64 (v : Int))).setCell ⟨w.heap.size + 1, 1, none⟩ (.slice a3 m3 c3)) := ((Below.refl _ _).setCell (p := ⟨w.heap.size + 1, 0, none⟩) (by show w.heap.size ≤ w.heap.size + 1; omega) _).setCell (p := ⟨w.heap.size + 1, 1, none⟩) (by show w.heap.size ≤ w.heap.size + 1; omega) _
          have HBw := hideIt ((HBel.out.trans (hb2.mono (by omega))).trans hsb)
          have HD5 := hideIt (((hd5.set (fun y hy => (hn5 y hy).1) (.int .i64 (v : Int)) (j := 0)).set (fun y hy => (hn5 y hy).1) (.slice a3 m3 c3) (j := 1)).mono (C := ((wr.setCell ⟨w.heap.size + 1, 0, none⟩ (.int .i64 (v : Int))).setCell ⟨w.heap.size + 1, 1, none⟩ (.slice a3 m3 c3)).heap.size) (by simp [World.setCell]; exact hbel.size))
          have HLe2 := HLe
          have HN5 : Hid (∀ y ∈ hs, NewOr w bi offi y) := fun y hy => (hn5 y hy).2
          clear ho5 hd5 hn5 hgs bx B2 hb2 hsb hbel
          go_wp2
          exact bodyPost_ret (v := .agg #[.int .i64 (v : Int), .slice a3 m3 c3]) (by simp [results, Try.results25, go_sem, f9, f10]) rfl ⟨a3, m3, c3, hs, rfl, ⟨own_mono HO5.out (by omega), by rw [HLe2.out]; exact HD5.out, HN5.out⟩, HBw.out⟩
/-- what l07With answers, laid into a place of its own -/
theorem with_set {u : World} {lo X : Nat} {a : Option Addr} {m c : Nat} {hs : List Value} {ts : List (List Int)} (h : u.ownsRow lo 45 1 (.slice a m c) m hs ∧ HdT u u.heap.size hs ts) (hX : X < lo) (hn : ∀ v ∈ hs, HdN X v) (v0 v1 : Value) :
    ((u.setCell ⟨X, 0, none⟩ v0).setCell ⟨X, 1, none⟩ v1).ownsRow lo 45 1 (.slice a m c) m hs ∧ HdT ((u.setCell ⟨X, 0, none⟩ v0).setCell ⟨X, 1, none⟩ v1) ((u.setCell ⟨X, 0, none⟩ v0).setCell ⟨X, 1, none⟩ v1).heap.size hs ts :=
  ⟨own_setLow (own_setLow h.1 X 0 v0 hX) X 1 v1 hX, ((h.2.set hn v0 (j := 0)).set hn v1 (j := 1)).mono (by simp [World.setCell])⟩
end Go.Proofs.Ytcpffonenhhfoab
